/- Disks that come in, with the sizes that the row's own reach gives. -/
import Derived.Test.YtajcmgccclemdaaDiskOpen
import Derived.SizedLaws
set_option linter.unusedVariables false
namespace Go.Proofs.Ytajcmgccclemdaa.Disk
open Go.ChangeShapes Go.WideShapes Go.ChangeAt Go.RowKit
section
variable {H : Type} {enc : TypeId × Value → H} {W : World} {base : Nat} {spare : Nat → Bool} {held : Bool}
theorem strs_small {v : Value} {fuel : Nat} {x : DataW H × List MemPlace} {zs : List (List UInt8)} (h : DataW.trod enc Try.prog W base spare held fuel 35 [v] = some x) (hs : HasStrs W v zs) (hw : ∀ n ∈ x.1.weights Try.prog 35, n ≤ reachBytes) : zs.length * 16 ≤ reachBytes := by
  rcases Go.Deep.open_strs Try.underlying35 Try.underlying9 (by kernel_rfl) h with ⟨hcs, _⟩ | ⟨a, l, c, m, Sx, hcs, _, hl, hm, hmm, hx, hr⟩
  · injection hcs with e; subst e
    rcases hs.2 with ⟨_, h0⟩ | ⟨a, cap, e, _⟩
    · rw [h0]; exact Nat.zero_le _
    · cases e
  · injection hcs with e; subst e
    have hl2 : l = zs.length := by
      rcases hs.2 with ⟨e, _⟩ | ⟨a, cap, e, _⟩
      · cases e
      · injection e
    have := hw ((l + (m - l)) * 16) (by
      rw [hx]
      simp only [DataW.weights, Try.underlying35]
      rw [show Try.prog.bytesOf 9 = 16 by kernel_rfl]
      simp)
    rw [← hl2]
    exact Nat.le_trans (Nat.mul_le_mul_right 16 (Nat.le_add_right _ _)) this
theorem puts_small {v : Value} {fuel : Nat} {x : DataW H × List MemPlace} {zs : List PutT} (h : DataW.trod enc Try.prog W base spare held fuel 36 [v] = some x) (hs : HasPuts W v zs) (hw : ∀ n ∈ x.1.weights Try.prog 36, n ≤ reachBytes) : zs.length * 24 ≤ reachBytes := by
  rcases Go.Deep.open_slice_pairs Try.underlying36 Try.underlying88 (by kernel_rfl) rfl rfl (by kernel_rfl) (by kernel_rfl) h with ⟨hcs, _⟩ | ⟨a, l, c, m, n, V0, V1, D0, D1, P0, P1, hcs, _, hl, hm, hmm, hx, hr⟩
  · injection hcs with e; subst e
    rcases hs.2 with ⟨_, h0⟩ | ⟨a, cap, e, _⟩
    · rw [h0]; exact Nat.zero_le _
    · cases e
  · injection hcs with e; subst e
    have hl2 : l = zs.length := by
      rcases hs.2 with ⟨e, _⟩ | ⟨a, cap, e, _⟩
      · cases e
      · injection e
    have := hw ((l + (m - l)) * 24) (by
      rw [hx]
      simp only [DataW.weights, Try.underlying36]
      rw [show Try.prog.bytesOf 88 = 24 by kernel_rfl]
      simp)
    rw [← hl2]
    exact Nat.le_trans (Nat.mul_le_mul_right 24 (Nat.le_add_right _ _)) this
set_option maxRecDepth 100000 in
theorem open_disk_s {v : Value} {d : DataW H} {ps : List MemPlace} {r : Reach} {b0 : Nat} (hval : Value.okWide Try.prog W r b0 38 v) (h : DataW.Trod enc Try.prog W base spare held 38 v d ps) (hw0 : ∀ n ∈ d.weights Try.prog 38, n ≤ reachBytes) :
    ∃ D : Dk, HasDk W v D ∧ Fits D ∧ D.secs.length ≤ 8796093022208 ∧ D.cache.length ≤ 5864062014805 := by
  obtain ⟨cs, rfl, hsz⟩ := okWide_struct Try.underlying38 hval
  obtain ⟨fuel, hf⟩ := h
  obtain ⟨xs, n, _, hxx, hlen, hxl, hfs⟩ := DataW.trod_struct Try.underlying38 hf
  rw [show Try.prog.cellsOf 38 = 4 from by kernel_rfl] at hsz
  obtain ⟨s, c, f, o, rfl⟩ : ∃ s c f o, cs = #[s, c, f, o] := by
    obtain ⟨l⟩ := cs
    match l, hsz with
    | [s, c, f, o], _ => exact ⟨s, c, f, o, rfl⟩
  have g0 : DataW.trod enc Try.prog W base spare held n 35 ((([s, c, f, o] : List Value).drop 0).take (Try.prog.cellsOf 35)) = xs[0]? := hfs 0 _ rfl
  have g1 : DataW.trod enc Try.prog W base spare held n 36 ((([s, c, f, o] : List Value).drop 1).take (Try.prog.cellsOf 36)) = xs[1]? := hfs 1 _ rfl
  have g2 : DataW.trod enc Try.prog W base spare held n 3 ((([s, c, f, o] : List Value).drop 2).take (Try.prog.cellsOf 3)) = xs[2]? := hfs 2 _ rfl
  have g3 : DataW.trod enc Try.prog W base spare held n 4 ((([s, c, f, o] : List Value).drop 3).take (Try.prog.cellsOf 4)) = xs[3]? := hfs 3 _ rfl
  have hx4 : xs.length = 4 := hxl
  have hd : d = .agg (xs.map (·.1)) := (Prod.mk.inj hxx).1
  have part : ∀ (i : Nat) (t : TypeId) (hi : i < xs.length), ([35, 36, 3, 4] : List TypeId)[i]? = some t → ∀ m ∈ (xs[i]).1.weights Try.prog t, m ≤ reachBytes := by
    intro i t hi ht m hm
    refine hw0 m ?_
    rw [hd]
    simp only [DataW.weights, Try.underlying38]
    exact DataW.weights_mem_each (ts := [35, 36, 3, 4]) (j := i) ht (by rw [List.getElem?_map, List.getElem?_eq_getElem hi]; rfl) m hm
  have w0 := part 0 35 (by omega) rfl
  have w1 := part 1 36 (by omega) rfl
  rw [List.getElem?_eq_getElem (by omega)] at g0 g1 g2 g3
  rw [show Try.prog.cellsOf 35 = 1 from by kernel_rfl] at g0
  rw [show Try.prog.cellsOf 36 = 1 from by kernel_rfl] at g1
  rw [show Try.prog.cellsOf 3 = 1 from by kernel_rfl] at g2
  rw [show Try.prog.cellsOf 4 = 1 from by kernel_rfl] at g3
  obtain ⟨zs, hs, hzl⟩ := open_strs_row (v := s) g0
  obtain ⟨qs, hp, hql⟩ := open_puts_row (v := c) g1
  have z1 := strs_small (v := s) g0 hs w0
  have z2 := puts_small (v := c) g1 hp w1
  obtain ⟨fu, e2, _, hw⟩ := DataW.trod_int Try.underlying3 g2
  obtain ⟨ob, e3, _⟩ := DataW.trod_bool Try.underlying4 g3
  have e2' : f = .int .i64 fu := by injection e2
  have e3' : o = .bool ob := by injection e3
  subst e2' e3'
  have hr : reachBytes = 140737488351232 := by decide
  rw [hr] at z1 z2
  exact ⟨⟨zs, qs, fu, ob⟩, ⟨s, c, rfl, hs, hp⟩, ⟨wf_i64 hw, hzl, hql⟩, by simp only; omega, by simp only; omega⟩
end
end Go.Proofs.Ytajcmgccclemdaa.Disk
