/- Disks, writes and marks that come in, as plain data. -/
import Derived.Test.YtoigogjklhahkaaDiskBase
import Derived.Deep.Strs
import Derived.Deep.Grids
import Derived.Deep.SlicePairs
import Derived.ProofKit
import Derived.OpenShut
import Derived.ShutString
set_option linter.unusedVariables false
namespace Go.Proofs.Ytoigogjklhahkaa.Disk
open Go.ChangeShapes Go.WideShapes Go.ChangeAt Go.RowKit

theorem wf_i64 {n : Int} (h : (Lit.int .i64 n).wf = true) : -9223372036854775808 ≤ n ∧ n ≤ 9223372036854775807 := by simpa [Lit.wf, IntKind.min, IntKind.max, IntKind.signed, IntKind.bits] using h
theorem spot_of {W : World} {a : Addr} {v : Value} (h : W.cell? a = some v) : a.spot = none ∧ a.block < W.heap.size := by
  refine ⟨World.cell?_spot h, ?_⟩
  rcases Nat.lt_or_ge a.block W.heap.size with h' | h'
  · exact h'
  · simp [World.cell?, Array.getElem?_eq_none h'] at h
section
variable {H : Type} {enc : TypeId × Value → H} {W : World} {base : Nat} {spare : Nat → Bool} {held : Bool}
theorem row_of {a : Addr} {len cap sz : Nat} {cs : List Value} (hsz : 0 < sz) (hl : len ≤ cap) (hm : cap ≤ maxLen) (hlen : cs.length = len * sz) (h : ∀ j, j < len * sz → W.cell? (a.add j) = cs[j]?) : HasRow W (.slice (some a) len cap) sz len cs := by
  refine ⟨hlen, .inr ⟨a, cap, rfl, hl, by unfold maxLen at hm; exact hm, fun hn => ?_, h⟩⟩
  have h0 := h 0 (Nat.mul_pos hn hsz)
  rw [List.getElem?_eq_getElem (by rw [hlen]; exact Nat.mul_pos hn hsz)] at h0
  have := spot_of h0
  simpa [Addr.add] using this
theorem open_strs_row {v : Value} {fuel : Nat} {x : DataW H × List MemPlace} (h : DataW.trod enc Try.prog W base spare held fuel 22 [v] = some x) : ∃ zs, HasStrs W v zs ∧ ∀ z ∈ zs, z.length ≤ 9223372036854775807 := by
  rcases Go.Deep.open_strs Try.underlying22 Try.underlying9 (by kernel_rfl) h with ⟨hcs, _⟩ | ⟨a, l, c, m, Sx, hcs, _, hl, hm, hmm, _, hr⟩
  · injection hcs with e; subst e
    exact ⟨[], hasRow_nil _ _, by simp⟩
  · injection hcs with e; subst e
    have hlm : l ≤ m := by rw [hmm]; split <;> omega
    refine ⟨(List.range l).map fun i => (Sx i).data.toList, ?_, fun z hz => ?_⟩
    · unfold HasStrs
      rw [List.length_map, List.length_range]
      refine row_of (by decide) hl hm (by simp) (fun j hj => ?_)
      have hj2 : j < l := by omega
      rw [(hr j (by omega)).1]
      simp [hj2, strV]
    · obtain ⟨i, hi, rfl⟩ := List.mem_map.1 hz
      have := (hr i (by have := List.mem_range.1 hi; omega)).2
      unfold maxLen at this
      have e : (Sx i).data.toList.length = (Sx i).size := Array.length_toList
      omega
theorem putCs_get (ps : List PutT) (j : Nat) (hj : j < ps.length * 2) : (putCs ps)[j]? = if j % 2 = 0 then (ps[j / 2]?).map (fun p => Value.int .i64 p.1) else (ps[j / 2]?).map (fun p => strV p.2) := by
  have h := putCs_at ps (j / 2) (by omega)
  rw [List.getElem?_eq_getElem (by omega : j / 2 < ps.length)]
  split
  · have e : (putCs ps)[j]? = (putCs ps)[2 * (j / 2)]? := by congr 1; omega
    rw [e, h.1]; rfl
  · have e : (putCs ps)[j]? = (putCs ps)[2 * (j / 2) + 1]? := by congr 1; omega
    rw [e, h.2]; rfl
theorem open_puts_row {v : Value} {fuel : Nat} {x : DataW H × List MemPlace} (h : DataW.trod enc Try.prog W base spare held fuel 28 [v] = some x) : ∃ zs, HasPuts W v zs ∧ ∀ p ∈ zs, (-9223372036854775808 ≤ p.1 ∧ p.1 ≤ 9223372036854775807) ∧ p.2.length ≤ 9223372036854775807 := by
  rcases Go.Deep.open_slice_pairs Try.underlying28 Try.underlying76 (by kernel_rfl) rfl rfl (by kernel_rfl) (by kernel_rfl) h with ⟨hcs, _⟩ | ⟨a, l, c, m, n, V0, V1, D0, D1, P0, P1, hcs, _, hl, hm, hmm, _, hr⟩
  · injection hcs with e; subst e
    exact ⟨[], hasRow_nil _ _, by simp⟩
  · injection hcs with e; subst e
    have hlm : l ≤ m := by rw [hmm]; split <;> omega
    have hA : ∀ i, ∃ p : PutT, i < l → V0 i = .int .i64 p.1 ∧ V1 i = strV p.2 ∧ (-9223372036854775808 ≤ p.1 ∧ p.1 ≤ 9223372036854775807) ∧ p.2.length ≤ 9223372036854775807 := fun i => by
      by_cases hi : i < l
      · obtain ⟨_, _, t0, t1⟩ := hr i (by omega)
        obtain ⟨k, e0, _, hw⟩ := DataW.trod_int Try.underlying3 t0
        obtain ⟨s, e1, _, hs⟩ := DataW.trod_string Try.underlying9 t1
        injection e0 with e0; injection e1 with e1
        unfold maxLen at hs
        exact ⟨(k, s.data.toList), fun _ => ⟨e0, by rw [e1]; simp [strV], wf_i64 hw, by have e : s.data.toList.length = s.size := Array.length_toList; simp only; omega⟩⟩
      · exact ⟨(0, []), fun h => absurd h hi⟩
    obtain ⟨F, hF⟩ := Classical.axiomOfChoice hA
    refine ⟨(List.range l).map F, ?_, fun p hp => ?_⟩
    · unfold HasPuts
      rw [List.length_map, List.length_range]
      refine row_of (by decide) hl hm (by rw [putCs_len]; simp) (fun j hj => ?_)
      have hj2 : j / 2 < l := by omega
      obtain ⟨f0, f1, _⟩ := hF (j / 2) hj2
      obtain ⟨c0, c1, _⟩ := hr (j / 2) (by omega)
      rw [putCs_get _ _ (by simp; omega)]
      simp only [List.getElem?_map, List.getElem?_range hj2, Option.map_some]
      split
      · have e : W.cell? (a.add j) = W.cell? (a.add (j / 2 * 2)) := by congr 2; omega
        rw [e, c0, f0]
      · have e : W.cell? (a.add j) = W.cell? (a.add (j / 2 * 2 + 1)) := by congr 2; omega
        rw [e, c1, f1]
    · obtain ⟨i, hi, rfl⟩ := List.mem_map.1 hp
      exact (hF i (List.mem_range.1 hi)).2.2
theorem open_bools_row {v : Value} {fuel : Nat} {x : DataW H × List MemPlace} (h : DataW.trod enc Try.prog W base (fun _ => true) held fuel 23 [v] = some x) : ∃ keep : List Bool, HasRow W v 1 keep.length (keep.map Value.bool) := by
  rcases Go.Deep.open_bools Try.underlying23 Try.underlying4 (by kernel_rfl) h with ⟨hcs, _⟩ | ⟨a, l, c, B, hcs, _, hl, hm, _, hr⟩
  · injection hcs with e; subst e
    exact ⟨[], hasRow_nil _ _⟩
  · injection hcs with e; subst e
    refine ⟨(List.range l).map B, ?_⟩
    rw [List.length_map, List.length_range]
    refine row_of (by decide) hl hm (by simp) (fun j hj => ?_)
    have hj2 : j < l := by omega
    rw [hr j (by omega)]
    simp [hj2]
set_option maxRecDepth 100000 in
theorem open_disk {v : Value} {d : DataW H} {ps : List MemPlace} {r : Reach} {b0 : Nat} (hval : Value.okWide Try.prog W r b0 30 v) (h : DataW.Trod enc Try.prog W base spare held 30 v d ps) : ∃ D : Dk, HasDk W v D ∧ Fits D := by
  obtain ⟨cs, rfl, hsz⟩ := okWide_struct Try.underlying30 hval
  obtain ⟨fuel, hf⟩ := h
  obtain ⟨xs, n, _, _, hlen, hxl, hfs⟩ := DataW.trod_struct Try.underlying30 hf
  rw [show Try.prog.cellsOf 30 = 4 from by kernel_rfl] at hsz
  obtain ⟨s, c, f, o, rfl⟩ : ∃ s c f o, cs = #[s, c, f, o] := by
    obtain ⟨l⟩ := cs
    match l, hsz with
    | [s, c, f, o], _ => exact ⟨s, c, f, o, rfl⟩
  have g0 : DataW.trod enc Try.prog W base spare held n 22 ((([s, c, f, o] : List Value).drop 0).take (Try.prog.cellsOf 22)) = xs[0]? := hfs 0 _ rfl
  have g1 : DataW.trod enc Try.prog W base spare held n 28 ((([s, c, f, o] : List Value).drop 1).take (Try.prog.cellsOf 28)) = xs[1]? := hfs 1 _ rfl
  have g2 : DataW.trod enc Try.prog W base spare held n 3 ((([s, c, f, o] : List Value).drop 2).take (Try.prog.cellsOf 3)) = xs[2]? := hfs 2 _ rfl
  have g3 : DataW.trod enc Try.prog W base spare held n 4 ((([s, c, f, o] : List Value).drop 3).take (Try.prog.cellsOf 4)) = xs[3]? := hfs 3 _ rfl
  have hx4 : xs.length = 4 := hxl
  rw [List.getElem?_eq_getElem (by omega)] at g0 g1 g2 g3
  rw [show Try.prog.cellsOf 22 = 1 from by kernel_rfl] at g0
  rw [show Try.prog.cellsOf 28 = 1 from by kernel_rfl] at g1
  rw [show Try.prog.cellsOf 3 = 1 from by kernel_rfl] at g2
  rw [show Try.prog.cellsOf 4 = 1 from by kernel_rfl] at g3
  obtain ⟨zs, hs, hzl⟩ := open_strs_row (v := s) g0
  obtain ⟨qs, hp, hql⟩ := open_puts_row (v := c) g1
  obtain ⟨fu, e2, _, hw⟩ := DataW.trod_int Try.underlying3 g2
  obtain ⟨ob, e3, _⟩ := DataW.trod_bool Try.underlying4 g3
  have e2' : f = .int .i64 fu := by injection e2
  have e3' : o = .bool ob := by injection e3
  subst e2' e3'
  exact ⟨⟨zs, qs, fu, ob⟩, ⟨s, c, rfl, hs, hp⟩, wf_i64 hw, hzl, hql⟩
end
end Go.Proofs.Ytoigogjklhahkaa.Disk
