/- For every disk and manifest: spoorlaw06.ManifestLoads returns true, and changes nothing that was there. No condition. -/
import Derived.Test.YtajcmgccclemdaaDiskBase
import Derived.Deep.Strs
import Derived.Deep.Grids
import Derived.Deep.SlicePairs
import Derived.ProofKit
import Derived.OpenShut
import Derived.ShutString
import Derived.SizedLaws
import Derived.Test.YtajcmgccclemdaaManCheck
import Derived.Test.YtajcmgccclemdaaManRefGet
import Derived.Test.YtajcmgccclemdaaDiskRef2
import Derived.Test.YtajcmgccclemdaaManLoad
import Derived.Test.YtajcmgccclemdaaManSave
import Derived.Test.YtajcmgccclemdaaDiskRef5
import Derived.Test.YtajcmgccclemdaaRows
import Derived.Test.YtajcmgccclemdaaManSame
import Derived.Test.YtajcmgccclemdaaManLives
import Derived.Test.YtajcmgccclemdaaDiskSame
set_option linter.unusedVariables false
namespace Go.Proofs.Ytajcmgccclemdaa.Disk
open Go.ChangeShapes Go.WideShapes Go.ChangeAt Go.RowKit

theorem wf_i64 {n : Int} (h : (Lit.int .i64 n).wf = true) : -9223372036854775808 ≤ n ∧ n ≤ 9223372036854775807 := by simpa [Lit.wf, IntKind.min, IntKind.max, IntKind.signed, IntKind.bits] using h
theorem spot_of {W : World} {a : Addr} {v : Value} (h : W.cell? a = some v) : a.spot = none ∧ a.block < W.heap.size := by
  refine ⟨World.cell?_spot h, ?_⟩
  rcases Nat.lt_or_ge a.block W.heap.size with h' | h'
  · exact h'
  · simp [World.cell?, Array.getElem?_eq_none h'] at h
section
variable {H : Type} {enc : TypeId × Value → H} {W : World} {base : Nat} {spare : Nat → Bool} {held : Bool}
theorem row_of {a : Addr} {len cap sz : Nat} {cs : List Value} (hsz : 0 < sz) (hl : len ≤ cap) (hm : cap ≤ maxLen) (hlen : cs.length = len * sz) (h : ∀ j, j < len * sz → W.cell? (a.add j) = cs[j]?) : HasRow W (.slice (some a) len cap) sz len cs := by
  refine ⟨hlen, .inr ⟨a, cap, rfl, hl, by unfold maxLen at hm; exact hm, fun hn => ?_, h⟩⟩
  have h0 := h 0 (Nat.mul_pos hn hsz)
  rw [List.getElem?_eq_getElem (by rw [hlen]; exact Nat.mul_pos hn hsz)] at h0
  have := spot_of h0
  simpa [Addr.add] using this
theorem open_strs_row {v : Value} {fuel : Nat} {x : DataW H × List MemPlace} (h : DataW.trod enc Try.prog W base spare held fuel 35 [v] = some x) : ∃ zs, HasStrs W v zs ∧ ∀ z ∈ zs, z.length ≤ 9223372036854775807 := by
  rcases Go.Deep.open_strs Try.underlying35 Try.underlying9 (by kernel_rfl) h with ⟨hcs, _⟩ | ⟨a, l, c, m, Sx, hcs, _, hl, hm, hmm, _, hr⟩
  · injection hcs with e; subst e
    exact ⟨[], hasRow_nil _ _, by simp⟩
  · injection hcs with e; subst e
    have hlm : l ≤ m := by rw [hmm]; split <;> omega
    refine ⟨(List.range l).map fun i => (Sx i).data.toList, ?_, fun z hz => ?_⟩
    · unfold HasStrs
      rw [List.length_map, List.length_range]
      refine row_of (by decide) hl hm (by simp) (fun j hj => ?_)
      have hj2 : j < l := by omega
      rw [(hr j (by omega)).1]
      simp [hj2, strV]
    · obtain ⟨i, hi, rfl⟩ := List.mem_map.1 hz
      have := (hr i (by have := List.mem_range.1 hi; omega)).2
      unfold maxLen at this
      have e : (Sx i).data.toList.length = (Sx i).size := Array.length_toList
      omega
theorem putCs_get (ps : List PutT) (j : Nat) (hj : j < ps.length * 2) : (putCs ps)[j]? = if j % 2 = 0 then (ps[j / 2]?).map (fun p => Value.int .i64 p.1) else (ps[j / 2]?).map (fun p => strV p.2) := by
  have h := putCs_at ps (j / 2) (by omega)
  rw [List.getElem?_eq_getElem (by omega : j / 2 < ps.length)]
  split
  · have e : (putCs ps)[j]? = (putCs ps)[2 * (j / 2)]? := by congr 1; omega
    rw [e, h.1]; rfl
  · have e : (putCs ps)[j]? = (putCs ps)[2 * (j / 2) + 1]? := by congr 1; omega
    rw [e, h.2]; rfl
theorem open_puts_row {v : Value} {fuel : Nat} {x : DataW H × List MemPlace} (h : DataW.trod enc Try.prog W base spare held fuel 36 [v] = some x) : ∃ zs, HasPuts W v zs ∧ ∀ p ∈ zs, (-9223372036854775808 ≤ p.1 ∧ p.1 ≤ 9223372036854775807) ∧ p.2.length ≤ 9223372036854775807 := by
  rcases Go.Deep.open_slice_pairs Try.underlying36 Try.underlying88 (by kernel_rfl) rfl rfl (by kernel_rfl) (by kernel_rfl) h with ⟨hcs, _⟩ | ⟨a, l, c, m, n, V0, V1, D0, D1, P0, P1, hcs, _, hl, hm, hmm, _, hr⟩
  · injection hcs with e; subst e
    exact ⟨[], hasRow_nil _ _, by simp⟩
  · injection hcs with e; subst e
    have hlm : l ≤ m := by rw [hmm]; split <;> omega
    have hA : ∀ i, ∃ p : PutT, i < l → V0 i = .int .i64 p.1 ∧ V1 i = strV p.2 ∧ (-9223372036854775808 ≤ p.1 ∧ p.1 ≤ 9223372036854775807) ∧ p.2.length ≤ 9223372036854775807 := fun i => by
      by_cases hi : i < l
      · obtain ⟨_, _, t0, t1⟩ := hr i (by omega)
        obtain ⟨k, e0, _, hw⟩ := DataW.trod_int Try.underlying3 t0
        obtain ⟨s, e1, _, hs⟩ := DataW.trod_string Try.underlying9 t1
        injection e0 with e0; injection e1 with e1
        unfold maxLen at hs
        exact ⟨(k, s.data.toList), fun _ => ⟨e0, by rw [e1]; simp [strV], wf_i64 hw, by have e : s.data.toList.length = s.size := Array.length_toList; simp only; omega⟩⟩
      · exact ⟨(0, []), fun h => absurd h hi⟩
    obtain ⟨F, hF⟩ := Classical.axiomOfChoice hA
    refine ⟨(List.range l).map F, ?_, fun p hp => ?_⟩
    · unfold HasPuts
      rw [List.length_map, List.length_range]
      refine row_of (by decide) hl hm (by rw [putCs_len]; simp) (fun j hj => ?_)
      have hj2 : j / 2 < l := by omega
      obtain ⟨f0, f1, _⟩ := hF (j / 2) hj2
      obtain ⟨c0, c1, _⟩ := hr (j / 2) (by omega)
      rw [putCs_get _ _ (by simp; omega)]
      simp only [List.getElem?_map, List.getElem?_range hj2, Option.map_some]
      split
      · have e : W.cell? (a.add j) = W.cell? (a.add (j / 2 * 2)) := by congr 2; omega
        rw [e, c0, f0]
      · have e : W.cell? (a.add j) = W.cell? (a.add (j / 2 * 2 + 1)) := by congr 2; omega
        rw [e, c1, f1]
    · obtain ⟨i, hi, rfl⟩ := List.mem_map.1 hp
      exact (hF i (List.mem_range.1 hi)).2.2
theorem open_bools_row {v : Value} {fuel : Nat} {x : DataW H × List MemPlace} (h : DataW.trod enc Try.prog W base (fun _ => true) held fuel 47 [v] = some x) : ∃ keep : List Bool, HasRow W v 1 keep.length (keep.map Value.bool) := by
  rcases Go.Deep.open_bools Try.underlying47 Try.underlying4 (by kernel_rfl) h with ⟨hcs, _⟩ | ⟨a, l, c, B, hcs, _, hl, hm, _, hr⟩
  · injection hcs with e; subst e
    exact ⟨[], hasRow_nil _ _⟩
  · injection hcs with e; subst e
    refine ⟨(List.range l).map B, ?_⟩
    rw [List.length_map, List.length_range]
    refine row_of (by decide) hl hm (by simp) (fun j hj => ?_)
    have hj2 : j < l := by omega
    rw [hr j (by omega)]
    simp [hj2]
set_option maxRecDepth 100000 in
theorem open_disk {v : Value} {d : DataW H} {ps : List MemPlace} {r : Reach} {b0 : Nat} (hval : Value.okWide Try.prog W r b0 38 v) (h : DataW.Trod enc Try.prog W base spare held 38 v d ps) : ∃ D : Dk, HasDk W v D ∧ Fits D := by
  obtain ⟨cs, rfl, hsz⟩ := okWide_struct Try.underlying38 hval
  obtain ⟨fuel, hf⟩ := h
  obtain ⟨xs, n, _, _, hlen, hxl, hfs⟩ := DataW.trod_struct Try.underlying38 hf
  rw [show Try.prog.cellsOf 38 = 4 from by kernel_rfl] at hsz
  obtain ⟨s, c, f, o, rfl⟩ : ∃ s c f o, cs = #[s, c, f, o] := by
    obtain ⟨l⟩ := cs
    match l, hsz with
    | [s, c, f, o], _ => exact ⟨s, c, f, o, rfl⟩
  have g0 : DataW.trod enc Try.prog W base spare held n 35 ((([s, c, f, o] : List Value).drop 0).take (Try.prog.cellsOf 35)) = xs[0]? := hfs 0 _ rfl
  have g1 : DataW.trod enc Try.prog W base spare held n 36 ((([s, c, f, o] : List Value).drop 1).take (Try.prog.cellsOf 36)) = xs[1]? := hfs 1 _ rfl
  have g2 : DataW.trod enc Try.prog W base spare held n 3 ((([s, c, f, o] : List Value).drop 2).take (Try.prog.cellsOf 3)) = xs[2]? := hfs 2 _ rfl
  have g3 : DataW.trod enc Try.prog W base spare held n 4 ((([s, c, f, o] : List Value).drop 3).take (Try.prog.cellsOf 4)) = xs[3]? := hfs 3 _ rfl
  have hx4 : xs.length = 4 := hxl
  rw [List.getElem?_eq_getElem (by omega)] at g0 g1 g2 g3
  rw [show Try.prog.cellsOf 35 = 1 from by kernel_rfl] at g0
  rw [show Try.prog.cellsOf 36 = 1 from by kernel_rfl] at g1
  rw [show Try.prog.cellsOf 3 = 1 from by kernel_rfl] at g2
  rw [show Try.prog.cellsOf 4 = 1 from by kernel_rfl] at g3
  obtain ⟨zs, hs, hzl⟩ := open_strs_row (v := s) g0
  obtain ⟨qs, hp, hql⟩ := open_puts_row (v := c) g1
  obtain ⟨fu, e2, _, hw⟩ := DataW.trod_int Try.underlying3 g2
  obtain ⟨ob, e3, _⟩ := DataW.trod_bool Try.underlying4 g3
  have e2' : f = .int .i64 fu := by injection e2
  have e3' : o = .bool ob := by injection e3
  subst e2' e3'
  exact ⟨⟨zs, qs, fu, ob⟩, ⟨s, c, rfl, hs, hp⟩, wf_i64 hw, hzl, hql⟩
end
end Go.Proofs.Ytajcmgccclemdaa.Disk
namespace Go.Proofs.Ytajcmgccclemdaa.Disk
open Go.ChangeShapes Go.WideShapes Go.ChangeAt Go.RowKit
section
variable {H : Type} {enc : TypeId × Value → H} {W : World} {base : Nat} {spare : Nat → Bool} {held : Bool}
theorem strs_small {v : Value} {fuel : Nat} {x : DataW H × List MemPlace} {zs : List (List UInt8)} (h : DataW.trod enc Try.prog W base spare held fuel 35 [v] = some x) (hs : HasStrs W v zs) (hw : ∀ n ∈ x.1.weights Try.prog 35, n ≤ reachBytes) : zs.length * 16 ≤ reachBytes := by
  rcases Go.Deep.open_strs Try.underlying35 Try.underlying9 (by kernel_rfl) h with ⟨hcs, _⟩ | ⟨a, l, c, m, Sx, hcs, _, hl, hm, hmm, hx, hr⟩
  · injection hcs with e; subst e
    rcases hs.2 with ⟨_, h0⟩ | ⟨a, cap, e, _⟩
    · rw [h0]; exact Nat.zero_le _
    · cases e
  · injection hcs with e; subst e
    have hl2 : l = zs.length := by
      rcases hs.2 with ⟨e, _⟩ | ⟨a, cap, e, _⟩
      · cases e
      · injection e
    have := hw ((l + (m - l)) * 16) (by
      rw [hx]
      simp only [DataW.weights, Try.underlying35]
      rw [show Try.prog.bytesOf 9 = 16 by kernel_rfl]
      simp)
    rw [← hl2]
    exact Nat.le_trans (Nat.mul_le_mul_right 16 (Nat.le_add_right _ _)) this
theorem puts_small {v : Value} {fuel : Nat} {x : DataW H × List MemPlace} {zs : List PutT} (h : DataW.trod enc Try.prog W base spare held fuel 36 [v] = some x) (hs : HasPuts W v zs) (hw : ∀ n ∈ x.1.weights Try.prog 36, n ≤ reachBytes) : zs.length * 24 ≤ reachBytes := by
  rcases Go.Deep.open_slice_pairs Try.underlying36 Try.underlying88 (by kernel_rfl) rfl rfl (by kernel_rfl) (by kernel_rfl) h with ⟨hcs, _⟩ | ⟨a, l, c, m, n, V0, V1, D0, D1, P0, P1, hcs, _, hl, hm, hmm, hx, hr⟩
  · injection hcs with e; subst e
    rcases hs.2 with ⟨_, h0⟩ | ⟨a, cap, e, _⟩
    · rw [h0]; exact Nat.zero_le _
    · cases e
  · injection hcs with e; subst e
    have hl2 : l = zs.length := by
      rcases hs.2 with ⟨e, _⟩ | ⟨a, cap, e, _⟩
      · cases e
      · injection e
    have := hw ((l + (m - l)) * 24) (by
      rw [hx]
      simp only [DataW.weights, Try.underlying36]
      rw [show Try.prog.bytesOf 88 = 24 by kernel_rfl]
      simp)
    rw [← hl2]
    exact Nat.le_trans (Nat.mul_le_mul_right 24 (Nat.le_add_right _ _)) this
set_option maxRecDepth 100000 in
theorem open_disk_s {v : Value} {d : DataW H} {ps : List MemPlace} {r : Reach} {b0 : Nat} (hval : Value.okWide Try.prog W r b0 38 v) (h : DataW.Trod enc Try.prog W base spare held 38 v d ps) (hw0 : ∀ n ∈ d.weights Try.prog 38, n ≤ reachBytes) :
    ∃ D : Dk, HasDk W v D ∧ Fits D ∧ D.secs.length ≤ 8796093022208 ∧ D.cache.length ≤ 5864062014805 := by
  obtain ⟨cs, rfl, hsz⟩ := okWide_struct Try.underlying38 hval
  obtain ⟨fuel, hf⟩ := h
  obtain ⟨xs, n, _, hxx, hlen, hxl, hfs⟩ := DataW.trod_struct Try.underlying38 hf
  rw [show Try.prog.cellsOf 38 = 4 from by kernel_rfl] at hsz
  obtain ⟨s, c, f, o, rfl⟩ : ∃ s c f o, cs = #[s, c, f, o] := by
    obtain ⟨l⟩ := cs
    match l, hsz with
    | [s, c, f, o], _ => exact ⟨s, c, f, o, rfl⟩
  have g0 : DataW.trod enc Try.prog W base spare held n 35 ((([s, c, f, o] : List Value).drop 0).take (Try.prog.cellsOf 35)) = xs[0]? := hfs 0 _ rfl
  have g1 : DataW.trod enc Try.prog W base spare held n 36 ((([s, c, f, o] : List Value).drop 1).take (Try.prog.cellsOf 36)) = xs[1]? := hfs 1 _ rfl
  have g2 : DataW.trod enc Try.prog W base spare held n 3 ((([s, c, f, o] : List Value).drop 2).take (Try.prog.cellsOf 3)) = xs[2]? := hfs 2 _ rfl
  have g3 : DataW.trod enc Try.prog W base spare held n 4 ((([s, c, f, o] : List Value).drop 3).take (Try.prog.cellsOf 4)) = xs[3]? := hfs 3 _ rfl
  have hx4 : xs.length = 4 := hxl
  have hd : d = .agg (xs.map (·.1)) := (Prod.mk.inj hxx).1
  have part : ∀ (i : Nat) (t : TypeId) (hi : i < xs.length), ([35, 36, 3, 4] : List TypeId)[i]? = some t → ∀ m ∈ (xs[i]).1.weights Try.prog t, m ≤ reachBytes := by
    intro i t hi ht m hm
    refine hw0 m ?_
    rw [hd]
    simp only [DataW.weights, Try.underlying38]
    exact DataW.weights_mem_each (ts := [35, 36, 3, 4]) (j := i) ht (by rw [List.getElem?_map, List.getElem?_eq_getElem hi]; rfl) m hm
  have w0 := part 0 35 (by omega) rfl
  have w1 := part 1 36 (by omega) rfl
  rw [List.getElem?_eq_getElem (by omega)] at g0 g1 g2 g3
  rw [show Try.prog.cellsOf 35 = 1 from by kernel_rfl] at g0
  rw [show Try.prog.cellsOf 36 = 1 from by kernel_rfl] at g1
  rw [show Try.prog.cellsOf 3 = 1 from by kernel_rfl] at g2
  rw [show Try.prog.cellsOf 4 = 1 from by kernel_rfl] at g3
  obtain ⟨zs, hs, hzl⟩ := open_strs_row (v := s) g0
  obtain ⟨qs, hp, hql⟩ := open_puts_row (v := c) g1
  have z1 := strs_small (v := s) g0 hs w0
  have z2 := puts_small (v := c) g1 hp w1
  obtain ⟨fu, e2, _, hw⟩ := DataW.trod_int Try.underlying3 g2
  obtain ⟨ob, e3, _⟩ := DataW.trod_bool Try.underlying4 g3
  have e2' : f = .int .i64 fu := by injection e2
  have e3' : o = .bool ob := by injection e3
  subst e2' e3'
  have hr : reachBytes = 140737488351232 := by decide
  rw [hr] at z1 z2
  exact ⟨⟨zs, qs, fu, ob⟩, ⟨s, c, rfl, hs, hp⟩, ⟨wf_i64 hw, hzl, hql⟩, by simp only; omega, by simp only; omega⟩
end
end Go.Proofs.Ytajcmgccclemdaa.Disk
namespace Go.Proofs.Ytajcmgccclemdaa.Man
open Go.ChangeShapes Go.WideShapes Go.ChangeAt Go.RowKit

theorem wf_u64 {n : Int} (h : (Lit.int .u64 n).wf = true) : ∃ k : Nat, n = (k : Int) ∧ k < 18446744073709551616 := by
  have : 0 ≤ n ∧ n ≤ 18446744073709551615 := by simpa [Lit.wf, IntKind.min, IntKind.max, IntKind.signed, IntKind.bits] using h
  exact ⟨n.toNat, by omega, by omega⟩
theorem partCs_get (ps : List PartT) (j : Nat) (hj : j < ps.length * 3) : (partCs ps)[j]? = if j % 3 = 0 then some (.int .i64 (ps[j / 3]'(by omega)).1) else if j % 3 = 1 then some (.int .u64 ((ps[j / 3]'(by omega)).2.1 : Int)) else some (.int .i64 (ps[j / 3]'(by omega)).2.2) := by
  have h := partCs_at ps (j / 3) (by omega)
  split
  · rw [← h.1]; congr 1; omega
  · split
    · rw [← h.2.1]; congr 1; omega
    · rw [← h.2.2]; congr 1; omega
section
variable {H : Type} {enc : TypeId × Value → H} {W : World} {base : Nat} {spare : Nat → Bool} {held : Bool}
set_option maxRecDepth 100000 in
theorem open_parts_row {v : Value} {fuel : Nat} {x : DataW H × List MemPlace} (h : DataW.trod enc Try.prog W base spare held fuel 23 [v] = some x) : ∃ ps : List PartT, HasParts W v ps ∧ ∀ p ∈ ps, FitP p := by
  rcases Go.Deep.open_slice Try.underlying23 h with ⟨hcs, _⟩ | ⟨a, l, c, m, n, D, Pl, hcs, _, hl, hm, hmm, _, hx⟩
  · injection hcs with e; subst e
    exact ⟨[], Disk.hasRow_nil _ _, by simp⟩
  · injection hcs with e; subst e
    have hlm : l ≤ m := by rw [hmm]; split <;> omega
    have hA : ∀ i, ∃ p : PartT, i < l → W.cell? (a.add (i * 3)) = some (.int .i64 p.1) ∧ W.cell? (a.add (i * 3 + 1)) = some (.int .u64 (p.2.1 : Int)) ∧ W.cell? (a.add (i * 3 + 2)) = some (.int .i64 p.2.2) ∧ FitP p := fun i => by
      by_cases hi : i < l
      · obtain ⟨cs', h1, h2⟩ := hx i (by omega)
        rw [show Try.prog.cellsOf 71 = 3 from by kernel_rfl] at h1
        obtain ⟨_, hlen, hcell⟩ := World.cells?_some h1
        obtain ⟨xs, k, _, _, _, hxl, hfs⟩ := DataW.trod_struct Try.underlying71 h2
        obtain ⟨v0, v1, v2, rfl⟩ : ∃ v0 v1 v2, cs' = [v0, v1, v2] := by
          match cs', hlen with
          | [v0, v1, v2], _ => exact ⟨v0, v1, v2, rfl⟩
        have g0 : DataW.trod enc Try.prog W base spare held k 3 ((([v0, v1, v2] : List Value).drop 0).take (Try.prog.cellsOf 3)) = xs[0]? := hfs 0 _ rfl
        have g1 : DataW.trod enc Try.prog W base spare held k 22 ((([v0, v1, v2] : List Value).drop 1).take (Try.prog.cellsOf 22)) = xs[1]? := hfs 1 _ rfl
        have g2 : DataW.trod enc Try.prog W base spare held k 3 ((([v0, v1, v2] : List Value).drop 2).take (Try.prog.cellsOf 3)) = xs[2]? := hfs 2 _ rfl
        have hx3 : xs.length = 3 := hxl
        rw [List.getElem?_eq_getElem (by omega)] at g0 g1 g2
        rw [show Try.prog.cellsOf 3 = 1 from by kernel_rfl] at g0 g2
        rw [show Try.prog.cellsOf 22 = 1 from by kernel_rfl] at g1
        obtain ⟨k0, e0, _, hw0⟩ := DataW.trod_int Try.underlying3 g0
        obtain ⟨k1, e1, _, hw1⟩ := DataW.trod_int Try.underlying22 g1
        obtain ⟨k2, e2, _, hw2⟩ := DataW.trod_int Try.underlying3 g2
        have f0 : v0 = .int .i64 k0 := by injection e0
        have f1 : v1 = .int .u64 k1 := by injection e1
        have f2 : v2 = .int .i64 k2 := by injection e2
        obtain ⟨q, rfl, hq⟩ := wf_u64 hw1
        have c0 := hcell 0 (by decide)
        have c1 := hcell 1 (by decide)
        have c2 := hcell 2 (by decide)
        rw [Go.Deep.add_add] at c0 c1 c2
        refine ⟨(k0, q, k2), fun _ => ⟨?_, ?_, ?_, Disk.wf_i64 hw0, hq, Disk.wf_i64 hw2⟩⟩
        · simpa [f0] using c0
        · simpa [f1] using c1
        · simpa [f2] using c2
      · exact ⟨(0, 0, 0), fun h => absurd h hi⟩
    obtain ⟨F, hF⟩ := Classical.axiomOfChoice hA
    refine ⟨(List.range l).map F, ?_, fun p hp => ?_⟩
    · unfold HasParts
      rw [List.length_map, List.length_range]
      refine Disk.row_of (by decide) hl hm (by rw [partCs_len]; simp) (fun j hj => ?_)
      have hj2 : j / 3 < l := by omega
      obtain ⟨c0, c1, c2, _⟩ := hF (j / 3) hj2
      rw [partCs_get _ _ (by simp; omega)]
      simp only [List.getElem_map, List.getElem_range]
      split
      · rw [← c0]; congr 2; omega
      · split
        · rw [← c1]; congr 2; omega
        · rw [← c2]; congr 2; omega
    · obtain ⟨i, hi, rfl⟩ := List.mem_map.1 hp
      exact (hF i (List.mem_range.1 hi)).2.2.2
set_option maxRecDepth 100000 in
theorem open_manifest {v : Value} {d : DataW H} {ps : List MemPlace} {r : Reach} {b0 : Nat} (hval : Value.okWide Try.prog W r b0 25 v) (h : DataW.Trod enc Try.prog W base spare held 25 v d ps) : ∃ (m : ManT) (u : Value), v = .agg #[.int .u64 (m.1 : Int), u] ∧ HasParts W u m.2 ∧ FitM m := by
  obtain ⟨cs, rfl, hsz⟩ := okWide_struct Try.underlying25 hval
  obtain ⟨fuel, hf⟩ := h
  obtain ⟨xs, n, _, _, hlen, hxl, hfs⟩ := DataW.trod_struct Try.underlying25 hf
  rw [show Try.prog.cellsOf 25 = 2 from by kernel_rfl] at hsz
  obtain ⟨e, u, rfl⟩ : ∃ e u, cs = #[e, u] := by
    obtain ⟨l⟩ := cs
    match l, hsz with
    | [e, u], _ => exact ⟨e, u, rfl⟩
  have g0 : DataW.trod enc Try.prog W base spare held n 22 ((([e, u] : List Value).drop 0).take (Try.prog.cellsOf 22)) = xs[0]? := hfs 0 _ rfl
  have g1 : DataW.trod enc Try.prog W base spare held n 23 ((([e, u] : List Value).drop 1).take (Try.prog.cellsOf 23)) = xs[1]? := hfs 1 _ rfl
  have hx2 : xs.length = 2 := hxl
  rw [List.getElem?_eq_getElem (by omega)] at g0 g1
  rw [show Try.prog.cellsOf 22 = 1 from by kernel_rfl] at g0
  rw [show Try.prog.cellsOf 23 = 1 from by kernel_rfl] at g1
  obtain ⟨k, e0, _, hw⟩ := DataW.trod_int Try.underlying22 g0
  obtain ⟨qs, hp, hql⟩ := open_parts_row (v := u) g1
  have e0' : e = .int .u64 k := by injection e0
  subst e0'
  obtain ⟨q, rfl, hq⟩ := wf_u64 hw
  exact ⟨(q, qs), u, rfl, hp, hq, hql⟩
end
end Go.Proofs.Ytajcmgccclemdaa.Man
namespace Go.Proofs.Ytajcmgccclemdaa.Man
open Go.RowKit Go.Shelf
open Go.Proofs.Ytajcmgccclemdaa.Page
open Go.Proofs.Ytajcmgccclemdaa.Disk (Dk HasDk Fits readD TextIs VBox strV Ok okB ok_of ok_mk inB checkE checkE_ok checkE_bad)

/-- the disk and the result of the document's Load -/
structure LdR (w W : World) (d : Dk) (so co : Option Addr) (sc cc : Nat) : Prop where
  disk : VBox W w.heap.size (.slice so d.secs.length sc) (.slice co d.cache.length cc) (.int .i64 d.fuse) (.bool d.off)
  res : MBox W (w.heap.size + 1) 0 (.slice none 0 0)
  below : Below w.heap.size w W
theorem LdR.keep {w W W' : World} {d : Dk} {so co : Option Addr} {sc cc : Nat} (h : LdR w W d so co sc cc) (hb : Below W.heap.size W W') : LdR w W' d so co sc cc :=
  ⟨h.disk.below hb, RowAt.below h.res hb, below2 h.below hb⟩
theorem ldR_new (w : World) (d : Dk) (so co : Option Addr) (sc cc : Nat) : LdR w ((w.alloc (.cells #[.slice so d.secs.length sc, .slice co d.cache.length cc, .int .i64 d.fuse, .bool d.off] 38)).alloc (.cells #[.int .u64 0, .slice none 0 0] 25)) d so co sc cc := by
  refine ⟨VBox.below (World.alloc_heap_new _ _) ((Below.refl _ _).alloc (Nat.le_refl _) _), ?_, ((Below.refl _ w).alloc (Nat.le_refl _) _).alloc (by simp) _⟩
  have := RowAt.new (w.alloc (.cells #[.slice so d.secs.length sc, .slice co d.cache.length cc, .int .i64 d.fuse, .bool d.off] 38)) [.int .u64 0, .slice none 0 0] 25
  rw [World.size_alloc] at this
  exact this
theorem load_form {d : Dk} (h : okB d = false) : loadM d = ((0, []), 2) := by
  have e : readD d 0 = ([], 2) := by unfold readD; rw [h]; rfl
  unfold loadM; rw [e]; rfl
theorem load_off {d : Dk} (h : okB d = true) (ho : d.off = true) : loadM d = ((0, []), 9) := by
  have e : readD d 0 = ([], 9) := by unfold readD; rw [h, ho]; rfl
  unfold loadM; rw [e]; rfl
theorem load_one {d : Dk} (h : okB d = true) (ho : d.off = false) (hl : d.secs.length < 2) : loadM d = ((0, []), 1) := by
  have h1 := (ok_of h).one
  have e : (readD d 0).2 = 0 := by unfold readD; rw [h, ho]; rw [if_pos rfl, if_neg (by decide), if_pos (by unfold inB; exact decide_eq_true (by omega))]
  have e2 : readD d 1 = ([], 1) := by unfold readD; rw [h, ho]; rw [if_pos rfl, if_neg (by decide), if_neg (by unfold inB; rw [decide_eq_true_iff]; omega)]
  unfold loadM; rw [if_pos e, e2]; rfl
theorem read_two {d : Dk} (h : okB d = true) (ho : d.off = false) (hl : 2 ≤ d.secs.length) : (readD d 0).2 = 0 ∧ (readD d 1).2 = 0 := by
  constructor
  · unfold readD; rw [h, ho]; rw [if_pos rfl, if_neg (by decide), if_pos (by unfold inB; exact decide_eq_true (by omega))]
  · unfold readD; rw [h, ho]; rw [if_pos rfl, if_neg (by decide), if_pos (by unfold inB; exact decide_eq_true (by omega))]
set_option maxHeartbeats 4000000 in
set_option maxRecDepth 20000 in
theorem rmload_bad (d : Dk) (so co : Option Addr) (sc cc : Nat) (y : Int) (R : ManT × Int) (w : World) (hs9 : d.secs.length ≤ 9223372036854775807) (HR : Hid (R = ((0, []), y)))
    (cck : ∀ W, Below w.heap.size w W → Calls Try.prog 49 #[.agg #[.slice so d.secs.length sc, .slice co d.cache.length cc, .int .i64 d.fuse, .bool d.off]] W fun e w' => e = .returned (.int .i64 (checkE d)) ∧ Below W.heap.size W w')
    (hc : okB d = false ∧ y = 2 ∨ okB d = true ∧ d.off = true ∧ y = 9 ∨ okB d = true ∧ d.off = false ∧ d.secs.length < 2 ∧ y = 1) :
    Calls Try.prog 19 #[.agg #[.slice so d.secs.length sc, .slice co d.cache.length cc, .int .i64 d.fuse, .bool d.off]] w (ManIs R w) := by
  obtain ⟨X, hX⟩ : ∃ X, X = (w.alloc (.cells #[.slice so d.secs.length sc, .slice co d.cache.length cc, .int .i64 d.fuse, .bool d.off] 38)).alloc (.cells #[.int .u64 0, .slice none 0 0] 25) := ⟨_, rfl⟩
  have la : LdR w X d so co sc cc := by rw [hX]; exact ldR_new w d so co sc cc
  have cck := cck X la.below
  obtain ⟨k0, k1, k2, k3, _⟩ := la.disk.cells
  rcases hc with ⟨hk, rfl⟩ | ⟨hk, ho, rfl⟩ | ⟨hk, ho, hl, rfl⟩
  · rw [checkE_bad hk] at cck
    clear hk
    go_enter Try.func19, Try.ntmps19
    go_upto_region 1 with fail
    rw [← hX]
    clear hX
    go_wp2_with fail
    go_at_call 49; refine cck.mono ?_; rintro e w1 ⟨rfl, hb1⟩
    have l1 := la.keep hb1
    obtain ⟨r0, r1⟩ := l1.res.cells
    have f0 := RowAt.frozen l1.res 0
    have f1 := RowAt.frozen l1.res 1
    have hBf := l1.below
    clear la l1 k0 k1 k2 k3 cck
    go_wp2
    (try simp only [Exit.inBlock, Exit.then])
    refine bodyPost_ret ?_ rfl (manIs_zero HR.out (set2_below hBf (by omega) _ _))
    rw [results_cell_tmp rfl]
    go_simp
  · rw [checkE_ok hk] at cck
    rw [ho] at cck k3
    rw [ho]
    rw [ho] at hX
    clear hk
    go_enter Try.func19, Try.ntmps19
    go_upto_region 1 with fail
    rw [← hX]
    clear hX
    go_wp2_with fail
    go_at_call 49; refine cck.mono ?_; rintro e w1 ⟨rfl, hb1⟩
    have l1 := la.keep hb1
    clear k0 k1 k2 k3
    obtain ⟨k0, k1, k2, k3, _⟩ := l1.disk.cells
    rw [ho] at k3
    obtain ⟨r0, r1⟩ := l1.res.cells
    have f0 := RowAt.frozen l1.res 0
    have f1 := RowAt.frozen l1.res 1
    have hBf := l1.below
    clear la l1 cck ho
    go_wp2
    (try simp only [Exit.inBlock, Exit.then])
    refine bodyPost_ret ?_ rfl (manIs_zero HR.out (set2_below hBf (by omega) _ _))
    rw [results_cell_tmp rfl]
    go_simp
  · rw [checkE_ok hk] at cck
    rw [ho] at cck k3
    rw [ho]
    rw [ho] at hX
    clear hk
    have hli : (d.secs.length : Int) < 2 := by omega
    go_enter Try.func19, Try.ntmps19
    go_upto_region 1 with fail
    rw [← hX]
    clear hX
    go_wp2_with fail
    go_at_call 49; refine cck.mono ?_; rintro e w1 ⟨rfl, hb1⟩
    have l1 := la.keep hb1
    clear k0 k1 k2 k3
    obtain ⟨k0, k1, k2, k3, _⟩ := l1.disk.cells
    rw [ho] at k3
    obtain ⟨r0, r1⟩ := l1.res.cells
    have f0 := RowAt.frozen l1.res 0
    have f1 := RowAt.frozen l1.res 1
    have hBf := l1.below
    clear la l1 cck ho
    go_wp2
    (try simp only [Exit.inBlock, Exit.then])
    refine bodyPost_ret ?_ rfl (manIs_zero HR.out (set2_below hBf (by omega) _ _))
    rw [results_cell_tmp rfl]
    go_simp
/-- a result that is one of the two manifests -/
theorem res_put {w W : World} {e : Nat} {o : Option Addr} {n c : Nat} {ps : List PartT} (hr : MBox W (w.heap.size + 1) 0 (.slice none 0 0)) (hp : HasParts W (.slice o n c) ps) (hb : Below w.heap.size w W) :
    HasParts ((W.setCell ⟨w.heap.size + 1, 0, none⟩ (.int .u64 (e : Int))).setCell ⟨w.heap.size + 1, 1, none⟩ (.slice o n c)) (.slice o n c) ps ∧ (W.setCell ⟨w.heap.size + 1, 0, none⟩ (.int .u64 (e : Int))).cell? ⟨w.heap.size + 1, 0, none⟩ = some (.int .u64 (e : Int)) ∧
    Below w.heap.size w ((W.setCell ⟨w.heap.size + 1, 0, none⟩ (.int .u64 (e : Int))).setCell ⟨w.heap.size + 1, 1, none⟩ (.slice o n c)) := by
  have h1 : RowAt (W.setCell ⟨w.heap.size + 1, 0, none⟩ (.int .u64 (e : Int))) (w.heap.size + 1) [.int .u64 (e : Int), .slice none 0 0] 25 := by
    unfold MBox at hr; rw [hr.setCell]; exact RowAt.set hr _
  exact ⟨HasParts.far hp hr (grown2 (grown_cell _ _ _ _) (grown_cell _ _ _ _)), h1.cell 0, set2_below hb (by omega) _ _⟩
set_option maxHeartbeats 4000000 in
set_option maxRecDepth 20000 in
theorem rmload_two (d : Dk) (so co : Option Addr) (sc cc : Nat) (A B : ByteArray) (x y : ManT × Int) (R : ManT × Int) (w : World) (hs9 : d.secs.length ≤ 9223372036854775807) (hs2 : 2 ≤ d.secs.length) (ho : d.off = false) (hx9 : x.1.1 < 18446744073709551616) (hy9 : y.1.1 < 18446744073709551616)
    (cck : ∀ W, Below w.heap.size w W → Calls Try.prog 49 #[.agg #[.slice so d.secs.length sc, .slice co d.cache.length cc, .int .i64 d.fuse, .bool false]] W fun e w' => e = .returned (.int .i64 0) ∧ Below W.heap.size W w')
    (cr0 : ∀ W, Below w.heap.size w W → Calls Try.prog 50 #[.agg #[.slice so d.secs.length sc, .slice co d.cache.length cc, .int .i64 d.fuse, .bool false], .int .i64 0] W fun e w' => e = .returned (.tuple #[.string A, .int .i64 0]) ∧ Below W.heap.size W w')
    (cr1 : ∀ W, Below w.heap.size w W → Calls Try.prog 50 #[.agg #[.slice so d.secs.length sc, .slice co d.cache.length cc, .int .i64 d.fuse, .bool false], .int .i64 1] W fun e w' => e = .returned (.tuple #[.string B, .int .i64 0]) ∧ Below W.heap.size W w')
    (cg0 : ∀ W, Calls Try.prog 12 #[.string A] W fun e w' => ∃ xo xc, e = .returned (.tuple #[.agg #[.int .u64 (x.1.1 : Int), .slice xo x.1.2.length xc], .int .i64 x.2]) ∧ HasParts w' (.slice xo x.1.2.length xc) x.1.2 ∧ Below W.heap.size W w')
    (cg1 : ∀ W, Calls Try.prog 12 #[.string B] W fun e w' => ∃ xo xc, e = .returned (.tuple #[.agg #[.int .u64 (y.1.1 : Int), .slice xo y.1.2.length xc], .int .i64 y.2]) ∧ HasParts w' (.slice xo y.1.2.length xc) y.1.2 ∧ Below W.heap.size W w')
    (hc : x.2 ≠ 0 ∧ y.2 ≠ 0 ∧ Hid (R = ((0, []), 3)) ∨ (x.2 ≠ 0 ∧ y.2 = 0 ∨ x.2 = 0 ∧ y.2 = 0 ∧ x.1.1 < y.1.1) ∧ Hid (R = (y.1, 0)) ∨ (x.2 = 0 ∧ y.2 ≠ 0 ∨ x.2 = 0 ∧ y.2 = 0 ∧ ¬ x.1.1 < y.1.1) ∧ Hid (R = (x.1, 0))) :
    Calls Try.prog 19 #[.agg #[.slice so d.secs.length sc, .slice co d.cache.length cc, .int .i64 d.fuse, .bool false]] w (ManIs R w) := by
  obtain ⟨X, hX⟩ : ∃ X, X = (w.alloc (.cells #[.slice so d.secs.length sc, .slice co d.cache.length cc, .int .i64 d.fuse, .bool false] 38)).alloc (.cells #[.int .u64 0, .slice none 0 0] 25) := ⟨_, rfl⟩
  have la : LdR w X ⟨d.secs, d.cache, d.fuse, false⟩ so co sc cc := by rw [hX]; exact ldR_new w ⟨d.secs, d.cache, d.fuse, false⟩ so co sc cc
  obtain ⟨k0, k1, k2, k3, _⟩ := la.disk.cells
  simp only at k0 k1 k2 k3
  have hli : ¬ ((d.secs.length : Int) < 2) := by omega
  obtain ⟨⟨ex, px⟩, yx⟩ := x
  obtain ⟨⟨ey, py⟩, yy⟩ := y
  simp only at hx9 hy9 cg0 cg1 hc
  have hxi : (ex : Int) ≤ 18446744073709551615 := by omega
  have hyi : (ey : Int) ≤ 18446744073709551615 := by omega
  clear ho hx9 hy9
  have HC : Hid (yx ≠ 0 ∧ yy ≠ 0 ∧ Hid (R = ((0, []), 3)) ∨ (yx ≠ 0 ∧ yy = 0 ∨ yx = 0 ∧ yy = 0 ∧ ex < ey) ∧ Hid (R = ((ey, py), 0)) ∨ (yx = 0 ∧ yy ≠ 0 ∨ yx = 0 ∧ yy = 0 ∧ ¬ ex < ey) ∧ Hid (R = ((ex, px), 0))) := hc
  clear hc
  go_enter Try.func19, Try.ntmps19
  go_upto_region 1 with fail
  rw [← hX]
  clear hX
  go_wp2_with fail
  go_at_call 49; refine (cck _ la.below).mono ?_; rintro e w1 ⟨rfl, hb1⟩
  have l1 := la.keep hb1
  clear k0 k1 k2 k3 la cck hb1
  obtain ⟨k0, k1, k2, k3, _⟩ := l1.disk.cells
  simp only at k0 k1 k2 k3
  go_wp2_with fail
  go_at_call 50; refine (cr0 _ l1.below).mono ?_; rintro e w2 ⟨rfl, hb2⟩
  have l2 := l1.keep hb2
  clear k0 k1 k2 k3 l1 cr0 hb2
  obtain ⟨k0, k1, k2, k3, _⟩ := l2.disk.cells
  simp only at k0 k1 k2 k3
  go_wp2_with fail
  go_at_call 50; refine (cr1 _ l2.below).mono ?_; rintro e w3 ⟨rfl, hb3⟩
  have l3 := l2.keep hb3
  clear k0 k1 k2 k3 l2 cr1 hb3
  go_wp2_with fail
  go_at_call 12; refine (cg0 _).mono ?_; rintro e w4 ⟨xo, xc, rfl, hxp, hb4⟩
  obtain ⟨X4, hX4⟩ : ∃ X, X = w4.alloc (.cells #[.int .u64 (ex : Int), .slice xo px.length xc] 25) := ⟨_, rfl⟩
  obtain ⟨bx, hbx⟩ : ∃ b, b = w4.heap.size := ⟨_, rfl⟩
  have hb5 : Below w4.heap.size w4 X4 := by rw [hX4]; exact (Below.refl _ _).alloc (Nat.le_refl _) _
  have xb : MBox X4 bx ex (.slice xo px.length xc) := by rw [hX4, hbx]; exact RowAt.new w4 [_, _] _
  have hxp := hxp.keep hb5
  have l4 := (l3.keep hb4).keep hb5
  go_upto_region 10 with fail
  rw [← hX4, ← hbx]
  clear hX4 hbx hb4 hb5 cg0 l3
  go_wp2_with fail
  go_at_call 12; refine (cg1 _).mono ?_; rintro e w5 ⟨yo, yc, rfl, hyp, hb6⟩
  obtain ⟨X5, hX5⟩ : ∃ X, X = w5.alloc (.cells #[.int .u64 (ey : Int), .slice yo py.length yc] 25) := ⟨_, rfl⟩
  obtain ⟨by', hby⟩ : ∃ b, b = w5.heap.size := ⟨_, rfl⟩
  have hb7 : Below w5.heap.size w5 X5 := by rw [hX5]; exact (Below.refl _ _).alloc (Nat.le_refl _) _
  have xb : MBox X5 bx ex (.slice xo px.length xc) := RowAt.below xb (below2 hb6 hb7)
  have yb : MBox X5 by' ey (.slice yo py.length yc) := by rw [hX5, hby]; exact RowAt.new w5 [_, _] _
  have hxp := hxp.keep (below2 hb6 hb7)
  have hyp := hyp.keep hb7
  have l5 := (l4.keep hb6).keep hb7
  go_upto_region 11 with fail
  rw [← hX5, ← hby]
  clear hX5 hby hb6 hb7 cg1 l4
  obtain ⟨x0, x1⟩ := xb.cells
  obtain ⟨y0, y1⟩ := yb.cells
  obtain ⟨r0, r1⟩ := l5.res.cells
  have f0 := RowAt.frozen l5.res 0
  have f1 := RowAt.frozen l5.res 1
  have hBf := l5.below
  rcases HC.out with ⟨hx, hy, HR⟩ | ⟨hxy, HR⟩ | ⟨hxy, HR⟩
  · have hx2 : (yx != 0) = true := by simpa using hx
    have hy2 : (yy != 0) = true := by simpa using hy
    clear HC hx hy hxp hyp xb yb l5
    go_wp2
    (try simp only [Exit.inBlock, Exit.then])
    refine bodyPost_ret ?_ rfl (manIs_zero HR.out (set2_below hBf (by omega) _ _))
    rw [results_cell_tmp rfl]
    go_simp
  · obtain ⟨HP, q0, hBF⟩ := res_put (e := ey) l5.res hyp l5.below
    have HPH : Hid (HasParts ((X5.setCell ⟨w.heap.size + 1, 0, none⟩ (.int .u64 (ey : Int))).setCell ⟨w.heap.size + 1, 1, none⟩ (.slice yo py.length yc)) (.slice yo py.length yc) py) := HP
    clear HC hxp hyp xb yb l5 HP
    rcases hxy with ⟨hx, hy⟩ | ⟨hx, hy, hlt⟩
    · have hx2 : (yx != 0) = true := by simpa using hx
      clear hx
      subst hy
      go_wp2
      (try simp only [Exit.inBlock, Exit.then])
      refine bodyPost_ret (v := .tuple #[.agg #[.int .u64 (ey : Int), .slice yo py.length yc], .int .i64 0]) ?_ rfl ⟨_, by rw [HR.out], by rw [HR.out]; exact HPH.out, hBF⟩
      rw [results_cell_tmp rfl]
      go_simp
    · subst hx hy
      have dl : decide ((ex : Int) < (ey : Int)) = true := by rw [decide_eq_true_iff]; omega
      have hli2 : (ex : Int) < (ey : Int) := by omega
      go_wp2
      (try simp only [Exit.inBlock, Exit.then])
      refine bodyPost_ret (v := .tuple #[.agg #[.int .u64 (ey : Int), .slice yo py.length yc], .int .i64 0]) ?_ rfl ⟨_, by rw [HR.out], by rw [HR.out]; exact HPH.out, hBF⟩
      rw [results_cell_tmp rfl]
      go_simp
  · obtain ⟨HP, q0, hBF⟩ := res_put (e := ex) l5.res hxp l5.below
    have HPH : Hid (HasParts ((X5.setCell ⟨w.heap.size + 1, 0, none⟩ (.int .u64 (ex : Int))).setCell ⟨w.heap.size + 1, 1, none⟩ (.slice xo px.length xc)) (.slice xo px.length xc) px) := HP
    clear HC hxp hyp xb yb l5 HP
    rcases hxy with ⟨hx, hy⟩ | ⟨hx, hy, hlt⟩
    · have hy2 : (yy != 0) = true := by simpa using hy
      have hy3 : (yy == 0) = false := by simpa using hy
      clear hy
      subst hx
      go_wp2
      (try simp only [Exit.inBlock, Exit.then])
      refine bodyPost_ret (v := .tuple #[.agg #[.int .u64 (ex : Int), .slice xo px.length xc], .int .i64 0]) ?_ rfl ⟨_, by rw [HR.out], by rw [HR.out]; exact HPH.out, hBF⟩
      rw [results_cell_tmp rfl]
      go_simp
    · subst hx hy
      have dl : decide ((ex : Int) < (ey : Int)) = false := by rw [decide_eq_false_iff_not]; omega
      have hli2 : ¬ ((ex : Int) < (ey : Int)) := by omega
      go_wp2
      (try simp only [Exit.inBlock, Exit.then])
      refine bodyPost_ret (v := .tuple #[.agg #[.int .u64 (ex : Int), .slice xo px.length xc], .int .i64 0]) ?_ rfl ⟨_, by rw [HR.out], by rw [HR.out]; exact HPH.out, hBF⟩
      rw [results_cell_tmp rfl]
      go_simp
theorem rmload_any (d : Dk) (v : Value) (w : World) (h : HasDk w v d) (hf : Fits d) :
    Calls Try.prog 19 #[v] w (ManIs (loadM d) w) := by
  have cck := fun W (hb : Below w.heap.size w W) => Disk.rcheck_any d v W (h.keep hb) hf
  have cr := fun (k : Int) (hk : -9223372036854775808 ≤ k ∧ k ≤ 9223372036854775807) W (hb : Below w.heap.size w W) => Disk.rread_any d v k W (h.keep hb) hf hk
  obtain ⟨so, sc, co, cc, rfl, hs, hc⟩ := h.parts
  obtain ⟨_, _, _, hs1, _⟩ := Disk.HasRow.slice hs
  cases hok : okB d
  · exact rmload_bad d so co sc cc 2 _ w (by omega) (load_form hok) cck (.inl ⟨hok, rfl⟩)
  · cases hoff : d.off
    · by_cases hl : d.secs.length < 2
      · have := rmload_bad d so co sc cc 1 _ w (by omega) (load_one hok hoff hl) cck (.inr (.inr ⟨hok, hoff, hl, rfl⟩))
        rw [hoff] at this; exact this
      · obtain ⟨r0, r1⟩ := read_two hok hoff (by omega)
        have form : ∀ (t : List UInt8) (ht : t.length ≤ 9223372036854775807) W, Calls Try.prog 12 #[.string ⟨t.toArray⟩] W fun e w' => ∃ xo xc, e = .returned (.tuple #[.agg #[.int .u64 ((getM t).1.1 : Int), .slice xo (getM t).1.2.length xc], .int .i64 (getM t).2]) ∧ HasParts w' (.slice xo (getM t).1.2.length xc) (getM t).1.2 ∧ Below W.heap.size W w' := by
          intro t ht W
          refine (rmget_any t W ht).mono ?_
          rintro e w' ⟨v, rfl, hp, hb⟩
          obtain ⟨xo, xc, rfl, _, _⟩ := hp.form
          exact ⟨xo, xc, rfl, hp, hb⟩
        have c0 := cr 0 (by omega)
        have c1 := cr 1 (by omega)
        unfold TextIs at c0 c1
        rw [r0] at c0
        rw [r1] at c1
        rw [checkE_ok hok] at cck
        rw [hoff] at c0 c1 cck
        refine rmload_two d so co sc cc _ _ (getM (readD d 0).1) (getM (readD d 1).1) _ w (by omega) (by omega) hoff (getM_lt _) (getM_lt _) cck c0 c1 (form _ (by have := readD_len d 0; omega)) (form _ (by have := readD_len d 1; omega)) ?_
        by_cases g0 : (getM (readD d 0).1).2 = 0
        · by_cases g1 : (getM (readD d 1).1).2 = 0
          · by_cases hlt : (getM (readD d 0).1).1.1 < (getM (readD d 1).1).1.1
            · exact .inr (.inl ⟨.inr ⟨g0, g1, hlt⟩, load_second r0 r1 g1 (.inr hlt)⟩)
            · exact .inr (.inr ⟨.inr ⟨g0, g1, hlt⟩, load_first r0 r1 g0 (.inr hlt)⟩)
          · exact .inr (.inr ⟨.inl ⟨g0, g1⟩, load_first r0 r1 g0 (.inl g1)⟩)
        · by_cases g1 : (getM (readD d 1).1).2 = 0
          · exact .inr (.inl ⟨.inl ⟨g0, g1⟩, load_second r0 r1 g1 (.inl g0)⟩)
          · exact .inl ⟨g0, g1, load_none r0 r1 g0 g1⟩
    · have := rmload_bad d so co sc cc 9 _ w (by omega) (load_off hok hoff) cck (.inr (.inl ⟨hok, hoff, rfl⟩))
      rw [hoff] at this; exact this
end Go.Proofs.Ytajcmgccclemdaa.Man
namespace Go.Proofs.Ytajcmgccclemdaa.Man
open Go.RowKit Go.Shelf
open Go.Proofs.Ytajcmgccclemdaa.Page
open Go.Proofs.Ytajcmgccclemdaa.Disk (VDk back_of Back outD_ok ok_of ok_mk zeroD_has set4_grown set4_below checkE_ok checkE_bad Dk HasDk Fits readD TextIs VBox RBox strV HasStrs HasPuts putCs DiskIs okB writeD flushD outD zeroD checkE Ok)

/-- the three boxes of the document's Save -/
structure SvR (w W : World) (d : Dk) (e : Nat) (u : Value) : Prop where
  disk : VDk W w.heap.size d
  man : MBox W (w.heap.size + 1) e u
  res : RBox W (w.heap.size + 2)
  below : Below w.heap.size w W
theorem SvR.keep {w W W' : World} {d : Dk} {e : Nat} {u : Value} (h : SvR w W d e u) (hb : Below W.heap.size W W') : SvR w W' d e u :=
  ⟨h.disk.below hb, RowAt.below h.man hb, h.res.below hb, below2 h.below hb⟩
/-- a disk is stored into the variable -/
theorem SvR.store {w W : World} {d r : Dk} {e : Nat} {u : Value} {so co : Option Addr} {sc cc : Nat} (h : SvR w W d e u) (hs : HasStrs W (.slice so r.secs.length sc) r.secs) (hc : HasPuts W (.slice co r.cache.length cc) r.cache) :
    SvR w ((((W.setCell ⟨w.heap.size, 0, none⟩ (.slice so r.secs.length sc)).setCell ⟨w.heap.size, 1, none⟩ (.slice co r.cache.length cc)).setCell ⟨w.heap.size, 2, none⟩ (.int .i64 r.fuse)).setCell ⟨w.heap.size, 3, none⟩ (.bool r.off)) r e u :=
  ⟨h.disk.store hs hc, RowAt.grown' h.man (set4_grown _ _ _ _ _ _) (by omega), h.res.kept (set4_grown _ _ _ _ _ _) (by simp), set4_below h.below (by omega) _ _ _ _⟩
theorem svR_new (w : World) (d : Dk) (so co uo : Option Addr) (sc cc e n uc : Nat) (hs : HasStrs w (.slice so d.secs.length sc) d.secs) (hc : HasPuts w (.slice co d.cache.length cc) d.cache) :
    SvR w (((w.alloc (.cells #[.slice so d.secs.length sc, .slice co d.cache.length cc, .int .i64 d.fuse, .bool d.off] 38)).alloc (.cells #[.int .u64 (e : Int), .slice uo n uc] 25)).alloc (.cells #[.slice none 0 0, .slice none 0 0, .int .i64 0, .bool false] 38)) d e (.slice uo n uc) := by
  refine ⟨((VDk.new hs hc).below ((Below.refl _ _).alloc (Nat.le_refl _) _)).below ((Below.refl _ _).alloc (Nat.le_refl _) _), ?_, ?_, (((Below.refl _ w).alloc (Nat.le_refl _) _).alloc (by simp) _).alloc (by simp; omega) _⟩
  · have := RowAt.new (w.alloc (.cells #[.slice so d.secs.length sc, .slice co d.cache.length cc, .int .i64 d.fuse, .bool d.off] 38)) [.int .u64 (e : Int), .slice uo n uc] 25
    rw [World.size_alloc, List.toArray] at this
    exact RowAt.alloc this (.cells #[.slice none 0 0, .slice none 0 0, .int .i64 0, .bool false] 38)
  · have := World.alloc_heap_new ((w.alloc (.cells #[.slice so d.secs.length sc, .slice co d.cache.length cc, .int .i64 d.fuse, .bool d.off] 38)).alloc (.cells #[.int .u64 (e : Int), .slice uo n uc] 25)) (.cells #[.slice none 0 0, .slice none 0 0, .int .i64 0, .bool false] 38)
    rw [World.size_alloc, World.size_alloc] at this
    exact this
/-- what is answered: the variable's disk -/
theorem SvR.out {w W : World} {d : Dk} {e : Nat} {u : Value} {so co : Option Addr} {sc cc : Nat} (h : SvR w W d e u) (hs : HasStrs W (.slice so d.secs.length sc) d.secs) (hc : HasPuts W (.slice co d.cache.length cc) d.cache) :
    Hid (∀ x y z u, HasDk ((((W.setCell ⟨w.heap.size + 2, 0, none⟩ x).setCell ⟨w.heap.size + 2, 1, none⟩ y).setCell ⟨w.heap.size + 2, 2, none⟩ z).setCell ⟨w.heap.size + 2, 3, none⟩ u) (.agg #[.slice so d.secs.length sc, .slice co d.cache.length cc, .int .i64 d.fuse, .bool d.off]) d) :=
  fun x y z u => ⟨_, _, rfl, hs.box h.res.nostr (set4_grown _ _ _ _ _ _), hc.box h.res.nostr (set4_grown _ _ _ _ _ _)⟩
theorem ok_8796 {d : Dk} (h : Ok d) : d.secs.length ≤ 8796093022208 ∧ d.cache.length ≤ 5864062014805 := by have := h.many; have := h.few; omega
/-- what Save comes to -/
theorem save_form {d : Dk} (m : ManT) (h : okB d = false) : saveM d m = (zeroD, 2) := by rw [saveM, if_neg (by rw [h]; decide)]
theorem save_bad {d : Dk} {m : ManT} (h : okB d = true) (hm : okM m = false) : saveM d m = (d, 2) := by
  have e : followE d m = 2 := by rw [followE, if_neg (by rw [hm]; decide)]
  rw [saveM, if_pos h, e, if_neg (by decide)]
theorem save_off {d : Dk} {m : ManT} (h : okB d = true) (hm : okM m = true) (ho : d.off = true) : saveM d m = (d, 9) := by
  have e : followE d m = 9 := by rw [followE, if_pos hm, load_off h ho, if_pos (by decide)]
  rw [saveM, if_pos h, e, if_neg (by decide)]
theorem load_err {d : Dk} (h : okB d = true) (ho : d.off = false) : (loadM d).2 = 0 ∨ (loadM d).2 = 1 ∨ (loadM d).2 = 3 := by
  by_cases hl : d.secs.length < 2
  · rw [load_one h ho hl]; simp
  · obtain ⟨r0, r1⟩ := read_two h ho (by omega)
    rw [loadM, if_pos r0, if_pos r1]
    split <;> simp
theorem save_range {d : Dk} {m : ManT} (h : okB d = true) (hm : okM m = true) (ho : d.off = false) (hr : (loadM d).2 = 1 ∨ (loadM d).2 ≠ 1 ∧ m.1 ≠ (loadM d).1.1 + 1) : saveM d m = (d, 1) := by
  have e : followE d m = 1 := by
    rw [followE, if_pos hm]
    rcases hr with hr | ⟨h1, hr⟩
    · rw [hr, if_pos (by decide)]
    · rw [if_neg (by rcases load_err h ho with h2 | h2 | h2 <;> omega), if_neg hr]
  rw [saveM, if_pos h, e, if_neg (by decide)]
theorem save_write {d : Dk} {m : ManT} (h : okB d = true) (hm : okM m = true) (ho : d.off = false) (h1 : (loadM d).2 ≠ 1) (hr : m.1 = (loadM d).1.1 + 1) :
    saveM d m = if (writeD d ((m.1 % 2 : Nat) : Int) (sectL m)).2 = 0 then outD (writeD d ((m.1 % 2 : Nat) : Int) (sectL m)).1 (flushD (writeD d ((m.1 % 2 : Nat) : Int) (sectL m)).1) else writeD d ((m.1 % 2 : Nat) : Int) (sectL m) := by
  have e : followE d m = 0 := by
    rw [followE, if_pos hm, if_neg (by rcases load_err h ho with h2 | h2 | h2 <;> omega), if_pos hr]
  rw [saveM, if_pos h, if_pos e]
set_option maxHeartbeats 4000000 in
set_option maxRecDepth 20000 in
theorem rmsave_any (d : Dk) (m : ManT) (v u : Value) (w : World) (h : HasDk w v d) (hf : Fits d) (hm : HasParts w u m.2) (hfm : FitM m) :
    Calls Try.prog 21 #[v, .agg #[.int .u64 (m.1 : Int), u]] w (DiskIs (saveM d m) w) := by
  have cck := fun W (hb : Below w.heap.size w W) => Disk.rcheck_any d v W (h.keep hb) hf
  have HCP : Hid (Ok d → ∀ W, Below w.heap.size w W → Calls Try.prog 17 #[v] W fun e w' => ∃ so sc co cc, e = .returned (.agg #[.slice so d.secs.length sc, .slice co d.cache.length cc, .int .i64 d.fuse, .bool d.off]) ∧ HasStrs w' (.slice so d.secs.length sc) d.secs ∧ HasPuts w' (.slice co d.cache.length cc) d.cache ∧ Below W.heap.size W w') := fun hk W hb => by
    refine (Disk.rcopy_any d v W (h.keep hb) (ok_8796 hk).1 (ok_8796 hk).2).mono ?_
    rintro e w' ⟨so, sc, co, cc, rfl, h1, h2, hb⟩
    exact ⟨so, sc, co, cc, rfl, Disk.hasRow_own h1, Disk.hasRow_own h2, hb⟩
  have cpu := fun W (hb : Below w.heap.size w W) => rmput_any m u W (hm.keep hb) hfm
  unfold StrIs at cpu
  have HLD : Hid (∀ W v, HasDk W v d → Calls Try.prog 19 #[v] W fun e w' => ∃ xo xc, e = .returned (.tuple #[.agg #[.int .u64 ((loadM d).1.1 : Int), .slice xo (loadM d).1.2.length xc], .int .i64 (loadM d).2]) ∧ Below W.heap.size W w') := fun W v hv => by
    refine (rmload_any d v W hv hf).mono ?_
    rintro e w' ⟨v, rfl, hp, hb⟩
    obtain ⟨xo, xc, rfl, _, _⟩ := hp.form
    exact ⟨xo, xc, rfl, hb⟩
  obtain ⟨so, sc, co, c3, rfl, hs, hc⟩ := h.parts
  obtain ⟨uo, uc, rfl, _, _⟩ := hm.form
  obtain ⟨X, hX⟩ : ∃ X, X = ((w.alloc (.cells #[.slice so d.secs.length sc, .slice co d.cache.length c3, .int .i64 d.fuse, .bool d.off] 38)).alloc (.cells #[.int .u64 (m.1 : Int), .slice uo m.2.length uc] 25)).alloc (.cells #[.slice none 0 0, .slice none 0 0, .int .i64 0, .bool false] 38) := ⟨_, rfl⟩
  have hv : Hid (SvR w X d m.1 (.slice uo m.2.length uc)) := by rw [hX]; exact svR_new w d so co uo sc c3 m.1 m.2.length uc hs hc
  have vb : VBox X w.heap.size (.slice so d.secs.length sc) (.slice co d.cache.length c3) (.int .i64 d.fuse) (.bool d.off) := by
    rw [hX]; exact VBox.below (VBox.below (World.alloc_heap_new _ _) ((Below.refl _ _).alloc (Nat.le_refl _) _)) ((Below.refl _ _).alloc (Nat.le_refl _) _)
  have hmi : (m.1 : Int) ≤ 18446744073709551615 := by have := hfm.1; omega
  obtain ⟨R, hR⟩ : ∃ R, R = saveM d m := ⟨_, rfl⟩
  rw [← hR]
  have HR : Hid (R = saveM d m) := hR
  obtain ⟨q0, q1, q2, q3, qf⟩ := vb.cells
  have HHF : Hid (Fits d ∧ FitM m) := ⟨hf, hfm⟩
  have HVB : Hid (VBox X w.heap.size (.slice so d.secs.length sc) (.slice co d.cache.length c3) (.int .i64 d.fuse) (.bool d.off)) := vb
  clear hR hs hc h hm vb hf hfm
  cases hok : okB d
  · have HR2 : Hid (R = (zeroD, 2)) := HR.out.trans (save_form m hok)
    rw [checkE_bad hok] at cck
    clear cpu HCP HLD
    go_enter Try.func21, Try.ntmps21
    go_upto_region 1 with fail
    rw [← hX]
    clear hX
    go_wp2_with fail
    go_at_call 49; refine (cck X hv.out.below).mono ?_; rintro e w1 ⟨rfl, hb1⟩
    have h1 := hv.out.keep hb1
    have hB1 := h1.below
    obtain ⟨r0, r1, r2, r3, rf⟩ := h1.res.cells
    clear cck q0 q1 q2 q3 qf hv h1 hb1
    go_wp2
    (try simp only [Exit.inBlock, Exit.then])
    refine bodyPost_ret (v := .tuple #[.agg #[.slice none 0 0, .slice none 0 0, .int .i64 0, .bool false], .int .i64 2]) ?_ rfl (by rw [HR2.out]; exact ⟨_, rfl, zeroD_has _, set4_below hB1 (by omega) _ _ _ _⟩)
    rw [results_cell_tmp rfl]
    go_simp
  · have HK : Hid (Ok d) := ok_of hok
    have HOK : Hid (okB d = true) := hok
    rw [checkE_ok hok] at cck
    have ccp := HCP.out HK.out
    clear HCP
    go_enter Try.func21, Try.ntmps21
    go_upto_region 1 with fail
    rw [← hX]
    clear hX
    go_wp2_with fail
    go_at_call 49; refine (cck X hv.out.below).mono ?_; rintro e w1 ⟨rfl, hb1⟩
    have h1 := hv.out.keep hb1
    have vb1 := HVB.out.below hb1
    clear q0 q1 q2 q3 qf cck hv HVB hb1
    obtain ⟨q0, q1, q2, q3, qf⟩ := vb1.cells
    go_wp2_with fail
    go_at_call 17; refine (ccp w1 h1.below).mono ?_; rintro e w2 ⟨s2, s2c, c2, c2c, rfl, hs2, hc2, hb2⟩
    obtain ⟨Y, hY⟩ : ∃ Y, Y = (((w2.setCell ⟨w.heap.size, 0, none⟩ (.slice s2 d.secs.length s2c)).setCell ⟨w.heap.size, 1, none⟩ (.slice c2 d.cache.length c2c)).setCell ⟨w.heap.size, 2, none⟩ (.int .i64 d.fuse)).setCell ⟨w.heap.size, 3, none⟩ (.bool d.off) := ⟨_, rfl⟩
    have hvY : SvR w Y d m.1 (.slice uo m.2.length uc) := by rw [hY]; exact (h1.keep hb2).store hs2 hc2
    have vb2 := vb1.below hb2
    clear q0 q1 q2 q3 qf ccp h1 hs2 hc2 hb2 vb1
    obtain ⟨q0, q1, q2, q3, qf⟩ := vb2.cells
    go_upto_region 4 with fail
    rw [← hY]
    clear hY q0 q1 q2 q3 qf vb2
    obtain ⟨a1, a2, a3, a4, vbY, hsY, hcY⟩ := hvY.disk
    obtain ⟨q0, q1, q2, q3, qf⟩ := vbY.cells
    obtain ⟨m0, m1⟩ := hvY.man.cells
    cases hmk : okM m
    · have hp : putM m = ([], 2) := by rw [putM, hmk]; rfl
      rw [hp] at cpu
      have HR2 : Hid (R = (d, 2)) := HR.out.trans (save_bad HOK.out hmk)
      clear hp HLD
      go_wp2_with fail
      go_at_call 10; refine (cpu Y hvY.below).mono ?_; rintro e w3 ⟨rfl, hb3⟩
      have h3 := hvY.keep hb3
      have vb3 := vbY.below hb3
      have hBx := h3.below
      have HF := h3.out (hsY.keep hb3) (hcY.keep hb3)
      obtain ⟨r0, r1, r2, r3, rf⟩ := h3.res.cells
      clear q0 q1 q2 q3 qf m0 m1 hvY vbY hsY hcY h3 cpu hb3
      obtain ⟨q0, q1, q2, q3, qf⟩ := vb3.cells
      clear vb3
      go_wp2
      (try simp only [Exit.inBlock, Exit.then])
      refine bodyPost_ret (v := .tuple #[.agg #[.slice a1 d.secs.length a2, .slice a3 d.cache.length a4, .int .i64 d.fuse, .bool d.off], .int .i64 2]) ?_ rfl (by rw [HR2.out]; exact ⟨_, rfl, HF.out _ _ _ _, set4_below hBx (by omega) _ _ _ _⟩)
      rw [results_cell_tmp rfl]
      go_simp
    · have hp : putM m = (sectL m, 0) := by rw [putM, hmk]; rfl
      rw [hp] at cpu
      simp only at cpu
      have hn8 := (okM_parts hmk).2.1
      cases hoff : d.off
      · have HRG : Hid ((loadM d).2 = 1 ∨ (loadM d).2 ≠ 1 ∧ m.1 ≠ (loadM d).1.1 + 1 → R = (d, 1)) := fun hh => HR.out.trans (save_range HOK.out hmk hoff hh)
        have HWR : Hid ((loadM d).2 ≠ 1 → m.1 = (loadM d).1.1 + 1 → R = if (writeD d ((m.1 % 2 : Nat) : Int) (sectL m)).2 = 0 then outD (writeD d ((m.1 % 2 : Nat) : Int) (sectL m)).1 (flushD (writeD d ((m.1 % 2 : Nat) : Int) (sectL m)).1) else writeD d ((m.1 % 2 : Nat) : Int) (sectL m)) := fun g1 g2 => HR.out.trans (save_write HOK.out hmk hoff g1 g2)
        have hle := loadM_le d
        have cld := HLD.out
        generalize loadM d = ld at cld HRG HWR hle
        obtain ⟨⟨le, lp⟩, ly⟩ := ld
        simp only at cld HRG HWR hle
        have HCL : Hid (∀ W v, HasDk W v d → Calls Try.prog 19 #[v] W fun e w' => ∃ xo xc, e = .returned (.tuple #[.agg #[.int .u64 (le : Int), .slice xo lp.length xc], .int .i64 ly]) ∧ Below W.heap.size W w') := cld
        have hD : ∀ W, VDk W w.heap.size d → True := fun _ _ => trivial
        obtain ⟨pp, hpp⟩ : ∃ p : Nat, p = m.1 % 2 := ⟨_, rfl⟩
        rw [← hpp] at HWR
        have HWC : Hid (∀ W v, HasDk W v d → Calls Try.prog 56 #[v, .int .i64 (pp : Int), strV (sectL m)] W (Back (writeD d (pp : Int) (sectL m)).1 (writeD d (pp : Int) (sectL m)).2 W)) := fun W v hv => by
          have := (Disk.rwrite_any d v (pp : Int) (sectL m) W hv HHF.out.1 (by omega) (by rw [sectL_len m hn8]; omega)).mono (fun e w' h => back_of h)
          rw [outD_ok HK.out] at this
          exact this
        have hf1 : Fits (writeD d (pp : Int) (sectL m)).1 := Disk.fits_ok (Disk.write_ok HK.out _ _) (Disk.write_fuse HHF.out.1.1.2 _ _)
        have hcf : ∀ W v, HasDk W v (writeD d (pp : Int) (sectL m)).1 → Calls Try.prog 57 #[v] W (Back (outD (writeD d (pp : Int) (sectL m)).1 (flushD (writeD d (pp : Int) (sectL m)).1)).1 (outD (writeD d (pp : Int) (sectL m)).1 (flushD (writeD d (pp : Int) (sectL m)).1)).2 W) := fun W v hv => (Disk.rflush_any _ v W hv hf1).mono (fun e w' h => back_of h)
        generalize writeD d (pp : Int) (sectL m) = r1 at HWC HWR hcf
        obtain ⟨d1, y1⟩ := r1
        simp only at HWC HWR hcf
        have HFC : Hid (∀ W v, HasDk W v d1 → Calls Try.prog 57 #[v] W (Back (outD d1 (flushD d1)).1 (outD d1 (flushD d1)).2 W)) := hcf
        unfold strV at HWC
        generalize (⟨(sectL m).toArray⟩ : ByteArray) = S at cpu HWC
        have ew0 : (m.1 : Int).tmod 2 = (pp : Int) := by rw [Int.tmod_eq_emod_of_nonneg (by omega)]; omega
        have ew1 : (m.1 : Int) % 2 = (pp : Int) := by omega
        have ew2 : IntKind.i64.wrap (pp : Int) = (pp : Int) := by rw [IntKind.wrap_i64]; omega
        have ew3 : IntKind.u64.wrap (pp : Int) = (pp : Int) := by rw [IntKind.wrap_u64]; omega
        have hlei : (le : Int) ≤ 4611686018427387904 := by omega
        have ew4 : IntKind.u64.wrap ((le : Int) + 1) = (le : Int) + 1 := by rw [IntKind.wrap_u64]; omega
        have HOF : Hid (d.off = false) := hoff
        rw [hoff] at q3
        clear hp HLD cld hcf hpp hf1 hle hoff hD
        go_wp2_with fail
        go_at_call 10; refine (cpu Y hvY.below).mono ?_; rintro e w3 ⟨rfl, hb3⟩
        have h3 := hvY.keep hb3
        have vb3 := vbY.below hb3
        have hs3 := hsY.keep hb3
        have hc3 := hcY.keep hb3
        clear q0 q1 q2 q3 qf m0 m1 hvY vbY hsY hcY cpu hb3
        obtain ⟨q0, q1, q2, q3, qf⟩ := vb3.cells
        rw [HOF.out] at q3
        have cld := HCL.out w3 _ ⟨_, _, rfl, hs3, hc3⟩
        rw [HOF.out] at cld
        go_wp2_with fail
        go_at_call 19; refine cld.mono ?_; rintro e w4 ⟨xo, xc, rfl, hb4⟩
        obtain ⟨Z, hZ⟩ : ∃ Z, Z = w4.alloc (.cells #[.int .u64 (le : Int), .slice xo lp.length xc] 25) := ⟨_, rfl⟩
        obtain ⟨bx, hbx⟩ : ∃ b, b = w4.heap.size := ⟨_, rfl⟩
        have hb5 : Below w4.heap.size w4 Z := by rw [hZ]; exact (Below.refl _ _).alloc (Nat.le_refl _) _
        have xb : MBox Z bx le (.slice xo lp.length xc) := by rw [hZ, hbx]; exact RowAt.new w4 [_, _] _
        have hb45 := below2 hb4 hb5
        have h5 := h3.keep hb45
        have vb5 := vb3.below hb45
        have hs5 := hs3.keep hb45
        have hc5 := hc3.keep hb45
        go_upto_region 10 with fail
        rw [← hZ, ← hbx]
        clear hZ hbx hb4 hb5 hb45 cld HCL q0 q1 q2 q3 qf h3 vb3 hs3 hc3
        obtain ⟨x0, x1⟩ := xb.cells
        obtain ⟨m0, m1⟩ := h5.man.cells
        obtain ⟨q0, q1, q2, q3, qf⟩ := vb5.cells
        rw [HOF.out] at q3
        by_cases hly : ly = 1
        · have HR2 : Hid (R = (d, 1)) := HRG.out (.inl hly)
          subst hly
          have hBx := h5.below
          have HF := h5.out hs5 hc5
          rw [HOF.out] at HF
          obtain ⟨r0, r1, r2, r3, rf⟩ := h5.res.cells
          clear hs5 hc5 h5 vb5 xb HRG HWR
          go_wp2
          (try simp only [Exit.inBlock, Exit.then])
          refine bodyPost_ret (v := .tuple #[.agg #[.slice a1 d.secs.length a2, .slice a3 d.cache.length a4, .int .i64 d.fuse, .bool false], .int .i64 1]) ?_ rfl (by rw [HR2.out]; exact ⟨_, rfl, HF.out _ _ _ _, set4_below hBx (by omega) _ _ _ _⟩)
          rw [results_cell_tmp rfl]
          go_simp
        · have hly2 : (ly == 1) = false := by simpa using hly
          by_cases hep : m.1 = le + 1
          · have HR3 : Hid (R = if y1 = 0 then outD d1 (flushD d1) else (d1, y1)) := HWR.out hly hep
            have hep2 : (m.1 : Int) = (le : Int) + 1 := by omega
            have hepb : ((m.1 : Int) != (le : Int) + 1) = false := by rw [bne_eq_false_iff_eq]; exact hep2
            have HEP : Hid ((m.1 : Int) = (le : Int) + 1) := hep2
            clear hep hep2 HRG HWR hly
            have cwr := HWC.out Z _ ⟨_, _, rfl, hs5, hc5⟩
            rw [HOF.out] at cwr
            unfold Back at cwr
            go_wp2_with fail
            go_at_call 56; refine cwr.mono ?_; rintro e w6 ⟨s6, s6c, c6, c6c, rfl, hs6, hc6, hb6⟩
            have h6 := h5.keep hb6
            have vb6 := vb5.below hb6
            obtain ⟨V, hV⟩ : ∃ V, V = (((w6.setCell ⟨w.heap.size, 0, none⟩ (.slice s6 d1.secs.length s6c)).setCell ⟨w.heap.size, 1, none⟩ (.slice c6 d1.cache.length c6c)).setCell ⟨w.heap.size, 2, none⟩ (.int .i64 d1.fuse)).setCell ⟨w.heap.size, 3, none⟩ (.bool d1.off) := ⟨_, rfl⟩
            have hvV : SvR w V d1 m.1 (.slice uo m.2.length uc) := by rw [hV]; exact h6.store hs6 hc6
            clear q0 q1 q2 q3 qf x0 x1 m0 m1 cwr HWC hs5 hc5 h5 vb5 xb hs6 hc6 hb6 h6
            obtain ⟨q0, q1, q2, q3, qf⟩ := vb6.cells
            go_upto_region 13 with fail
            rw [← hV]
            clear hV q0 q1 q2 q3 qf vb6
            obtain ⟨b1, b2, b3, b4, vbV, hsV, hcV⟩ := hvV.disk
            obtain ⟨q0, q1, q2, q3, qf⟩ := vbV.cells
            by_cases hy : y1 = 0
            · subst hy
              have HR4 : Hid (R = outD d1 (flushD d1)) := by show _ = _; rw [HR3.out, if_pos rfl]
              have cfl := HFC.out V _ ⟨_, _, rfl, hsV, hcV⟩
              generalize outD d1 (flushD d1) = r2 at cfl HR4
              obtain ⟨d2, y2⟩ := r2
              unfold Back at cfl
              simp only at cfl
              go_wp2_with fail
              go_at_call 57; refine cfl.mono ?_; rintro e w7 ⟨s7, s7c, c7, c7c, rfl, hs7, hc7, hb7⟩
              have h7 := hvV.keep hb7
              have hBx := h7.below
              have HF : Hid (∀ x y z u, HasDk ((((w7.setCell ⟨w.heap.size + 2, 0, none⟩ x).setCell ⟨w.heap.size + 2, 1, none⟩ y).setCell ⟨w.heap.size + 2, 2, none⟩ z).setCell ⟨w.heap.size + 2, 3, none⟩ u) (.agg #[.slice s7 d2.secs.length s7c, .slice c7 d2.cache.length c7c, .int .i64 d2.fuse, .bool d2.off]) d2) := fun x y z u => ⟨_, _, rfl, hs7.box h7.res.nostr (set4_grown _ _ _ _ _ _), hc7.box h7.res.nostr (set4_grown _ _ _ _ _ _)⟩
              obtain ⟨r0, r1, r2', r3, rf⟩ := h7.res.cells
              clear q0 q1 q2 q3 qf hs7 hc7 cfl HFC hvV vbV hsV hcV h7 hb7
              go_wp2
              (try simp only [Exit.inBlock, Exit.then])
              refine bodyPost_ret (v := .tuple #[.agg #[.slice s7 d2.secs.length s7c, .slice c7 d2.cache.length c7c, .int .i64 d2.fuse, .bool d2.off], .int .i64 y2]) ?_ rfl (by rw [HR4.out]; exact ⟨_, rfl, HF.out _ _ _ _, set4_below hBx (by omega) _ _ _ _⟩)
              rw [results_cell_tmp rfl]
              go_simp
            · have HR4 : Hid (R = (d1, y1)) := by show _ = _; rw [HR3.out, if_neg hy]
              have hy2 : (y1 != 0) = true := by simpa using hy
              have hBx := hvV.below
              have HF := hvV.out hsV hcV
              obtain ⟨r0, r1, r2', r3, rf⟩ := hvV.res.cells
              clear hsV hcV HFC hvV vbV hy
              go_wp2
              (try simp only [Exit.inBlock, Exit.then])
              refine bodyPost_ret (v := .tuple #[.agg #[.slice b1 d1.secs.length b2, .slice b3 d1.cache.length b4, .int .i64 d1.fuse, .bool d1.off], .int .i64 y1]) ?_ rfl (by rw [HR4.out]; exact ⟨_, rfl, HF.out _ _ _ _, set4_below hBx (by omega) _ _ _ _⟩)
              rw [results_cell_tmp rfl]
              go_simp
          · have HR2 : Hid (R = (d, 1)) := HRG.out (.inr ⟨hly, hep⟩)
            have hep2 : ¬ ((m.1 : Int) = (le : Int) + 1) := by omega
            have hepb : ((m.1 : Int) != (le : Int) + 1) = true := by rw [bne_iff_ne]; exact hep2
            have hBx := h5.below
            have HF := h5.out hs5 hc5
            rw [HOF.out] at HF
            obtain ⟨r0, r1, r2, r3, rf⟩ := h5.res.cells
            clear hs5 hc5 h5 vb5 xb HRG HWR hep hly
            go_wp2
            (try simp only [Exit.inBlock, Exit.then])
            refine bodyPost_ret (v := .tuple #[.agg #[.slice a1 d.secs.length a2, .slice a3 d.cache.length a4, .int .i64 d.fuse, .bool false], .int .i64 1]) ?_ rfl (by rw [HR2.out]; exact ⟨_, rfl, HF.out _ _ _ _, set4_below hBx (by omega) _ _ _ _⟩)
            rw [results_cell_tmp rfl]
            go_simp
      · have HR2 : Hid (R = (d, 9)) := HR.out.trans (save_off HOK.out hmk hoff)
        have HOF : Hid (d.off = true) := hoff
        clear hp HLD hoff
        generalize (⟨(sectL m).toArray⟩ : ByteArray) = S at cpu
        go_wp2_with fail
        go_at_call 10; refine (cpu Y hvY.below).mono ?_; rintro e w3 ⟨rfl, hb3⟩
        have h3 := hvY.keep hb3
        have vb3 := vbY.below hb3
        have hBx := h3.below
        have HF := h3.out (hsY.keep hb3) (hcY.keep hb3)
        rw [HOF.out] at HF
        obtain ⟨r0, r1, r2, r3, rf⟩ := h3.res.cells
        clear q0 q1 q2 q3 qf m0 m1 hvY vbY hsY hcY h3 cpu hb3
        obtain ⟨q0, q1, q2, q3, qf⟩ := vb3.cells
        rw [HOF.out] at q3
        clear vb3
        go_wp2
        (try simp only [Exit.inBlock, Exit.then])
        refine bodyPost_ret (v := .tuple #[.agg #[.slice a1 d.secs.length a2, .slice a3 d.cache.length a4, .int .i64 d.fuse, .bool true], .int .i64 9]) ?_ rfl (by rw [HR2.out]; exact ⟨_, rfl, HF.out _ _ _ _, set4_below hBx (by omega) _ _ _ _⟩)
        rw [results_cell_tmp rfl]
        go_simp
end Go.Proofs.Ytajcmgccclemdaa.Man
namespace Go.Proofs.Ytajcmgccclemdaa
namespace manifestLoads
open Go.ChangeShapes Go.WideShapes Go.ChangeAt Go.RowKit
open Go.ChangeMaps (open_string shut_string)
open Go.Proofs.Ytajcmgccclemdaa.Page
open Go.Proofs.Ytajcmgccclemdaa.Man
open Go.Proofs.Ytajcmgccclemdaa.Disk (VDk back_of Back Dk HasDk Fits VBox HasStrs HasPuts rcopy_any rsame_any outD okB ok_of Ok)

theorem own : ownKnob Try.prog.godebug = none := by kernel_rfl
theorem laidOut : laidOutB Try.prog = true := by kernel_rfl
theorem save_small {d : Dk} {m : ManT} (h : d.secs.length ≤ 8796093022208 ∧ d.cache.length ≤ 5864062014805) : (saveM d m).1.secs.length ≤ 10000000000000 ∧ (saveM d m).1.cache.length ≤ 10000000000000 := by
  unfold saveM
  split
  · rename_i hk
    have ho := ok_of hk
    split
    · split
      · have h1 := Disk.write_ok ho ((m.1 % 2 : Nat) : Int) (sectL m)
        rw [Disk.outD_ok h1]
        have h2 := Disk.flush_ok h1
        have := h2.many; have := h2.few
        omega
      · have h1 := Disk.write_ok ho ((m.1 % 2 : Nat) : Int) (sectL m)
        have := h1.many; have := h1.few
        omega
    · simp only; omega
  · exact ⟨Nat.zero_le _, Nat.zero_le _⟩
theorem step_len {a : ManT} {s : List UInt8} (ha : a.2.length ≤ 8) : (stepM a (getM s)).2.length ≤ 8 := by
  unfold stepM
  split
  · rename_i hh; exact (okM_parts (get_ok hh.1).1).2.1
  · exact ha
theorem load_len (d : Dk) : (loadM d).1.2.length ≤ 8 := by
  unfold loadM
  split
  · split
    · split
      · simp
      · exact step_len (step_len (by simp))
    · simp
  · simp
set_option maxHeartbeats 8000000 in
set_option maxRecDepth 20000 in
theorem core (D0 d1 : Dk) (M0 ml : ManT) (y1 yl : Int) (so co uo : Option Addr) (sc cc uc : Nat) (w : World) (hs0 : HasStrs w (.slice so D0.secs.length sc) D0.secs) (hc0 : HasPuts w (.slice co D0.cache.length cc) D0.cache) (hm0 : HasParts w (.slice uo M0.2.length uc) M0.2)
    (ccp : ∀ W v, HasDk W v D0 → Calls Try.prog 17 #[v] W fun e w' => ∃ so sc co cc, e = .returned (.agg #[.slice so D0.secs.length sc, .slice co D0.cache.length cc, .int .i64 D0.fuse, .bool D0.off]) ∧ HasStrs w' (.slice so D0.secs.length sc) D0.secs ∧ HasPuts w' (.slice co D0.cache.length cc) D0.cache ∧ Below W.heap.size W w')
    (cld : ∀ W v, HasDk W v D0 → Calls Try.prog 18 #[v] W fun e w' => ∃ xo xc, e = .returned (.tuple #[.agg #[.int .u64 (ml.1 : Int), .slice xo ml.2.length xc], .int .i64 yl]) ∧ HasParts w' (.slice xo ml.2.length xc) ml.2 ∧ Below W.heap.size W w')
    (crl : ∀ W v, HasDk W v D0 → Calls Try.prog 19 #[v] W fun e w' => ∃ xo xc, e = .returned (.tuple #[.agg #[.int .u64 (ml.1 : Int), .slice xo ml.2.length xc], .int .i64 yl]) ∧ HasParts w' (.slice xo ml.2.length xc) ml.2 ∧ Below W.heap.size W w')
    (csv : ∀ W v u, HasDk W v D0 → HasParts W u M0.2 → Calls Try.prog 20 #[v, .agg #[.int .u64 (M0.1 : Int), u]] W (Back d1 y1 W))
    (crs : ∀ W v u, HasDk W v D0 → HasParts W u M0.2 → Calls Try.prog 21 #[v, .agg #[.int .u64 (M0.1 : Int), u]] W (Back d1 y1 W))
    (cms : ∀ W v u, HasParts W v ml.2 → HasParts W u ml.2 → Calls Try.prog 16 #[.agg #[.int .u64 (ml.1 : Int), v], .agg #[.int .u64 (ml.1 : Int), u]] W fun e w' => e = .returned (.bool true) ∧ Below W.heap.size W w')
    (cs0 : ∀ W v u, HasDk W v D0 → HasDk W u D0 → Calls Try.prog 22 #[v, u] W fun e w' => e = .returned (.bool true) ∧ Below W.heap.size W w')
    (cs1 : ∀ W v u, HasDk W v d1 → HasDk W u d1 → Calls Try.prog 22 #[v, u] W fun e w' => e = .returned (.bool true) ∧ Below W.heap.size W w') :
    Calls Try.prog 4 #[.agg #[.slice so D0.secs.length sc, .slice co D0.cache.length cc, .int .i64 D0.fuse, .bool D0.off], .agg #[.int .u64 (M0.1 : Int), .slice uo M0.2.length uc]] w fun e w' => e = .returned (.bool true) ∧ Below w.heap.size w w' := by
  obtain ⟨X, hX⟩ : ∃ X, X = (w.alloc (.cells #[.slice so D0.secs.length sc, .slice co D0.cache.length cc, .int .i64 D0.fuse, .bool D0.off] 38)).alloc (.cells #[.int .u64 (M0.1 : Int), .slice uo M0.2.length uc] 25) := ⟨_, rfl⟩
  have hW : Below w.heap.size w X := by rw [hX]; exact ((Below.refl _ w).alloc (Nat.le_refl _) _).alloc (by simp) _
  have V0 : Hid (VDk X w.heap.size D0) := by rw [hX]; exact (VDk.new hs0 hc0).below ((Below.refl _ _).alloc (Nat.le_refl _) _)
  have M1 : Hid (MBox X (w.heap.size + 1) M0.1 (.slice uo M0.2.length uc)) := by
    have := RowAt.new (w.alloc (.cells #[.slice so D0.secs.length sc, .slice co D0.cache.length cc, .int .i64 D0.fuse, .bool D0.off] 38)) [.int .u64 (M0.1 : Int), .slice uo M0.2.length uc] 25
    rw [World.size_alloc, List.toArray, ← hX] at this
    exact this
  have HM : Hid (∀ W, Below w.heap.size w W → HasParts W (.slice uo M0.2.length uc) M0.2) := fun W hb => hm0.keep hb
  clear hs0 hc0 hm0
  go_enter Try.func4, Try.ntmps4
  go_upto_region 1 with fail
  rw [← hX]
  clear hX
  obtain ⟨s1, s2, s3, s4, vb, hs, hc⟩ := V0.out
  obtain ⟨q0, q1, q2, q3, qf⟩ := vb.cells
  go_wp2_with fail
  go_at_call 17; refine (ccp _ _ ⟨_, _, rfl, hs, hc⟩).mono ?_; rintro e w1 ⟨g1, g2, g3, g4, rfl, hs1, hc1, hb1⟩
  obtain ⟨X1, hX1⟩ : ∃ X, X = w1.alloc (.cells #[.slice g1 D0.secs.length g2, .slice g3 D0.cache.length g4, .int .i64 D0.fuse, .bool D0.off] 38) := ⟨_, rfl⟩
  obtain ⟨bg, hbg⟩ : ∃ b, b = w1.heap.size := ⟨_, rfl⟩
  have hbX : Below w1.heap.size w1 X1 := by rw [hX1]; exact (Below.refl _ _).alloc (Nat.le_refl _) _
  have hb := below2 hb1 hbX
  have VG : Hid (VDk X1 bg D0) := by rw [hX1, hbg]; exact VDk.new hs1 hc1
  have V0 : Hid (VDk X1 w.heap.size D0) := V0.out.below hb
  have M1 : Hid (MBox X1 (w.heap.size + 1) M0.1 (.slice uo M0.2.length uc)) := RowAt.below M1.out hb
  have hW := below2 hW hb
  go_upto_region 2 with fail
  rw [← hX1, ← hbg]
  clear hX1 hbg hbX hb hb1 hs1 hc1 hs hc vb q0 q1 q2 q3 qf ccp
  obtain ⟨s1, s2, s3, s4, vb, hs, hc⟩ := VG.out
  obtain ⟨q0, q1, q2, q3, qf⟩ := vb.cells
  go_wp2_with fail
  go_at_call 18; refine (cld _ _ ⟨_, _, rfl, hs, hc⟩).mono ?_; rintro e w2 ⟨xo, xc, rfl, hxp, hb1⟩
  obtain ⟨X2, hX2⟩ : ∃ X, X = w2.alloc (.cells #[.int .u64 (ml.1 : Int), .slice xo ml.2.length xc] 25) := ⟨_, rfl⟩
  obtain ⟨bx, hbx⟩ : ∃ b, b = w2.heap.size := ⟨_, rfl⟩
  have hbX : Below w2.heap.size w2 X2 := by rw [hX2]; exact (Below.refl _ _).alloc (Nat.le_refl _) _
  have hb := below2 hb1 hbX
  have MX : Hid (MBox X2 bx ml.1 (.slice xo ml.2.length xc)) := by rw [hX2, hbx]; exact RowAt.new w2 [_, _] _
  have hxp := hxp.keep hbX
  have VG : Hid (VDk X2 bg D0) := VG.out.below hb
  have V0 : Hid (VDk X2 w.heap.size D0) := V0.out.below hb
  have M1 : Hid (MBox X2 (w.heap.size + 1) M0.1 (.slice uo M0.2.length uc)) := RowAt.below M1.out hb
  have hW := below2 hW hb
  go_upto_region 3 with fail
  rw [← hX2, ← hbx]
  clear hX2 hbx hbX hb hb1 hs hc vb q0 q1 q2 q3 qf cld
  obtain ⟨s1, s2, s3, s4, vb, hs, hc⟩ := V0.out
  obtain ⟨q0, q1, q2, q3, qf⟩ := vb.cells
  go_wp2_with fail
  go_at_call 19; refine (crl _ _ ⟨_, _, rfl, hs, hc⟩).mono ?_; rintro e w3 ⟨yo, yc, rfl, hyp, hb1⟩
  obtain ⟨X3, hX3⟩ : ∃ X, X = w3.alloc (.cells #[.int .u64 (ml.1 : Int), .slice yo ml.2.length yc] 25) := ⟨_, rfl⟩
  obtain ⟨by', hby⟩ : ∃ b, b = w3.heap.size := ⟨_, rfl⟩
  have hbX : Below w3.heap.size w3 X3 := by rw [hX3]; exact (Below.refl _ _).alloc (Nat.le_refl _) _
  have hb := below2 hb1 hbX
  have MY : Hid (MBox X3 by' ml.1 (.slice yo ml.2.length yc)) := by rw [hX3, hby]; exact RowAt.new w3 [_, _] _
  have hyp := hyp.keep hbX
  have hxp := hxp.keep hb
  have MX : Hid (MBox X3 bx ml.1 (.slice xo ml.2.length xc)) := RowAt.below MX.out hb
  have VG : Hid (VDk X3 bg D0) := VG.out.below hb
  have V0 : Hid (VDk X3 w.heap.size D0) := V0.out.below hb
  have M1 : Hid (MBox X3 (w.heap.size + 1) M0.1 (.slice uo M0.2.length uc)) := RowAt.below M1.out hb
  have hW := below2 hW hb
  go_upto_region 4 with fail
  rw [← hX3, ← hby]
  clear hX3 hby hbX hb hb1 hs hc vb q0 q1 q2 q3 qf crl
  obtain ⟨s1, s2, s3, s4, vb, hs, hc⟩ := VG.out
  obtain ⟨q0, q1, q2, q3, qf⟩ := vb.cells
  obtain ⟨m0, m1⟩ := MBox.cells M1.out
  unfold Back at csv crs
  go_wp2_with fail
  go_at_call 20; refine (csv _ _ _ ⟨_, _, rfl, hs, hc⟩ (HM.out _ hW)).mono ?_; rintro e w4 ⟨a1, a2, a3, a4, rfl, hs1, hc1, hb1⟩
  obtain ⟨X4, hX4⟩ : ∃ X, X = w4.alloc (.cells #[.slice a1 d1.secs.length a2, .slice a3 d1.cache.length a4, .int .i64 d1.fuse, .bool d1.off] 38) := ⟨_, rfl⟩
  obtain ⟨ba, hba⟩ : ∃ b, b = w4.heap.size := ⟨_, rfl⟩
  have hbX : Below w4.heap.size w4 X4 := by rw [hX4]; exact (Below.refl _ _).alloc (Nat.le_refl _) _
  have hb := below2 hb1 hbX
  have VA : Hid (VDk X4 ba d1) := by rw [hX4, hba]; exact VDk.new hs1 hc1
  have hyp := hyp.keep hb
  have hxp := hxp.keep hb
  have MY : Hid (MBox X4 by' ml.1 (.slice yo ml.2.length yc)) := RowAt.below MY.out hb
  have MX : Hid (MBox X4 bx ml.1 (.slice xo ml.2.length xc)) := RowAt.below MX.out hb
  have VG : Hid (VDk X4 bg D0) := VG.out.below hb
  have V0 : Hid (VDk X4 w.heap.size D0) := V0.out.below hb
  have M1 : Hid (MBox X4 (w.heap.size + 1) M0.1 (.slice uo M0.2.length uc)) := RowAt.below M1.out hb
  have hW := below2 hW hb
  go_upto_region 5 with fail
  rw [← hX4, ← hba]
  clear hX4 hba hbX hb hb1 hs hc vb q0 q1 q2 q3 qf m0 m1 csv hs1 hc1
  obtain ⟨s1, s2, s3, s4, vb, hs, hc⟩ := V0.out
  obtain ⟨q0, q1, q2, q3, qf⟩ := vb.cells
  obtain ⟨m0, m1⟩ := MBox.cells M1.out
  go_wp2_with fail
  go_at_call 21; refine (crs _ _ _ ⟨_, _, rfl, hs, hc⟩ (HM.out _ hW)).mono ?_; rintro e w5 ⟨e1, e2, e3, e4, rfl, hs1, hc1, hb1⟩
  obtain ⟨X5, hX5⟩ : ∃ X, X = w5.alloc (.cells #[.slice e1 d1.secs.length e2, .slice e3 d1.cache.length e4, .int .i64 d1.fuse, .bool d1.off] 38) := ⟨_, rfl⟩
  obtain ⟨be, hbe⟩ : ∃ b, b = w5.heap.size := ⟨_, rfl⟩
  have hbX : Below w5.heap.size w5 X5 := by rw [hX5]; exact (Below.refl _ _).alloc (Nat.le_refl _) _
  have hb := below2 hb1 hbX
  have VE : Hid (VDk X5 be d1) := by rw [hX5, hbe]; exact VDk.new hs1 hc1
  have VA : Hid (VDk X5 ba d1) := VA.out.below hb
  have hyp := hyp.keep hb
  have hxp := hxp.keep hb
  have MY : Hid (MBox X5 by' ml.1 (.slice yo ml.2.length yc)) := RowAt.below MY.out hb
  have MX : Hid (MBox X5 bx ml.1 (.slice xo ml.2.length xc)) := RowAt.below MX.out hb
  have VG : Hid (VDk X5 bg D0) := VG.out.below hb
  have V0 : Hid (VDk X5 w.heap.size D0) := V0.out.below hb
  have hW := below2 hW hb
  go_upto_region 6 with fail
  rw [← hX5, ← hbe]
  clear hX5 hbe hbX hb hb1 hs hc vb q0 q1 q2 q3 qf m0 m1 crs hs1 hc1 M1 HM
  go_wp2_with fail
  go_at_call 13; refine (Man.lives_any _).mono ?_; rintro e w6 ⟨rfl, hb⟩
  have VE : Hid (VDk w6 be d1) := VE.out.below hb
  have VA : Hid (VDk w6 ba d1) := VA.out.below hb
  have VG : Hid (VDk w6 bg D0) := VG.out.below hb
  have V0 : Hid (VDk w6 w.heap.size D0) := V0.out.below hb
  have hyp := hyp.keep hb
  have hxp := hxp.keep hb
  obtain ⟨m0, m1⟩ := MBox.cells (RowAt.below MX.out hb)
  obtain ⟨n0, n1⟩ := MBox.cells (RowAt.below MY.out hb)
  have hW := below2 hW hb
  clear hb MX MY
  go_wp2_with fail
  go_at_call 16; refine (cms _ _ _ hxp hyp).mono ?_; rintro e w7 ⟨rfl, hb⟩
  have VE : Hid (VDk w7 be d1) := VE.out.below hb
  have VA : Hid (VDk w7 ba d1) := VA.out.below hb
  have VG : Hid (VDk w7 bg D0) := VG.out.below hb
  have V0 : Hid (VDk w7 w.heap.size D0) := V0.out.below hb
  have hW := below2 hW hb
  clear hb m0 m1 n0 n1 hxp hyp cms
  obtain ⟨s1, s2, s3, s4, vb, hs, hc⟩ := VA.out
  obtain ⟨q0, q1, q2, q3, qf⟩ := vb.cells
  obtain ⟨t1, t2, t3, t4, vb', hs', hc'⟩ := VE.out
  obtain ⟨p0, p1, p2, p3, pf⟩ := vb'.cells
  go_wp2_with fail
  go_at_call 22; refine (cs1 _ _ _ ⟨_, _, rfl, hs, hc⟩ ⟨_, _, rfl, hs', hc'⟩).mono ?_; rintro e w8 ⟨rfl, hb⟩
  have VG : Hid (VDk w8 bg D0) := VG.out.below hb
  have V0 : Hid (VDk w8 w.heap.size D0) := V0.out.below hb
  have hW := below2 hW hb
  clear hb vb vb' hs hc hs' hc' q0 q1 q2 q3 qf p0 p1 p2 p3 pf cs1 VA VE
  obtain ⟨s1, s2, s3, s4, vb, hs, hc⟩ := VG.out
  obtain ⟨q0, q1, q2, q3, qf⟩ := vb.cells
  obtain ⟨t1, t2, t3, t4, vb', hs', hc'⟩ := V0.out
  obtain ⟨p0, p1, p2, p3, pf⟩ := vb'.cells
  go_wp2_with fail
  go_at_call 22; refine (cs0 _ _ _ ⟨_, _, rfl, hs, hc⟩ ⟨_, _, rfl, hs', hc'⟩).mono ?_; rintro e w9 ⟨rfl, hb⟩
  have hW := below2 hW hb
  clear hb vb vb' hs hc hs' hc' q0 q1 q2 q3 qf p0 p1 p2 p3 pf cs0 VG V0
  go_wp2
  go_ret
  exact ⟨rfl, hW⟩
theorem walk (v0 : Value) (D0 : Dk) (u1 : Value) (M1 : ManT) (w : World) (b0 : HasDk w v0 D0) (f0 : Fits D0) (s0 : D0.secs.length ≤ 8796093022208 ∧ D0.cache.length ≤ 5864062014805) (b1 : HasParts w u1 M1.2) (f1 : FitM M1) :
    Calls Try.prog 4 #[v0, .agg #[.int .u64 (M1.1 : Int), u1]] w fun e w' => e = .returned (.bool true) ∧ Below w.heap.size w w' := by
  obtain ⟨so, sc, co, cc, rfl, hs, hc⟩ := b0.parts
  obtain ⟨uo, uc, rfl, _, _⟩ := b1.form
  have hn8 := load_len D0
  have form : ∀ F W v, Calls Try.prog F #[v] W (ManIs (loadM D0) W) → Calls Try.prog F #[v] W fun e w' => ∃ xo xc, e = .returned (.tuple #[.agg #[.int .u64 ((loadM D0).1.1 : Int), .slice xo (loadM D0).1.2.length xc], .int .i64 (loadM D0).2]) ∧ HasParts w' (.slice xo (loadM D0).1.2.length xc) (loadM D0).1.2 ∧ Below W.heap.size W w' := by
    intro F W v hc
    refine hc.mono ?_
    rintro e w' ⟨v, rfl, hp, hb⟩
    obtain ⟨xo, xc, rfl, _, _⟩ := hp.form
    exact ⟨xo, xc, rfl, hp, hb⟩
  have hsm := save_small (m := M1) s0
  refine core D0 (saveM D0 M1).1 M1 (loadM D0).1 (saveM D0 M1).2 (loadM D0).2 so co uo sc cc uc w hs hc b1 ?_ (fun W v h => form _ W v (load_any D0 v W h f0)) (fun W v h => form _ W v (rmload_any D0 v W h f0))
    (fun W v u h hp => (save_any D0 M1 v u W h f0 hp f1 (fun hk W v h => Disk.fresh_any D0 v W h hk)).mono (fun e w' h => back_of h)) (fun W v u h hp => (rmsave_any D0 M1 v u W h f0 hp f1).mono (fun e w' h => back_of h))
    (fun W v u h1 h2 => msame_any (loadM D0).1 v u W h1 h2 (by have := loadM_le D0; omega) hn8) (fun W v u h g => rsame_any D0 v u W h g (by omega) (by omega)) (fun W v u h g => rsame_any _ v u W h g hsm.1 hsm.2)
  intro W v h
  refine (rcopy_any D0 v W h s0.1 s0.2).mono ?_
  rintro e w' ⟨so, sc, co, cc, rfl, h1, h2, hb⟩
  exact ⟨so, sc, co, cc, rfl, Disk.hasRow_own h1, Disk.hasRow_own h2, hb⟩

set_option maxRecDepth 100000 in
theorem lifted (os : Os) (started : os.Started) (H : Type) (enc : TypeId × Value → H) :
    ReturnsInHanded {} Try.checked os 4 .any (Rows.manifestLoadsSpec.pre6 enc Try.prog Try.f4 Rows.manifestLoadsRow.domain false) (Rows.manifestLoadsSpec.post enc Try.prog Try.f4 false true false false) := by
  refine returnsInHanded_of_change_sized (C := Try.checked) own started (by kernel_rfl) Try.func4
    (ChangeSpec.witness6 (enc := enc) (C := Try.checked) false ⟨#[], #[.agg #[.slice none 0 0, .slice none 0 0, .int .i64 0, .bool false], .agg #[.int .u64 0, .slice none 0 0]], []⟩ 8 (by kernel_rfl) (by kernel_rfl) (by kernel_rfl) (by kernel_rfl)) ?_
  intro W base args ds gs before hval0 hW _ hsz0 _
  have hsz : (DataW.weightsEach Try.prog (Try.f4.params.toList ++ Rows.manifestLoadsSpec.plain.varTypes Try.prog) (ds ++ gs)).all (· ≤ reachBytes) = true := hsz0
  clear hsz0
  have hval : ∀ (j : Nat) t v, Try.f4.params[j]? = some t → args[j]? = some v → Value.okWide Try.prog W .any base t v := hval0
  have hW' := hW
  obtain ⟨p, q, hA0, hV, rfl, hfz, hnd⟩ := hW
  have hA : DataW.TrodAll enc Try.prog W 0 (fun _ => true) true Try.f4.params.toList args.toList ds p := hA0
  rw [Try.params4] at hA hval hsz
  obtain ⟨v0, vs0, d0, ds0, p0, q0, hargs, rfl, rfl, h0, r0⟩ := trodAll_cons hA
  obtain ⟨v1, vs1, d1, ds1, p1, q1, rfl, rfl, rfl, h1, r1⟩ := trodAll_cons r0
  obtain ⟨rfl, rfl, rfl⟩ := trodAll_nil r1
  obtain rfl : args = #[v0, v1] := by cases args; simp_all
  obtain ⟨rfl, rfl⟩ := trodVars_none hV
  have k0 := h0
  have lt0 : ∀ x ∈ p0, x.block < W.heap.size := by obtain ⟨m, hm⟩ := k0; exact DataW.trod_lt m _ _ _ hm
  obtain ⟨D0, b0, f0, s0⟩ := Disk.open_disk_s (hval 0 38 v0 rfl rfl) h0 (fun n hn => by
    have := List.all_eq_true.1 hsz n (DataW.weights_mem_each (j := 0) rfl rfl n hn)
    simpa using this)
  have k1 := h1
  have lt1 : ∀ x ∈ p1, x.block < W.heap.size := by obtain ⟨m, hm⟩ := k1; exact DataW.trod_lt m _ _ _ hm
  obtain ⟨M1, u1, rfl, b1, f1⟩ := Man.open_manifest (hval 1 25 v1 rfl rfl) h1
  clear hA0 hval0
  refine (walk v0 D0 u1 M1 W b0 f0 s0 b1 f1).mono fun e W' ⟨he, bel⟩ => ?_
  subst he
  exact ⟨_, rfl, _, _, _, [], _, [], hW', trodAll_mk1 (shut_bool Try.underlying4 _), (trodAll_cons_mk (Below.trod laidOut (by kernel_rfl) (of_decide_eq_true (by kernel_rfl)) k0 bel lt0) (trodAll_cons_mk (Below.trod laidOut (by kernel_rfl) (of_decide_eq_true (by kernel_rfl)) k1 bel lt1) trodAll_mk0)), rfl, bel.frame _, fun h => by cases h⟩

theorem over : Rows.manifestLoadsRow.holds Try.pinned (OpenSpec.ofChange Rows.manifestLoadsSpec) :=
  OpenClaim.holds_of_wide 4 Try.f4 rfl rfl rfl rfl rfl rfl rfl ⟨rfl, rfl, rfl, rfl, rfl⟩ rfl rfl rfl rfl rfl (by kernel_rfl) Try.func4 (by kernel_rfl)
    (of_decide_eq_true (by kernel_rfl)) (by unfold Func.isWrapper; first | (rw [if_pos (by decide +kernel)]; kernel_rfl) | (rw [if_neg (by decide +kernel)]; exact ⟨rfl, rfl⟩))
    (fun os started H enc _ => lifted os started H enc)
end manifestLoads
theorem mloads_holds : Rows.ManifestLoadsSaid := manifestLoads.over
#print axioms mloads_holds
end Go.Proofs.Ytajcmgccclemdaa
