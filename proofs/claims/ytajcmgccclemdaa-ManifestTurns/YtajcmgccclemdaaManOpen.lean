/- Manifests that come in, as plain data. -/
import Derived.Test.YtajcmgccclemdaaManCheck
import Derived.Test.YtajcmgccclemdaaDiskOpen
set_option linter.unusedVariables false
namespace Go.Proofs.Ytajcmgccclemdaa.Man
open Go.ChangeShapes Go.WideShapes Go.ChangeAt Go.RowKit

theorem wf_u64 {n : Int} (h : (Lit.int .u64 n).wf = true) : ∃ k : Nat, n = (k : Int) ∧ k < 18446744073709551616 := by
  have : 0 ≤ n ∧ n ≤ 18446744073709551615 := by simpa [Lit.wf, IntKind.min, IntKind.max, IntKind.signed, IntKind.bits] using h
  exact ⟨n.toNat, by omega, by omega⟩
theorem partCs_get (ps : List PartT) (j : Nat) (hj : j < ps.length * 3) : (partCs ps)[j]? = if j % 3 = 0 then some (.int .i64 (ps[j / 3]'(by omega)).1) else if j % 3 = 1 then some (.int .u64 ((ps[j / 3]'(by omega)).2.1 : Int)) else some (.int .i64 (ps[j / 3]'(by omega)).2.2) := by
  have h := partCs_at ps (j / 3) (by omega)
  split
  · rw [← h.1]; congr 1; omega
  · split
    · rw [← h.2.1]; congr 1; omega
    · rw [← h.2.2]; congr 1; omega
section
variable {H : Type} {enc : TypeId × Value → H} {W : World} {base : Nat} {spare : Nat → Bool} {held : Bool}
set_option maxRecDepth 100000 in
theorem open_parts_row {v : Value} {fuel : Nat} {x : DataW H × List MemPlace} (h : DataW.trod enc Try.prog W base spare held fuel 23 [v] = some x) : ∃ ps : List PartT, HasParts W v ps ∧ ∀ p ∈ ps, FitP p := by
  rcases Go.Deep.open_slice Try.underlying23 h with ⟨hcs, _⟩ | ⟨a, l, c, m, n, D, Pl, hcs, _, hl, hm, hmm, _, hx⟩
  · injection hcs with e; subst e
    exact ⟨[], Disk.hasRow_nil _ _, by simp⟩
  · injection hcs with e; subst e
    have hlm : l ≤ m := by rw [hmm]; split <;> omega
    have hA : ∀ i, ∃ p : PartT, i < l → W.cell? (a.add (i * 3)) = some (.int .i64 p.1) ∧ W.cell? (a.add (i * 3 + 1)) = some (.int .u64 (p.2.1 : Int)) ∧ W.cell? (a.add (i * 3 + 2)) = some (.int .i64 p.2.2) ∧ FitP p := fun i => by
      by_cases hi : i < l
      · obtain ⟨cs', h1, h2⟩ := hx i (by omega)
        rw [show Try.prog.cellsOf 71 = 3 from by kernel_rfl] at h1
        obtain ⟨_, hlen, hcell⟩ := World.cells?_some h1
        obtain ⟨xs, k, _, _, _, hxl, hfs⟩ := DataW.trod_struct Try.underlying71 h2
        obtain ⟨v0, v1, v2, rfl⟩ : ∃ v0 v1 v2, cs' = [v0, v1, v2] := by
          match cs', hlen with
          | [v0, v1, v2], _ => exact ⟨v0, v1, v2, rfl⟩
        have g0 : DataW.trod enc Try.prog W base spare held k 3 ((([v0, v1, v2] : List Value).drop 0).take (Try.prog.cellsOf 3)) = xs[0]? := hfs 0 _ rfl
        have g1 : DataW.trod enc Try.prog W base spare held k 22 ((([v0, v1, v2] : List Value).drop 1).take (Try.prog.cellsOf 22)) = xs[1]? := hfs 1 _ rfl
        have g2 : DataW.trod enc Try.prog W base spare held k 3 ((([v0, v1, v2] : List Value).drop 2).take (Try.prog.cellsOf 3)) = xs[2]? := hfs 2 _ rfl
        have hx3 : xs.length = 3 := hxl
        rw [List.getElem?_eq_getElem (by omega)] at g0 g1 g2
        rw [show Try.prog.cellsOf 3 = 1 from by kernel_rfl] at g0 g2
        rw [show Try.prog.cellsOf 22 = 1 from by kernel_rfl] at g1
        obtain ⟨k0, e0, _, hw0⟩ := DataW.trod_int Try.underlying3 g0
        obtain ⟨k1, e1, _, hw1⟩ := DataW.trod_int Try.underlying22 g1
        obtain ⟨k2, e2, _, hw2⟩ := DataW.trod_int Try.underlying3 g2
        have f0 : v0 = .int .i64 k0 := by injection e0
        have f1 : v1 = .int .u64 k1 := by injection e1
        have f2 : v2 = .int .i64 k2 := by injection e2
        obtain ⟨q, rfl, hq⟩ := wf_u64 hw1
        have c0 := hcell 0 (by decide)
        have c1 := hcell 1 (by decide)
        have c2 := hcell 2 (by decide)
        rw [Go.Deep.add_add] at c0 c1 c2
        refine ⟨(k0, q, k2), fun _ => ⟨?_, ?_, ?_, Disk.wf_i64 hw0, hq, Disk.wf_i64 hw2⟩⟩
        · simpa [f0] using c0
        · simpa [f1] using c1
        · simpa [f2] using c2
      · exact ⟨(0, 0, 0), fun h => absurd h hi⟩
    obtain ⟨F, hF⟩ := Classical.axiomOfChoice hA
    refine ⟨(List.range l).map F, ?_, fun p hp => ?_⟩
    · unfold HasParts
      rw [List.length_map, List.length_range]
      refine Disk.row_of (by decide) hl hm (by rw [partCs_len]; simp) (fun j hj => ?_)
      have hj2 : j / 3 < l := by omega
      obtain ⟨c0, c1, c2, _⟩ := hF (j / 3) hj2
      rw [partCs_get _ _ (by simp; omega)]
      simp only [List.getElem_map, List.getElem_range]
      split
      · rw [← c0]; congr 2; omega
      · split
        · rw [← c1]; congr 2; omega
        · rw [← c2]; congr 2; omega
    · obtain ⟨i, hi, rfl⟩ := List.mem_map.1 hp
      exact (hF i (List.mem_range.1 hi)).2.2.2
set_option maxRecDepth 100000 in
theorem open_manifest {v : Value} {d : DataW H} {ps : List MemPlace} {r : Reach} {b0 : Nat} (hval : Value.okWide Try.prog W r b0 25 v) (h : DataW.Trod enc Try.prog W base spare held 25 v d ps) : ∃ (m : ManT) (u : Value), v = .agg #[.int .u64 (m.1 : Int), u] ∧ HasParts W u m.2 ∧ FitM m := by
  obtain ⟨cs, rfl, hsz⟩ := okWide_struct Try.underlying25 hval
  obtain ⟨fuel, hf⟩ := h
  obtain ⟨xs, n, _, _, hlen, hxl, hfs⟩ := DataW.trod_struct Try.underlying25 hf
  rw [show Try.prog.cellsOf 25 = 2 from by kernel_rfl] at hsz
  obtain ⟨e, u, rfl⟩ : ∃ e u, cs = #[e, u] := by
    obtain ⟨l⟩ := cs
    match l, hsz with
    | [e, u], _ => exact ⟨e, u, rfl⟩
  have g0 : DataW.trod enc Try.prog W base spare held n 22 ((([e, u] : List Value).drop 0).take (Try.prog.cellsOf 22)) = xs[0]? := hfs 0 _ rfl
  have g1 : DataW.trod enc Try.prog W base spare held n 23 ((([e, u] : List Value).drop 1).take (Try.prog.cellsOf 23)) = xs[1]? := hfs 1 _ rfl
  have hx2 : xs.length = 2 := hxl
  rw [List.getElem?_eq_getElem (by omega)] at g0 g1
  rw [show Try.prog.cellsOf 22 = 1 from by kernel_rfl] at g0
  rw [show Try.prog.cellsOf 23 = 1 from by kernel_rfl] at g1
  obtain ⟨k, e0, _, hw⟩ := DataW.trod_int Try.underlying22 g0
  obtain ⟨qs, hp, hql⟩ := open_parts_row (v := u) g1
  have e0' : e = .int .u64 k := by injection e0
  subst e0'
  obtain ⟨q, rfl, hq⟩ := wf_u64 hw
  exact ⟨(q, qs), u, rfl, hp, hq, hql⟩
end
end Go.Proofs.Ytajcmgccclemdaa.Man
