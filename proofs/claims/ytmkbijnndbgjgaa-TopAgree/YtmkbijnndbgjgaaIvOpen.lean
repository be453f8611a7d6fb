/- Intervals, and rows of them, that came in as arguments. -/
import Derived.Test.YtmkbijnndbgjgaaRows
import Derived.Test.YtmkbijnndbgjgaaIvBase
import Derived.Test.YtmkbijnndbgjgaaAddrOpen
import Derived.Test.YtmkbijnndbgjgaaLkOpen
import Derived.Deep.Matrix
import Derived.Deep.Strs
import Derived.Deep.SlicePairs
import Derived.ProofKit
import Derived.OpenShut
import Derived.SizedLaws
set_option linter.unusedVariables false
namespace Go.Proofs.Ytmkbijnndbgjgaa.Iv
open Go.ChangeShapes Go.WideShapes Go.ChangeAt Go.RowKit
open Go.Proofs.Ytmkbijnndbgjgaa.Addr (wfi64)
open Go.Proofs.Ytmkbijnndbgjgaa.Lk (HasRow row_of flat_get hasRow_nil)
section
variable {H : Type} {enc : TypeId × Value → H} {W : World} {base : Nat} {spare : Nat → Bool} {held : Bool}
set_option maxRecDepth 100000 in
theorem open_iv2 {c0 c1 : Value} {fuel : Nat} {d : DataW H × List MemPlace} (hf : DataW.trod enc Try.prog W base spare held fuel 23 [c0, c1] = some d) : ∃ r : Iv, [c0, c1] = cI r ∧ FitI r := by
  obtain ⟨xs, n, _, _, hlen, hxl, hfs⟩ := DataW.trod_struct Try.underlying23 hf
  have g0 : DataW.trod enc Try.prog W base spare held n 2 ((([c0, c1] : List Value).drop 0).take (Try.prog.cellsOf 2)) = xs[0]? := hfs 0 _ rfl
  have g1 : DataW.trod enc Try.prog W base spare held n 2 ((([c0, c1] : List Value).drop 1).take (Try.prog.cellsOf 2)) = xs[1]? := hfs 1 _ rfl
  have hx2 : xs.length = 2 := hxl
  rw [List.getElem?_eq_getElem (by omega)] at g0 g1
  rw [show Try.prog.cellsOf 2 = 1 from by kernel_rfl] at g0 g1
  obtain ⟨a, e2, _, hw⟩ := DataW.trod_int Try.underlying2 g0
  obtain ⟨b, e3, _, hw2⟩ := DataW.trod_int Try.underlying2 g1
  have e2' : c0 = .int .i64 a := by injection e2
  have e3' : c1 = .int .i64 b := by injection e3
  subst e2' e3'
  exact ⟨(a, b), rfl, wfi64 hw, wfi64 hw2⟩
set_option maxRecDepth 100000 in
theorem open_ivl {v : Value} {d : DataW H} {ps : List MemPlace} {r : Reach} {b0 : Nat} (hval : Value.okWide Try.prog W r b0 23 v) (h : DataW.Trod enc Try.prog W base spare held 23 v d ps) : ∃ x : Iv, v = ivV x ∧ FitI x := by
  obtain ⟨cs, rfl, hsz⟩ := okWide_struct Try.underlying23 hval
  obtain ⟨fuel, hf⟩ := h
  rw [show Try.prog.cellsOf 23 = 2 from by kernel_rfl] at hsz
  obtain ⟨x, y, rfl⟩ : ∃ x y, cs = #[x, y] := by
    obtain ⟨l⟩ := cs
    match l, hsz with
    | [x, y], _ => exact ⟨x, y, rfl⟩
  obtain ⟨p, hp, hfp⟩ := open_iv2 hf
  refine ⟨p, ?_, hfp⟩
  have e : #[x, y] = (cI p).toArray := by rw [← hp]
  rw [e]; rfl
set_option maxRecDepth 100000 in
theorem open_ivs {v : Value} {fuel : Nat} {x : DataW H × List MemPlace} (h : DataW.trod enc Try.prog W base spare held fuel 38 [v] = some x) : ∃ l : List Iv, HasI W v l ∧ ∀ s ∈ l, FitI s := by
  rcases Go.Deep.open_slice Try.underlying38 h with ⟨hcs, _⟩ | ⟨a, l, c, m, n, D, Pl, hcs, _, hl, hm, hmm, _, hx⟩
  · injection hcs with e; subst e
    exact ⟨[], hasRow_nil _ _, by simp⟩
  · injection hcs with e; subst e
    have hlm : l ≤ m := by rw [hmm]; split <;> omega
    have hA : ∀ i, ∃ p : Iv, i < l → (∀ j, j < 2 → W.cell? (a.add (i * 2 + j)) = (cI p)[j]?) ∧ FitI p := fun i => by
      by_cases hi : i < l
      · obtain ⟨cs', h1, h2⟩ := hx i (by omega)
        rw [show Try.prog.cellsOf 23 = 2 from by kernel_rfl] at h1
        obtain ⟨_, hlen, hcell⟩ := World.cells?_some h1
        obtain ⟨c0, c1, rfl⟩ : ∃ c0 c1, cs' = [c0, c1] := by
          match cs', hlen with
          | [c0, c1], _ => exact ⟨c0, c1, rfl⟩
        obtain ⟨s, es, fs⟩ := open_iv2 h2
        refine ⟨s, fun _ => ⟨fun j hj => ?_, fs⟩⟩
        rw [← es]
        have := hcell j hj
        rw [Go.Deep.add_add] at this
        rw [this]
      · exact ⟨(0, 0), fun h => absurd h hi⟩
    obtain ⟨F, hF⟩ := Classical.axiomOfChoice hA
    refine ⟨(List.range l).map F, ?_, fun p hp => ?_⟩
    · unfold HasI
      rw [List.length_map, List.length_range]
      refine row_of (by decide) hl hm (by rw [csI_len]; simp) (fun j hj => ?_)
      have hj2 : j / 2 < l := by omega
      obtain ⟨hc, _⟩ := hF (j / 2) hj2
      show _ = (((List.range l).map F).flatMap cI)[j]?
      rw [flat_get cI 2 (by decide) (fun x => rfl) _ j (by simp; omega)]
      simp only [List.getElem_map, List.getElem_range]
      rw [← hc (j % 2) (by omega)]
      congr 2
      omega
    · obtain ⟨i, hi, rfl⟩ := List.mem_map.1 hp
      exact (hF i (List.mem_range.1 hi)).2
end
end Go.Proofs.Ytmkbijnndbgjgaa.Iv
