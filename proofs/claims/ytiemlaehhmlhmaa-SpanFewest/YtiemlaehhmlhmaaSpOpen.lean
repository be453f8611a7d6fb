/- Rows of spans that came in as arguments. -/
import Derived.Test.YtiemlaehhmlhmaaRows
import Derived.Test.YtiemlaehhmlhmaaSpBase
import Derived.Test.YtiemlaehhmlhmaaAddrOpen
import Derived.Test.YtiemlaehhmlhmaaLkOpen
import Derived.Deep.Matrix
import Derived.Deep.Strs
import Derived.Deep.SlicePairs
import Derived.ProofKit
import Derived.OpenShut
import Derived.SizedLaws
set_option linter.unusedVariables false
namespace Go.Proofs.Ytiemlaehhmlhmaa.Sp
open Go.ChangeShapes Go.WideShapes Go.ChangeAt Go.RowKit
open Go.Proofs.Ytiemlaehhmlhmaa.Addr (open_ad hiN loN)
open Go.Proofs.Ytiemlaehhmlhmaa.Lk (HasRow row_of flat_get hasRow_nil)
section
variable {H : Type} {enc : TypeId × Value → H} {W : World} {base : Nat} {spare : Nat → Bool} {held : Bool}
set_option maxRecDepth 100000 in
theorem open_sp4 {c0 c1 c2 c3 : Value} {fuel : Nat} {d : DataW H × List MemPlace} (hf : DataW.trod enc Try.prog W base spare held fuel 34 [c0, c1, c2, c3] = some d) : ∃ r : Sp, [c0, c1, c2, c3] = spC r ∧ FitS r := by
  obtain ⟨xs, n, _, _, hlen, hxl, hfs⟩ := DataW.trod_struct Try.underlying34 hf
  have g0 : DataW.trod enc Try.prog W base spare held n 25 ((([c0, c1, c2, c3] : List Value).drop 0).take (Try.prog.cellsOf 25)) = xs[0]? := hfs 0 _ rfl
  have g1 : DataW.trod enc Try.prog W base spare held n 25 ((([c0, c1, c2, c3] : List Value).drop 2).take (Try.prog.cellsOf 25)) = xs[1]? := hfs 1 _ rfl
  have hx2 : xs.length = 2 := hxl
  rw [List.getElem?_eq_getElem (by omega)] at g0 g1
  rw [show Try.prog.cellsOf 25 = 2 from by kernel_rfl] at g0 g1
  obtain ⟨a, b1, r1, r2⟩ := open_ad (x := c0) (y := c1) g0
  obtain ⟨b, b2, r3, r4⟩ := open_ad (x := c2) (y := c3) g1
  subst r1 r2 r3 r4
  exact ⟨(a, b), rfl, b1, b2⟩
set_option maxRecDepth 100000 in
theorem open_spans {v : Value} {fuel : Nat} {x : DataW H × List MemPlace} (h : DataW.trod enc Try.prog W base spare held fuel 22 [v] = some x) : ∃ l : List Sp, HasSps W v l ∧ ∀ s ∈ l, FitS s := by
  rcases Go.Deep.open_slice Try.underlying22 h with ⟨hcs, _⟩ | ⟨a, l, c, m, n, D, Pl, hcs, _, hl, hm, hmm, _, hx⟩
  · injection hcs with e; subst e
    exact ⟨[], hasRow_nil _ _, by simp⟩
  · injection hcs with e; subst e
    have hlm : l ≤ m := by rw [hmm]; split <;> omega
    have hA : ∀ i, ∃ p : Sp, i < l → (∀ j, j < 4 → W.cell? (a.add (i * 4 + j)) = (spC p)[j]?) ∧ FitS p := fun i => by
      by_cases hi : i < l
      · obtain ⟨cs', h1, h2⟩ := hx i (by omega)
        rw [show Try.prog.cellsOf 34 = 4 from by kernel_rfl] at h1
        obtain ⟨_, hlen, hcell⟩ := World.cells?_some h1
        obtain ⟨c0, c1, c2, c3, rfl⟩ : ∃ c0 c1 c2 c3, cs' = [c0, c1, c2, c3] := by
          match cs', hlen with
          | [c0, c1, c2, c3], _ => exact ⟨c0, c1, c2, c3, rfl⟩
        obtain ⟨s, es, fs⟩ := open_sp4 h2
        refine ⟨s, fun _ => ⟨fun j hj => ?_, fs⟩⟩
        rw [← es]
        have := hcell j hj
        rw [Go.Deep.add_add] at this
        rw [this]
      · exact ⟨(0, 0), fun h => absurd h hi⟩
    obtain ⟨F, hF⟩ := Classical.axiomOfChoice hA
    refine ⟨(List.range l).map F, ?_, fun p hp => ?_⟩
    · unfold HasSps
      rw [List.length_map, List.length_range]
      refine row_of (by decide) hl hm (by rw [spCs_len]; simp) (fun j hj => ?_)
      have hj2 : j / 4 < l := by omega
      obtain ⟨hc, _⟩ := hF (j / 4) hj2
      show _ = (((List.range l).map F).flatMap spC)[j]?
      rw [flat_get spC 4 (by decide) (fun x => rfl) _ j (by simp; omega)]
      simp only [List.getElem_map, List.getElem_range]
      rw [← hc (j % 4) (by omega)]
      congr 2
      omega
    · obtain ⟨i, hi, rfl⟩ := List.mem_map.1 hp
      exact (hF i (List.mem_range.1 hi)).2
end
end Go.Proofs.Ytiemlaehhmlhmaa.Sp
