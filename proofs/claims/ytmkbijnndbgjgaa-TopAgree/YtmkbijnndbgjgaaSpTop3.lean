/- What span.Not returns. -/
import Derived.Test.YtmkbijnndbgjgaaSpTop
import Derived.Deep.RegionHeld3
import Derived.Deep.DeepCutAuto
set_option linter.unusedVariables false
namespace Go.Proofs.Ytmkbijnndbgjgaa.Sp
open Go.RowKit Go.Shelf
open Go.Proofs.Ytmkbijnndbgjgaa.Lk (HasRow hasRow_own addr_add)
open Go.Proofs.Ytmkbijnndbgjgaa.Addr (Pf pfV okP lastN lastE wideN rightB hiN loN adV cmpN RowAt below2 below_drew below_new bset RowAt.lt RowAt.cell RowAt.frozen RowAt.below RowAt.drew RowAt.new RowAt.alloc cells2 cells4 results_cell gset grefl)
/-- a span of all addresses, beside a row that was made -/
def NC (X W : World) (g : Nat) (u : Value) (l : List Sp) (six : Bool) : Prop := Below X.heap.size X W ∧ SixAt W g six ∧ HasSps W u l
theorem told_ans2 {six : Bool} {w w1 : World} {bad : Int} {m : Nat → Bool} {bound : Nat} {u : Value} {R : List Sp} (hb : Below w.heap.size w w1) (hu : HasSps w1 u R) (h1 : Row six R) (h2 : ∀ x, inB R x = m x) (h4 : R.length ≤ bound) : Calls Try.prog 70 #[u] w1 fun e w' => (∃ v, ∃ why : Int, e = .returned (.tuple #[v, .int .i64 why])) ∧ Below w1.heap.size w1 w' ∧ AnsIs six w true bad m bound e w' := by
  by_cases hl : R.length ≤ 1024
  · refine (toldF_any R u w1 hu hl).mono ?_
    rintro e w2 ⟨v, rfl, hO⟩
    exact ⟨⟨_, _, rfl⟩, hO.bl, ans_ok (hO.to hb) h1 h2 hl h4⟩
  · refine (toldB_any R u w1 hu (by omega)).mono ?_
    rintro e w2 ⟨rfl, rfl⟩
    exact ⟨⟨_, _, rfl⟩, Below.refl _ _, ans_long hb h1 h2 (by omega) h4⟩
theorem six_drew {W : World} {g : Nat} {six : Bool} (h : SixAt W g six) : SixAt W.drew g six := h
theorem sps_drew {W : World} {v : Value} {l : List Sp} (h : HasSps W v l) : HasSps W.drew v l := h
theorem whole_of (six : Bool) : okP ⟨six, 0, 0⟩ = true ∧ lastN ⟨six, 0, 0⟩ = topN six := by
  constructor
  · rw [Addr.okP_iff]
    refine ⟨⟨by simp, by simp⟩, ?_, ?_⟩
    · exact Nat.two_pow_pos _
    · simp
  · unfold lastN Addr.freeN Addr.kP topN
    simp
end Go.Proofs.Ytmkbijnndbgjgaa.Sp
