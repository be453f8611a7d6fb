/- The law's few: rows that are short, or longer than any right one; the document's Make of too many spans. -/
import Derived.Test.YtiemlaehhmlhmaaSpChk
set_option linter.unusedVariables false
namespace Go.Proofs.Ytiemlaehhmlhmaa.Sp
open Go.RowKit Go.Shelf
open Go.Proofs.Ytiemlaehhmlhmaa.Lk (HasRow hasRow_own addr_add)
def fewB (n : Nat) : Bool := !(decide (60 < n) && decide (n ≤ 1024))
theorem few_cases (n : Nat) : (n ≤ 60 ∧ fewB n = true) ∨ (60 < n ∧ n ≤ 1024 ∧ fewB n = false) ∨ (1024 < n ∧ fewB n = true) := by
  unfold fewB
  rcases Nat.lt_or_ge 60 n with h | h
  · rcases Nat.lt_or_ge 1024 n with h2 | h2
    · exact .inr (.inr ⟨h2, by rw [decide_eq_false (by omega : ¬ n ≤ 1024), Bool.and_false]; rfl⟩)
    · exact .inr (.inl ⟨h, h2, by rw [decide_eq_true h, decide_eq_true h2]; rfl⟩)
  · exact .inl ⟨h, by rw [decide_eq_false (by omega : ¬ 60 < n)]; rfl⟩
set_option maxHeartbeats 4000000 in
set_option maxRecDepth 20000 in
theorem few1_any (n b c : Nat) (o : Option Addr) (w : World) (h0 : w.cell? ⟨b, 0, none⟩ = some (.slice o n c)) :
    Calls Try.prog 9 #[.slice (some ⟨b, 0, none⟩) 1 1] w fun e w' => e = .returned (.bool (fewB n)) ∧ Below w.heap.size w w' := by
  rcases few_cases n with ⟨h1, h2⟩ | ⟨h1, h1b, h2⟩ | ⟨h1, h2⟩ <;> rw [h2] <;> clear h2
  · have hq1 : decide ((60 : Int) < (n : Int)) = false := decide_eq_false (by omega)
    have hq2 : decide (60 < n) = false := decide_eq_false (by omega)
    go_enter Try.func9, Try.ntmps9
    go_wp2_with fail
    refine wp_loop_rounds 2 ?_
    rw [rounds_succ]
    go_wp2_with fail
    rw [rounds_succ]
    go_wp2_with fail
    go_ret
    exact ⟨rfl, Below.refl _ _⟩
  · have hq1 : decide ((60 : Int) < (n : Int)) = true := decide_eq_true (by omega)
    have hq2 : decide (60 < n) = true := decide_eq_true (by omega)
    have hq3 : decide ((n : Int) ≤ 1024) = true := decide_eq_true (by omega)
    have hq4 : decide (n ≤ 1024) = true := decide_eq_true (by omega)
    go_enter Try.func9, Try.ntmps9
    go_wp2_with fail
    refine wp_loop_rounds 2 ?_
    rw [rounds_succ]
    go_wp2_with fail
    go_ret
    exact ⟨rfl, Below.refl _ _⟩
  · have hq1 : decide ((60 : Int) < (n : Int)) = true := decide_eq_true (by omega)
    have hq2 : decide (60 < n) = true := decide_eq_true (by omega)
    have hq3 : decide ((n : Int) ≤ 1024) = false := decide_eq_false (by omega)
    have hq4 : decide (n ≤ 1024) = false := decide_eq_false (by omega)
    go_enter Try.func9, Try.ntmps9
    go_wp2_with fail
    refine wp_loop_rounds 2 ?_
    rw [rounds_succ]
    go_wp2_with fail
    rw [rounds_succ]
    go_wp2_with fail
    go_ret
    exact ⟨rfl, Below.refl _ _⟩
end Go.Proofs.Ytiemlaehhmlhmaa.Sp
