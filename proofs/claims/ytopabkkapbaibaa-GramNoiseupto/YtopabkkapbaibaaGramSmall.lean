/- gram's each (the function that makes the iterator) and right. -/
import Derived.Test.YtopabkkapbaibaaGramEach
set_option linter.unusedVariables false
namespace Go.Proofs.Ytopabkkapbaibaa.Gram
open Go.RowKit Go.Shelf
open Go.Proofs.Ytopabkkapbaibaa.Addr (RowAt below2 below_drew below_new bset RowAt.lt RowAt.cell RowAt.frozen RowAt.below RowAt.drew RowAt.new RowAt.alloc cells2 cells4)

theorem each_any (s : ByteArray) (w : World) :
    Calls Try.prog 24 #[.string s] w fun e w' => e = .returned (.func (.func 39) #[] #[.pointer (some ⟨w.heap.size, 0, none⟩)]) ∧ w' = w.alloc (.cells #[.string s] 9) := by
  go_enter Try.func24, Try.ntmps24
  go_wp2
  go_ret
  exact ⟨rfl, rfl⟩
def rightP (p : PcT) : Bool := decide (0 < p.1) && decide (p.1 < 4) && (decide (p.1 = 1) || p.2.isEmpty)
set_option maxHeartbeats 2000000 in
theorem right_any (k : Nat) (b : List UInt8) (w : World) (hk : k ≤ 255) :
    Calls Try.prog 33 #[pcV (k, b)] w fun e w' => e = .returned (.bool (rightP (k, b))) ∧ Below w.heap.size w w' := by
  unfold pcV
  go_enter Try.func33, Try.ntmps33
  by_cases h0 : k = 0
  · subst h0
    have e : rightP (0, b) = false := by simp [rightP]
    rw [e]
    go_wp2
    go_ret
    exact ⟨rfl, below_new (Below.refl _ _) _⟩
  · have hp : decide ((0 : Int) < (k : Int)) = true := by simp; omega
    by_cases h4 : k < 4
    · have hq : decide ((k : Int) < 4) = true := by simp; omega
      by_cases h1 : k = 1
      · subst h1
        have e : rightP (1, b) = true := by simp [rightP]
        rw [e]
        go_wp2
        go_ret
        exact ⟨rfl, below_new (Below.refl _ _) _⟩
      · have hn : ((k : Int) == 1) = false := by simp; omega
        have e : rightP (k, b) = b.isEmpty := by simp only [rightP]; rw [decide_eq_true (by omega), decide_eq_true h4, decide_eq_false h1]; rfl
        rw [e]
        go_wp2
        go_ret
        exact ⟨rfl, below_new (Below.refl _ _) _⟩
    · have hq : decide ((k : Int) < 4) = false := by simp; omega
      have e : rightP (k, b) = false := by simp [rightP, h4]
      rw [e]
      go_wp2
      go_ret
      exact ⟨rfl, below_new (Below.refl _ _) _⟩
end Go.Proofs.Ytopabkkapbaibaa.Gram
