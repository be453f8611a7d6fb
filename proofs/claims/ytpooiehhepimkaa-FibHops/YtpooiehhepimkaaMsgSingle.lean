/- What single, isSix and number read off a tape. -/
import Derived.Test.YtpooiehhepimkaaMsgTape
set_option linter.unusedVariables false
namespace Go.Proofs.Ytpooiehhepimkaa.Msg
open Go.RowKit
open Go.Proofs.Ytpooiehhepimkaa.Addr (Pf okP checkP wideN firstN kP hiN loN adV pfV RowAt below2 below_drew below_new bset RowAt.lt RowAt.cell RowAt.frozen RowAt.below RowAt.drew RowAt.new RowAt.alloc gdrew gset gbelow galloc grefl cells2 cells4 results_cell)

theorem undrew {W w1 : World} (hb : Below W.drew.heap.size W.drew w1) : Below W.heap.size W w1 := ⟨hb.os, hb.tape, hb.output, hb.size, fun k hk => hb.block k hk⟩
theorem take10 (l : List UInt8) (m : Nat) (hm : m = min l.length 10) : l.take 10 = l.take m := by
  rw [hm]
  rcases Nat.le_total l.length 10 with h | h
  · rw [Nat.min_eq_left h, List.take_of_length_le h, List.take_of_length_le (Nat.le_refl _)]
  · rw [Nat.min_eq_right h]
theorem getGo_len (l : List UInt8) {n : Nat} {r : List UInt8} (h : getGo 0 0 l = (n, r, 0)) : r.length ≤ l.length := by
  have := (getGo_back h).2
  rw [← this, List.length_append]; omega
theorem rdN_cases (l : List UInt8) : (rdN l = none ∧ (getGo 0 0 (l.take 10)).2.2 ≠ 0) ∨ (rdN l = some ((getGo 0 0 (l.take 10)).1, l.drop ((l.take 10).length - (getGo 0 0 (l.take 10)).2.1.length)) ∧ (getGo 0 0 (l.take 10)).2.2 = 0 ∧ (getGo 0 0 (l.take 10)).1 < 18446744073709551616 ∧ (getGo 0 0 (l.take 10)).2.1.length ≤ (l.take 10).length) := by
  unfold rdN
  by_cases h : (getGo 0 0 (l.take 10)).2.2 = 0
  · right
    obtain ⟨a, b, c⟩ : ∃ a b, getGo 0 0 (l.take 10) = (a, b, 0) := ⟨_, _, Prod.ext rfl (Prod.ext rfl h)⟩
    rw [if_pos h]
    refine ⟨rfl, h, ?_, ?_⟩
    · rw [c]; exact (getGo_back c).1
    · rw [c]; exact getGo_len _ c
  · left; rw [if_neg h]; exact ⟨rfl, h⟩
theorem fI_cases (l : List UInt8) : (fI l = none ∧ (getGo 0 0 (l.take 10)).2.2 ≠ 0) ∨ (fI l = some (((getGo 0 0 (l.take 10)).1 : Int), l.drop ((l.take 10).length - (getGo 0 0 (l.take 10)).2.1.length)) ∧ (getGo 0 0 (l.take 10)).2.2 = 0 ∧ (getGo 0 0 (l.take 10)).1 ≤ 9223372036854775807 ∧ (getGo 0 0 (l.take 10)).2.1.length ≤ (l.take 10).length) ∨ (fI l = none ∧ (getGo 0 0 (l.take 10)).2.2 = 0 ∧ 9223372036854775807 < (getGo 0 0 (l.take 10)).1 ∧ (getGo 0 0 (l.take 10)).1 < 18446744073709551616) := by
  unfold fI
  rcases rdN_cases l with ⟨h1, h2⟩ | ⟨h1, h2, h3, h4⟩
  · left; rw [h1]; exact ⟨rfl, h2⟩
  · right
    rw [h1]
    simp only
    by_cases hc : (getGo 0 0 (l.take 10)).1 ≤ 9223372036854775807
    · left; rw [if_pos hc]; exact ⟨rfl, h2, hc, h4⟩
    · right; rw [if_neg hc]; exact ⟨rfl, h2, by omega, h3⟩
end Go.Proofs.Ytpooiehhepimkaa.Msg
