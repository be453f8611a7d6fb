/- What addr.Cmp returns. -/
import Derived.Test.YtedgmnnbmonhkaaAddrBase
import Derived.Deep.RegionHeld3
set_option linter.unusedVariables false
namespace Go.Proofs.Ytedgmnnbmonhkaa.Addr
open Go.RowKit

theorem cmp_lt {n m : Nat} (h : n < m) : cmpN n m = -1 := if_pos h
theorem cmp_eq (n : Nat) : cmpN n n = 0 := by unfold cmpN; rw [if_neg (by omega), if_pos rfl]
theorem cmp_gt {n m : Nat} (h : m < n) : cmpN n m = 1 := by unfold cmpN; rw [if_neg (by omega), if_neg (by omega)]
theorem cmp_parts (n m : Nat) : (if cmpN (hiN n) (hiN m) = 0 then cmpN (loN n) (loN m) else cmpN (hiN n) (hiN m)) = cmpN n m := by
  have e1 := hilo n
  have e2 := hilo m
  have l1 := loN_lt n
  have l2 := loN_lt m
  generalize hiN n = a at *
  generalize hiN m = b at *
  generalize loN n = c at *
  generalize loN m = d at *
  rcases Nat.lt_trichotomy a b with h | rfl | h
  · rw [cmp_lt h, cmp_lt (n := n) (m := m) (by omega)]; rfl
  · rw [cmp_eq, if_pos rfl]
    rcases Nat.lt_trichotomy c d with h | rfl | h
    · rw [cmp_lt h, cmp_lt (n := n) (m := m) (by omega)]
    · rw [e1, e2, cmp_eq, cmp_eq]
    · rw [cmp_gt h, cmp_gt (n := n) (m := m) (by omega)]
  · rw [cmp_gt h, cmp_gt (n := n) (m := m) (by omega)]; rfl
end Go.Proofs.Ytedgmnnbmonhkaa.Addr
