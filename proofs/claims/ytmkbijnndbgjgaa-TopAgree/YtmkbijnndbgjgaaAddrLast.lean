/- What addr.Last, addr.Next, addr.Prev, addr.Has, addr.Covers return. -/
import Derived.Test.YtmkbijnndbgjgaaAddrCheck
set_option linter.unusedVariables false
namespace Go.Proofs.Ytmkbijnndbgjgaa.Addr
open Go.RowKit

theorem or_hi (n k : Nat) (hn : n < 2 ^ 128) (hk : k ≤ 128) (h0 : n % 2 ^ k = 0) : bits .or .u64 (hiN n : Int) (hiN (freeN k) : Int) = ((hiN (n + freeN k) : Nat) : Int) := by
  have h1 := hiN_lt hn
  have hp := Nat.two_pow_pos (k - 64)
  have hle : 2 ^ (k - 64) ≤ 2 ^ 64 := Nat.pow_le_pow_right (by decide) (by omega)
  rw [free_hi, u64_or_nat _ _ h1 (by omega), or_pow _ _ (zero_parts h0).1, (add_free h0).1]
theorem or_lo (n k : Nat) (hk : k ≤ 128) (h0 : n % 2 ^ k = 0) : bits .or .u64 (loN n : Int) (loN (freeN k) : Int) = ((loN (n + freeN k) : Nat) : Int) := by
  have h1 := loN_lt n
  have hp := Nat.two_pow_pos (min k 64)
  have hle : 2 ^ (min k 64) ≤ 2 ^ 64 := Nat.pow_le_pow_right (by decide) (by omega)
  rw [free_lo, u64_or_nat _ _ h1 (by omega), or_pow _ _ (zero_parts h0).2, (add_free h0).2]
end Go.Proofs.Ytmkbijnndbgjgaa.Addr
