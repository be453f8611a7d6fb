/- Plain mathematics: sums of texts put together are the sums joined. -/
import Derived.Test.YtmbciomfkiadiabWalkJoin
set_option linter.unusedVariables false
namespace Go.Proofs.Ytmbciomfkiadiab.Crc
open Go.RowKit

theorem xor_mid (a o b : Nat) : (a ^^^ o) ^^^ ((o ^^^ b) ^^^ 4294967295) = (a ^^^ b) ^^^ 4294967295 := by
  rw [← Nat.xor_assoc (a ^^^ o), Nat.xor_assoc a o, ← Nat.xor_assoc o o b, Nat.xor_self, Nat.zero_xor]
theorem join_app (a b : List UInt8) : joinR (onL 0 a) (onL 0 b) b.length = onL 0 (a ++ b) := by
  unfold joinR onL
  rw [regL_app, regL_zero (notR 0) b, regL_zero (regL (notR 0) a) b]
  rw [notR.eq_1 (regL (notR 0) a), hvN_xor, notR.eq_1 (_ ^^^ regL 0 b), notR.eq_1 (_ ^^^ regL 0 b)]
  have h0 : notR 0 = 4294967295 := by unfold notR; rw [Nat.zero_xor]
  rw [h0]
  exact xor_mid _ _ _
theorem on_app (s : Nat) (a b : List UInt8) : onL (onL s a) b = onL s (a ++ b) := by
  unfold onL
  rw [notR_notR, regL_app]

/-- any count: joined, or refused -/
def joinV (a b m : Nat) : Nat × Int := if m ≤ 1073741824 then (joinR a b m, 0) else (0, 1)
theorem joinV_lt (a b m : Nat) (ha : a < 4294967296) (hb : b < 4294967296) : (joinV a b m).1 < 4294967296 := by
  unfold joinV; split
  · exact joinR_lt a b m ha hb
  · decide
theorem joinV_small (a b m : Nat) (h : m ≤ 1073741824) : joinV a b m = (joinR a b m, 0) := if_pos h
theorem join_gen (a b m : Nat) (w : World) (ha : a < 4294967296) (hb : b < 4294967296) (hm : (m : Int) ≤ 9223372036854775807) :
    Calls Try.prog 16 #[.int .u32 (a : Int), .int .u32 (b : Int), .int .i64 (m : Int)] w fun e w' => e = .returned (.tuple #[.int .u32 ((joinV a b m).1 : Int), .int .i64 (joinV a b m).2]) ∧ w' = w := by
  by_cases h : m ≤ 1073741824
  · rw [joinV_small a b m h]
    exact join_any a b m w ha hb (by omega)
  · have := join_no (a : Int) (b : Int) (m : Int) w (by omega) hm (by omega)
    rw [show joinV a b m = (0, 1) from if_neg h]
    exact this

end Go.Proofs.Ytmbciomfkiadiab.Crc
