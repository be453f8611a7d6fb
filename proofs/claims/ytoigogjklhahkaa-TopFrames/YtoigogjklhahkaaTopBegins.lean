/- spoortop.begins returns true. -/
import Derived.Test.YtoigogjklhahkaaWalkFrame
set_option linter.unusedVariables false
namespace Go.Proofs.Ytoigogjklhahkaa.Frame
open Go.RowKit

theorem bgn1 (w : World) : Calls Try.prog 13 #[.string ⟨#[49, 50, 51, 52, 53, 54, 55, 56, 57]⟩] w fun e w' => e = .returned (.int .u32 3808858755) ∧ w' = w := by
  have := ofL [49, 50, 51, 52, 53, 54, 55, 56, 57] w (by decide)
  rw [show Crc.onL 0 [49, 50, 51, 52, 53, 54, 55, 56, 57] = 3808858755 by decide +kernel] at this
  exact this
theorem bgn2 (w : World) : Calls Try.prog 12 #[.string ⟨#[172, 2, 122]⟩] w fun e w' => e = .returned (.tuple #[.int .u64 300, .string ⟨#[122]⟩, .int .i64 0]) ∧ Below w.heap.size w w' :=
  getL (l := [172, 2, 122]) (n := 300) (r := [122]) (y := 0) (by decide +kernel) (by decide) w
theorem bgn3 (w : World) : Calls Try.prog 14 #[.int .u64 300] w fun e w' => e = .returned (.string ⟨#[172, 2]⟩) ∧ Below w.heap.size w w' := by
  have := put_any 300 w (by decide) (by decide)
  rw [show putL (300 : Int).toNat = [172, 2] by decide +kernel] at this
  exact this
theorem begins_any (w : World) :
    Calls Try.prog 4 #[] w fun e w' => e = .returned (.bool true) ∧ Below w.heap.size w w' := by
  go_enter Try.func4, Try.ntmps4
  go_wp2_with fail
  go_at_call 12; refine (bgn2 _).mono ?_; rintro e w1 ⟨rfl, hb1⟩
  go_wp2_with fail
  go_at_call 13; refine (bgn1 _).mono ?_; rintro e w2 ⟨rfl, rfl⟩
  go_wp2_with fail
  go_at_call 14; refine (bgn3 _).mono ?_; rintro e w3 ⟨rfl, hb3⟩
  go_wp2_with fail
  go_ret
  exact ⟨rfl, below2 hb1 hb3⟩
end Go.Proofs.Ytoigogjklhahkaa.Frame
