/- spoorlaw02.lives, called in whatever world, returns true, and changes nothing that was there. -/
import Derived.Test.YtmbciomfkiadiabWalkOpen
import Derived.Test.YtmbciomfkiadiabWalkJoin
set_option linter.unusedVariables false
namespace Go.Proofs.Ytmbciomfkiadiab.Crc
open Go.RowKit

theorem lv1 (w : World) : Calls Try.prog 18 #[.string ⟨#[227, 6, 146, 131, 122]⟩] w fun e w' => e = .returned (.tuple #[.int .u32 3808858755, .string ⟨#[122]⟩, .int .i64 0]) ∧ Below w.heap.size w w' := by
  have := read_any [227, 6, 146, 131, 122] w (by decide)
  rw [show readL [227, 6, 146, 131, 122] = (3808858755, [122], 0) by decide] at this
  exact this
theorem of_at (l : List UInt8) (n : Nat) (h : onL 0 l = n) (hl : l.length ≤ 9223372036854775807) (w : World) : Calls Try.prog 10 #[.string ⟨l.toArray⟩] w fun e w' => e = .returned (.int .u32 (n : Int)) ∧ w' = w := by
  have := ofL l w hl
  rw [h] at this
  exact this
theorem lv2 (w : World) : Calls Try.prog 10 #[.string ⟨#[49, 50, 51, 52]⟩] w fun e w' => e = .returned (.int .u32 4131058926) ∧ w' = w := of_at [49, 50, 51, 52] 4131058926 (by decide +kernel) (by decide) w
theorem lv3 (w : World) : Calls Try.prog 10 #[.string ⟨#[53, 54, 55, 56, 57]⟩] w fun e w' => e = .returned (.int .u32 2209703384) ∧ w' = w := of_at [53, 54, 55, 56, 57] 2209703384 (by decide +kernel) (by decide) w
theorem lv4 (w : World) : Calls Try.prog 16 #[.int .u32 4131058926, .int .u32 2209703384, .int .i64 5] w fun e w' => e = .returned (.tuple #[.int .u32 3808858755, .int .i64 0]) ∧ w' = w := by
  have := join_any 4131058926 2209703384 5 w (by decide) (by decide) (by decide)
  rw [show joinR 4131058926 2209703384 5 = 3808858755 by decide +kernel] at this
  exact this
theorem lv5 (w : World) : Calls Try.prog 10 #[.string ⟨#[97]⟩] w fun e w' => e = .returned (.int .u32 3251651376) ∧ w' = w := of_at [97] 3251651376 (by decide +kernel) (by decide) w
theorem lv6 (w : World) : Calls Try.prog 14 #[.int .u32 3251651376, .int .i64 2] w fun e w' => e = .returned (.tuple #[.int .u32 3808709321, .int .i64 0]) ∧ w' = w := by
  have := zeros_any 3251651376 2 w (by decide) (by decide)
  rw [show zerosR 3251651376 2 = 3808709321 by decide +kernel] at this
  exact this
theorem lv7 (w : World) : Calls Try.prog 20 #[.string ⟨#[97, 98]⟩] w fun e w' => e = .returned (.tuple #[.string ⟨#[97, 98, 226, 162, 41, 54]⟩, .int .i64 0]) ∧ Below w.heap.size w w' := by
  have := sealed_any [97, 98] w (by decide)
  rw [show sealL [97, 98] = [97, 98, 226, 162, 41, 54] by decide +kernel] at this
  exact this
theorem lv8 (w : World) : Calls Try.prog 22 #[.string ⟨#[97, 98, 226, 162, 41, 54]⟩] w fun e w' => e = .returned (.tuple #[.string ⟨#[97, 98]⟩, .int .i64 0]) ∧ Below w.heap.size w w' := by
  have := open_any [97, 98, 226, 162, 41, 54] w (by decide)
  rw [show openL [97, 98, 226, 162, 41, 54] = ([97, 98], 0) by decide +kernel] at this
  exact this
theorem lv9 (w : World) : Calls Try.prog 22 #[.string ⟨#[97, 98, 99, 100, 101]⟩] w fun e w' => e = .returned (.tuple #[.string ⟨#[]⟩, .int .i64 6]) ∧ Below w.heap.size w w' := by
  have := open_any [97, 98, 99, 100, 101] w (by decide)
  rw [show openL [97, 98, 99, 100, 101] = ([], 6) by decide +kernel] at this
  exact this
theorem lv10 (w : World) : Calls Try.prog 22 #[.string ⟨#[97, 98, 99]⟩] w fun e w' => e = .returned (.tuple #[.string ⟨#[]⟩, .int .i64 5]) ∧ Below w.heap.size w w' := by
  have := open_any [97, 98, 99] w (by decide)
  rw [show openL [97, 98, 99] = ([], 5) by decide +kernel] at this
  exact this
theorem lv11 (w : World) : Calls Try.prog 10 #[.string ⟨#[49, 50, 51, 52, 53, 54, 55, 56, 57]⟩] w fun e w' => e = .returned (.int .u32 3808858755) ∧ w' = w := of_at [49, 50, 51, 52, 53, 54, 55, 56, 57] 3808858755 (by decide +kernel) (by decide) w
theorem lv12 (w : World) : Calls Try.prog 24 #[.int .u32 3808858755] w fun e w' => e = .returned (.string ⟨#[227, 6, 146, 131]⟩) ∧ Below w.heap.size w w' := by
  have := text_any 3808858755 w (by decide)
  rw [show textR 3808858755 = [227, 6, 146, 131] by decide] at this
  exact this
theorem lv13 (w : World) : Calls Try.prog 10 #[.string ⟨#[97, 0, 0]⟩] w fun e w' => e = .returned (.int .u32 3808709321) ∧ w' = w := of_at [97, 0, 0] 3808709321 (by decide +kernel) (by decide) w

set_option maxHeartbeats 1000000 in
theorem lives_any (w : World) :
    Calls Try.prog 9 #[] w fun e w' => e = .returned (.bool true) ∧ Below w.heap.size w w' := by
  go_enter Try.func9, Try.ntmps9
  go_wp2_with fail
  go_at_call 18; refine (lv1 _).mono ?_; rintro e w1 ⟨rfl, hW⟩
  go_wp2_with fail
  go_at_call 10; refine (lv2 _).mono ?_; rintro e w' ⟨rfl, rfl⟩
  go_wp2_with fail
  go_at_call 10; refine (lv3 _).mono ?_; rintro e w' ⟨rfl, rfl⟩
  go_wp2_with fail
  go_at_call 16; refine (lv4 _).mono ?_; rintro e w' ⟨rfl, rfl⟩
  go_wp2_with fail
  go_at_call 10; refine (lv5 _).mono ?_; rintro e w' ⟨rfl, rfl⟩
  go_wp2_with fail
  go_at_call 14; refine (lv6 _).mono ?_; rintro e w' ⟨rfl, rfl⟩
  go_wp2_with fail
  go_at_call 20; refine (lv7 _).mono ?_; rintro e w2 ⟨rfl, hb2⟩
  have hW := below2 hW hb2
  go_wp2_with fail
  go_at_call 22; refine (lv8 _).mono ?_; rintro e w3 ⟨rfl, hb3⟩
  have hW := below2 hW hb3
  go_wp2_with fail
  go_at_call 22; refine (lv9 _).mono ?_; rintro e w4 ⟨rfl, hb4⟩
  have hW := below2 hW hb4
  go_wp2_with fail
  go_at_call 22; refine (lv10 _).mono ?_; rintro e w5 ⟨rfl, hb5⟩
  have hW := below2 hW hb5
  go_wp2_with fail
  go_at_call 10; refine (lv11 _).mono ?_; rintro e w' ⟨rfl, rfl⟩
  go_wp2_with fail
  go_at_call 24; refine (lv12 _).mono ?_; rintro e w6 ⟨rfl, hb6⟩
  have hW := below2 hW hb6
  go_wp2_with fail
  go_at_call 10; refine (lv13 _).mono ?_; rintro e w' ⟨rfl, rfl⟩
  go_wp2_with fail
  go_ret
  exact ⟨rfl, hW⟩
end Go.Proofs.Ytmbciomfkiadiab.Crc
