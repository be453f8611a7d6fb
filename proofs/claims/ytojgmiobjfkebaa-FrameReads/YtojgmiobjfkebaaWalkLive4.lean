/- What the statements' own examples of frames return. -/
import Derived.Test.YtojgmiobjfkebaaWalkTake
import Derived.Test.YtojgmiobjfkebaaWalkNext
set_option linter.unusedVariables false
namespace Go.Proofs.Ytojgmiobjfkebaa.Frame
open Go.RowKit

theorem allF1 : allL [1, 193, 208, 67, 48, 97, 1, 193, 208, 67, 48, 97, 122] = ([[97], [97]], [122]) := by decide +kernel
theorem takeF1 : takeL 1 [1, 193, 208, 67, 48, 97, 1, 193, 208, 67, 48, 97] = ([[97]], [1, 193, 208, 67, 48, 97], 0) := by decide +kernel
theorem takeF2 : takeL 2 [1, 193, 208, 67, 48, 97] = ([], [], 5) := by decide +kernel
theorem lv1 (w : World) : Calls Try.prog 8 #[.string ⟨#[97]⟩] w fun e w' => e = .returned (.tuple #[.string ⟨#[1, 193, 208, 67, 48, 97]⟩, .int .i64 0]) ∧ Below w.heap.size w w' := by
  have := put_ok [97] w (by decide)
  rw [show frameL [97] = [1, 193, 208, 67, 48, 97] by decide +kernel] at this
  exact this
theorem lv2 (w : World) : Calls Try.prog 10 #[.int .i64 200] w fun e w' => e = .returned (.tuple #[.int .i64 206, .int .i64 0]) ∧ Below w.heap.size w w' := by
  have := size_ok 200 w (by decide)
  rw [show (putL 200).length + 4 + 200 = 206 by decide +kernel] at this
  exact this
theorem lv3 (w : World) : Calls Try.prog 13 #[.string ⟨#[1, 193, 208, 67, 48, 97, 122]⟩] w fun e w' => e = .returned (.tuple #[.string ⟨#[97]⟩, .string ⟨#[122]⟩, .int .i64 0]) ∧ Below w.heap.size w w' := by
  have := next_any [1, 193, 208, 67, 48, 97, 122] w (by decide)
  unfold NextIs at this
  rw [show nextL [1, 193, 208, 67, 48, 97, 122] = ([97], [122], 0) by decide +kernel] at this
  exact this
theorem lv4 (w : World) : Calls Try.prog 15 #[.string ⟨#[1, 193, 208, 67, 48, 97, 1, 193, 208, 67, 48, 97, 122]⟩] w fun e w' => (∃ o cap, e = .returned (.tuple #[.slice o 2 cap, .int .i64 12])) ∧ Below w.heap.size w w' := by
  refine (all_any [1, 193, 208, 67, 48, 97, 1, 193, 208, 67, 48, 97, 122] w (by decide) (by rw [allF1]; decide)).mono ?_
  rintro e w' ⟨v, rfl, ho, hb⟩
  rw [allF1] at ho ⊢
  obtain ⟨o, cap, rfl⟩ := own_form ho
  exact ⟨⟨o, cap, rfl⟩, hb⟩
theorem lv5 (w : World) : Calls Try.prog 17 #[.string ⟨#[1, 193, 208, 67, 48, 97, 1, 193, 208, 67, 48, 97]⟩, .int .i64 1] w fun e w' => (∃ o cap, e = .returned (.tuple #[.slice o 1 cap, .string ⟨#[1, 193, 208, 67, 48, 97]⟩, .int .i64 0])) ∧ Below w.heap.size w w' := by
  refine (take_any [1, 193, 208, 67, 48, 97, 1, 193, 208, 67, 48, 97] 1 w (by decide) (by decide) (.inl (by decide))).mono ?_
  rintro e w' ⟨v, rfl, ho, hb⟩
  rw [takeF1] at ho ⊢
  obtain ⟨o, cap, rfl⟩ := own_form ho
  exact ⟨⟨o, cap, rfl⟩, hb⟩
theorem lv6 (w : World) : Calls Try.prog 17 #[.string ⟨#[1, 193, 208, 67, 48, 97]⟩, .int .i64 2] w fun e w' => (∃ o cap, e = .returned (.tuple #[.slice o 0 cap, .string ⟨#[]⟩, .int .i64 5])) ∧ Below w.heap.size w w' := by
  refine (take_any [1, 193, 208, 67, 48, 97] 2 w (by decide) (by decide) (.inl (by decide))).mono ?_
  rintro e w' ⟨v, rfl, ho, hb⟩
  rw [takeF2] at ho ⊢
  obtain ⟨o, cap, rfl⟩ := own_form ho
  exact ⟨⟨o, cap, rfl⟩, hb⟩
theorem lv7 (w : World) : Calls Try.prog 13 #[.string ⟨#[1, 193, 208, 67, 49, 97]⟩] w fun e w' => e = .returned (.tuple #[.string ⟨#[]⟩, .string ⟨#[]⟩, .int .i64 6]) ∧ Below w.heap.size w w' := by
  have := next_any [1, 193, 208, 67, 49, 97] w (by decide)
  unfold NextIs at this
  rw [show nextL [1, 193, 208, 67, 49, 97] = ([], [], 6) by decide +kernel] at this
  exact this

set_option maxHeartbeats 1000000 in
set_option maxRecDepth 20000 in
theorem lives_any (w : World) :
    Calls Try.prog 12 #[] w fun e w' => e = .returned (.bool true) ∧ Below w.heap.size w w' := by
  go_enter Try.func12, Try.ntmps12
  go_wp2_with fail
  go_at_call 8; refine (lv1 _).mono ?_; rintro e w1 ⟨rfl, hW⟩
  go_wp2_with fail
  go_at_call 10; refine (lv2 _).mono ?_; rintro e w2 ⟨rfl, hb2⟩
  have hW := below2 hW hb2
  go_wp2_with fail
  go_at_call 13; refine (lv3 _).mono ?_; rintro e w3 ⟨rfl, hb3⟩
  have hW := below2 hW hb3
  go_wp2_with fail
  go_at_call 15; refine (lv4 _).mono ?_; rintro e w4 ⟨⟨o4, c4, rfl⟩, hb4⟩
  have hW := below2 hW hb4
  go_wp2_with fail
  go_at_call 17; refine (lv5 _).mono ?_; rintro e w5 ⟨⟨o5, c5, rfl⟩, hb5⟩
  have hW := below2 hW hb5
  go_wp2_with fail
  go_at_call 17; refine (lv6 _).mono ?_; rintro e w6 ⟨⟨o6, c6, rfl⟩, hb6⟩
  have hW := below2 hW hb6
  go_wp2_with fail
  go_at_call 13; refine (lv7 _).mono ?_; rintro e w7 ⟨rfl, hb7⟩
  have hW := below2 hW hb7
  go_wp2_with fail
  go_ret
  exact ⟨rfl, hW⟩
end Go.Proofs.Ytojgmiobjfkebaa.Frame
