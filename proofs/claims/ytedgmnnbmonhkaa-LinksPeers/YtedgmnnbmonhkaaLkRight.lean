/- Whether a link is right: the program, the document. -/
import Derived.Test.YtedgmnnbmonhkaaLkBase
set_option linter.unusedVariables false
namespace Go.Proofs.Ytedgmnnbmonhkaa.Lk
open Go.RowKit
open Go.Proofs.Ytedgmnnbmonhkaa.Addr (RowAt below2 below_drew below_new bset RowAt.lt RowAt.cell RowAt.frozen RowAt.below RowAt.drew RowAt.new RowAt.alloc cells2 Bl bl_ne wp_region_bl bl_call bl_same)
set_option maxHeartbeats 4000000 in
theorem right_walk (a b : Int) (w : World) : Calls Try.prog 20 #[.agg #[.int .i64 a, .int .i64 b]] w fun e w' => e = .returned (.bool (decide (0 ≤ a) && decide (a ≤ 65536) && decide (0 ≤ b) && decide (b ≤ 1048576))) ∧ Below w.heap.size w w' := by
  obtain ⟨X, hX⟩ : ∃ X, X = w.alloc (.cells #[.int .i64 a, .int .i64 b] 24) := ⟨_, rfl⟩
  have hB : Below w.heap.size w X := by rw [hX]; exact below_new (Below.refl _ _) _
  have r0 : RowAt X w.heap.size [.int .i64 a, .int .i64 b] 24 := by rw [hX]; exact RowAt.new _ _ _
  obtain ⟨x0, x1, xf⟩ := cells2 r0
  clear r0
  generalize hR : (decide (0 ≤ a) && decide (a ≤ 65536) && decide (0 ≤ b) && decide (b ≤ 1048576)) = R
  have HR : Hid ((decide (0 ≤ a) && decide (a ≤ 65536) && decide (0 ≤ b) && decide (b ≤ 1048576)) = R) := hR
  clear hR
  cases q0 : decide (0 ≤ a)
  · go_enter Try.func20, Try.ntmps20
    go_upto_region 1 with fail
    rw [← hX]
    clear hX
    go_wp2_with fail
    go_ret
    exact ⟨by rw [← HR.out]; simp [q0], hB⟩
  cases q1 : decide (a ≤ 65536)
  · go_enter Try.func20, Try.ntmps20
    go_upto_region 1 with fail
    rw [← hX]
    clear hX
    go_wp2_with fail
    go_ret
    exact ⟨by rw [← HR.out]; simp [q0, q1], hB⟩
  cases q2 : decide (0 ≤ b)
  · go_enter Try.func20, Try.ntmps20
    go_upto_region 1 with fail
    rw [← hX]
    clear hX
    go_wp2_with fail
    go_ret
    exact ⟨by rw [← HR.out]; simp [q0, q1, q2], hB⟩
  cases q3 : decide (b ≤ 1048576)
  · go_enter Try.func20, Try.ntmps20
    go_upto_region 1 with fail
    rw [← hX]
    clear hX
    go_wp2_with fail
    go_ret
    exact ⟨by rw [← HR.out]; simp [q0, q1, q2, q3], hB⟩
  go_enter Try.func20, Try.ntmps20
  go_upto_region 1 with fail
  rw [← hX]
  clear hX
  go_wp2_with fail
  go_ret
  exact ⟨by rw [← HR.out]; simp [q0, q1, q2, q3], hB⟩
theorem right_any (x : Lk) (w : World) : Calls Try.prog 20 #[.agg #[.int .i64 x.iface, .int .i64 x.peer]] w fun e w' => e = .returned (.bool (okK x)) ∧ Below w.heap.size w w' := right_walk x.iface x.peer w
set_option maxHeartbeats 4000000 in
theorem one_walk (a b : Int) (w : World) : Calls Try.prog 27 #[.agg #[.int .i64 a, .int .i64 b]] w fun e w' => e = .returned (.bool (decide (0 ≤ a) && decide (a ≤ 65536) && decide (0 ≤ b) && decide (b ≤ 1048576))) ∧ Below w.heap.size w w' := by
  obtain ⟨X, hX⟩ : ∃ X, X = w.alloc (.cells #[.int .i64 a, .int .i64 b] 24) := ⟨_, rfl⟩
  have hB : Below w.heap.size w X := by rw [hX]; exact below_new (Below.refl _ _) _
  have r0 : RowAt X w.heap.size [.int .i64 a, .int .i64 b] 24 := by rw [hX]; exact RowAt.new _ _ _
  obtain ⟨x0, x1, xf⟩ := cells2 r0
  clear r0
  generalize hR : (decide (0 ≤ a) && decide (a ≤ 65536) && decide (0 ≤ b) && decide (b ≤ 1048576)) = R
  have HR : Hid ((decide (0 ≤ a) && decide (a ≤ 65536) && decide (0 ≤ b) && decide (b ≤ 1048576)) = R) := hR
  clear hR
  cases q0 : decide (0 ≤ a)
  · go_enter Try.func27, Try.ntmps27
    go_upto_region 1 with fail
    rw [← hX]
    clear hX
    go_wp2_with fail
    go_ret
    exact ⟨by rw [← HR.out]; simp [q0], hB⟩
  cases q1 : decide (a ≤ 65536)
  · go_enter Try.func27, Try.ntmps27
    go_upto_region 1 with fail
    rw [← hX]
    clear hX
    go_wp2_with fail
    go_ret
    exact ⟨by rw [← HR.out]; simp [q0, q1], hB⟩
  cases q2 : decide (0 ≤ b)
  · go_enter Try.func27, Try.ntmps27
    go_upto_region 1 with fail
    rw [← hX]
    clear hX
    go_wp2_with fail
    go_ret
    exact ⟨by rw [← HR.out]; simp [q0, q1, q2], hB⟩
  cases q3 : decide (b ≤ 1048576)
  · go_enter Try.func27, Try.ntmps27
    go_upto_region 1 with fail
    rw [← hX]
    clear hX
    go_wp2_with fail
    go_ret
    exact ⟨by rw [← HR.out]; simp [q0, q1, q2, q3], hB⟩
  go_enter Try.func27, Try.ntmps27
  go_upto_region 1 with fail
  rw [← hX]
  clear hX
  go_wp2_with fail
  go_ret
  exact ⟨by rw [← HR.out]; simp [q0, q1, q2, q3], hB⟩
theorem one_any (x : Lk) (w : World) : Calls Try.prog 27 #[.agg #[.int .i64 x.iface, .int .i64 x.peer]] w fun e w' => e = .returned (.bool (okK x)) ∧ Below w.heap.size w w' := one_walk x.iface x.peer w
end Go.Proofs.Ytedgmnnbmonhkaa.Lk
