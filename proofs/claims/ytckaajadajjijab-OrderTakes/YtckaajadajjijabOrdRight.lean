/- Whether a seat is right. -/
import Derived.Test.YtckaajadajjijabOrdBase
set_option linter.unusedVariables false
namespace Go.Proofs.Ytckaajadajjijab.Ord
open Go.RowKit
open Go.Proofs.Ytckaajadajjijab.Msg (Ev okE checkE evV evC FitE echeck_any cells12')
open Go.Proofs.Ytckaajadajjijab.Addr (RowAt below2 below_drew below_new bset RowAt.lt RowAt.cell RowAt.frozen RowAt.below RowAt.drew RowAt.new RowAt.alloc gdrew gset gbelow galloc grefl gfinal cells2 cells4 results_cell Bl bl_ne wp_region_bl bl_call bl_same)

theorem row4 (W : World) (s : St) : RowAt (W.alloc (.cells #[.int .i64 s.router, .int .u64 (s.seq : Int), .int .i64 s.time, .bool s.up] 48)) W.heap.size (stC s) 48 := RowAt.new W (stC s) 48
set_option maxHeartbeats 4000000 in
theorem right_walk (a : Int) (b : Nat) (c : Int) (u : Bool) (w : World) : Calls Try.prog 37 #[.agg #[.int .i64 a, .int .u64 (b : Int), .int .i64 c, .bool u]] w fun e w' => e = .returned (.bool (decide (0 ≤ a) && decide (a ≤ 1048576) && decide (1 ≤ (b : Int)) && decide ((b : Int) ≤ 1099511627776) && decide (0 ≤ c) && decide (c ≤ 1099511627776))) ∧ Below w.heap.size w w' := by
  obtain ⟨X, hX⟩ : ∃ X, X = w.alloc (.cells #[.int .i64 a, .int .u64 (b : Int), .int .i64 c, .bool u] 48) := ⟨_, rfl⟩
  have hB : Below w.heap.size w X := by rw [hX]; exact below_new (Below.refl _ _) _
  have r0 : RowAt X w.heap.size [.int .i64 a, .int .u64 (b : Int), .int .i64 c, .bool u] 48 := by rw [hX]; exact RowAt.new _ _ _
  obtain ⟨x0, x1, x2, x3, xf⟩ := cells4 r0
  clear r0
  generalize hR : (decide (0 ≤ a) && decide (a ≤ 1048576) && decide (1 ≤ (b : Int)) && decide ((b : Int) ≤ 1099511627776) && decide (0 ≤ c) && decide (c ≤ 1099511627776)) = R
  have HR : Hid ((decide (0 ≤ a) && decide (a ≤ 1048576) && decide (1 ≤ (b : Int)) && decide ((b : Int) ≤ 1099511627776) && decide (0 ≤ c) && decide (c ≤ 1099511627776)) = R) := hR
  clear hR
  cases q0 : decide (0 ≤ a)
  · go_enter Try.func37, Try.ntmps37
    go_upto_region 1 with fail
    rw [← hX]
    clear hX
    go_wp2_with fail
    go_ret
    exact ⟨by rw [← HR.out]; simp [q0], hB⟩
  cases q1 : decide (a ≤ 1048576)
  · go_enter Try.func37, Try.ntmps37
    go_upto_region 1 with fail
    rw [← hX]
    clear hX
    go_wp2_with fail
    go_ret
    exact ⟨by rw [← HR.out]; simp [q0, q1], hB⟩
  cases q2 : decide (1 ≤ (b : Int))
  · go_enter Try.func37, Try.ntmps37
    go_upto_region 1 with fail
    rw [← hX]
    clear hX
    go_wp2_with fail
    go_ret
    exact ⟨by rw [← HR.out]; simp [q0, q1, q2], hB⟩
  cases q3 : decide ((b : Int) ≤ 1099511627776)
  · go_enter Try.func37, Try.ntmps37
    go_upto_region 1 with fail
    rw [← hX]
    clear hX
    go_wp2_with fail
    go_ret
    exact ⟨by rw [← HR.out]; simp [q0, q1, q2, q3], hB⟩
  cases q4 : decide (0 ≤ c)
  · go_enter Try.func37, Try.ntmps37
    go_upto_region 1 with fail
    rw [← hX]
    clear hX
    go_wp2_with fail
    go_ret
    exact ⟨by rw [← HR.out]; simp [q0, q1, q2, q3, q4], hB⟩
  cases q5 : decide (c ≤ 1099511627776)
  · go_enter Try.func37, Try.ntmps37
    go_upto_region 1 with fail
    rw [← hX]
    clear hX
    go_wp2_with fail
    go_ret
    exact ⟨by rw [← HR.out]; simp [q0, q1, q2, q3, q4, q5], hB⟩
  go_enter Try.func37, Try.ntmps37
  go_upto_region 1 with fail
  rw [← hX]
  clear hX
  go_wp2_with fail
  go_ret
  exact ⟨by rw [← HR.out]; simp [q0, q1, q2, q3, q4, q5], hB⟩
theorem right_any (s : St) (w : World) : Calls Try.prog 37 #[stV s] w fun e w' => e = .returned (.bool (okS s)) ∧ Below w.heap.size w w' := by
  have h := right_walk s.router s.seq s.time s.up w
  have e1 : decide (1 ≤ (s.seq : Int)) = decide (1 ≤ s.seq) := decide_eq_decide.2 (by omega)
  have e2 : decide ((s.seq : Int) ≤ 1099511627776) = decide (s.seq ≤ 1099511627776) := decide_eq_decide.2 (by omega)
  rw [e1, e2] at h
  exact h
end Go.Proofs.Ytckaajadajjijab.Ord
