/- The document's answer of layer 14: why an event does not fit. -/
import Derived.Test.YtkjhnefbcnnjlaaGreatNv34
import Derived.Test.YtkjhnefbcnnjlaaGreatNv09
import Derived.Test.YtkjhnefbcnnjlaaGreatNv32
import Derived.Test.YtkjhnefbcnnjlaaGreatNv18
import Derived.Test.YtkjhnefbcnnjlaaGreatNv31
set_option linter.unusedVariables false
namespace Go.Proofs.YtkjhnefbcnnjlaaGreat.Msg
open Go.RowKit
open Go.Proofs.YtkjhnefbcnnjlaaGreat.Addr (RowAt below2 below_drew below_new bset RowAt.below RowAt.drew RowAt.new RowAt.alloc)

set_option maxRecDepth 20000 in
set_option maxHeartbeats 4000000 in
theorem rck_4 (a b c hi lo l ak ai i p : Int) (sx : Bool) (w : World) (B1 B3 : Bool) (q0 : decide (a < 0) = false) (q1 : decide (1048576 < a) = false) (q2 : decide (b < 1) = false) (q3 : decide (1099511627776 < b) = false) (q4 : decide (c < 0) = false) (q5 : decide (1099511627776 < c) = false) (cP : ∀ W : World, Calls Tryz.prog 93 #[.agg #[.bool sx, .int .u64 hi, .int .u64 lo, .int .i64 l]] W fun e w' => e = .returned (.int .i64 (if B1 then 0 else 2)) ∧ Below W.heap.size W w') (hq : ∀ W : World, (binOp .neq 38 (.agg #[.int .u8 4, .int .i64 a, .int .u64 b, .int .i64 c, .bool sx, .int .u64 hi, .int .u64 lo, .int .i64 l, .int .u8 0, .int .i64 0, .int .i64 0, .int .i64 0]) (.agg #[.int .u8 4, .int .i64 a, .int .u64 b, .int .i64 c, .bool sx, .int .u64 hi, .int .u64 lo, .int .i64 l, .int .u8 ak, .int .i64 ai, .int .i64 i, .int .i64 p])).run Tryz.prog W = .ok (.bool (!B3)) W) :
    Calls Tryz.prog 62 #[.agg #[.int .u8 4, .int .i64 a, .int .u64 b, .int .i64 c, .bool sx, .int .u64 hi, .int .u64 lo, .int .i64 l, .int .u8 ak, .int .i64 ai, .int .i64 i, .int .i64 p]] w fun e w' => e = .returned (.int .i64 (if B1 && B3 then 0 else 2)) ∧ Below w.heap.size w w' := by
  have hgd := ev_guard
  obtain ⟨X, hX⟩ : ∃ X, X = w.alloc (.cells #[.int .u8 4, .int .i64 a, .int .u64 b, .int .i64 c, .bool sx, .int .u64 hi, .int .u64 lo, .int .i64 l, .int .u8 ak, .int .i64 ai, .int .i64 i, .int .i64 p] 38) := ⟨_, rfl⟩
  have hB : Below w.heap.size w X := by rw [hX]; exact below_new (Below.refl _ _) _
  have r0 : RowAt X w.heap.size [.int .u8 4, .int .i64 a, .int .u64 b, .int .i64 c, .bool sx, .int .u64 hi, .int .u64 lo, .int .i64 l, .int .u8 ak, .int .i64 ai, .int .i64 i, .int .i64 p] 38 := by rw [hX]; exact RowAt.new _ _ _
  go_enter Tryz.func62, Tryz.ntmps62
  go_upto_region 1 with fail
  rw [← hX]
  clear hX
  obtain ⟨g0, hg0⟩ : ∃ g, g = w.heap.size := ⟨_, rfl⟩
  have hgw : w.heap.size ≤ g0 := by omega
  rw [← hg0] at r0 ⊢
  clear hg0
  obtain ⟨⟨y0, y1, y2, y3, y4, y5⟩, ⟨y6, y7, y8, y9, y10, y11⟩, yf, hly⟩ := cells12' r0
  go_upto_region 3 with fail
  go_upto_region 4 with fail
  obtain ⟨Y, hY⟩ : ∃ Y, Y = X.alloc (.cells #[.int .u8 4, .int .i64 a, .int .u64 b, .int .i64 c, .bool false, .int .u64 0, .int .u64 0, .int .i64 0, .int .u8 0, .int .i64 0, .int .i64 0, .int .i64 0] 38) := ⟨_, rfl⟩
  have hbY : Below X.heap.size X Y := by rw [hY]; exact below_new (Below.refl _ _) _
  have r1 : RowAt Y X.heap.size [.int .u8 4, .int .i64 a, .int .u64 b, .int .i64 c, .bool false, .int .u64 0, .int .u64 0, .int .i64 0, .int .u8 0, .int .i64 0, .int .i64 0, .int .i64 0] 38 := by rw [hY]; exact RowAt.new _ _ _
  rw [← hY]
  replace r0 := RowAt.below r0 hbY
  replace hB := below2 hB hbY
  obtain ⟨g1, hg1⟩ : ∃ g, g = X.heap.size := ⟨_, rfl⟩
  have hgl : g0 < g1 := by omega
  rw [← hg1] at r1 ⊢
  clear hg1 hY hbY y0 y1 y2 y3 y4 y5 y6 y7 y8 y9 y10 y11 yf hly q0 q1 q2 q3 q4 q5
  obtain ⟨⟨y0, y1, y2, y3, y4, y5⟩, ⟨y6, y7, y8, y9, y10, y11⟩, yf, hly⟩ := cells12' r0
  obtain ⟨⟨z0, z1, z2, z3, z4, z5⟩, ⟨z6, z7, z8, z9, z10, z11⟩, zf, hlz⟩ := cells12' r1
  go_upto_region 14 with fail
  have s1 := set1 (set1 (set1 (set1 (r1) 4 (.bool sx)) 5 (.int .u64 hi)) 6 (.int .u64 lo)) 7 (.int .i64 l)
  have s0 := gkeep (gkeep (gkeep (gkeep (r0) (gsetO (Y) g1 4 (.bool sx)) (by omega)) (gsetO ((Y).setCell ⟨g1, 4, none⟩ (.bool sx)) g1 5 (.int .u64 hi)) (by omega)) (gsetO (((Y).setCell ⟨g1, 4, none⟩ (.bool sx)).setCell ⟨g1, 5, none⟩ (.int .u64 hi)) g1 6 (.int .u64 lo)) (by omega)) (gsetO ((((Y).setCell ⟨g1, 4, none⟩ (.bool sx)).setCell ⟨g1, 5, none⟩ (.int .u64 hi)).setCell ⟨g1, 6, none⟩ (.int .u64 lo)) g1 7 (.int .i64 l)) (by omega)
  have sB : Below w.heap.size w (((((Y).setCell ⟨g1, 4, none⟩ (.bool sx)).setCell ⟨g1, 5, none⟩ (.int .u64 hi)).setCell ⟨g1, 6, none⟩ (.int .u64 lo)).setCell ⟨g1, 7, none⟩ (.int .i64 l)) := bset (bset (bset (bset (hB) (by omega)) (by omega)) (by omega)) (by omega)
  generalize ((((Y).setCell ⟨g1, 4, none⟩ (.bool sx)).setCell ⟨g1, 5, none⟩ (.int .u64 hi)).setCell ⟨g1, 6, none⟩ (.int .u64 lo)).setCell ⟨g1, 7, none⟩ (.int .i64 l) = V at *
  simp only [List.set_cons_succ, List.set_cons_zero] at s1
  clear r0 r1 hB
  clear y0 y1 y2 y3 y4 y5 y6 y7 y8 y9 y10 y11 yf hly z0 z1 z2 z3 z4 z5 z6 z7 z8 z9 z10 z11 zf hlz
  have r0 := s0
  have r1 := s1
  have hB := sB
  clear s0 s1 sB
  obtain ⟨⟨y0, y1, y2, y3, y4, y5⟩, ⟨y6, y7, y8, y9, y10, y11⟩, yf, hly⟩ := cells12' r0
  obtain ⟨⟨z0, z1, z2, z3, z4, z5⟩, ⟨z6, z7, z8, z9, z10, z11⟩, zf, hlz⟩ := cells12' r1
  go_wp2_with fail
  go_at_call 93; refine (cP _).mono ?_; rintro e w1 ⟨rfl, hbq⟩
  replace r0 := RowAt.below r0 hbq
  replace r1 := RowAt.below r1 hbq
  replace hB := below2 hB hbq
  clear y0 y1 y2 y3 y4 y5 y6 y7 y8 y9 y10 y11 yf hly z0 z1 z2 z3 z4 z5 z6 z7 z8 z9 z10 z11 zf hlz hbq
  obtain ⟨⟨y0, y1, y2, y3, y4, y5⟩, ⟨y6, y7, y8, y9, y10, y11⟩, yf, hly⟩ := cells12' r0
  obtain ⟨⟨z0, z1, z2, z3, z4, z5⟩, ⟨z6, z7, z8, z9, z10, z11⟩, zf, hlz⟩ := cells12' r1
  cases B1 <;> cases B3
  all_goals
    go_wp2_with fail
    go_ret
    exact ⟨rfl, hB⟩
set_option maxRecDepth 20000 in
set_option maxHeartbeats 4000000 in
theorem rck_6 (a b c hi lo l ak ai i p : Int) (sx : Bool) (w : World) (B3 : Bool) (q0 : decide (a < 0) = false) (q1 : decide (1048576 < a) = false) (q2 : decide (b < 1) = false) (q3 : decide (1099511627776 < b) = false) (q4 : decide (c < 0) = false) (q5 : decide (1099511627776 < c) = false) (hq : ∀ W : World, (binOp .neq 38 (.agg #[.int .u8 6, .int .i64 a, .int .u64 b, .int .i64 c, .bool false, .int .u64 0, .int .u64 0, .int .i64 0, .int .u8 0, .int .i64 0, .int .i64 i, .int .i64 0]) (.agg #[.int .u8 6, .int .i64 a, .int .u64 b, .int .i64 c, .bool sx, .int .u64 hi, .int .u64 lo, .int .i64 l, .int .u8 ak, .int .i64 ai, .int .i64 i, .int .i64 p])).run Tryz.prog W = .ok (.bool (!B3)) W) :
    Calls Tryz.prog 62 #[.agg #[.int .u8 6, .int .i64 a, .int .u64 b, .int .i64 c, .bool sx, .int .u64 hi, .int .u64 lo, .int .i64 l, .int .u8 ak, .int .i64 ai, .int .i64 i, .int .i64 p]] w fun e w' => e = .returned (.int .i64 (if (decide (0 ≤ i) && decide (i ≤ 65536)) && B3 then 0 else 2)) ∧ Below w.heap.size w w' := by
  have hgd := ev_guard
  obtain ⟨R, HR⟩ : ∃ R : Int, Hid (R = (if (decide (0 ≤ i) && decide (i ≤ 65536)) && B3 then 0 else 2)) := ⟨_, rfl⟩
  rw [← HR.out]
  obtain ⟨X, hX⟩ : ∃ X, X = w.alloc (.cells #[.int .u8 6, .int .i64 a, .int .u64 b, .int .i64 c, .bool sx, .int .u64 hi, .int .u64 lo, .int .i64 l, .int .u8 ak, .int .i64 ai, .int .i64 i, .int .i64 p] 38) := ⟨_, rfl⟩
  have hB : Below w.heap.size w X := by rw [hX]; exact below_new (Below.refl _ _) _
  have r0 : RowAt X w.heap.size [.int .u8 6, .int .i64 a, .int .u64 b, .int .i64 c, .bool sx, .int .u64 hi, .int .u64 lo, .int .i64 l, .int .u8 ak, .int .i64 ai, .int .i64 i, .int .i64 p] 38 := by rw [hX]; exact RowAt.new _ _ _
  go_enter Tryz.func62, Tryz.ntmps62
  go_upto_region 1 with fail
  rw [← hX]
  clear hX
  obtain ⟨g0, hg0⟩ : ∃ g, g = w.heap.size := ⟨_, rfl⟩
  have hgw : w.heap.size ≤ g0 := by omega
  rw [← hg0] at r0 ⊢
  clear hg0
  obtain ⟨⟨y0, y1, y2, y3, y4, y5⟩, ⟨y6, y7, y8, y9, y10, y11⟩, yf, hly⟩ := cells12' r0
  go_upto_region 3 with fail
  go_upto_region 4 with fail
  obtain ⟨Y, hY⟩ : ∃ Y, Y = X.alloc (.cells #[.int .u8 6, .int .i64 a, .int .u64 b, .int .i64 c, .bool false, .int .u64 0, .int .u64 0, .int .i64 0, .int .u8 0, .int .i64 0, .int .i64 0, .int .i64 0] 38) := ⟨_, rfl⟩
  have hbY : Below X.heap.size X Y := by rw [hY]; exact below_new (Below.refl _ _) _
  have r1 : RowAt Y X.heap.size [.int .u8 6, .int .i64 a, .int .u64 b, .int .i64 c, .bool false, .int .u64 0, .int .u64 0, .int .i64 0, .int .u8 0, .int .i64 0, .int .i64 0, .int .i64 0] 38 := by rw [hY]; exact RowAt.new _ _ _
  rw [← hY]
  replace r0 := RowAt.below r0 hbY
  replace hB := below2 hB hbY
  obtain ⟨g1, hg1⟩ : ∃ g, g = X.heap.size := ⟨_, rfl⟩
  have hgl : g0 < g1 := by omega
  rw [← hg1] at r1 ⊢
  clear hg1 hY hbY y0 y1 y2 y3 y4 y5 y6 y7 y8 y9 y10 y11 yf hly q0 q1 q2 q3 q4 q5
  obtain ⟨⟨y0, y1, y2, y3, y4, y5⟩, ⟨y6, y7, y8, y9, y10, y11⟩, yf, hly⟩ := cells12' r0
  obtain ⟨⟨z0, z1, z2, z3, z4, z5⟩, ⟨z6, z7, z8, z9, z10, z11⟩, zf, hlz⟩ := cells12' r1
  go_upto_region 20 with fail
  have s1 := set1 (r1) 10 (.int .i64 i)
  have s0 := gkeep (r0) (gsetO (Y) g1 10 (.int .i64 i)) (by omega)
  have sB : Below w.heap.size w ((Y).setCell ⟨g1, 10, none⟩ (.int .i64 i)) := bset (hB) (by omega)
  generalize (Y).setCell ⟨g1, 10, none⟩ (.int .i64 i) = V at *
  simp only [List.set_cons_succ, List.set_cons_zero] at s1
  clear r0 r1 hB
  clear y0 y1 y2 y3 y4 y5 y6 y7 y8 y9 y10 y11 yf hly z0 z1 z2 z3 z4 z5 z6 z7 z8 z9 z10 z11 zf hlz
  have r0 := s0
  have r1 := s1
  have hB := sB
  clear s0 s1 sB
  obtain ⟨⟨y0, y1, y2, y3, y4, y5⟩, ⟨y6, y7, y8, y9, y10, y11⟩, yf, hly⟩ := cells12' r0
  obtain ⟨⟨z0, z1, z2, z3, z4, z5⟩, ⟨z6, z7, z8, z9, z10, z11⟩, zf, hlz⟩ := cells12' r1
  cases q1 : decide (0 ≤ i) <;> cases q2 : decide (i ≤ 65536) <;> cases B3
  all_goals
    go_wp2_with fail
    go_ret
    exact ⟨by rw [HR.out]; simp [q1, q2], hB⟩
set_option maxRecDepth 20000 in
set_option maxHeartbeats 4000000 in
theorem rck_5 (a b c hi lo l ak ai i p : Int) (sx : Bool) (w : World) (B3 : Bool) (q0 : decide (a < 0) = false) (q1 : decide (1048576 < a) = false) (q2 : decide (b < 1) = false) (q3 : decide (1099511627776 < b) = false) (q4 : decide (c < 0) = false) (q5 : decide (1099511627776 < c) = false) (hq : ∀ W : World, (binOp .neq 38 (.agg #[.int .u8 5, .int .i64 a, .int .u64 b, .int .i64 c, .bool false, .int .u64 0, .int .u64 0, .int .i64 0, .int .u8 0, .int .i64 0, .int .i64 i, .int .i64 p]) (.agg #[.int .u8 5, .int .i64 a, .int .u64 b, .int .i64 c, .bool sx, .int .u64 hi, .int .u64 lo, .int .i64 l, .int .u8 ak, .int .i64 ai, .int .i64 i, .int .i64 p])).run Tryz.prog W = .ok (.bool (!B3)) W) :
    Calls Tryz.prog 62 #[.agg #[.int .u8 5, .int .i64 a, .int .u64 b, .int .i64 c, .bool sx, .int .u64 hi, .int .u64 lo, .int .i64 l, .int .u8 ak, .int .i64 ai, .int .i64 i, .int .i64 p]] w fun e w' => e = .returned (.int .i64 (if ((decide (0 ≤ i) && decide (i ≤ 65536)) && (decide (0 ≤ p) && decide (p ≤ 1048576))) && B3 then 0 else 2)) ∧ Below w.heap.size w w' := by
  have hgd := ev_guard
  obtain ⟨R, HR⟩ : ∃ R : Int, Hid (R = (if ((decide (0 ≤ i) && decide (i ≤ 65536)) && (decide (0 ≤ p) && decide (p ≤ 1048576))) && B3 then 0 else 2)) := ⟨_, rfl⟩
  rw [← HR.out]
  obtain ⟨X, hX⟩ : ∃ X, X = w.alloc (.cells #[.int .u8 5, .int .i64 a, .int .u64 b, .int .i64 c, .bool sx, .int .u64 hi, .int .u64 lo, .int .i64 l, .int .u8 ak, .int .i64 ai, .int .i64 i, .int .i64 p] 38) := ⟨_, rfl⟩
  have hB : Below w.heap.size w X := by rw [hX]; exact below_new (Below.refl _ _) _
  have r0 : RowAt X w.heap.size [.int .u8 5, .int .i64 a, .int .u64 b, .int .i64 c, .bool sx, .int .u64 hi, .int .u64 lo, .int .i64 l, .int .u8 ak, .int .i64 ai, .int .i64 i, .int .i64 p] 38 := by rw [hX]; exact RowAt.new _ _ _
  go_enter Tryz.func62, Tryz.ntmps62
  go_upto_region 1 with fail
  rw [← hX]
  clear hX
  obtain ⟨g0, hg0⟩ : ∃ g, g = w.heap.size := ⟨_, rfl⟩
  have hgw : w.heap.size ≤ g0 := by omega
  rw [← hg0] at r0 ⊢
  clear hg0
  obtain ⟨⟨y0, y1, y2, y3, y4, y5⟩, ⟨y6, y7, y8, y9, y10, y11⟩, yf, hly⟩ := cells12' r0
  go_upto_region 3 with fail
  go_upto_region 4 with fail
  obtain ⟨Y, hY⟩ : ∃ Y, Y = X.alloc (.cells #[.int .u8 5, .int .i64 a, .int .u64 b, .int .i64 c, .bool false, .int .u64 0, .int .u64 0, .int .i64 0, .int .u8 0, .int .i64 0, .int .i64 0, .int .i64 0] 38) := ⟨_, rfl⟩
  have hbY : Below X.heap.size X Y := by rw [hY]; exact below_new (Below.refl _ _) _
  have r1 : RowAt Y X.heap.size [.int .u8 5, .int .i64 a, .int .u64 b, .int .i64 c, .bool false, .int .u64 0, .int .u64 0, .int .i64 0, .int .u8 0, .int .i64 0, .int .i64 0, .int .i64 0] 38 := by rw [hY]; exact RowAt.new _ _ _
  rw [← hY]
  replace r0 := RowAt.below r0 hbY
  replace hB := below2 hB hbY
  obtain ⟨g1, hg1⟩ : ∃ g, g = X.heap.size := ⟨_, rfl⟩
  have hgl : g0 < g1 := by omega
  rw [← hg1] at r1 ⊢
  clear hg1 hY hbY y0 y1 y2 y3 y4 y5 y6 y7 y8 y9 y10 y11 yf hly q0 q1 q2 q3 q4 q5
  obtain ⟨⟨y0, y1, y2, y3, y4, y5⟩, ⟨y6, y7, y8, y9, y10, y11⟩, yf, hly⟩ := cells12' r0
  obtain ⟨⟨z0, z1, z2, z3, z4, z5⟩, ⟨z6, z7, z8, z9, z10, z11⟩, zf, hlz⟩ := cells12' r1
  go_upto_region 16 with fail
  go_cut [4] (fun v wc => v = .bool true ∧ RowAt wc g0 [.int .u8 5, .int .i64 a, .int .u64 b, .int .i64 c, .bool sx, .int .u64 hi, .int .u64 lo, .int .i64 l, .int .u8 ak, .int .i64 ai, .int .i64 i, .int .i64 p] 38 ∧ RowAt wc g1 [.int .u8 5, .int .i64 a, .int .u64 b, .int .i64 c, .bool false, .int .u64 0, .int .u64 0, .int .i64 0, .int .u8 0, .int .i64 0, .int .i64 i, .int .i64 p] 38 ∧ Below w.heap.size w wc)
  case first =>
    go_region
    all_goals go_wp2_with fail
    all_goals go_meet
    all_goals
      refine ⟨rfl, ?_, ?_, ?_⟩
      · exact RowAt.drew (gkeep (gkeep (r0) (gsetO _ g1 10 (.int .i64 i)) (by omega)) (gsetO _ g1 11 (.int .i64 p)) (by omega))
      · have s1 := set1 (set1 (r1) 10 (.int .i64 i)) 11 (.int .i64 p)
        simp only [List.set_cons_succ, List.set_cons_zero] at s1
        exact RowAt.drew s1
      · exact below_drew (bset (bset (hB) (by omega)) (by omega))
  case rest =>
  obtain ⟨rfl, r0, r1, hB⟩ := hcut
  clear y0 y1 y2 y3 y4 y5 y6 y7 y8 y9 y10 y11 yf hly z0 z1 z2 z3 z4 z5 z6 z7 z8 z9 z10 z11 zf hlz
  obtain ⟨⟨y0, y1, y2, y3, y4, y5⟩, ⟨y6, y7, y8, y9, y10, y11⟩, yf, hly⟩ := cells12' r0
  obtain ⟨⟨z0, z1, z2, z3, z4, z5⟩, ⟨z6, z7, z8, z9, z10, z11⟩, zf, hlz⟩ := cells12' r1
  cases q1 : decide (0 ≤ i) <;> cases q2 : decide (i ≤ 65536) <;> cases q3 : decide (0 ≤ p) <;> cases q4 : decide (p ≤ 1048576) <;> cases B3
  all_goals
    go_wp2_with fail
    go_ret
    exact ⟨by rw [HR.out]; simp [q1, q2, q3, q4], hB⟩
set_option maxRecDepth 20000 in
set_option maxHeartbeats 4000000 in
theorem rck_3 (a b c hi lo l ak ai i p : Int) (sx : Bool) (w : World) (B1 B2 B3 : Bool) (q0 : decide (a < 0) = false) (q1 : decide (1048576 < a) = false) (q2 : decide (b < 1) = false) (q3 : decide (1099511627776 < b) = false) (q4 : decide (c < 0) = false) (q5 : decide (1099511627776 < c) = false) (cP : ∀ W : World, Calls Tryz.prog 93 #[.agg #[.bool sx, .int .u64 hi, .int .u64 lo, .int .i64 l]] W fun e w' => e = .returned (.int .i64 (if B1 then 0 else 2)) ∧ Below W.heap.size W w') (cA : ∀ W : World, Calls Tryz.prog 94 #[.agg #[.int .u8 ak, .int .i64 ai]] W fun e w' => e = .returned (.bool B2) ∧ Below W.heap.size W w') (hq : ∀ W : World, (binOp .neq 38 (.agg #[.int .u8 3, .int .i64 a, .int .u64 b, .int .i64 c, .bool sx, .int .u64 hi, .int .u64 lo, .int .i64 l, .int .u8 ak, .int .i64 ai, .int .i64 0, .int .i64 0]) (.agg #[.int .u8 3, .int .i64 a, .int .u64 b, .int .i64 c, .bool sx, .int .u64 hi, .int .u64 lo, .int .i64 l, .int .u8 ak, .int .i64 ai, .int .i64 i, .int .i64 p])).run Tryz.prog W = .ok (.bool (!B3)) W) :
    Calls Tryz.prog 62 #[.agg #[.int .u8 3, .int .i64 a, .int .u64 b, .int .i64 c, .bool sx, .int .u64 hi, .int .u64 lo, .int .i64 l, .int .u8 ak, .int .i64 ai, .int .i64 i, .int .i64 p]] w fun e w' => e = .returned (.int .i64 (if B1 && B2 && B3 then 0 else 2)) ∧ Below w.heap.size w w' := by
  have hgd := ev_guard
  obtain ⟨X, hX⟩ : ∃ X, X = w.alloc (.cells #[.int .u8 3, .int .i64 a, .int .u64 b, .int .i64 c, .bool sx, .int .u64 hi, .int .u64 lo, .int .i64 l, .int .u8 ak, .int .i64 ai, .int .i64 i, .int .i64 p] 38) := ⟨_, rfl⟩
  have hB : Below w.heap.size w X := by rw [hX]; exact below_new (Below.refl _ _) _
  have r0 : RowAt X w.heap.size [.int .u8 3, .int .i64 a, .int .u64 b, .int .i64 c, .bool sx, .int .u64 hi, .int .u64 lo, .int .i64 l, .int .u8 ak, .int .i64 ai, .int .i64 i, .int .i64 p] 38 := by rw [hX]; exact RowAt.new _ _ _
  go_enter Tryz.func62, Tryz.ntmps62
  go_upto_region 1 with fail
  rw [← hX]
  clear hX
  obtain ⟨g0, hg0⟩ : ∃ g, g = w.heap.size := ⟨_, rfl⟩
  have hgw : w.heap.size ≤ g0 := by omega
  rw [← hg0] at r0 ⊢
  clear hg0
  obtain ⟨⟨y0, y1, y2, y3, y4, y5⟩, ⟨y6, y7, y8, y9, y10, y11⟩, yf, hly⟩ := cells12' r0
  go_upto_region 3 with fail
  go_upto_region 4 with fail
  obtain ⟨Y, hY⟩ : ∃ Y, Y = X.alloc (.cells #[.int .u8 3, .int .i64 a, .int .u64 b, .int .i64 c, .bool false, .int .u64 0, .int .u64 0, .int .i64 0, .int .u8 0, .int .i64 0, .int .i64 0, .int .i64 0] 38) := ⟨_, rfl⟩
  have hbY : Below X.heap.size X Y := by rw [hY]; exact below_new (Below.refl _ _) _
  have r1 : RowAt Y X.heap.size [.int .u8 3, .int .i64 a, .int .u64 b, .int .i64 c, .bool false, .int .u64 0, .int .u64 0, .int .i64 0, .int .u8 0, .int .i64 0, .int .i64 0, .int .i64 0] 38 := by rw [hY]; exact RowAt.new _ _ _
  rw [← hY]
  replace r0 := RowAt.below r0 hbY
  replace hB := below2 hB hbY
  obtain ⟨g1, hg1⟩ : ∃ g, g = X.heap.size := ⟨_, rfl⟩
  have hgl : g0 < g1 := by omega
  rw [← hg1] at r1 ⊢
  clear hg1 hY hbY y0 y1 y2 y3 y4 y5 y6 y7 y8 y9 y10 y11 yf hly q0 q1 q2 q3 q4 q5
  obtain ⟨⟨y0, y1, y2, y3, y4, y5⟩, ⟨y6, y7, y8, y9, y10, y11⟩, yf, hly⟩ := cells12' r0
  obtain ⟨⟨z0, z1, z2, z3, z4, z5⟩, ⟨z6, z7, z8, z9, z10, z11⟩, zf, hlz⟩ := cells12' r1
  go_upto_region 10 with fail
  go_cut [4] (fun v wc => v = .bool true ∧ RowAt wc g0 [.int .u8 3, .int .i64 a, .int .u64 b, .int .i64 c, .bool sx, .int .u64 hi, .int .u64 lo, .int .i64 l, .int .u8 ak, .int .i64 ai, .int .i64 i, .int .i64 p] 38 ∧ RowAt wc g1 [.int .u8 3, .int .i64 a, .int .u64 b, .int .i64 c, .bool sx, .int .u64 hi, .int .u64 lo, .int .i64 l, .int .u8 ak, .int .i64 ai, .int .i64 0, .int .i64 0] 38 ∧ Below w.heap.size w wc)
  case first =>
    go_region
    all_goals go_wp2_with fail
    all_goals go_meet
    all_goals
      refine ⟨rfl, ?_, ?_, ?_⟩
      · exact RowAt.drew (gkeep (gkeep (gkeep (gkeep (gkeep (gkeep (r0) (gsetO _ g1 4 (.bool sx)) (by omega)) (gsetO _ g1 5 (.int .u64 hi)) (by omega)) (gsetO _ g1 6 (.int .u64 lo)) (by omega)) (gsetO _ g1 7 (.int .i64 l)) (by omega)) (gsetO _ g1 8 (.int .u8 ak)) (by omega)) (gsetO _ g1 9 (.int .i64 ai)) (by omega))
      · have s1 := set1 (set1 (set1 (set1 (set1 (set1 (r1) 4 (.bool sx)) 5 (.int .u64 hi)) 6 (.int .u64 lo)) 7 (.int .i64 l)) 8 (.int .u8 ak)) 9 (.int .i64 ai)
        simp only [List.set_cons_succ, List.set_cons_zero] at s1
        exact RowAt.drew s1
      · exact below_drew (bset (bset (bset (bset (bset (bset (hB) (by omega)) (by omega)) (by omega)) (by omega)) (by omega)) (by omega))
  case rest =>
  obtain ⟨rfl, r0, r1, hB⟩ := hcut
  clear y0 y1 y2 y3 y4 y5 y6 y7 y8 y9 y10 y11 yf hly z0 z1 z2 z3 z4 z5 z6 z7 z8 z9 z10 z11 zf hlz
  obtain ⟨⟨y0, y1, y2, y3, y4, y5⟩, ⟨y6, y7, y8, y9, y10, y11⟩, yf, hly⟩ := cells12' r0
  obtain ⟨⟨z0, z1, z2, z3, z4, z5⟩, ⟨z6, z7, z8, z9, z10, z11⟩, zf, hlz⟩ := cells12' r1
  go_wp2_with fail
  go_at_call 93; refine (cP _).mono ?_; rintro e w1 ⟨rfl, hbq⟩
  replace r0 := RowAt.below r0 hbq
  replace r1 := RowAt.below r1 hbq
  replace hB := below2 hB hbq
  clear y0 y1 y2 y3 y4 y5 y6 y7 y8 y9 y10 y11 yf hly z0 z1 z2 z3 z4 z5 z6 z7 z8 z9 z10 z11 zf hlz hbq
  obtain ⟨⟨y0, y1, y2, y3, y4, y5⟩, ⟨y6, y7, y8, y9, y10, y11⟩, yf, hly⟩ := cells12' r0
  obtain ⟨⟨z0, z1, z2, z3, z4, z5⟩, ⟨z6, z7, z8, z9, z10, z11⟩, zf, hlz⟩ := cells12' r1
  cases B1
  · go_wp2_with fail
    go_ret
    exact ⟨rfl, hB⟩
  · go_wp2_with fail
    go_at_call 94; refine (cA _).mono ?_; rintro e w2 ⟨rfl, hbq⟩
    replace r0 := RowAt.below r0 hbq
    replace r1 := RowAt.below r1 hbq
    replace hB := below2 hB hbq
    clear y0 y1 y2 y3 y4 y5 y6 y7 y8 y9 y10 y11 yf hly z0 z1 z2 z3 z4 z5 z6 z7 z8 z9 z10 z11 zf hlz hbq
    obtain ⟨⟨y0, y1, y2, y3, y4, y5⟩, ⟨y6, y7, y8, y9, y10, y11⟩, yf, hly⟩ := cells12' r0
    obtain ⟨⟨z0, z1, z2, z3, z4, z5⟩, ⟨z6, z7, z8, z9, z10, z11⟩, zf, hlz⟩ := cells12' r1
    cases B2 <;> cases B3
    all_goals
      go_wp2_with fail
      go_ret
      exact ⟨rfl, hB⟩
end Go.Proofs.YtkjhnefbcnnjlaaGreat.Msg
namespace Go.Proofs.YtkjhnefbcnnjlaaGreat.Msg
open Go.RowKit
open Go.Proofs.YtkjhnefbcnnjlaaGreat.Addr (okP checkP hiN loN pfV)
theorem rcheckE_any (e : Ev) (w : World) (hf : FitE e) : Calls Tryz.prog 62 #[evV e] w fun r w' => r = .returned (.int .i64 (checkE e)) ∧ Below w.heap.size w w' := by
  have hq := fun W : World => ev_neq (wantE e) e W
  have cA := fun W : World => acts_any e.act W hf.act
  have cP := fun W : World => Addr.rcheck_any e.pf W hf.len hf.n
  have hcp : checkP e.pf = if okP e.pf = true then 0 else 2 := rfl
  rw [hcp] at cP
  rw [checkE_ref]
  obtain ⟨k, a, b, c, ⟨sx, n, l⟩, ⟨ak, ai⟩, i, p⟩ := e
  clear hcp
  unfold Addr.pfV at cP
  unfold acV at cA
  unfold evV evC at hq ⊢
  simp only at *
  by_cases h0 : a < 0
  · have hr : rangeB ⟨k, a, b, c, ⟨sx, n, l⟩, ⟨ak, ai⟩, i, p⟩ = false := by
      unfold rangeB
      simp only [Bool.and_eq_false_iff, decide_eq_false_iff_not]
      omega
    rw [hr]
    exact rck_r0 k a b c (hiN n) (loN n) l ak ai i p sx w  (decide_eq_true h0)
  by_cases h1 : 1048576 < a
  · have hr : rangeB ⟨k, a, b, c, ⟨sx, n, l⟩, ⟨ak, ai⟩, i, p⟩ = false := by
      unfold rangeB
      simp only [Bool.and_eq_false_iff, decide_eq_false_iff_not]
      omega
    rw [hr]
    exact rck_r1 k a b c (hiN n) (loN n) l ak ai i p sx w (decide_eq_false h0) (decide_eq_true h1)
  by_cases h2 : (b : Int) < 1
  · have hr : rangeB ⟨k, a, b, c, ⟨sx, n, l⟩, ⟨ak, ai⟩, i, p⟩ = false := by
      unfold rangeB
      simp only [Bool.and_eq_false_iff, decide_eq_false_iff_not]
      omega
    rw [hr]
    exact rck_r2 k a b c (hiN n) (loN n) l ak ai i p sx w (decide_eq_false h0) (decide_eq_false h1) (decide_eq_true h2)
  by_cases h3 : 1099511627776 < (b : Int)
  · have hr : rangeB ⟨k, a, b, c, ⟨sx, n, l⟩, ⟨ak, ai⟩, i, p⟩ = false := by
      unfold rangeB
      simp only [Bool.and_eq_false_iff, decide_eq_false_iff_not]
      omega
    rw [hr]
    exact rck_r3 k a b c (hiN n) (loN n) l ak ai i p sx w (decide_eq_false h0) (decide_eq_false h1) (decide_eq_false h2) (decide_eq_true h3)
  by_cases h4 : c < 0
  · have hr : rangeB ⟨k, a, b, c, ⟨sx, n, l⟩, ⟨ak, ai⟩, i, p⟩ = false := by
      unfold rangeB
      simp only [Bool.and_eq_false_iff, decide_eq_false_iff_not]
      omega
    rw [hr]
    exact rck_r4 k a b c (hiN n) (loN n) l ak ai i p sx w (decide_eq_false h0) (decide_eq_false h1) (decide_eq_false h2) (decide_eq_false h3) (decide_eq_true h4)
  by_cases h5 : 1099511627776 < c
  · have hr : rangeB ⟨k, a, b, c, ⟨sx, n, l⟩, ⟨ak, ai⟩, i, p⟩ = false := by
      unfold rangeB
      simp only [Bool.and_eq_false_iff, decide_eq_false_iff_not]
      omega
    rw [hr]
    exact rck_r5 k a b c (hiN n) (loN n) l ak ai i p sx w (decide_eq_false h0) (decide_eq_false h1) (decide_eq_false h2) (decide_eq_false h3) (decide_eq_false h4) (decide_eq_true h5)
  have hr : rangeB ⟨k, a, b, c, ⟨sx, n, l⟩, ⟨ak, ai⟩, i, p⟩ = true := by
    unfold rangeB
    simp only [Bool.and_eq_true, decide_eq_true_eq]
    omega
  rw [hr, Bool.true_and]
  replace h0 := decide_eq_false h0
  replace h1 := decide_eq_false h1
  replace h2 := decide_eq_false h2
  replace h3 := decide_eq_false h3
  replace h4 := decide_eq_false h4
  replace h5 := decide_eq_false h5
  have z0 := hi0
  have z1 := lo0
  generalize eqE (wantE ⟨k, a, b, c, ⟨sx, n, l⟩, ⟨ak, ai⟩, i, p⟩) ⟨k, a, b, c, ⟨sx, n, l⟩, ⟨ak, ai⟩, i, p⟩ = B3 at *
  by_cases k1 : k = 1
  · subst k1
    have hk : kindB ⟨1, a, b, c, ⟨sx, n, l⟩, ⟨ak, ai⟩, i, p⟩ = true := by unfold kindB; simp
    rw [hk]
    rw [Bool.true_and]
    refine rck_1 a b c (hiN n) (loN n) l ak ai i p sx w B3 h0 h1 h2 h3 h4 h5  ?_
    intro W
    have := hq W
    unfold wantE at this
    simp [zeroPf, zeroA, z0, z1] at this
    exact this
  by_cases k2 : k = 2
  · subst k2
    have hk : kindB ⟨2, a, b, c, ⟨sx, n, l⟩, ⟨ak, ai⟩, i, p⟩ = true := by unfold kindB; simp
    rw [hk]
    rw [Bool.true_and]
    refine rck_2 a b c (hiN n) (loN n) l ak ai i p sx w B3 h0 h1 h2 h3 h4 h5  ?_
    intro W
    have := hq W
    unfold wantE at this
    simp [zeroPf, zeroA, z0, z1] at this
    exact this
  by_cases k3 : k = 3
  · subst k3
    have hk : kindB ⟨3, a, b, c, ⟨sx, n, l⟩, ⟨ak, ai⟩, i, p⟩ = (okP ⟨sx, n, l⟩ && okA ⟨ak, ai⟩) := by unfold kindB; simp
    rw [hk]
    skip
    refine rck_3 a b c (hiN n) (loN n) l ak ai i p sx w _ _ B3 h0 h1 h2 h3 h4 h5 cP cA ?_
    intro W
    have := hq W
    unfold wantE at this
    simp at this
    exact this
  by_cases k4 : k = 4
  · subst k4
    have hk : kindB ⟨4, a, b, c, ⟨sx, n, l⟩, ⟨ak, ai⟩, i, p⟩ = okP ⟨sx, n, l⟩ := by unfold kindB; simp
    rw [hk]
    skip
    refine rck_4 a b c (hiN n) (loN n) l ak ai i p sx w _ B3 h0 h1 h2 h3 h4 h5 cP ?_
    intro W
    have := hq W
    unfold wantE at this
    simp [zeroA] at this
    exact this
  by_cases k5 : k = 5
  · subst k5
    have hk : kindB ⟨5, a, b, c, ⟨sx, n, l⟩, ⟨ak, ai⟩, i, p⟩ = ((decide (0 ≤ i) && decide (i ≤ 65536)) && (decide (0 ≤ p) && decide (p ≤ 1048576))) := by unfold kindB; simp
    rw [hk]
    skip
    refine rck_5 a b c (hiN n) (loN n) l ak ai i p sx w B3 h0 h1 h2 h3 h4 h5  ?_
    intro W
    have := hq W
    unfold wantE at this
    simp [zeroPf, zeroA, z0, z1] at this
    exact this
  by_cases k6 : k = 6
  · subst k6
    have hk : kindB ⟨6, a, b, c, ⟨sx, n, l⟩, ⟨ak, ai⟩, i, p⟩ = (decide (0 ≤ i) && decide (i ≤ 65536)) := by unfold kindB; simp
    rw [hk]
    skip
    refine rck_6 a b c (hiN n) (loN n) l ak ai i p sx w B3 h0 h1 h2 h3 h4 h5  ?_
    intro W
    have := hq W
    unfold wantE at this
    simp [zeroPf, zeroA, z0, z1] at this
    exact this
  have hk : kindB ⟨k, a, b, c, ⟨sx, n, l⟩, ⟨ak, ai⟩, i, p⟩ = false := by unfold kindB; simp [k1, k2, k3, k4, k5, k6]
  rw [hk]
  exact rck_o k a b c (hiN n) (loN n) l ak ai i p sx w h0 h1 h2 h3 h4 h5 (beq_eq_false_iff_ne.2 (by omega)) (beq_eq_false_iff_ne.2 (by omega)) (beq_eq_false_iff_ne.2 (by omega)) (beq_eq_false_iff_ne.2 (by omega)) (beq_eq_false_iff_ne.2 (by omega)) (beq_eq_false_iff_ne.2 (by omega))
end Go.Proofs.YtkjhnefbcnnjlaaGreat.Msg
namespace Go.Proofs.YtkjhnefbcnnjlaaGreat.Ord
open Go.RowKit
open Go.Proofs.YtkjhnefbcnnjlaaGreat.Msg (Ev okE checkE evV FitE rcheckE_any cells12')
open Go.Proofs.YtkjhnefbcnnjlaaGreat.Addr (RowAt below2 below_new RowAt.below RowAt.new RowAt.alloc cells4)
set_option maxHeartbeats 8000000 in
set_option maxRecDepth 20000 in
theorem rmay_walk (o : Option Addr) (n cp : Nat) (c0 c1 c2 c3 c5 c6 c7 c8 c9 c10 c11 : Int) (cs : Bool) (h : Int) (w : World) (E1 E2 : Int) (s0 s1 s2 : Int) (su is : Bool) (R : Int)
    (k1 : ∀ W : World, Below w.heap.size w W → Calls Tryz.prog 25 #[.slice o n cp] W fun e w' => e = .returned (.int .i64 E1) ∧ Below W.heap.size W w')
    (k2 : ∀ W : World, Calls Tryz.prog 62 #[.agg #[.int .u8 c0, .int .i64 c1, .int .u64 c2, .int .i64 c3, .bool cs, .int .u64 c5, .int .u64 c6, .int .i64 c7, .int .u8 c8, .int .i64 c9, .int .i64 c10, .int .i64 c11]] W fun e w' => e = .returned (.int .i64 E2) ∧ Below W.heap.size W w')
    (k3 : ∀ W : World, Below w.heap.size w W → Calls Tryz.prog 63 #[.slice o n cp, .int .i64 c1] W fun e w' => e = .returned (.tuple #[.agg #[.int .i64 s0, .int .u64 s1, .int .i64 s2, .bool su], .bool is]) ∧ Below W.heap.size W w')
    (A1 : E1 ≠ 0 → Hid (R = 2)) (A2 : E2 ≠ 0 → Hid (R = 2)) (A3 : E1 = 0 → E2 = 0 → (h < -1 ∨ 1099511627776 < h) → Hid (R = 1))
    (A4 : E1 = 0 → E2 = 0 → ¬ (h < -1 ∨ 1099511627776 < h) → (0 ≤ s1 ∧ s1 ≤ 1099511627776) ∧ (n : Int) ≤ 64 ∧
      ((is = false ∧ c0 ≠ 1 → Hid (R = 14)) ∧ (¬ (is = false ∧ c0 ≠ 1) → c2 ≠ s1 + 1 → Hid (R = 12)) ∧ (¬ (is = false ∧ c0 ≠ 1) → c2 = s1 + 1 → (c3 < s2 ∨ c3 ≤ h) → Hid (R = 13))
      ∧ (¬ (is = false ∧ c0 ≠ 1) → c2 = s1 + 1 → ¬ (c3 < s2 ∨ c3 ≤ h) → decide (c0 = 1) = su → Hid (R = 10))
      ∧ (¬ (is = false ∧ c0 ≠ 1) → c2 = s1 + 1 → ¬ (c3 < s2 ∨ c3 ≤ h) → decide (c0 = 1) ≠ su → (is = false ∧ (n : Int) = 64) → Hid (R = 8))
      ∧ (¬ (is = false ∧ c0 ≠ 1) → c2 = s1 + 1 → ¬ (c3 < s2 ∨ c3 ≤ h) → decide (c0 = 1) ≠ su → ¬ (is = false ∧ (n : Int) = 64) → Hid (R = 0)))) :
    Calls Tryz.prog 35 #[.slice o n cp, .agg #[.int .u8 c0, .int .i64 c1, .int .u64 c2, .int .i64 c3, .bool cs, .int .u64 c5, .int .u64 c6, .int .i64 c7, .int .u8 c8, .int .i64 c9, .int .i64 c10, .int .i64 c11], .int .i64 h] w fun e w' => e = .returned (.int .i64 R) ∧ Below w.heap.size w w' := by
  obtain ⟨X, hX⟩ : ∃ X, X = w.alloc (.cells #[.int .u8 c0, .int .i64 c1, .int .u64 c2, .int .i64 c3, .bool cs, .int .u64 c5, .int .u64 c6, .int .i64 c7, .int .u8 c8, .int .i64 c9, .int .i64 c10, .int .i64 c11] 38) := ⟨_, rfl⟩
  have hB : Below w.heap.size w X := by rw [hX]; exact below_new (Below.refl _ _) _
  have r0 : RowAt X w.heap.size [.int .u8 c0, .int .i64 c1, .int .u64 c2, .int .i64 c3, .bool cs, .int .u64 c5, .int .u64 c6, .int .i64 c7, .int .u8 c8, .int .i64 c9, .int .i64 c10, .int .i64 c11] 38 := by rw [hX]; exact RowAt.new _ _ _
  go_enter Tryz.func35, Tryz.ntmps35
  go_upto_region 1 with fail
  rw [← hX]
  clear hX
  go_wp2_with fail
  go_at_call 25; refine (k1 _ hB).mono ?_; rintro e w1 ⟨rfl, hb1⟩
  replace hB := below2 hB hb1
  replace r0 := RowAt.below r0 hb1
  clear hb1 k1
  obtain ⟨⟨y0, y1, y2, y3, y4, y5⟩, ⟨y6, y7, y8, y9, y10, y11⟩, yf, hly⟩ := cells12' r0
  by_cases z1 : E1 = 0
  rotate_left
  · have HV := A1 z1
    have q1 : (E1 == 0) = false := beq_eq_false_iff_ne.2 z1
    have q2 : (E1 != 0) = true := bne_iff_ne.2 z1
    clear A1 A2 A3 A4 z1 y0 y1 y2 y3 y4 y5 y6 y7 y8 y9 y10 y11 yf hly r0
    go_wp2_with fail
    go_ret
    exact ⟨by rw [HV.out]; rfl, hB⟩
  replace A3 := A3 z1
  replace A4 := A4 z1
  subst z1
  clear A1
  go_wp2_with fail
  go_at_call 62; refine (k2 _).mono ?_; rintro e w2 ⟨rfl, hb2⟩
  replace hB := below2 hB hb2
  replace r0 := RowAt.below r0 hb2
  clear y0 y1 y2 y3 y4 y5 y6 y7 y8 y9 y10 y11 yf hly hb2 k2
  obtain ⟨⟨y0, y1, y2, y3, y4, y5⟩, ⟨y6, y7, y8, y9, y10, y11⟩, yf, hly⟩ := cells12' r0
  by_cases z2 : E2 = 0
  rotate_left
  · have HV := A2 z2
    have q1 : (E2 == 0) = false := beq_eq_false_iff_ne.2 z2
    have q2 : (E2 != 0) = true := bne_iff_ne.2 z2
    clear A2 A3 A4 z2 y0 y1 y2 y3 y4 y5 y6 y7 y8 y9 y10 y11 yf hly r0
    go_wp2_with fail
    go_ret
    exact ⟨by rw [HV.out]; rfl, hB⟩
  replace A3 := A3 z2
  replace A4 := A4 z2
  subst z2
  clear A2
  by_cases z3 : h < -1
  · have HV := A3 (.inl z3)
    have q1 : decide (h < -1) = true := decide_eq_true z3
    clear A3 A4 y0 y1 y2 y3 y4 y5 y6 y7 y8 y9 y10 y11 yf hly r0
    go_wp2_with fail
    go_ret
    exact ⟨by rw [HV.out]; rfl, hB⟩
  by_cases z4 : 1099511627776 < h
  · have HV := A3 (.inr z4)
    have q1 : decide (h < -1) = false := decide_eq_false z3
    have q2 : decide (1099511627776 < h) = true := decide_eq_true z4
    clear A3 A4 y0 y1 y2 y3 y4 y5 y6 y7 y8 y9 y10 y11 yf hly r0
    go_wp2_with fail
    go_ret
    exact ⟨by rw [HV.out]; rfl, hB⟩
  obtain ⟨hs, hn, H1, H2, H3, H4, H5, H6⟩ := A4 (fun c => c.elim z3 z4)
  have p1 : decide (h < -1) = false := decide_eq_false z3
  have p2 : decide (1099511627776 < h) = false := decide_eq_false z4
  clear A3 A4 z3 z4
  have hwr : IntKind.u64.wrap (s1 + 1) = s1 + 1 := by rw [IntKind.wrap_u64]; omega
  go_upto_region 5 with fail
  clear p1 p2
  go_wp2_with fail
  go_at_call 63; refine (k3 _ hB).mono ?_; rintro e w3 ⟨rfl, hb1⟩
  replace hB := below2 hB hb1
  replace r0 := RowAt.below r0 hb1
  clear hb1 k3 y0 y1 y2 y3 y4 y5 y6 y7 y8 y9 y10 y11 yf hly
  obtain ⟨⟨y0, y1, y2, y3, y4, y5⟩, ⟨y6, y7, y8, y9, y10, y11⟩, yf, hly⟩ := cells12' r0
  go_upto_region 6 with fail
  obtain ⟨Y, hY⟩ : ∃ Y, Y = w3.alloc (.cells #[.int .i64 s0, .int .u64 s1, .int .i64 s2, .bool su] 70) := ⟨_, rfl⟩
  have hbY : Below w3.heap.size w3 Y := by rw [hY]; exact below_new (Below.refl _ _) _
  have r1 : RowAt Y w3.heap.size [.int .i64 s0, .int .u64 s1, .int .i64 s2, .bool su] 70 := by rw [hY]; exact RowAt.new _ _ _
  rw [← hY]
  replace r0 := RowAt.below r0 hbY
  replace hB := below2 hB hbY
  clear hY hbY y0 y1 y2 y3 y4 y5 y6 y7 y8 y9 y10 y11 yf hly
  generalize w3.heap.size = g1 at r1 ⊢
  obtain ⟨⟨y0, y1, y2, y3, y4, y5⟩, ⟨y6, y7, y8, y9, y10, y11⟩, yf, hly⟩ := cells12' r0
  obtain ⟨x0, x1, x2, x3, xf⟩ := cells4 r1
  clear r0 r1
  generalize hs1 : s1 + 1 = t1 at *
  by_cases b1 : is = false ∧ c0 ≠ 1
  · have HV := H1 b1
    obtain ⟨rfl, b2⟩ := b1
    have q1 : (c0 == 1) = false := beq_eq_false_iff_ne.2 b2
    have q1' : (c0 != 1) = true := bne_iff_ne.2 b2
    clear H1 H2 H3 H4 H5 H6 b2
    go_wp2_with fail
    go_ret
    exact ⟨by rw [HV.out]; rfl, hB⟩
  replace H2 := H2 b1
  replace H3 := H3 b1
  replace H4 := H4 b1
  replace H5 := H5 b1
  replace H6 := H6 b1
  clear H1
  have hc : (is = true ∧ ((c0 == 1) = false ∨ c0 = 1)) ∨ (is = false ∧ c0 = 1) := by
    by_cases b2 : c0 = 1
    · cases is
      · exact .inr ⟨rfl, b2⟩
      · exact .inl ⟨rfl, .inr b2⟩
    · cases is
      · exact absurd ⟨rfl, b2⟩ b1
      · exact .inl ⟨rfl, .inl (beq_eq_false_iff_ne.2 b2)⟩
  clear b1
  by_cases b3 : c2 = t1
  · replace H3 := H3 b3
    replace H4 := H4 b3
    replace H5 := H5 b3
    replace H6 := H6 b3
    clear H2
    subst b3
    by_cases b4 : c3 < s2 ∨ c3 ≤ h
    · have HV := H3 b4
      clear H3 H4 H5 H6
      by_cases b5 : c3 < s2
      · have q3 : decide (c3 < s2) = true := decide_eq_true b5
        rcases hc with ⟨rfl, q1 | rfl⟩ | ⟨rfl, rfl⟩
        all_goals
          go_wp2_with fail
          go_ret
          exact ⟨by rw [HV.out]; rfl, hB⟩
      · have q3 : decide (c3 < s2) = false := decide_eq_false b5
        have q4 : decide (c3 ≤ h) = true := decide_eq_true (b4.resolve_left b5)
        rcases hc with ⟨rfl, q1 | rfl⟩ | ⟨rfl, rfl⟩
        all_goals
          go_wp2_with fail
          go_ret
          exact ⟨by rw [HV.out]; rfl, hB⟩
    · have q3 : decide (c3 < s2) = false := decide_eq_false (fun c => b4 (.inl c))
      have q4 : decide (c3 ≤ h) = false := decide_eq_false (fun c => b4 (.inr c))
      replace H4 := H4 b4
      replace H5 := H5 b4
      replace H6 := H6 b4
      clear H3 b4
      rcases hc with ⟨rfl, q1 | rfl⟩ | ⟨rfl, rfl⟩
      · have e1 : decide (c0 = 1) = false := decide_eq_false (beq_eq_false_iff_ne.1 q1)
        cases su
        · have HV := H4 e1
          clear H4 H5 H6 e1
          go_wp2_with fail
          go_ret
          exact ⟨by rw [HV.out]; rfl, hB⟩
        · have HV := H6 (by rw [e1]; decide) (fun c => absurd c.1 (by decide))
          clear H4 H5 H6 e1
          go_wp2_with fail
          go_ret
          exact ⟨by rw [HV.out]; rfl, hB⟩
      · cases su
        · have HV := H6 (by decide) (fun c => absurd c.1 (by decide))
          clear H4 H5 H6
          go_wp2_with fail
          go_ret
          exact ⟨by rw [HV.out]; rfl, hB⟩
        · have HV := H4 (by decide)
          clear H4 H5 H6
          go_wp2_with fail
          go_ret
          exact ⟨by rw [HV.out]; rfl, hB⟩
      · cases su
        · by_cases b6 : (n : Int) = 64
          · have HV := H5 (by decide) ⟨rfl, b6⟩
            have q6 : ((n : Int) == 64) = true := by rw [b6]; rfl
            have q7 : (n == 64) = true := by simp; omega
            clear H4 H5 H6 b6
            go_wp2_with fail
            go_ret
            exact ⟨by rw [HV.out]; rfl, hB⟩
          · have HV := H6 (by decide) (fun c => b6 c.2)
            have q6 : ((n : Int) == 64) = false := beq_eq_false_iff_ne.2 b6
            have q7 : (n == 64) = false := beq_eq_false_iff_ne.2 (by omega)
            clear H4 H5 H6 b6
            go_wp2_with fail
            go_ret
            exact ⟨by rw [HV.out]; rfl, hB⟩
        · have HV := H4 (by decide)
          clear H4 H5 H6
          go_wp2_with fail
          go_ret
          exact ⟨by rw [HV.out]; rfl, hB⟩
  · have HV := H2 b3
    have q2 : (c2 == t1) = false := beq_eq_false_iff_ne.2 b3
    have q3 : (c2 != t1) = true := bne_iff_ne.2 b3
    clear H2 H3 H4 H5 H6 b3
    rcases hc with ⟨rfl, q1 | rfl⟩ | ⟨rfl, rfl⟩
    all_goals
      go_wp2_with fail
      go_ret
      exact ⟨by rw [HV.out]; rfl, hB⟩
theorem rmay_any (l : List St) (v : Value) (e : Ev) (h : Int) (w : World) (hl : HasSts w v l) (hf : FitE e) :
    Calls Tryz.prog 35 #[v, evV e, .int .i64 h] w fun r w' => r = .returned (.int .i64 (mayL l e h)) ∧ Below w.heap.size w w' := by
  obtain ⟨o, c, rfl, hc1, hc2⟩ := HasRow.slice hl
  have e1 : checkL l = if okL l = true then 0 else 2 := rfl
  have e2 : checkE e = if okE e = true then 0 else 2 := rfl
  refine rmay_walk o l.length c _ _ _ _ _ _ _ _ _ _ _ _ h w (checkL l) (checkE e) (seatOf l e.router).router ((seatOf l e.router).seq : Int) (seatOf l e.router).time (seatOf l e.router).up (isIn l e.router) _ (fun W hb => rcheck_any l _ W (hl.keep hb)) (fun W => rcheckE_any e W hf) (fun W hb => rfind_any l _ e.router W (hl.keep hb)) ?_ ?_ ?_ ?_
  · intro h1
    have ha : askL l e h = 2 := by
      unfold askL
      cases hk : okL l with
      | true => rw [e1, hk] at h1; exact absurd rfl h1
      | false => rfl
    show _ = _
    unfold mayL
    rw [if_neg (by rw [ha]; decide), ha]
  · intro h1
    have ha : askL l e h = 2 := by
      unfold askL
      cases hk : okE e with
      | true => rw [e2, hk] at h1; exact absurd rfl h1
      | false => rw [Bool.and_false]; rfl
    show _ = _
    unfold mayL
    rw [if_neg (by rw [ha]; decide), ha]
  · intro h1 h2 h3
    have hk : okL l = true := by
      cases hk : okL l with
      | true => rfl
      | false => rw [e1, hk] at h1; exact absurd h1 (by decide)
    have hk2 : okE e = true := by
      cases hk : okE e with
      | true => rfl
      | false => rw [e2, hk] at h2; exact absurd h2 (by decide)
    have ha : askL l e h = 1 := by
      unfold askL
      rw [hk, hk2]
      show (if h < -1 ∨ 1099511627776 < h then (1 : Int) else 0) = 1
      rw [if_pos h3]
    show _ = _
    unfold mayL
    rw [if_neg (by rw [ha]; decide), ha]
  · intro h1 h2 h3
    have hk : okL l = true := by
      cases hk : okL l with
      | true => rfl
      | false => rw [e1, hk] at h1; exact absurd h1 (by decide)
    have hk2 : okE e = true := by
      cases hk : okE e with
      | true => rfl
      | false => rw [e2, hk] at h2; exact absurd h2 (by decide)
    have ha : askL l e h = 0 := by
      unfold askL
      rw [hk, hk2]
      show (if h < -1 ∨ 1099511627776 < h then (1 : Int) else 0) = 0
      rw [if_neg h3]
    have hm : mayL l e h = misL l e h := by unfold mayL; rw [if_pos ha]
    have hn := (okL_all hk).1
    refine ⟨seat_bd hk e.router, by omega, ?_⟩
    rw [hm]
    unfold misL
    generalize isIn l e.router = is
    generalize seatOf l e.router = s
    refine ⟨?_, ?_, ?_, ?_, ?_, ?_⟩
    · rintro ⟨h1, h2⟩
      show _ = _
      rw [if_pos ⟨h1, by omega⟩]
    · intro h1 h2
      show _ = _
      rw [if_neg (fun c => h1 ⟨c.1, by omega⟩), if_pos (by omega)]
    · intro h1 h2 h3
      show _ = _
      rw [if_neg (fun c => h1 ⟨c.1, by omega⟩), if_neg (by omega), if_pos h3]
    · intro h1 h2 h3 h4
      have h4' : decide (e.kind = 1) = s.up := by rw [← h4]; exact decide_eq_decide.2 (by omega)
      show _ = _
      rw [if_neg (fun c => h1 ⟨c.1, by omega⟩), if_neg (by omega), if_neg h3, if_pos h4']
    · intro h1 h2 h3 h4 h5
      have h4' : ¬ decide (e.kind = 1) = s.up := by intro c; apply h4; rw [← c]; exact decide_eq_decide.2 (by omega)
      show _ = _
      rw [if_neg (fun c => h1 ⟨c.1, by omega⟩), if_neg (by omega), if_neg h3, if_neg h4', if_pos ⟨h5.1, by omega⟩]
    · intro h1 h2 h3 h4 h5
      have h4' : ¬ decide (e.kind = 1) = s.up := by intro c; apply h4; rw [← c]; exact decide_eq_decide.2 (by omega)
      show _ = _
      rw [if_neg (fun c => h1 ⟨c.1, by omega⟩), if_neg (by omega), if_neg h3, if_neg h4', if_neg (fun c => h5 ⟨c.1, by omega⟩)]
end Go.Proofs.YtkjhnefbcnnjlaaGreat.Ord
