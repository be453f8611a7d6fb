/- For every text and piece that hold together at most 1048576 values and letters (the second form): spoorlaw13.GramReads returns true, and changes nothing that was there. -/
import Derived.Test.YtopabkkapbaibaaGreatGramTX
import Derived.Test.YtopabkkapbaibaaGreatGramReadsA
import Derived.Deep.QuietTactic
import Derived.BigQuiet
import Derived.Test.YtopabkkapbaibaaGreatRows
import Derived.Test.YtopabkkapbaibaaGreatUptoKit
import Derived.ProofKit
import Derived.OpenShut
import Derived.ShutString
import Derived.SizedLaws
set_option linter.unusedVariables false
namespace Go.Proofs.YtopabkkapbaibaaGreat.Gram
open Go.RowKit Go.Shelf
open Go.Proofs.YtopabkkapbaibaaGreat.Addr (hiN loN RowAt below2 below_drew below_new bset RowAt.lt RowAt.cell RowAt.frozen RowAt.below RowAt.drew RowAt.new RowAt.alloc cells2 cells4 results_cell)
open Go.Proofs.YtopabkkapbaibaaGreat.Msg (Ev evV evC getE rgetE_any zeroE zeroC cells12 results_cell_tmp1)
set_option maxHeartbeats 4000000 in
set_option maxRecDepth 20000 in
theorem rof_bad (k : Int) (B : ByteArray) (w : World) (h1 : ¬ k = 1) (h2 : ¬ k = 2) (h3 : ¬ k = 3) : Calls Tryz.prog 5 #[.agg #[.int .u8 k, .string B]] w fun e w' => e = .returned (.tuple #[.agg #[.int .u8 0, .int .i64 0, .int .u64 0, .int .i64 0, .bool false, .int .u64 0, .int .u64 0, .int .i64 0, .int .u8 0, .int .i64 0, .int .i64 0, .int .i64 0, .int .i64 0], .int .i64 2]) ∧ Below w.heap.size w w' := by
  obtain ⟨X, hX⟩ : ∃ X, X = (w.alloc (.cells #[.int .u8 k, .string B] 24)).alloc (.cells #[.int .u8 0, .int .i64 0, .int .u64 0, .int .i64 0, .bool false, .int .u64 0, .int .u64 0, .int .i64 0, .int .u8 0, .int .i64 0, .int .i64 0, .int .i64 0, .int .i64 0] 38) := ⟨_, rfl⟩
  have hB : Below w.heap.size w X := by rw [hX]; exact below_new (below_new (Below.refl _ _) _) _
  have rx : RowAt X (w.heap.size + 1) [.int .u8 0, .int .i64 0, .int .u64 0, .int .i64 0, .bool false, .int .u64 0, .int .u64 0, .int .i64 0, .int .u8 0, .int .i64 0, .int .i64 0, .int .i64 0, .int .i64 0] 38 := by rw [hX, ← World.size_alloc w (.cells #[.int .u8 k, .string B] 24)]; exact RowAt.new _ _ _
  have rp : RowAt X w.heap.size [.int .u8 k, .string B] 24 := by rw [hX]; exact (RowAt.new _ _ _).alloc _
  have hgw : w.heap.size ≤ w.heap.size + 1 := Nat.le_succ _
  go_enter Tryz.func5, Tryz.ntmps5
  go_upto_region 1 with fail
  rw [← hX]
  clear hX
  obtain ⟨r0, r1, rf⟩ := cells2 rp
  obtain ⟨⟨y0, y1, y2, y3, y4, y5⟩, ⟨y6, y7, y8, y9, y10, y11, y12⟩, yf, yl⟩ := cells13 rx
  go_wp2_with fail
  refine bodyPost_ret (v := .tuple #[.agg #[.int .u8 0, .int .i64 0, .int .u64 0, .int .i64 0, .bool false, .int .u64 0, .int .u64 0, .int .i64 0, .int .u8 0, .int .i64 0, .int .i64 0, .int .i64 0, .int .i64 0], .int .i64 2]) ?_ rfl ⟨rfl, ?_⟩
  · rw [results_cell_tmp1 rfl]
    go_simp
  · repeat' (first | with_reducible exact hB | with_reducible refine bset ?_ (by omega))
set_option maxHeartbeats 4000000 in
set_option maxRecDepth 20000 in
theorem rof_2e (B : ByteArray) (w : World) (hB0 : B.toList.isEmpty = true) : Calls Tryz.prog 5 #[.agg #[.int .u8 2, .string B]] w fun e w' => e = .returned (.tuple #[.agg #[.int .u8 0, .int .i64 0, .int .u64 0, .int .i64 0, .bool false, .int .u64 0, .int .u64 0, .int .i64 0, .int .u8 0, .int .i64 0, .int .i64 0, .int .i64 0, .int .i64 7], .int .i64 0]) ∧ Below w.heap.size w w' := by
  obtain ⟨X, hX⟩ : ∃ X, X = (w.alloc (.cells #[.int .u8 2, .string B] 24)).alloc (.cells #[.int .u8 0, .int .i64 0, .int .u64 0, .int .i64 0, .bool false, .int .u64 0, .int .u64 0, .int .i64 0, .int .u8 0, .int .i64 0, .int .i64 0, .int .i64 0, .int .i64 0] 38) := ⟨_, rfl⟩
  have hB : Below w.heap.size w X := by rw [hX]; exact below_new (below_new (Below.refl _ _) _) _
  have rx : RowAt X (w.heap.size + 1) [.int .u8 0, .int .i64 0, .int .u64 0, .int .i64 0, .bool false, .int .u64 0, .int .u64 0, .int .i64 0, .int .u8 0, .int .i64 0, .int .i64 0, .int .i64 0, .int .i64 0] 38 := by rw [hX, ← World.size_alloc w (.cells #[.int .u8 2, .string B] 24)]; exact RowAt.new _ _ _
  have rp : RowAt X w.heap.size [.int .u8 2, .string B] 24 := by rw [hX]; exact (RowAt.new _ _ _).alloc _
  have hgw : w.heap.size ≤ w.heap.size + 1 := Nat.le_succ _
  go_enter Tryz.func5, Tryz.ntmps5
  go_upto_region 1 with fail
  rw [← hX]
  clear hX
  obtain ⟨r0, r1, rf⟩ := cells2 rp
  obtain ⟨⟨y0, y1, y2, y3, y4, y5⟩, ⟨y6, y7, y8, y9, y10, y11, y12⟩, yf, yl⟩ := cells13 rx
  go_wp2_with fail
  refine bodyPost_ret (v := .tuple #[.agg #[.int .u8 0, .int .i64 0, .int .u64 0, .int .i64 0, .bool false, .int .u64 0, .int .u64 0, .int .i64 0, .int .u8 0, .int .i64 0, .int .i64 0, .int .i64 0, .int .i64 7], .int .i64 0]) ?_ rfl ⟨rfl, ?_⟩
  · rw [results_cell_tmp1 rfl]
    go_simp
  · repeat' (first | with_reducible exact hB | with_reducible refine bset ?_ (by omega))
set_option maxHeartbeats 4000000 in
set_option maxRecDepth 20000 in
theorem rof_2n (B : ByteArray) (w : World) (hB0 : B.toList.isEmpty = false) : Calls Tryz.prog 5 #[.agg #[.int .u8 2, .string B]] w fun e w' => e = .returned (.tuple #[.agg #[.int .u8 0, .int .i64 0, .int .u64 0, .int .i64 0, .bool false, .int .u64 0, .int .u64 0, .int .i64 0, .int .u8 0, .int .i64 0, .int .i64 0, .int .i64 0, .int .i64 0], .int .i64 2]) ∧ Below w.heap.size w w' := by
  obtain ⟨X, hX⟩ : ∃ X, X = (w.alloc (.cells #[.int .u8 2, .string B] 24)).alloc (.cells #[.int .u8 0, .int .i64 0, .int .u64 0, .int .i64 0, .bool false, .int .u64 0, .int .u64 0, .int .i64 0, .int .u8 0, .int .i64 0, .int .i64 0, .int .i64 0, .int .i64 0] 38) := ⟨_, rfl⟩
  have hB : Below w.heap.size w X := by rw [hX]; exact below_new (below_new (Below.refl _ _) _) _
  have rx : RowAt X (w.heap.size + 1) [.int .u8 0, .int .i64 0, .int .u64 0, .int .i64 0, .bool false, .int .u64 0, .int .u64 0, .int .i64 0, .int .u8 0, .int .i64 0, .int .i64 0, .int .i64 0, .int .i64 0] 38 := by rw [hX, ← World.size_alloc w (.cells #[.int .u8 2, .string B] 24)]; exact RowAt.new _ _ _
  have rp : RowAt X w.heap.size [.int .u8 2, .string B] 24 := by rw [hX]; exact (RowAt.new _ _ _).alloc _
  have hgw : w.heap.size ≤ w.heap.size + 1 := Nat.le_succ _
  go_enter Tryz.func5, Tryz.ntmps5
  go_upto_region 1 with fail
  rw [← hX]
  clear hX
  obtain ⟨r0, r1, rf⟩ := cells2 rp
  obtain ⟨⟨y0, y1, y2, y3, y4, y5⟩, ⟨y6, y7, y8, y9, y10, y11, y12⟩, yf, yl⟩ := cells13 rx
  go_wp2_with fail
  refine bodyPost_ret (v := .tuple #[.agg #[.int .u8 0, .int .i64 0, .int .u64 0, .int .i64 0, .bool false, .int .u64 0, .int .u64 0, .int .i64 0, .int .u8 0, .int .i64 0, .int .i64 0, .int .i64 0, .int .i64 0], .int .i64 2]) ?_ rfl ⟨rfl, ?_⟩
  · rw [results_cell_tmp1 rfl]
    go_simp
  · repeat' (first | with_reducible exact hB | with_reducible refine bset ?_ (by omega))
set_option maxHeartbeats 4000000 in
set_option maxRecDepth 20000 in
theorem rof_3e (B : ByteArray) (w : World) (hB0 : B.toList.isEmpty = true) : Calls Tryz.prog 5 #[.agg #[.int .u8 3, .string B]] w fun e w' => e = .returned (.tuple #[.agg #[.int .u8 0, .int .i64 0, .int .u64 0, .int .i64 0, .bool false, .int .u64 0, .int .u64 0, .int .i64 0, .int .u8 0, .int .i64 0, .int .i64 0, .int .i64 0, .int .i64 11], .int .i64 0]) ∧ Below w.heap.size w w' := by
  obtain ⟨X, hX⟩ : ∃ X, X = (w.alloc (.cells #[.int .u8 3, .string B] 24)).alloc (.cells #[.int .u8 0, .int .i64 0, .int .u64 0, .int .i64 0, .bool false, .int .u64 0, .int .u64 0, .int .i64 0, .int .u8 0, .int .i64 0, .int .i64 0, .int .i64 0, .int .i64 0] 38) := ⟨_, rfl⟩
  have hB : Below w.heap.size w X := by rw [hX]; exact below_new (below_new (Below.refl _ _) _) _
  have rx : RowAt X (w.heap.size + 1) [.int .u8 0, .int .i64 0, .int .u64 0, .int .i64 0, .bool false, .int .u64 0, .int .u64 0, .int .i64 0, .int .u8 0, .int .i64 0, .int .i64 0, .int .i64 0, .int .i64 0] 38 := by rw [hX, ← World.size_alloc w (.cells #[.int .u8 3, .string B] 24)]; exact RowAt.new _ _ _
  have rp : RowAt X w.heap.size [.int .u8 3, .string B] 24 := by rw [hX]; exact (RowAt.new _ _ _).alloc _
  have hgw : w.heap.size ≤ w.heap.size + 1 := Nat.le_succ _
  go_enter Tryz.func5, Tryz.ntmps5
  go_upto_region 1 with fail
  rw [← hX]
  clear hX
  obtain ⟨r0, r1, rf⟩ := cells2 rp
  obtain ⟨⟨y0, y1, y2, y3, y4, y5⟩, ⟨y6, y7, y8, y9, y10, y11, y12⟩, yf, yl⟩ := cells13 rx
  go_wp2_with fail
  refine bodyPost_ret (v := .tuple #[.agg #[.int .u8 0, .int .i64 0, .int .u64 0, .int .i64 0, .bool false, .int .u64 0, .int .u64 0, .int .i64 0, .int .u8 0, .int .i64 0, .int .i64 0, .int .i64 0, .int .i64 11], .int .i64 0]) ?_ rfl ⟨rfl, ?_⟩
  · rw [results_cell_tmp1 rfl]
    go_simp
  · repeat' (first | with_reducible exact hB | with_reducible refine bset ?_ (by omega))
set_option maxHeartbeats 4000000 in
set_option maxRecDepth 20000 in
theorem rof_3n (B : ByteArray) (w : World) (hB0 : B.toList.isEmpty = false) : Calls Tryz.prog 5 #[.agg #[.int .u8 3, .string B]] w fun e w' => e = .returned (.tuple #[.agg #[.int .u8 0, .int .i64 0, .int .u64 0, .int .i64 0, .bool false, .int .u64 0, .int .u64 0, .int .i64 0, .int .u8 0, .int .i64 0, .int .i64 0, .int .i64 0, .int .i64 0], .int .i64 2]) ∧ Below w.heap.size w w' := by
  obtain ⟨X, hX⟩ : ∃ X, X = (w.alloc (.cells #[.int .u8 3, .string B] 24)).alloc (.cells #[.int .u8 0, .int .i64 0, .int .u64 0, .int .i64 0, .bool false, .int .u64 0, .int .u64 0, .int .i64 0, .int .u8 0, .int .i64 0, .int .i64 0, .int .i64 0, .int .i64 0] 38) := ⟨_, rfl⟩
  have hB : Below w.heap.size w X := by rw [hX]; exact below_new (below_new (Below.refl _ _) _) _
  have rx : RowAt X (w.heap.size + 1) [.int .u8 0, .int .i64 0, .int .u64 0, .int .i64 0, .bool false, .int .u64 0, .int .u64 0, .int .i64 0, .int .u8 0, .int .i64 0, .int .i64 0, .int .i64 0, .int .i64 0] 38 := by rw [hX, ← World.size_alloc w (.cells #[.int .u8 3, .string B] 24)]; exact RowAt.new _ _ _
  have rp : RowAt X w.heap.size [.int .u8 3, .string B] 24 := by rw [hX]; exact (RowAt.new _ _ _).alloc _
  have hgw : w.heap.size ≤ w.heap.size + 1 := Nat.le_succ _
  go_enter Tryz.func5, Tryz.ntmps5
  go_upto_region 1 with fail
  rw [← hX]
  clear hX
  obtain ⟨r0, r1, rf⟩ := cells2 rp
  obtain ⟨⟨y0, y1, y2, y3, y4, y5⟩, ⟨y6, y7, y8, y9, y10, y11, y12⟩, yf, yl⟩ := cells13 rx
  go_wp2_with fail
  refine bodyPost_ret (v := .tuple #[.agg #[.int .u8 0, .int .i64 0, .int .u64 0, .int .i64 0, .bool false, .int .u64 0, .int .u64 0, .int .i64 0, .int .u8 0, .int .i64 0, .int .i64 0, .int .i64 0, .int .i64 0], .int .i64 2]) ?_ rfl ⟨rfl, ?_⟩
  · rw [results_cell_tmp1 rfl]
    go_simp
  · repeat' (first | with_reducible exact hB | with_reducible refine bset ?_ (by omega))
set_option maxHeartbeats 4000000 in
set_option maxRecDepth 20000 in
theorem rof_1ok (B : ByteArray) (w : World) (ek es nh nl ak : Nat) (er et ln ai ei ee : Int) (s6 : Bool) (c1 : ∀ W : World, Calls Tryz.prog 15 #[.string B] W fun e w' => e = .returned (.tuple #[.agg #[.int .u8 (ek : Int), .int .i64 er, .int .u64 (es : Int), .int .i64 et, .bool s6, .int .u64 (nh : Int), .int .u64 (nl : Int), .int .i64 ln, .int .u8 (ak : Int), .int .i64 ai, .int .i64 ei, .int .i64 ee], .int .i64 0]) ∧ Below W.heap.size W w') : Calls Tryz.prog 5 #[.agg #[.int .u8 1, .string B]] w fun e w' => e = .returned (.tuple #[.agg #[.int .u8 (ek : Int), .int .i64 er, .int .u64 (es : Int), .int .i64 et, .bool s6, .int .u64 (nh : Int), .int .u64 (nl : Int), .int .i64 ln, .int .u8 (ak : Int), .int .i64 ai, .int .i64 ei, .int .i64 ee, .int .i64 0], .int .i64 0]) ∧ Below w.heap.size w w' := by
  obtain ⟨X, hX⟩ : ∃ X, X = (w.alloc (.cells #[.int .u8 1, .string B] 24)).alloc (.cells #[.int .u8 0, .int .i64 0, .int .u64 0, .int .i64 0, .bool false, .int .u64 0, .int .u64 0, .int .i64 0, .int .u8 0, .int .i64 0, .int .i64 0, .int .i64 0, .int .i64 0] 38) := ⟨_, rfl⟩
  have hB : Below w.heap.size w X := by rw [hX]; exact below_new (below_new (Below.refl _ _) _) _
  have rx : RowAt X (w.heap.size + 1) [.int .u8 0, .int .i64 0, .int .u64 0, .int .i64 0, .bool false, .int .u64 0, .int .u64 0, .int .i64 0, .int .u8 0, .int .i64 0, .int .i64 0, .int .i64 0, .int .i64 0] 38 := by rw [hX, ← World.size_alloc w (.cells #[.int .u8 1, .string B] 24)]; exact RowAt.new _ _ _
  have rp : RowAt X w.heap.size [.int .u8 1, .string B] 24 := by rw [hX]; exact (RowAt.new _ _ _).alloc _
  have hgw : w.heap.size ≤ w.heap.size + 1 := Nat.le_succ _
  go_enter Tryz.func5, Tryz.ntmps5
  go_upto_region 1 with fail
  rw [← hX]
  clear hX
  obtain ⟨r0, r1, rf⟩ := cells2 rp
  go_wp2_with fail
  go_at_call 15; refine (c1 _).mono ?_; rintro e w1 ⟨rfl, hb1⟩
  replace rx := RowAt.below rx hb1
  replace hB := below2 hB hb1
  clear hb1 c1 r0 r1 rf rp
  go_upto_region 4 with fail
  obtain ⟨Y, hY⟩ : ∃ Y, Y = w1.alloc (.cells #[.int .u8 (ek : Int), .int .i64 er, .int .u64 (es : Int), .int .i64 et, .bool s6, .int .u64 (nh : Int), .int .u64 (nl : Int), .int .i64 ln, .int .u8 (ak : Int), .int .i64 ai, .int .i64 ei, .int .i64 ee] 35) := ⟨_, rfl⟩
  have hbY : Below w1.heap.size w1 Y := by rw [hY]; exact below_new (Below.refl _ _) _
  have ry : RowAt Y w1.heap.size [.int .u8 (ek : Int), .int .i64 er, .int .u64 (es : Int), .int .i64 et, .bool s6, .int .u64 (nh : Int), .int .u64 (nl : Int), .int .i64 ln, .int .u8 (ak : Int), .int .i64 ai, .int .i64 ei, .int .i64 ee] 35 := by rw [hY]; exact RowAt.new _ _ _
  rw [← hY]
  have hne : w1.heap.size ≠ w.heap.size + 1 := by have := RowAt.lt rx; omega
  replace rx := RowAt.below rx hbY
  replace hB := below2 hB hbY
  clear hY hbY
  generalize w1.heap.size = g1 at ry hne ⊢
  have hne2 : w.heap.size + 1 ≠ g1 := fun e => hne e.symm
  obtain ⟨⟨z0, z1, z2, z3, z4, z5⟩, ⟨z6, z7, z8, z9, z10, z11⟩, zf⟩ := cells12 ry
  obtain ⟨⟨y0, y1, y2, y3, y4, y5⟩, ⟨y6, y7, y8, y9, y10, y11, y12⟩, yf, yl⟩ := cells13 rx
  go_wp2_with fail
  refine bodyPost_ret (v := .tuple #[.agg #[.int .u8 (ek : Int), .int .i64 er, .int .u64 (es : Int), .int .i64 et, .bool s6, .int .u64 (nh : Int), .int .u64 (nl : Int), .int .i64 ln, .int .u8 (ak : Int), .int .i64 ai, .int .i64 ei, .int .i64 ee, .int .i64 0], .int .i64 0]) ?_ rfl ⟨rfl, ?_⟩
  · rw [results_cell_tmp1 rfl]
    go_simp
  · repeat' (first | with_reducible exact hB | with_reducible refine bset ?_ (by omega))
set_option maxHeartbeats 4000000 in
set_option maxRecDepth 20000 in
theorem rof_1no (B : ByteArray) (w : World) (ek es nh nl ak : Nat) (er et ln ai ei ee : Int) (s6 : Bool) (y : Int) (hy : (y != 0) = true) (c1 : ∀ W : World, Calls Tryz.prog 15 #[.string B] W fun e w' => e = .returned (.tuple #[.agg #[.int .u8 (ek : Int), .int .i64 er, .int .u64 (es : Int), .int .i64 et, .bool s6, .int .u64 (nh : Int), .int .u64 (nl : Int), .int .i64 ln, .int .u8 (ak : Int), .int .i64 ai, .int .i64 ei, .int .i64 ee], .int .i64 y]) ∧ Below W.heap.size W w') : Calls Tryz.prog 5 #[.agg #[.int .u8 1, .string B]] w fun e w' => e = .returned (.tuple #[.agg #[.int .u8 0, .int .i64 0, .int .u64 0, .int .i64 0, .bool false, .int .u64 0, .int .u64 0, .int .i64 0, .int .u8 0, .int .i64 0, .int .i64 0, .int .i64 0, .int .i64 2], .int .i64 0]) ∧ Below w.heap.size w w' := by
  obtain ⟨X, hX⟩ : ∃ X, X = (w.alloc (.cells #[.int .u8 1, .string B] 24)).alloc (.cells #[.int .u8 0, .int .i64 0, .int .u64 0, .int .i64 0, .bool false, .int .u64 0, .int .u64 0, .int .i64 0, .int .u8 0, .int .i64 0, .int .i64 0, .int .i64 0, .int .i64 0] 38) := ⟨_, rfl⟩
  have hB : Below w.heap.size w X := by rw [hX]; exact below_new (below_new (Below.refl _ _) _) _
  have rx : RowAt X (w.heap.size + 1) [.int .u8 0, .int .i64 0, .int .u64 0, .int .i64 0, .bool false, .int .u64 0, .int .u64 0, .int .i64 0, .int .u8 0, .int .i64 0, .int .i64 0, .int .i64 0, .int .i64 0] 38 := by rw [hX, ← World.size_alloc w (.cells #[.int .u8 1, .string B] 24)]; exact RowAt.new _ _ _
  have rp : RowAt X w.heap.size [.int .u8 1, .string B] 24 := by rw [hX]; exact (RowAt.new _ _ _).alloc _
  have hgw : w.heap.size ≤ w.heap.size + 1 := Nat.le_succ _
  go_enter Tryz.func5, Tryz.ntmps5
  go_upto_region 1 with fail
  rw [← hX]
  clear hX
  obtain ⟨r0, r1, rf⟩ := cells2 rp
  go_wp2_with fail
  go_at_call 15; refine (c1 _).mono ?_; rintro e w1 ⟨rfl, hb1⟩
  replace rx := RowAt.below rx hb1
  replace hB := below2 hB hb1
  clear hb1 c1 r0 r1 rf rp
  go_upto_region 4 with fail
  obtain ⟨Y, hY⟩ : ∃ Y, Y = w1.alloc (.cells #[.int .u8 (ek : Int), .int .i64 er, .int .u64 (es : Int), .int .i64 et, .bool s6, .int .u64 (nh : Int), .int .u64 (nl : Int), .int .i64 ln, .int .u8 (ak : Int), .int .i64 ai, .int .i64 ei, .int .i64 ee] 35) := ⟨_, rfl⟩
  have hbY : Below w1.heap.size w1 Y := by rw [hY]; exact below_new (Below.refl _ _) _
  have ry : RowAt Y w1.heap.size [.int .u8 (ek : Int), .int .i64 er, .int .u64 (es : Int), .int .i64 et, .bool s6, .int .u64 (nh : Int), .int .u64 (nl : Int), .int .i64 ln, .int .u8 (ak : Int), .int .i64 ai, .int .i64 ei, .int .i64 ee] 35 := by rw [hY]; exact RowAt.new _ _ _
  rw [← hY]
  have hne : w1.heap.size ≠ w.heap.size + 1 := by have := RowAt.lt rx; omega
  replace rx := RowAt.below rx hbY
  replace hB := below2 hB hbY
  clear hY hbY
  generalize w1.heap.size = g1 at ry hne ⊢
  have hne2 : w.heap.size + 1 ≠ g1 := fun e => hne e.symm
  obtain ⟨⟨z0, z1, z2, z3, z4, z5⟩, ⟨z6, z7, z8, z9, z10, z11⟩, zf⟩ := cells12 ry
  obtain ⟨⟨y0, y1, y2, y3, y4, y5⟩, ⟨y6, y7, y8, y9, y10, y11, y12⟩, yf, yl⟩ := cells13 rx
  go_wp2_with fail
  refine bodyPost_ret (v := .tuple #[.agg #[.int .u8 0, .int .i64 0, .int .u64 0, .int .i64 0, .bool false, .int .u64 0, .int .u64 0, .int .i64 0, .int .u8 0, .int .i64 0, .int .i64 0, .int .i64 0, .int .i64 2], .int .i64 0]) ?_ rfl ⟨rfl, ?_⟩
  · rw [results_cell_tmp1 rfl]
    go_simp
  · repeat' (first | with_reducible exact hB | with_reducible refine bset ?_ (by omega))
theorem rof_any (k : Nat) (b : List UInt8) (w : World) (hk : k ≤ 255) (hb : (b.length : Int) ≤ 200000000000000) :
    Calls Tryz.prog 5 #[pcV (k, b)] w fun e w' => e = .returned (.tuple #[gtV (ofG (k, b)).1, .int .i64 (ofG (k, b)).2]) ∧ Below w.heap.size w w' := by
  have hE : (⟨b.toArray⟩ : ByteArray).toList.isEmpty = b.isEmpty := by rw [ByteArray.toList_eq]
  unfold pcV
  by_cases h1 : k = 1
  · subst h1
    have hR : rightP (1, b) = true := rfl
    have c1 := fun W => rgetE_any b W hb
    have hG : ofG (1, b) = (gotG (1, b), 0) := by unfold ofG; rw [hR]; rfl
    have hG2 : gotG (1, b) = if (getE b).2 = 0 then ((getE b).1, 0) else (zeroE, 2) := by unfold gotG; rw [if_neg (show ¬ ((1 : Nat) = 2) by decide), if_neg (show ¬ ((1 : Nat) = 3) by decide)]
    rw [hG, hG2]
    generalize getE b = G at c1 ⊢
    obtain ⟨⟨ek, er, es, et, ⟨s6, n, ln⟩, ⟨ak, ai⟩, ei, ee⟩, y⟩ := G
    by_cases hy : y = 0
    · subst hy
      simp only [if_true]
      exact rof_1ok ⟨b.toArray⟩ w ek es (hiN n) (loN n) ak er et ln ai ei ee s6 c1
    · simp only [hy, if_false]
      rw [gtV_z]
      exact rof_1no ⟨b.toArray⟩ w ek es (hiN n) (loN n) ak er et ln ai ei ee s6 y (by simpa using hy) c1
  · by_cases h2 : k = 2
    · subst h2
      cases b with
      | nil =>
        rw [show ofG (2, []) = ((zeroE, 7), 0) from rfl, gtV_z]
        exact rof_2e _ w (by rw [hE]; rfl)
      | cons x t =>
        rw [show ofG (2, x :: t) = ((zeroE, 0), 2) from rfl, gtV_z]
        exact rof_2n _ w (by rw [hE]; rfl)
    · by_cases h3 : k = 3
      · subst h3
        cases b with
        | nil =>
          rw [show ofG (3, []) = ((zeroE, 11), 0) from rfl, gtV_z]
          exact rof_3e _ w (by rw [hE]; rfl)
        | cons x t =>
          rw [show ofG (3, x :: t) = ((zeroE, 0), 2) from rfl, gtV_z]
          exact rof_3n _ w (by rw [hE]; rfl)
      · have hR : rightP (k, b) = false := by
          unfold rightP
          simp only
          by_cases h0 : 0 < k
          · rw [decide_eq_false (show ¬ k < 4 by omega)]; simp
          · rw [decide_eq_false h0]; simp
        have hG : ofG (k, b) = ((zeroE, 0), 2) := by unfold ofG; rw [hR]; rfl
        rw [hG, gtV_z]
        exact rof_bad (k : Int) _ w (by omega) (by omega) (by omega)
end Go.Proofs.YtopabkkapbaibaaGreat.Gram
namespace Go.Proofs.YtopabkkapbaibaaGreat.Gram
open Go.RowKit Go.Shelf
open Go.Proofs.YtopabkkapbaibaaGreat.Ord (HasRow hasRow_nil hasRow_own HasRow.keep HasRow.slice HasRow.at)
open Go.Proofs.YtopabkkapbaibaaGreat.Msg (Ev evV evC getE zeroE zeroC drop_suf take_pre bytes_cat)
open Go.Proofs.YtopabkkapbaibaaGreat.Addr (hiN loN RowAt below2 below_drew below_new)
attribute [-go_sem] Builtin.append_
def stL : Value → Nat
  | .string b => b.size
  | _ => 0
theorem noM_run (t : List UInt8) : ∀ k : Nat, (∀ j (h : j < t.length), j < k → ¬ t[j] = 245) → (k = t.length ∨ ∃ h : k < t.length, t[k] = 245) → noM t = t.drop k := by
  induction t with
  | nil => intro k _ _; simp [noM]
  | cons b t ih =>
    intro k h he
    cases k with
    | zero =>
      rcases he with he | ⟨_, he⟩
      · simp at he
      · have : b = 245 := he
        rw [this]; unfold noM; simp
    | succ k =>
      have hb : ¬ b = 245 := h 0 (by simp) (by omega)
      have e : noM (b :: t) = noM t := by unfold noM; rw [List.dropWhile_cons_of_pos (by simpa using hb)]
      rw [e, List.drop_succ_cons]
      refine ih k (fun j hj hjk => ?_) ?_
      · have := h (j + 1) (by simpa using hj) (by omega)
        simpa using this
      · rcases he with he | ⟨h1, he⟩
        · left; simpa using he
        · right; exact ⟨by simpa using h1, by simpa using he⟩
theorem pieces_run (t : List UInt8) (k : Nat) (hk : 0 < k) (ht : t ≠ []) (h : ∀ j (h : j < t.length), j < k → ¬ t[j] = 245) (he : k = t.length ∨ ∃ h : k < t.length, t[k] = 245) : piecesL t = [(2, [])] ++ piecesL (t.drop k) := by
  have hn := noM_run t k h he
  obtain ⟨b, u, rfl⟩ := List.exists_cons_of_ne_nil ht
  have hb : ¬ b = 245 := h 0 (by simp) hk
  have e : noM (b :: u) = noM u := by unfold noM; rw [List.dropWhile_cons_of_pos (by simpa using hb)]
  rw [pieces_step _ (by simp)]
  have hf : firstG (b :: u) = ((2, []), noM u) := by unfold firstG; simp only; rw [if_neg hb]
  rw [hf, ← e, hn]
  rfl
theorem pieces_short (t : List UInt8) (ht : t ≠ []) (h0 : ∀ h : 0 < t.length, t[0] = 245) (h3 : t.length < 3) : piecesL t = [] := by
  match t, ht, h3, h0 with
  | [a], _, _, h0 => have : a = 245 := h0 (by simp); subst this; rfl
  | [a, b], _, _, h0 => have : a = 245 := h0 (by simp); subst this; rfl
theorem pieces_msg (x y : UInt8) (u : List UInt8) (n : Nat) (hn : n = x.toNat * 256 + y.toNat) : piecesL (245 :: x :: y :: u) = if n = 0 ∨ 64 < n then [(3, [])] ++ piecesL (u.drop n) else if u.length < n then [] else [(1, u.take n)] ++ piecesL (u.drop n) := by
  rw [pieces_step _ (by simp)]
  have hf : firstG (245 :: x :: y :: u) = msgG (245 :: x :: y :: u) := by unfold firstG; simp only [if_true]
  rw [hf]
  unfold msgG
  simp only [← hn]
  split
  · rfl
  · split
    · rfl
    · rfl
theorem pcCs_snoc (acc : List PcT) (p : PcT) : pcCs acc ++ pcC p = pcCs (acc ++ [p]) := by rw [pcCs_app]; simp [pcCs]
def RPc (w : World) (l : List UInt8) (acc : List PcT) (t : List UInt8) (v : Value) (W : World) : Prop :=
  W.ownsRow w.heap.size 24 2 v acc.length (pcCs acc) ∧ Below w.heap.size w W ∧ piecesL l = acc ++ piecesL t ∧ t.length ≤ l.length
theorem RPc.keep {w W W' : World} {l t : List UInt8} {acc : List PcT} {v : Value} (h : RPc w l acc t v W) (hb : Below W.heap.size W W') : RPc w l acc t v W' :=
  ⟨own_keep h.1 hb, below2 h.2.1 hb, h.2.2⟩
theorem RPc.app {w W : World} {l t t' : List UInt8} {acc : List PcT} {v : Value} (h : RPc w l acc t v W) (p : PcT) (z : Int) (B : ByteArray) (hz : z = (p.1 : Int)) (hB : B = ⟨p.2.toArray⟩) (hp : piecesL t = [p] ++ piecesL t') (hl : t'.length ≤ t.length) (hm : (piecesL l).length ≤ 4398046511104) :
    ∃ g cap w3, (∀ ty, (Builtin.append_ #[43, 43] ty #[v, .slice (some ⟨W.heap.size, 0, none⟩) 1 1]).run Tryz.prog (W.alloc (.cells #[.int .u8 z, .string B] 24)) = .ok (.slice (some ⟨g, 0, none⟩) (acc.length + 1) cap) w3) ∧
      RPc w l (acc ++ [p]) t' (.slice (some ⟨g, 0, none⟩) (acc.length + 1) cap) w3 := by
  subst hz hB
  obtain ⟨h1, h2, h3, h4⟩ := h
  have hk : acc.length ≤ 4398046511104 := by have := congrArg List.length h3; rw [List.length_append] at this; omega
  obtain ⟨g, cap, w3, hrun, ho, hg⟩ := append_pc p h1 hk h2.size
  refine ⟨g, cap, w3, hrun, ?_, ?_, ?_, by omega⟩
  · rw [pcCs_snoc] at ho
    rw [List.length_append]
    exact ho
  · exact below_row (below_new h2 _) (by rw [World.size_alloc]; have := h2.size; omega) (Nat.le_refl _) (h1.alloc _) hg
  · rw [h3, hp, List.append_assoc]
theorem RPc.fin {w W : World} {l t : List UInt8} {acc : List PcT} {v : Value} (h : RPc w l acc t v W) (ht : piecesL t = []) : HasPcs W v (piecesL l) ∧ Below w.heap.size w W := by
  obtain ⟨h1, h2, h3, h4⟩ := h
  rw [ht, List.append_nil] at h3
  rw [h3]
  exact ⟨hasRow_own h1, h2⟩
set_option maxHeartbeats 8000000 in
set_option maxRecDepth 20000 in
theorem rpieces_any (l : List UInt8) (w : World) (hl : l.length ≤ 1000000000) (hm : (piecesL l).length ≤ 4398046511104) :
    Calls Tryz.prog 9 #[.string ⟨l.toArray⟩] w fun e w' => ∃ v, e = .returned v ∧ HasPcs w' v (piecesL l) ∧ Below w.heap.size w w' := by
  have HM : Hid ((piecesL l).length ≤ 4398046511104 ∧ l.length ≤ 1000000000) := ⟨hm, hl⟩
  have H0 : Hid (RPc w l [] l (.slice none 0 0) w) := ⟨World.ownsRow_nil _ _ _ _, Below.refl _ _, rfl, Nat.le_refl _⟩
  clear hm hl
  go_enter Tryz.func9, Tryz.ntmps9
  go_wp2_with fail
  go_loopw [0, 3] (fun s v wr => ∃ (t : List UInt8) (acc : List PcT), s = .string ⟨t.toArray⟩ ∧ Hid (RPc w l acc t v wr)) (fun s _ _ => stL s)
  case atStart => exact ⟨l, [], rfl, H0⟩
  case round =>
    obtain ⟨t, acc, rfl, HI⟩ := hrel
    obtain ⟨wa, hwa⟩ : ∃ wa, wa = wr := ⟨_, rfl⟩
    subst hwa
    by_cases htn : t = []
    · subst htn
      have HF : Hid (HasPcs wa u3 (piecesL l) ∧ Below w.heap.size w wa) := HI.out.fin rfl
      go_wp2_with fail
      go_ret
      exact ⟨_, rfl, HF.out⟩
    · have hll := HI.out.2.2.2
      have hl9 := HM.out.2
      obtain ⟨S, hS⟩ : ∃ S : ByteArray, S = ⟨t.toArray⟩ := ⟨_, rfl⟩
      have HS : Hid (S = ⟨t.toArray⟩) := hS
      have HSz : Hid (S.size = t.length) := by show _ = _; rw [hS]; exact size_list t
      have HAt : Hid (∀ j (h : j < S.size) (h2 : j < t.length), S[j]'h = t[j]'h2) := by intro j h h2; subst hS; rfl
      have hne : S.toList.isEmpty = false := by
        rw [hS, ByteArray.toList_eq]
        cases t with
        | nil => exact absurd rfl htn
        | cons a b => rfl
      have hpos : 0 < t.length := List.length_pos_iff.2 htn
      have hSi : (S.size : Int) ≤ 1000000000 := by rw [HSz.out]; omega
      have hS1 : 1 ≤ S.size := by rw [HSz.out]; exact hpos
      rw [← hS]
      clear hS hl9 hll
      go_wp2_with fail
      go_loopw [4] (fun i wr => ∃ k : Nat, k ≤ S.size ∧ i = .int .i64 k ∧ wr = wa ∧ Hid (∀ j (h : j < S.size), j < k → ¬ (S[j]'h).toNat = 245)) (fun i _ => S.size - (intOf i).toNat)
      case atStart => exact ⟨0, Nat.zero_le _, rfl, rfl, fun j h hj => absurd hj (Nat.not_lt_zero _)⟩
      case round =>
        obtain ⟨k, hk, rfl, rfl, HQ⟩ := hrel
        by_cases hlt : k < S.size
        · obtain ⟨b, hb⟩ : ∃ b, b = S[k]'hlt := ⟨_, rfl⟩
          have h0 : ∀ h : k < S.size, S[k]'h = b := fun h => hb.symm
          have HB : Hid (b = S[k]'hlt) := hb
          have hki : (k : Int) < (S.size : Int) := by omega
          clear hb
          by_cases h245 : b.toNat = 245
          · have h245i : ((b.toNat : Nat) : Int) = 245 := by omega
            have hb245 : b = 245 := UInt8.toNat_inj.1 h245
            have hkt : k < t.length := by rw [← HSz.out]; exact hlt
            have htk : t[k] = 245 := by rw [← HAt.out k hlt hkt, ← HB.out]; exact hb245
            by_cases hk0 : 0 < k
            · have hk0i : (0 : Int) < (k : Int) := by omega
              have hpr : piecesL t = [(2, [])] ++ piecesL (t.drop k) := pieces_run t k (by omega) htn (fun j h hj => ?hb) (.inr ⟨hkt, htk⟩)
              case hb => have := HQ.out j (by rw [HSz.out]; exact h) hj; intro hc; apply this; rw [HAt.out j _ h, hc]; rfl
              obtain ⟨g, cap, w3, hrun, hR3⟩ := HI.out.app (2, []) 2 ⟨#[]⟩ rfl rfl hpr (by rw [List.length_drop]; omega) HM.out.1
              have HR3 : Hid (RPc w l (acc ++ [(2, [])]) (t.drop k) (.slice (some ⟨g, 0, none⟩) (acc.length + 1) cap) w3) := hR3
              have hT : S.extract k S.size = ⟨(t.drop k).toArray⟩ := by rw [HSz.out, HS.out]; exact drop_suf t k (by omega)
              have HTl : Hid ((t.drop k).length < t.length) := by show _ < _; rw [List.length_drop]; omega
              generalize hTT : (⟨(t.drop k).toArray⟩ : ByteArray) = T at hT
              have HTT : Hid ((⟨(t.drop k).toArray⟩ : ByteArray) = T) := hTT
              clear hR3 hpr HQ HAt HI hTT htk hkt
              go_wp2_with fail
              go_roundw
              case rel => exact ⟨t.drop k, acc ++ [(2, [])], by rw [HTT.out], HR3⟩
              case measure => show T.size < S.size; rw [← HTT.out, HSz.out, size_list]; exact HTl.out

            · have hkz : k = 0 := by omega
              subst hkz
              have hS0 : (0 : Int) < (S.size : Int) := by omega
              clear HQ HB hk0 hk
              by_cases h3 : S.size < 3
              · have h3i : (S.size : Int) < 3 := by omega
                have HF : Hid (HasPcs wr u3 (piecesL l) ∧ Below w.heap.size w wr) := HI.out.fin (pieces_short t htn (fun _ => htk) (by rw [← HSz.out]; exact h3))
                clear htk hkt HAt HI
                go_wp2_with fail
                go_ret
                exact ⟨_, rfl, HF.out⟩
              · have h3i : ¬ (S.size : Int) < 3 := by omega
                have h3d : decide ((S.size : Int) < 3) = false := decide_eq_false h3i
                obtain ⟨c0, x, y, u, htu⟩ : ∃ (c0 x y : UInt8) (u : List UInt8), t = c0 :: x :: y :: u := by
                  have h3t : ¬ t.length < 3 := by rw [← HSz.out]; exact h3
                  match t, h3t with
                  | c0 :: x :: y :: u, _ => exact ⟨c0, x, y, u, rfl⟩
                  | [], h => exact absurd (by simp) h
                  | [_], h => exact absurd (by simp) h
                  | [_, _], h => exact absurd (by simp) h
                have hc0 : c0 = 245 := by subst htu; exact htk
                subst hc0
                obtain ⟨n, hnd⟩ : ∃ n, n = x.toNat * 256 + y.toNat := ⟨_, rfl⟩
                have HP : Hid (piecesL t = if n = 0 ∨ 64 < n then [(3, [])] ++ piecesL (u.drop n) else if u.length < n then [] else [(1, u.take n)] ++ piecesL (u.drop n)) := by rw [htu]; exact pieces_msg x y u n hnd
                have HTU : Hid (t.length = u.length + 3) := by rw [htu]; rfl
                obtain ⟨T, hTd⟩ : ∃ T : ByteArray, T = ⟨u.toArray⟩ := ⟨_, rfl⟩
                have HTe : Hid (T = ⟨u.toArray⟩) := hTd
                have HTs : Hid (T.size = u.length) := by show _ = _; rw [hTd]; exact size_list u
                have hT : S.extract 3 S.size = T := by
                  rw [HSz.out, HS.out, hTd]
                  have := drop_suf t 3 (by rw [HTU.out]; omega)
                  rw [this, htu]
                  rfl
                have hxl := x.toNat_lt
                have hyl := y.toNat_lt
                have e1 : ∀ h : 1 < S.size, (S[1]'h).toNat = x.toNat := fun h => by rw [HAt.out 1 h (by rw [HTU.out]; omega)]; subst htu; rfl
                have e2 : ∀ h : 2 < S.size, (S[2]'h).toNat = y.toNat := fun h => by rw [HAt.out 2 h (by rw [HTU.out]; omega)]; subst htu; rfl
                have hi1 : 1 < S.size := by omega
                have hi2 : 2 < S.size := by omega
                have hTi : (T.size : Int) ≤ 1000000000 := by have := HTs.out; have := HTU.out; have := HSz.out; omega
                have HND : Hid (n = x.toNat * 256 + y.toNat) := hnd
                have hni : (n : Int) ≤ 65535 := by omega
                clear htk hkt HAt hTd
                generalize x.toNat = X at *
                generalize y.toNat = Y at *
                have hX : (X : Int) ≤ 255 := by omega
                have hY : (Y : Int) ≤ 255 := by omega
                have hsum : (256 : Int) * (X : Int) + (Y : Int) = (n : Int) := by omega
                clear hnd hxl hyl htu
                go_upto_region 11 with fail
                go_cut [0, 3, 5] (fun s v a wc => s = .string S ∧ v = u3 ∧ a = .int .i64 (n : Int) ∧ Below wr.heap.size wr wc)
                case first =>
                  go_region
                  all_goals go_wp2_with fail
                  all_goals go_meet
                  all_goals exact ⟨rfl, rfl, by first | rfl | (rw [← hsum]), below_drew (Below.refl _ _)⟩
                case rest =>
                  obtain ⟨rfl, rfl, rfl, hbc⟩ := hcut
                  clear e1 e2 hsum hX hY HND hi1 hi2 h0 h245i hki hS0
                  have h3e : (3 : Int) ≤ (S.size : Int) := by omega
                  by_cases hn0 : n = 0
                  · subst hn0
                    have hpr : piecesL t = [(3, [])] ++ piecesL (u.drop 0) := by rw [HP.out, if_pos (.inl rfl)]
                    obtain ⟨g, cap, w3, hrun, hR3⟩ := (HI.out.keep hbc).app (3, []) 3 ⟨#[]⟩ rfl rfl hpr (by have := HTU.out; rw [List.length_drop]; omega) HM.out.1
                    have HR3 : Hid (RPc w l (acc ++ [(3, [])]) (u.drop 0) (.slice (some ⟨g, 0, none⟩) (acc.length + 1) cap) w3) := hR3
                    clear hR3 hpr HI hbc HP
                    by_cases hlen : T.size < 0
                    · omega
                    · have hli : ¬ (T.size : Int) < ((0 : Nat) : Int) := by omega
                      have hRS : T.extract 0 T.size = ⟨(u.drop 0).toArray⟩ := by rw [HTs.out, HTe.out]; exact drop_suf u 0 (by have := HTs.out; omega)
                      generalize hTT : (⟨(u.drop 0).toArray⟩ : ByteArray) = R at hRS
                      have HTT : Hid ((⟨(u.drop 0).toArray⟩ : ByteArray) = R) := hTT
                      clear hTT
                      go_wp2_with fail
                      go_roundw
                      case rel => exact ⟨u.drop 0, acc ++ [(3, [])], by rw [HTT.out], HR3⟩
                      case measure => show R.size < S.size; rw [← HTT.out, HSz.out, size_list, List.length_drop]; have := HTU.out; omega

                  · by_cases hn64 : 64 < n
                    · have q1 : ¬ (n : Int) = 0 := by omega
                      have q2 : (64 : Int) < (n : Int) := by omega
                      have q3 : ¬ (n : Int) ≤ 64 := by omega
                      have q4 : (0 : Int) < (n : Int) := by omega
                      have hpr : piecesL t = [(3, [])] ++ piecesL (u.drop n) := by rw [HP.out, if_pos (.inr (by omega))]
                      obtain ⟨g, cap, w3, hrun, hR3⟩ := (HI.out.keep hbc).app (3, []) 3 ⟨#[]⟩ rfl rfl hpr (by have := HTU.out; rw [List.length_drop]; omega) HM.out.1
                      have HR3 : Hid (RPc w l (acc ++ [(3, [])]) (u.drop n) (.slice (some ⟨g, 0, none⟩) (acc.length + 1) cap) w3) := hR3
                      clear hR3 hpr HI hbc HP
                      by_cases hlen : T.size < n
                      · have HF := HR3.out.fin (by rw [List.drop_of_length_le (by rw [← HTs.out]; omega)]; rfl)
                        have HF2 : Hid (HasPcs w3 (.slice (some ⟨g, 0, none⟩) (acc.length + 1) cap) (piecesL l) ∧ Below w.heap.size w w3) := HF
                        have hli : (T.size : Int) < ((n : Nat) : Int) := by omega
                        clear HF HR3
                        go_wp2_with fail
                        go_ret
                        exact ⟨_, rfl, HF2.out⟩
                      · have hli : ¬ (T.size : Int) < ((n : Nat) : Int) := by omega
                        have hRS : T.extract n T.size = ⟨(u.drop n).toArray⟩ := by rw [HTs.out, HTe.out]; exact drop_suf u n (by have := HTs.out; omega)
                        generalize hTT : (⟨(u.drop n).toArray⟩ : ByteArray) = R at hRS
                        have HTT : Hid ((⟨(u.drop n).toArray⟩ : ByteArray) = R) := hTT
                        clear hTT
                        go_wp2_with fail
                        go_roundw
                        case rel => exact ⟨u.drop n, acc ++ [(3, [])], by rw [HTT.out], HR3⟩
                        case measure => show R.size < S.size; rw [← HTT.out, HSz.out, size_list, List.length_drop]; have := HTU.out; omega

                    · have q1 : ¬ (n : Int) = 0 := by omega
                      have q2 : ¬ (64 : Int) < (n : Int) := by omega
                      have q3 : (n : Int) ≤ 64 := by omega
                      have q4 : (0 : Int) < (n : Int) := by omega
                      have hP2 := HP.out
                      rw [if_neg (by omega)] at hP2
                      by_cases hlen : T.size < n
                      · have hli : (T.size : Int) < (n : Int) := by omega
                        rw [if_pos (by rw [← HTs.out]; exact hlen)] at hP2
                        have HF : Hid (HasPcs wc u3 (piecesL l) ∧ Below w.heap.size w wc) := (HI.out.keep hbc).fin hP2
                        clear hP2 HP HI hbc
                        go_wp2_with fail
                        go_ret
                        exact ⟨_, rfl, HF.out⟩
                      · have hli : ¬ (T.size : Int) < (n : Int) := by omega
                        rw [if_neg (by rw [← HTs.out]; exact hlen)] at hP2
                        have hRS : T.extract n T.size = ⟨(u.drop n).toArray⟩ := by rw [HTs.out, HTe.out]; exact drop_suf u n (by have := HTs.out; omega)
                        have hBD : T.extract 0 n = ⟨(u.take n).toArray⟩ := by rw [HTe.out]; exact take_pre u n (by have := HTs.out; omega)
                        obtain ⟨BD, hBDd⟩ : ∃ BD : ByteArray, BD = ⟨(u.take n).toArray⟩ := ⟨_, rfl⟩
                        rw [← hBDd] at hBD
                        obtain ⟨g, cap, w3, hrun, hR3⟩ := (HI.out.keep hbc).app (1, u.take n) 1 BD rfl hBDd hP2 (by have := HTU.out; rw [List.length_drop]; omega) HM.out.1
                        have HR3 : Hid (RPc w l (acc ++ [(1, u.take n)]) (u.drop n) (.slice (some ⟨g, 0, none⟩) (acc.length + 1) cap) w3) := hR3
                        generalize hTT : (⟨(u.drop n).toArray⟩ : ByteArray) = R at hRS
                        have HTT : Hid ((⟨(u.drop n).toArray⟩ : ByteArray) = R) := hTT
                        clear hTT hR3 hP2 HP HI hbc hBDd
                        go_wp2_with fail
                        go_roundw
                        case rel => exact ⟨u.drop n, acc ++ [(1, u.take n)], by rw [HTT.out], HR3⟩
                        case measure => show R.size < S.size; rw [← HTT.out, HSz.out, size_list, List.length_drop]; have := HTU.out; omega
          · have h245i : ¬ ((b.toNat : Nat) : Int) = 245 := by omega
            have HN : Hid (¬ b.toNat = 245) := h245
            clear HAt
            go_wp2_with fail
            go_roundw
            case rel =>
              refine ⟨k + 1, by omega, by go_num, by first | rfl | trivial, fun j h hj => ?_⟩
              by_cases hjk : j = k
              · subst hjk; rw [← HB.out]; exact HN.out
              · exact HQ.out j h (by omega)
            case measure => simp [intOf]; omega
        · have hkn : decide ((k : Int) < (S.size : Int)) = false := decide_eq_false (by omega)
          have hk0i : (0 : Int) < (k : Int) := by omega
          have hkt : k = t.length := by rw [← HSz.out]; omega
          have hpr : piecesL t = [(2, [])] ++ piecesL (t.drop k) := pieces_run t k (by omega) htn (fun j h hj => ?hb) (.inl hkt)
          case hb => have := HQ.out j (by rw [HSz.out]; exact h) hj; intro hc; apply this; rw [HAt.out j _ h, hc]; rfl
          obtain ⟨g, cap, w3, hrun, hR3⟩ := HI.out.app (2, []) 2 ⟨#[]⟩ rfl rfl hpr (by rw [List.length_drop]; omega) HM.out.1
          have HR3 : Hid (RPc w l (acc ++ [(2, [])]) (t.drop k) (.slice (some ⟨g, 0, none⟩) (acc.length + 1) cap) w3) := hR3
          have hT : S.extract k S.size = ⟨(t.drop k).toArray⟩ := by rw [HSz.out, HS.out]; exact drop_suf t k (by omega)
          have HTl : Hid ((t.drop k).length < t.length) := by show _ < _; rw [List.length_drop]; omega
          generalize hTT : (⟨(t.drop k).toArray⟩ : ByteArray) = T at hT
          have HTT : Hid ((⟨(t.drop k).toArray⟩ : ByteArray) = T) := hTT
          clear hR3 hpr HQ HAt HI hTT hkt
          go_wp2_with fail
          go_roundw
          case rel => exact ⟨t.drop k, acc ++ [(2, [])], by rw [HTT.out], HR3⟩
          case measure => show T.size < S.size; rw [← HTT.out, HSz.out, size_list]; exact HTl.out

end Go.Proofs.YtopabkkapbaibaaGreat.Gram
namespace Go.Proofs.YtopabkkapbaibaaGreat.Gram
open Go.RowKit Go.Shelf
open Go.Proofs.YtopabkkapbaibaaGreat.Ord (HasRow hasRow_nil hasRow_own HasRow.keep HasRow.slice HasRow.at)
open Go.Proofs.YtopabkkapbaibaaGreat.Msg (Ev evV evC getE zeroE zeroC)
open Go.Proofs.YtopabkkapbaibaaGreat.Addr (hiN loN RowAt below2 below_drew below_new RowAt.lt RowAt.cell RowAt.frozen RowAt.below RowAt.drew RowAt.new RowAt.alloc cells2)
attribute [-go_sem] Builtin.append_
theorem msg_kinds (s : List UInt8) : (msgG s).1 = (0, []) ∨ (msgG s).1 = (3, []) ∨ ∃ b, (msgG s).1 = (1, b) := by
  unfold msgG
  split
  · split
    · exact .inr (.inl rfl)
    · split
      · exact .inl rfl
      · exact .inr (.inr ⟨_, rfl⟩)
  · exact .inl rfl
theorem first_kinds (s : List UInt8) : (firstG s).1 = (0, []) ∨ (firstG s).1 = (2, []) ∨ (firstG s).1 = (3, []) ∨ ∃ b, (firstG s).1 = (1, b) := by
  unfold firstG
  split
  · exact .inl rfl
  · split
    · rename_i b t _
      rcases msg_kinds (b :: t) with h | h | h
      · exact .inl h
      · exact .inr (.inr (.inl h))
      · exact .inr (.inr (.inr h))
    · exact .inr (.inl rfl)
theorem pieces_kinds (f : Nat) : ∀ (s : List UInt8), ∀ p ∈ piecesF f s, rightP p = true ∧ p.1 ≤ 255 ∧ p.2.length ≤ 64 := by
  induction f with
  | zero => intro s p hp; simp [piecesF] at hp
  | succ f ih =>
    intro s p hp
    unfold piecesF at hp
    split at hp
    · simp at hp
    · rcases List.mem_append.1 hp with hp | hp
      · split at hp
        · simp at hp
        · rename_i h0
          simp only [List.mem_singleton] at hp
          subst hp
          have hb := firstG_body s
          rcases first_kinds s with h | h | h | ⟨b, h⟩
          · rw [h] at h0; exact absurd rfl h0
          · rw [h]; exact ⟨rfl, by decide, by decide⟩
          · rw [h]; exact ⟨rfl, by decide, by decide⟩
          · rw [h] at hb ⊢; exact ⟨rfl, by show 1 ≤ 255; omega, hb⟩
      · exact ih _ p hp
theorem of_right (p : PcT) (h : rightP p = true) : (ofG p).1 = gotG p := by unfold ofG; rw [h]; rfl
theorem gtCs_snoc (acc : List GtT) (p : GtT) : gtCs acc ++ gtC p = gtCs (acc ++ [p]) := by rw [gtCs_app]; simp [gtCs]
theorem append_q {W : World} {n₀ k : Nat} {v : Value} {xs : List Value} (q : GtT) (hown : W.ownsRow n₀ 38 13 v k xs) (hk : k ≤ 1000000000000) (hn : n₀ ≤ W.heap.size) :
    ∃ g cap w3, (∀ ty, (Builtin.append_ #[46, 46] ty #[v, .slice (some ⟨W.heap.size, 0, none⟩) 1 1]).run Tryz.prog (W.alloc (.cells #[.int .u8 (q.1.kind : Int), .int .i64 q.1.router, .int .u64 (q.1.seq : Int), .int .i64 q.1.time, .bool q.1.pf.six, .int .u64 (hiN q.1.pf.n : Int), .int .u64 (loN q.1.pf.n : Int), .int .i64 q.1.pf.len, .int .u8 (q.1.act.k : Int), .int .i64 q.1.act.i, .int .i64 q.1.iface, .int .i64 q.1.peer, .int .i64 q.2] 38)) = .ok (.slice (some ⟨g, 0, none⟩) (k + 1) cap) w3) ∧
      w3.ownsRow n₀ 38 13 (.slice (some ⟨g, 0, none⟩) (k + 1) cap) (k + 1) (xs ++ gtC q) ∧ Below n₀ W w3 := by
  obtain ⟨g, cap, w3, h1, h2, h3⟩ := append_gt q hown hk hn
  exact ⟨g, cap, w3, h1, h2, below_row (Below.mono (below_new (Below.refl _ W) _) hn) (by rw [World.size_alloc]; omega) (Nat.le_refl _) (hown.alloc _) h3⟩
set_option maxHeartbeats 8000000 in
set_option maxRecDepth 20000 in
theorem rgots_any (l : List UInt8) (w : World) (hl : l.length ≤ 1000000000) :
    Calls Tryz.prog 12 #[.string ⟨l.toArray⟩] w fun e w' => ∃ v, e = .returned v ∧ HasGts w' v ((piecesL l).map gotG) ∧ Below w.heap.size w w' := by
  have hpl := pieces_le l
  have c1 := fun W : World => rpieces_any l W hl (by omega)
  obtain ⟨ps, hps⟩ : ∃ ps, ps = piecesL l := ⟨_, rfl⟩
  have HK : Hid (∀ p ∈ ps, rightP p = true ∧ p.1 ≤ 255 ∧ p.2.length ≤ 64) := by intro p hp; rw [hps] at hp; exact pieces_kinds _ _ p hp
  rw [← hps] at c1 hpl ⊢
  have hnl : ps.length ≤ 1000000000 := by omega
  clear hps hpl
  go_enter Tryz.func12, Tryz.ntmps12
  go_wp2_with fail
  go_at_call 9; refine (c1 _).mono ?_; rintro e w1 ⟨V, rfl, hs, hb1⟩
  obtain ⟨o1, cp1, rfl, hq1, hq2⟩ := HasRow.slice hs
  obtain ⟨n, hn⟩ : ∃ n, n = ps.length := ⟨_, rfl⟩
  have HN : Hid (n = ps.length) := hn
  have HH : Hid (∀ wr : World, Below w1.heap.size w1 wr → HasPcs wr (.slice o1 n cp1) ps) := fun wr hb => by rw [hn]; exact hs.keep hb
  rw [← hn] at hq1 hnl ⊢
  have hni : (n : Int) ≤ 1000000000 := by omega
  clear hn c1 hs
  go_wp2_with fail
  go_loopw [3, 11] (fun v i wr => ∃ k : Nat, k ≤ n ∧ i = .int .i64 k ∧ Hid (wr.ownsRow w1.heap.size 38 13 v k (gtCs ((ps.take k).map gotG))) ∧ Below w1.heap.size w1 wr) (fun _ i _ => n - (intOf i).toNat)
  case atStart => exact ⟨0, by omega, rfl, World.ownsRow_nil _ _ _ _, Below.refl _ _⟩
  case round =>
    obtain ⟨k, hk, rfl, HO, hB⟩ := hrel
    by_cases hlt : k < n
    · have hkz : k < ps.length := by rw [← HN.out]; exact hlt
      obtain ⟨g1, i1, rfl, hg1, a0, a1⟩ := HasPcs.cell (HH.out _ hB) k hkz
      have hK := HK.out ps[k] (List.getElem_mem hkz)
      have HT : Hid ((ps.take (k + 1)).map gotG = (ps.take k).map gotG ++ [gotG ps[k]]) := by show _ = _; rw [List.take_succ_eq_append_getElem hkz, List.map_append]; rfl
      have c2 := fun W : World => rof_any ps[k].1 ps[k].2 W hK.2.1 (by have := hK.2.2; omega)
      have hof := of_right ps[k] hK.1
      rw [show (ps[k].1, ps[k].2) = ps[k] from rfl, hof] at c2
      unfold strV at a1
      generalize (ofG ps[k]).2 = yy at c2
      generalize hq : gotG ps[k] = q at *
      unfold pcV gtV gtC evC at c2
      simp only [List.cons_append, List.nil_append] at c2
      generalize (⟨(ps[k]).2.toArray⟩ : ByteArray) = Z at *
      generalize (((ps[k]).1 : Nat) : Int) = pa at *
      have hki : (k : Int) < (n : Int) := by omega
      clear hK hof hq hg1
      go_upto_region 5 with fail
      obtain ⟨X, hX⟩ : ∃ X, X = wr.alloc (.cells #[.int .u8 pa, .string Z] 24) := ⟨_, rfl⟩
      have hbX : Below wr.heap.size wr X := by rw [hX]; exact below_new (Below.refl _ _) _
      have r0 : RowAt X wr.heap.size [.int .u8 pa, .string Z] 24 := by rw [hX]; exact RowAt.new _ _ _
      rw [← hX]
      replace HO : Hid (X.ownsRow w1.heap.size 38 13 u3 k (gtCs ((ps.take k).map gotG))) := own_keep HO.out hbX
      replace hB := below2 hB hbX
      clear hX a0 a1 hbX
      obtain ⟨y0, y1, yf⟩ := cells2 r0
      go_wp2_with fail
      go_at_call 5; refine (c2 _).mono ?_; rintro e w2 ⟨rfl, hb2⟩
      replace HO : Hid (w2.ownsRow w1.heap.size 38 13 u3 k (gtCs ((ps.take k).map gotG))) := own_keep HO.out hb2
      replace hB := below2 hB hb2
      clear hb2 c2 y0 y1 yf r0
      go_upto_region 6 with fail
      obtain ⟨Y, hY⟩ : ∃ Y, Y = w2.alloc (.cells #[.int .u8 (q.1.kind : Int), .int .i64 q.1.router, .int .u64 (q.1.seq : Int), .int .i64 q.1.time, .bool q.1.pf.six, .int .u64 (hiN q.1.pf.n : Int), .int .u64 (loN q.1.pf.n : Int), .int .i64 q.1.pf.len, .int .u8 (q.1.act.k : Int), .int .i64 q.1.act.i, .int .i64 q.1.iface, .int .i64 q.1.peer, .int .i64 q.2] 38) := ⟨_, rfl⟩
      have hbY : Below w2.heap.size w2 Y := by rw [hY]; exact below_new (Below.refl _ _) _
      have ry : RowAt Y w2.heap.size [.int .u8 (q.1.kind : Int), .int .i64 q.1.router, .int .u64 (q.1.seq : Int), .int .i64 q.1.time, .bool q.1.pf.six, .int .u64 (hiN q.1.pf.n : Int), .int .u64 (loN q.1.pf.n : Int), .int .i64 q.1.pf.len, .int .u8 (q.1.act.k : Int), .int .i64 q.1.act.i, .int .i64 q.1.iface, .int .i64 q.1.peer, .int .i64 q.2] 38 := by rw [hY]; exact RowAt.new _ _ _
      rw [← hY]
      replace HO : Hid (Y.ownsRow w1.heap.size 38 13 u3 k (gtCs ((ps.take k).map gotG))) := own_keep HO.out hbY
      replace hB := below2 hB hbY
      clear hY hbY
      generalize w2.heap.size = gy at ry ⊢
      obtain ⟨⟨z0, z1, z2, z3, z4, z5⟩, ⟨z6, z7, z8, z9, z10, z11, z12⟩, zf, hlz⟩ := cells13 ry
      obtain ⟨g5, cap5, w5, hrun, ho5, hb5⟩ := append_q q HO.out (by omega) hB.size
      have HO5 : Hid (w5.ownsRow w1.heap.size 38 13 (.slice (some ⟨g5, 0, none⟩) (k + 1) cap5) (k + 1) (gtCs ((ps.take (k + 1)).map gotG))) := by
        show World.ownsRow _ _ _ _ _ _ _
        rw [HT.out, ← gtCs_snoc]
        exact ho5
      have hB5 : Below w1.heap.size w1 w5 := hB.trans hb5
      clear ho5 hb5 HO ry hB
      go_wp2_with fail
      go_roundw
      case rel => exact ⟨k + 1, by omega, by go_num, HO5, hB5⟩
      case measure => simp [intOf]; omega
    · obtain rfl : k = n := by omega
      have HF : Hid (HasGts wr u3 (ps.map gotG)) := by
        have := hasRow_own HO.out
        rw [HN.out, List.take_length] at this
        show HasRow _ _ _ _ _
        rw [List.length_map]
        exact this
      go_wp2_with fail
      go_ret
      exact ⟨_, rfl, HF.out, below2 hb1 hB⟩
end Go.Proofs.YtopabkkapbaibaaGreat.Gram
namespace Go.Proofs.YtopabkkapbaibaaGreat.Gram
open Go.ChangeShapes Go.WideShapes Go.ChangeAt Go.RowKit
open Go.ChangeMaps (open_string shut_string)
section
variable {H : Type} {enc : TypeId × Value → H} {W : World} {base : Nat} {spare : Nat → Bool} {held : Bool}
set_option maxRecDepth 100000 in
theorem open_piece {v : Value} {d : DataW H} {ps : List MemPlace} {r : Reach} {b0 : Nat} (hval : Value.okWide Tryz.prog W r b0 24 v) (h : DataW.Trod enc Tryz.prog W base spare held 24 v d ps) : ∃ p : PcT, v = pcV p ∧ p.1 ≤ 255 ∧ ∃ ds, d = .agg ds ∧ ds[1]? = some (.lit (.string p.2)) := by
  obtain ⟨cs, rfl, hsz⟩ := okWide_struct Tryz.underlying24 hval
  obtain ⟨fuel, hf⟩ := h
  obtain ⟨xs, n, _, hd, hlen, hxl, hfs⟩ := DataW.trod_struct Tryz.underlying24 hf
  rw [show Tryz.prog.cellsOf 24 = 2 from by kernel_rfl] at hsz
  obtain ⟨c, s, rfl⟩ : ∃ c s, cs = #[c, s] := by
    obtain ⟨l⟩ := cs
    match l, hsz with
    | [c, s], _ => exact ⟨c, s, rfl⟩
  have g0 : DataW.trod enc Tryz.prog W base spare held n 22 ((([c, s] : List Value).drop 0).take (Tryz.prog.cellsOf 22)) = xs[0]? := hfs 0 _ rfl
  have g1 : DataW.trod enc Tryz.prog W base spare held n 9 ((([c, s] : List Value).drop 1).take (Tryz.prog.cellsOf 9)) = xs[1]? := hfs 1 _ rfl
  have hx3 : xs.length = 2 := hxl
  have h1 : xs[1]? = some xs[1] := List.getElem?_eq_getElem (by omega)
  rw [List.getElem?_eq_getElem (by omega)] at g0 g1
  rw [show Tryz.prog.cellsOf 9 = 1 from by kernel_rfl] at g1
  rw [show Tryz.prog.cellsOf 22 = 1 from by kernel_rfl] at g0
  obtain ⟨B, e1, hx, _⟩ := DataW.trod_string Tryz.underlying9 g1
  obtain ⟨k, e2, _, hw⟩ := DataW.trod_int Tryz.underlying22 g0
  have e1' : s = .string B := by injection e1
  have e2' : c = .int .u8 k := by injection e2
  subst e1' e2'
  have hk : 0 ≤ k ∧ k ≤ 255 := by simpa [Lit.wf, IntKind.min, IntKind.max, IntKind.signed, IntKind.bits] using hw
  refine ⟨(k.toNat, B.data.toList), ?_, by show k.toNat ≤ 255; omega, _, (congrArg Prod.fst hd), ?_⟩
  · unfold pcV
    simp only
    rw [show ((k.toNat : Nat) : Int) = k by omega]
  · rw [List.getElem?_map, h1, hx]
    rfl
end
end Go.Proofs.YtopabkkapbaibaaGreat.Gram
namespace Go.Proofs.YtopabkkapbaibaaGreat
namespace gramReads
open Go.ChangeShapes Go.WideShapes Go.ChangeAt Go.RowKit
open Go.ChangeMaps (open_string shut_string)
open Go.Proofs.YtopabkkapbaibaaGreat.Gram
open Go.Proofs.YtopabkkapbaibaaGreat.Ord (HasRow.slice)
open Go.Proofs.YtopabkkapbaibaaGreat.Msg (Ev evV evC okE evB checkE FitE bytes_cat zeroE)
open Go.Proofs.YtopabkkapbaibaaGreat.Addr (hiN loN RowAt below2 below_drew below_new bset RowAt.lt RowAt.cell RowAt.frozen RowAt.below RowAt.drew RowAt.new RowAt.alloc cells2)

theorem own : ownKnob Tryz.prog.godebug = none := by kernel_rfl
theorem laidOut : laidOutB Tryz.prog = true := by kernel_rfl
set_option maxHeartbeats 8000000 in
set_option maxRecDepth 20000 in
theorem walk0 (S Z : ByteArray) (pa y : Int) (x0 : Int) (x1 : Int) (x2 : Int) (x3 : Int) (x4 : Bool) (x5 : Int) (x6 : Int) (x7 : Int) (x8 : Int) (x9 : Int) (x10 : Int) (x11 : Int) (x12 : Int) (w : World) (pl : List PcT) (gl : List GtT)
    (kl : ∀ W : World, Calls Tryz.prog 6 #[] W fun e w' => e = .returned (.bool true) ∧ Below W.heap.size W w')
    (k1 : ∀ W : World, Calls Tryz.prog 4 #[.agg #[.int .u8 pa, .string Z]] W fun e w' => e = .returned (.tuple #[.agg #[.int .u8 x0, .int .i64 x1, .int .u64 x2, .int .i64 x3, .bool x4, .int .u64 x5, .int .u64 x6, .int .i64 x7, .int .u8 x8, .int .i64 x9, .int .i64 x10, .int .i64 x11, .int .i64 x12], .int .i64 y]) ∧ Below W.heap.size W w')
    (k2 : ∀ W : World, Calls Tryz.prog 5 #[.agg #[.int .u8 pa, .string Z]] W fun e w' => e = .returned (.tuple #[.agg #[.int .u8 x0, .int .i64 x1, .int .u64 x2, .int .i64 x3, .bool x4, .int .u64 x5, .int .u64 x6, .int .i64 x7, .int .u8 x8, .int .i64 x9, .int .i64 x10, .int .i64 x11, .int .i64 x12], .int .i64 y]) ∧ Below W.heap.size W w')
    (k3 : ∀ W : World, Calls Tryz.prog 8 #[.string S] W fun e w' => ∃ V, e = .returned V ∧ HasPcs w' V pl ∧ Below W.heap.size W w')
    (k4 : ∀ W : World, Calls Tryz.prog 9 #[.string S] W fun e w' => ∃ V, e = .returned V ∧ HasPcs w' V pl ∧ Below W.heap.size W w')
    (k5 : ∀ W : World, Calls Tryz.prog 11 #[.string S] W fun e w' => ∃ V, e = .returned V ∧ HasGts w' V gl ∧ Below W.heap.size W w')
    (k6 : ∀ W : World, Calls Tryz.prog 12 #[.string S] W fun e w' => ∃ V, e = .returned V ∧ HasGts w' V gl ∧ Below W.heap.size W w') :
    Calls Tryz.prog 3 #[.string S, .agg #[.int .u8 pa, .string Z]] w fun e w' => e = .returned (.bool true) ∧ Below w.heap.size w w' := by
  have k7 : ∀ (W : World) (u v : Value), HasPcs W u pl → HasPcs W v pl → Calls Tryz.prog 7 #[u, v] W fun r w' => r = .returned (.bool true) ∧ Below W.heap.size W w' := fun W u v h1 h2 => same12_any _ u v W h1 h2
  have k8 : ∀ (W : World) (u v : Value), HasGts W u gl → HasGts W v gl → Calls Tryz.prog 10 #[u, v] W fun r w' => r = .returned (.bool true) ∧ Below W.heap.size W w' := fun W u v h1 h2 => same13_any _ u v W h1 h2
  have hge := gt_eql
  have hgd := gt_guard
  have hyy : (y == y) = true := by simp
  obtain ⟨X, hX⟩ : ∃ X, X = w.alloc (.cells #[.int .u8 pa, .string Z] 24) := ⟨_, rfl⟩
  have hB : Below w.heap.size w X := by rw [hX]; exact below_new (Below.refl _ _) _
  have r1 : RowAt X w.heap.size [.int .u8 pa, .string Z] 24 := by rw [hX]; exact RowAt.new _ _ _
  go_enter Tryz.func3, Tryz.ntmps3
  go_upto_region 1 with fail
  rw [← hX]
  clear hX
  obtain ⟨g1, hg1⟩ : ∃ g, g = w.heap.size := ⟨_, rfl⟩
  rw [← hg1] at r1
  rw [← hg1]
  clear hg1
  obtain ⟨y0, y1, yf⟩ := cells2 r1
  go_wp2_with fail
  go_at_call 4; refine (k1 _).mono ?_; rintro e w1 ⟨rfl, hb⟩
  replace r1 := RowAt.below r1 hb
  replace hB := below2 hB hb
  clear hb y0 y1 yf
  go_upto_region 2 with fail
  obtain ⟨Y, hY⟩ : ∃ Y, Y = w1.alloc (.cells #[.int .u8 x0, .int .i64 x1, .int .u64 x2, .int .i64 x3, .bool x4, .int .u64 x5, .int .u64 x6, .int .i64 x7, .int .u8 x8, .int .i64 x9, .int .i64 x10, .int .i64 x11, .int .i64 x12] 38) := ⟨_, rfl⟩
  have hb : Below w1.heap.size w1 Y := by rw [hY]; exact below_new (Below.refl _ _) _
  have r2 : RowAt Y w1.heap.size [.int .u8 x0, .int .i64 x1, .int .u64 x2, .int .i64 x3, .bool x4, .int .u64 x5, .int .u64 x6, .int .i64 x7, .int .u8 x8, .int .i64 x9, .int .i64 x10, .int .i64 x11, .int .i64 x12] 38 := by rw [hY]; exact RowAt.new _ _ _
  rw [← hY]
  replace r1 := RowAt.below r1 hb
  replace hB := below2 hB hb
  clear hY hb
  generalize w1.heap.size = g2 at r2 ⊢
  obtain ⟨y0, y1, yf⟩ := cells2 r1
  go_wp2_with fail
  go_at_call 5; refine (k2 _).mono ?_; rintro e w2 ⟨rfl, hb⟩
  replace r2 := RowAt.below r2 hb
  replace hB := below2 hB hb
  clear hb y0 y1 yf r1
  go_upto_region 3 with fail
  obtain ⟨Z2, hZ⟩ : ∃ Z, Z = w2.alloc (.cells #[.int .u8 x0, .int .i64 x1, .int .u64 x2, .int .i64 x3, .bool x4, .int .u64 x5, .int .u64 x6, .int .i64 x7, .int .u8 x8, .int .i64 x9, .int .i64 x10, .int .i64 x11, .int .i64 x12] 38) := ⟨_, rfl⟩
  have hb : Below w2.heap.size w2 Z2 := by rw [hZ]; exact below_new (Below.refl _ _) _
  have r3 : RowAt Z2 w2.heap.size [.int .u8 x0, .int .i64 x1, .int .u64 x2, .int .i64 x3, .bool x4, .int .u64 x5, .int .u64 x6, .int .i64 x7, .int .u8 x8, .int .i64 x9, .int .i64 x10, .int .i64 x11, .int .i64 x12] 38 := by rw [hZ]; exact RowAt.new _ _ _
  rw [← hZ]
  replace r2 := RowAt.below r2 hb
  replace hB := below2 hB hb
  clear hZ hb
  generalize w2.heap.size = g3 at r3 ⊢
  go_wp2_with fail
  go_at_call 6; refine (kl _).mono ?_; rintro e w3 ⟨rfl, hb⟩
  replace r2 := RowAt.below r2 hb
  replace r3 := RowAt.below r3 hb
  replace hB := below2 hB hb
  clear hb kl
  go_wp2_with fail
  go_at_call 8; refine (k3 _).mono ?_; rintro e w4 ⟨V1, rfl, hs1, hb⟩
  replace r2 := RowAt.below r2 hb
  replace r3 := RowAt.below r3 hb
  replace hB := below2 hB hb
  clear hb k3
  go_wp2_with fail
  go_at_call 9; refine (k4 _).mono ?_; rintro e w5 ⟨V2, rfl, hs2, hb⟩
  replace r2 := RowAt.below r2 hb
  replace r3 := RowAt.below r3 hb
  replace hB := below2 hB hb
  replace hs1 := hs1.keep hb
  clear hb k4
  go_wp2_with fail
  go_at_call 7; refine (k7 _ _ _ hs1 hs2).mono ?_; rintro e w6 ⟨rfl, hb⟩
  replace r2 := RowAt.below r2 hb
  replace r3 := RowAt.below r3 hb
  replace hB := below2 hB hb
  clear hb k7 hs1 hs2
  go_wp2_with fail
  go_at_call 11; refine (k5 _).mono ?_; rintro e w7 ⟨V3, rfl, hs1, hb⟩
  replace r2 := RowAt.below r2 hb
  replace r3 := RowAt.below r3 hb
  replace hB := below2 hB hb
  clear hb k5
  go_wp2_with fail
  go_at_call 12; refine (k6 _).mono ?_; rintro e w8 ⟨V4, rfl, hs2, hb⟩
  replace r2 := RowAt.below r2 hb
  replace r3 := RowAt.below r3 hb
  replace hB := below2 hB hb
  replace hs1 := hs1.keep hb
  clear hb k6
  go_wp2_with fail
  go_at_call 10; refine (k8 _ _ _ hs1 hs2).mono ?_; rintro e w9 ⟨rfl, hb⟩
  replace r2 := RowAt.below r2 hb
  replace r3 := RowAt.below r3 hb
  replace hB := below2 hB hb
  clear hb k8 hs1 hs2
  obtain ⟨⟨y0, y1, y2, y3, y4, y5⟩, ⟨y6, y7, y8, y9, y10, y11, y12⟩, yf, hly⟩ := cells13 r2
  obtain ⟨⟨z0, z1, z2, z3, z4, z5⟩, ⟨z6, z7, z8, z9, z10, z11, z12⟩, zf, hlz⟩ := cells13 r3
  go_wp2_with fail
  go_ret
  exact ⟨by first | rfl | simp, hB⟩
theorem walk (S : ByteArray) (p : PcT) (w : World) (b0 : S.size ≤ 1048576) (b1 : p.2.length ≤ 1048576) (f1 : p.1 ≤ 255) :
    Calls Tryz.prog 3 #[.string S, pcV p] w fun e w' => e = .returned (.bool true) ∧ Below w.heap.size w w' := by
  obtain ⟨ml, hml⟩ : ∃ ml : List UInt8, ml = S.data.toList := ⟨_, rfl⟩
  have hM : S = ⟨ml.toArray⟩ := by rw [hml]
  have hsz : ml.length = S.size := by rw [hml, Array.length_toList]; rfl
  have hpl := pieces_le ml
  rw [hM]
  have q1 := fun W : World => of_any p.1 p.2 W f1 (by omega)
  have q2 := fun W : World => rof_any p.1 p.2 W f1 (by omega)
  rw [show (p.1, p.2) = p from rfl] at q1 q2
  generalize ofG p = G at q1 q2
  obtain ⟨⟨⟨ek, er, es, et, ⟨s6, n, ln⟩, ⟨ak, ai⟩, ei, ee⟩, y⟩, z⟩ := G
  refine walk0 _ _ _ z _ _ _ _ _ _ _ _ _ _ _ _ _ w (piecesL ml) ((piecesL ml).map gotG) (fun W => lives_any W) q1 q2 (fun W => ?_) (fun W => rpieces_any ml W (by omega) (by omega)) (fun W => ?_) (fun W => rgots_any ml W (by omega))
  · refine (piecesR_any ml W (by omega) (by omega)).mono ?_
    rintro e w' ⟨V, e1, e2, _, e3⟩
    exact ⟨V, e1, e2, e3⟩
  · refine (gotsR_any ml W (by omega) (by omega)).mono ?_
    rintro e w' ⟨V, e1, e2, _, e3⟩
    exact ⟨V, e1, e2, e3⟩

set_option maxRecDepth 100000 in
theorem contract (H : Type) (enc : TypeId × Value → H) (W : World) (base : Nat) (args : Array Value) (ds gs : List (DataW H)) (before : List MemPlace)
    (hval0 : ∀ (j : Nat) t v, Tryz.f3.params[j]? = some t → args[j]? = some v → Value.okWide Tryz.prog W .any base t v)
    (hW : DataW.Whole enc Tryz.prog Tryz.f3.params.toList Rows.gramReadsSpec.vars false W args.toList ds gs before) (hk : Rows.uptoSmall H (ds ++ gs) = true)
    (hsz0 : (DataW.weightsEach Tryz.prog (Tryz.f3.params.toList ++ Rows.gramReadsSpec.plain.varTypes Tryz.prog) (ds ++ gs)).all (· ≤ reachBytes) = true) :
    Calls Tryz.prog 3 args W fun e W' => ∃ v, e = .returned v ∧ Rows.gramReadsSpec.post enc Tryz.prog Tryz.f3 false true false false W args v W' := by
  have hsz : (DataW.weightsEach Tryz.prog (Tryz.f3.params.toList ++ Rows.gramReadsSpec.plain.varTypes Tryz.prog) (ds ++ gs)).all (· ≤ reachBytes) = true := hsz0
  clear hsz0
  have hval : ∀ (j : Nat) t v, Tryz.f3.params[j]? = some t → args[j]? = some v → Value.okWide Tryz.prog W .any base t v := hval0
  have hW' := hW
  obtain ⟨p, q, hA0, hV, rfl, hfz, hnd⟩ := hW
  have hA : DataW.TrodAll enc Tryz.prog W 0 (fun _ => true) true Tryz.f3.params.toList args.toList ds p := hA0
  rw [Tryz.params3] at hA hval hsz
  obtain ⟨v0, vs0, d0, ds0, p0, q0, hargs, rfl, rfl, h0, r0⟩ := trodAll_cons hA
  obtain ⟨v1, vs1, d1, ds1, p1, q1, rfl, rfl, rfl, h1, r1⟩ := trodAll_cons r0
  obtain ⟨rfl, rfl, rfl⟩ := trodAll_nil r1
  obtain rfl : args = #[v0, v1] := by cases args; simp_all
  obtain ⟨rfl, rfl⟩ := trodVars_none hV
  obtain ⟨a0, rfl, rfl, rfl, w0⟩ := open_string Tryz.underlying9 (hval 0 9 v0 rfl rfl) h0
  have b0 : a0.size ≤ 1048576 := bulk_str hk (j := 0) rfl
  have k1 := h1
  have lt1 : ∀ x ∈ p1, x.block < W.heap.size := by obtain ⟨m, hm⟩ := k1; exact DataW.trod_lt m _ _ _ hm
  obtain ⟨c1, rfl, f1, ds1', rfl, g1⟩ := Gram.open_piece (hval 1 24 v1 rfl rfl) h1
  have b1 := bulk_part hk (j := 1) rfl g1
  clear hA0 hval0
  refine (walk a0 c1 W b0 b1 f1).mono fun e W' ⟨he, bel⟩ => ?_
  subst he
  exact ⟨_, rfl, _, _, _, [], _, [], hW', trodAll_mk1 (shut_bool Tryz.underlying4 _), (trodAll_cons_mk (shut_string Tryz.underlying9 w0) (trodAll_cons_mk (Below.trod laidOut (by kernel_rfl) (of_decide_eq_true (by kernel_rfl)) k1 bel lt1) trodAll_mk0)), rfl, bel.frame _, fun h => by cases h⟩
set_option maxRecDepth 100000 in
theorem lifted (os : Os) (started : os.Started) (H : Type) (enc : TypeId × Value → H) (F : Stop.Interp) :
    ReturnsInHanded {} Tryz.checked os 3 .any ((Rows.OpenSpec.upto Rows.gramReadsSpec).pre6 enc Tryz.prog Tryz.f3 Rows.gramReadsUptoRow.domain false) (((Rows.OpenSpec.upto Rows.gramReadsSpec).at F).post enc Tryz.prog Tryz.f3 false true false false) := by
  refine returnsInHanded_of_cond_sized (C := Tryz.checked) (s := Rows.OpenSpec.upto Rows.gramReadsSpec) (k := Rows.uptoSmall) rfl own started (by kernel_rfl) Tryz.func3
    (OpenSpec.witness (enc := enc) (C := Tryz.checked) (s := Rows.OpenSpec.upto Rows.gramReadsSpec) (k := Rows.uptoSmall) rfl false ⟨#[], #[.string ByteArray.empty, .agg #[.int .u8 0, .string ByteArray.empty]], []⟩ 8 (by kernel_rfl) (by kernel_rfl) (by kernel_rfl)
      (x := ([.lit (.string []), .agg [.lit (.int .u8 0), .lit (.string [])]], [], [])) (by kernel_rfl) rfl (by kernel_rfl)) ?_
  intro W base args ds gs before hval hW _ hk hsz _
  exact contract H enc W base args ds gs before hval hW hk hsz

theorem over : Rows.gramReadsUptoRow.holds Tryz.pinned (Rows.OpenSpec.upto Rows.gramReadsSpec) :=
  OpenClaim.holds_of_cond 3 Tryz.f3 rfl rfl rfl rfl rfl rfl rfl ⟨rfl, rfl, rfl, rfl, rfl⟩ rfl rfl rfl rfl rfl (by kernel_rfl) Tryz.func3 (by kernel_rfl)
    (of_decide_eq_true (by kernel_rfl)) (by unfold Func.isWrapper; first | (rw [if_pos (by decide +kernel)]; kernel_rfl) | (rw [if_neg (by decide +kernel)]; exact ⟨rfl, rfl⟩))
    (fun os started H enc _ F => lifted os started H enc F)
end gramReads
theorem greads_holds : Rows.GramReadsUptoSaid := gramReads.over
#print axioms greads_holds
end Go.Proofs.YtopabkkapbaibaaGreat
