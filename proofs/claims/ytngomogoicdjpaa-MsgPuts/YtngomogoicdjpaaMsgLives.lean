/- The fixed answers of layer 11. -/
import Derived.Test.YtngomogoicdjpaaMsgGet
import Derived.Test.YtngomogoicdjpaaMsgPut3
set_option linter.unusedVariables false
namespace Go.Proofs.Ytngomogoicdjpaa.Msg
open Go.RowKit
open Go.Proofs.Ytngomogoicdjpaa.Addr (Pf okP checkP wideN firstN kP hiN loN adV pfV RowAt below2 below_drew below_new bset RowAt.lt RowAt.cell RowAt.frozen RowAt.below RowAt.drew RowAt.new RowAt.alloc gdrew gset gbelow galloc grefl cells2 cells4 results_cell)

def tenP : Pf := ⟨false, 167772160, 8⟩
def upE : Ev := ⟨1, 1, 1, 5, zeroPf, zeroA, 0, 0⟩
def addE : Ev := ⟨3, 1, 2, 300, tenP, ⟨1, 7⟩, 0, 0⟩
def addE1 : Ev := ⟨3, 1, 2, 300, tenP, ⟨1, 7⟩, 1, 0⟩
theorem v1 : evV upE = .agg #[.int .u8 1, .int .i64 1, .int .u64 1, .int .i64 5, .bool false, .int .u64 0, .int .u64 0, .int .i64 0, .int .u8 0, .int .i64 0, .int .i64 0, .int .i64 0] := by kernel_rfl
theorem v2 : evV addE = .agg #[.int .u8 3, .int .i64 1, .int .u64 2, .int .i64 300, .bool false, .int .u64 0, .int .u64 167772160, .int .i64 8, .int .u8 1, .int .i64 7, .int .i64 0, .int .i64 0] := by kernel_rfl
theorem v3 : evV addE1 = .agg #[.int .u8 3, .int .i64 1, .int .u64 2, .int .i64 300, .bool false, .int .u64 0, .int .u64 167772160, .int .i64 8, .int .u8 1, .int .i64 7, .int .i64 1, .int .i64 0] := by kernel_rfl
theorem v4 : pfV tenP = .agg #[.bool false, .int .u64 0, .int .u64 167772160, .int .i64 8] := by kernel_rfl
theorem fit1 : FitE upE := ⟨by decide, by decide, by decide, by decide, by decide, by decide, ⟨by decide, by decide, by decide⟩, by decide, by decide⟩
theorem fit2 : FitE addE := ⟨by decide, by decide, by decide, by decide, by decide, by decide, ⟨by decide, by decide, by decide⟩, by decide, by decide⟩
theorem fit3 : FitE addE1 := ⟨by decide, by decide, by decide, by decide, by decide, by decide, ⟨by decide, by decide, by decide⟩, by decide, by decide⟩
theorem a1 : (if okE upE then evB upE else []) = [1, 1, 1, 5] ∧ checkE upE = 0 := ⟨by kernel_rfl, by kernel_rfl⟩
theorem a2 : (if okE addE then evB addE else []) = [3, 1, 2, 172, 2, 4, 8, 10, 1, 7] ∧ checkE addE = 0 := ⟨by kernel_rfl, by kernel_rfl⟩
theorem a3 : getE [3, 1, 2, 172, 2, 4, 8, 10, 1, 7] = (addE, 0) := by kernel_rfl
theorem a4 : getE [3, 1, 2, 172, 2, 4, 8, 10, 1, 7, 0] = (zeroE, 7) := by kernel_rfl
theorem a5 : (if okP tenP then prefB tenP else []) = [4, 8, 10] ∧ checkP tenP = 0 := ⟨by kernel_rfl, by kernel_rfl⟩
theorem a6 : firstP rdP okP zeroPf [4, 8, 10, 122] = (tenP, [122], 0) := by kernel_rfl
theorem a7 : (if okA ⟨2, 0⟩ then actB ⟨2, 0⟩ else []) = [2] ∧ checkA ⟨2, 0⟩ = 0 := ⟨by kernel_rfl, by kernel_rfl⟩
theorem a8 : firstP rdA okA zeroA [2, 122] = (⟨2, 0⟩, [122], 0) := by kernel_rfl
theorem a9 : checkE addE1 = 2 := by kernel_rfl
set_option maxHeartbeats 8000000 in
set_option maxRecDepth 20000 in
theorem lives_any (w : World) : Calls Try.prog 9 #[] w fun e w' => e = .returned (.bool true) ∧ Below w.heap.size w w' := by
  have c1 : ∀ W : World, Calls Try.prog 5 #[.agg #[.int .u8 1, .int .i64 1, .int .u64 1, .int .i64 5, .bool false, .int .u64 0, .int .u64 0, .int .i64 0, .int .u8 0, .int .i64 0, .int .i64 0, .int .i64 0]] W fun e w' => e = .returned (.tuple #[.string ⟨#[1, 1, 1, 5]⟩, .int .i64 0]) ∧ Below W.heap.size W w' := fun W => by
    have := eput_any upE W fit1
    rw [a1.1, a1.2, v1] at this
    exact this
  have c2 : ∀ W : World, Calls Try.prog 5 #[.agg #[.int .u8 3, .int .i64 1, .int .u64 2, .int .i64 300, .bool false, .int .u64 0, .int .u64 167772160, .int .i64 8, .int .u8 1, .int .i64 7, .int .i64 0, .int .i64 0]] W fun e w' => e = .returned (.tuple #[.string ⟨#[3, 1, 2, 172, 2, 4, 8, 10, 1, 7]⟩, .int .i64 0]) ∧ Below W.heap.size W w' := fun W => by
    have := eput_any addE W fit2
    rw [a2.1, a2.2, v2] at this
    exact this
  have c3 : ∀ W : World, Calls Try.prog 7 #[.string ⟨#[3, 1, 2, 172, 2, 4, 8, 10, 1, 7]⟩] W fun e w' => e = .returned (.tuple #[.agg #[.int .u8 3, .int .i64 1, .int .u64 2, .int .i64 300, .bool false, .int .u64 0, .int .u64 167772160, .int .i64 8, .int .u8 1, .int .i64 7, .int .i64 0, .int .i64 0], .int .i64 0]) ∧ Below W.heap.size W w' := fun W => by
    have := eget_any [3, 1, 2, 172, 2, 4, 8, 10, 1, 7] W (by decide)
    rw [a3, v2] at this
    exact this
  have c4 : ∀ W : World, Calls Try.prog 7 #[.string ⟨#[3, 1, 2, 172, 2, 4, 8, 10, 1, 7, 0]⟩] W fun e w' => e = .returned (.tuple #[.agg #[.int .u8 0, .int .i64 0, .int .u64 0, .int .i64 0, .bool false, .int .u64 0, .int .u64 0, .int .i64 0, .int .u8 0, .int .i64 0, .int .i64 0, .int .i64 0], .int .i64 7]) ∧ Below W.heap.size W w' := fun W => by
    have := eget_any [3, 1, 2, 172, 2, 4, 8, 10, 1, 7, 0] W (by decide)
    rw [a4, evV_z] at this
    exact this
  have c5 : ∀ W : World, Calls Try.prog 12 #[.agg #[.bool false, .int .u64 0, .int .u64 167772160, .int .i64 8]] W fun e w' => e = .returned (.tuple #[.string ⟨#[4, 8, 10]⟩, .int .i64 0]) ∧ Below W.heap.size W w' := fun W => by
    have := putPrefix_any tenP W (by decide) (by decide)
    rw [a5.1, a5.2, v4] at this
    exact this
  have c6 : ∀ W : World, Calls Try.prog 14 #[.string ⟨#[4, 8, 10, 122]⟩] W fun e w' => e = .returned (.tuple #[.agg #[.bool false, .int .u64 0, .int .u64 167772160, .int .i64 8], .string ⟨#[122]⟩, .int .i64 0]) ∧ Below W.heap.size W w' := fun W => by
    have := getPrefix_any [4, 8, 10, 122] W (by decide)
    rw [a6, v4] at this
    exact this
  have c7 : ∀ W : World, Calls Try.prog 16 #[.agg #[.int .u8 2, .int .i64 0]] W fun e w' => e = .returned (.tuple #[.string ⟨#[2]⟩, .int .i64 0]) ∧ Below W.heap.size W w' := fun W => by
    have := putAction_any ⟨2, 0⟩ W ⟨by decide, by decide, by decide⟩
    rw [a7.1, a7.2] at this
    exact this
  have c8 : ∀ W : World, Calls Try.prog 18 #[.string ⟨#[2, 122]⟩] W fun e w' => e = .returned (.tuple #[.agg #[.int .u8 2, .int .i64 0], .string ⟨#[122]⟩, .int .i64 0]) ∧ Below W.heap.size W w' := fun W => by
    have := getAction_any [2, 122] W (by decide)
    rw [a8] at this
    exact this
  have c9 : ∀ W : World, Calls Try.prog 10 #[.agg #[.int .u8 3, .int .i64 1, .int .u64 2, .int .i64 300, .bool false, .int .u64 0, .int .u64 167772160, .int .i64 8, .int .u8 1, .int .i64 7, .int .i64 1, .int .i64 0]] W fun e w' => e = .returned (.int .i64 2) ∧ Below W.heap.size W w' := fun W => by
    have := echeck_any addE1 W fit3
    rw [a9, v3] at this
    exact this
  have c10 : ∀ W : World, Calls Try.prog 10 #[.agg #[.int .u8 3, .int .i64 1, .int .u64 2, .int .i64 300, .bool false, .int .u64 0, .int .u64 167772160, .int .i64 8, .int .u8 1, .int .i64 7, .int .i64 0, .int .i64 0]] W fun e w' => e = .returned (.int .i64 0) ∧ Below W.heap.size W w' := fun W => by
    have := echeck_any addE W fit2
    rw [a2.2, v2] at this
    exact this
  have heq : ∀ w : World, (binOp .eql 27 (.agg #[.bool false, .int .u64 0, .int .u64 167772160, .int .i64 8]) (.agg #[.bool false, .int .u64 0, .int .u64 167772160, .int .i64 8])).run Try.prog w = .ok (.bool true) w := fun w => by
    have := Addr.pf_eql tenP w
    rw [v4] at this
    exact this
  have hgd := Addr.pf_guard
  have d1 : (⟨#[3, 1, 2, 172, 2, 4, 8, 10, 1, 7]⟩ : ByteArray) ++ ⟨#[0]⟩ = ⟨#[3, 1, 2, 172, 2, 4, 8, 10, 1, 7, 0]⟩ := bytes_cat [3, 1, 2, 172, 2, 4, 8, 10, 1, 7] [0]
  have d2 : (⟨#[4, 8, 10]⟩ : ByteArray) ++ ⟨#[122]⟩ = ⟨#[4, 8, 10, 122]⟩ := bytes_cat [4, 8, 10] [122]
  have d3 : (⟨#[2]⟩ : ByteArray) ++ ⟨#[122]⟩ = ⟨#[2, 122]⟩ := bytes_cat [2] [122]
  go_enter Try.func9, Try.ntmps9
  go_upto_region 2 with fail
  obtain ⟨Y1, hY⟩ : ∃ Y1, Y1 = w.alloc (.cells #[.bool false, .int .u64 0, .int .u64 167772160, .int .i64 8] 27) := ⟨_, rfl⟩
  have hbY : Below w.heap.size w Y1 := by rw [hY]; exact below_new (Below.refl _ _) _
  have ra : RowAt Y1 w.heap.size [.bool false, .int .u64 0, .int .u64 167772160, .int .i64 8] 27 := by rw [hY]; exact RowAt.new _ _ _
  rw [← hY]
  have hB := hbY
  clear hY hbY
  obtain ⟨ga, hga⟩ : ∃ ga, ga = w.heap.size := ⟨_, rfl⟩
  have hga2 : w.heap.size ≤ ga := by omega
  rw [← hga] at ra ⊢
  clear hga
  go_wp2_with fail
  go_at_call 5; refine (c1 _).mono ?_; rintro e w2 ⟨rfl, hb⟩
  replace ra := RowAt.below ra hb
  replace hB := below2 hB hb
  clear hb
  obtain ⟨a0, a1, a2, a3, af⟩ := cells4 ra
  go_upto_region 4 with fail
  obtain ⟨Y3, hY⟩ : ∃ Y3, Y3 = w2.alloc (.cells #[.int .u8 3, .int .i64 1, .int .u64 2, .int .i64 300, .bool false, .int .u64 0, .int .u64 167772160, .int .i64 8, .int .u8 1, .int .i64 7, .int .i64 0, .int .i64 0] 32) := ⟨_, rfl⟩
  have hbY : Below w2.heap.size w2 Y3 := by rw [hY]; exact below_new (Below.refl _ _) _
  have rb : RowAt Y3 w2.heap.size [.int .u8 3, .int .i64 1, .int .u64 2, .int .i64 300, .bool false, .int .u64 0, .int .u64 167772160, .int .i64 8, .int .u8 1, .int .i64 7, .int .i64 0, .int .i64 0] 32 := by rw [hY]; exact RowAt.new _ _ _
  rw [← hY]
  have lab : ga < w2.heap.size := RowAt.lt ra
  replace ra := RowAt.below ra hbY
  replace hB := below2 hB hbY
  clear hY hbY
  generalize w2.heap.size = gb at rb lab ⊢
  clear a0 a1 a2 a3 af
  obtain ⟨⟨b0, b1, b2, b3, b4, b5⟩, ⟨b6, b7, b8, b9, b10, b11⟩, bf, bl⟩ := cells12 rb
  go_wp2_with fail
  go_at_call 5; refine (c2 _).mono ?_; rintro e w4 ⟨rfl, hb⟩
  replace ra := RowAt.below ra hb
  replace rb := RowAt.below rb hb
  replace hB := below2 hB hb
  clear hb
  clear b0 b1 b2 b3 b4 b5 b6 b7 b8 b9 b10 b11 bf bl
  go_wp2_with fail
  go_at_call 7; refine (c3 _).mono ?_; rintro e w5 ⟨rfl, hb⟩
  replace ra := RowAt.below ra hb
  replace rb := RowAt.below rb hb
  replace hB := below2 hB hb
  clear hb
  go_upto_region 6 with fail
  obtain ⟨Y6, hY⟩ : ∃ Y6, Y6 = w5.alloc (.cells #[.int .u8 3, .int .i64 1, .int .u64 2, .int .i64 300, .bool false, .int .u64 0, .int .u64 167772160, .int .i64 8, .int .u8 1, .int .i64 7, .int .i64 0, .int .i64 0] 32) := ⟨_, rfl⟩
  have hbY : Below w5.heap.size w5 Y6 := by rw [hY]; exact below_new (Below.refl _ _) _
  have rd : RowAt Y6 w5.heap.size [.int .u8 3, .int .i64 1, .int .u64 2, .int .i64 300, .bool false, .int .u64 0, .int .u64 167772160, .int .i64 8, .int .u8 1, .int .i64 7, .int .i64 0, .int .i64 0] 32 := by rw [hY]; exact RowAt.new _ _ _
  rw [← hY]
  have lad : ga < w5.heap.size := RowAt.lt ra
  replace ra := RowAt.below ra hbY
  have lbd : gb < w5.heap.size := RowAt.lt rb
  replace rb := RowAt.below rb hbY
  replace hB := below2 hB hbY
  clear hY hbY
  generalize w5.heap.size = gd at rd lad lbd ⊢
  go_wp2_with fail
  go_at_call 7; refine (c4 _).mono ?_; rintro e w7 ⟨rfl, hb⟩
  replace ra := RowAt.below ra hb
  replace rb := RowAt.below rb hb
  replace rd := RowAt.below rd hb
  replace hB := below2 hB hb
  clear hb
  go_upto_region 7 with fail
  obtain ⟨Y8, hY⟩ : ∃ Y8, Y8 = w7.alloc (.cells #[.int .u8 0, .int .i64 0, .int .u64 0, .int .i64 0, .bool false, .int .u64 0, .int .u64 0, .int .i64 0, .int .u8 0, .int .i64 0, .int .i64 0, .int .i64 0] 32) := ⟨_, rfl⟩
  have hbY : Below w7.heap.size w7 Y8 := by rw [hY]; exact below_new (Below.refl _ _) _
  have rx : RowAt Y8 w7.heap.size [.int .u8 0, .int .i64 0, .int .u64 0, .int .i64 0, .bool false, .int .u64 0, .int .u64 0, .int .i64 0, .int .u8 0, .int .i64 0, .int .i64 0, .int .i64 0] 32 := by rw [hY]; exact RowAt.new _ _ _
  rw [← hY]
  have lax : ga < w7.heap.size := RowAt.lt ra
  replace ra := RowAt.below ra hbY
  have lbx : gb < w7.heap.size := RowAt.lt rb
  replace rb := RowAt.below rb hbY
  have ldx : gd < w7.heap.size := RowAt.lt rd
  replace rd := RowAt.below rd hbY
  replace hB := below2 hB hbY
  clear hY hbY
  generalize w7.heap.size = gx at rx lax lbx ldx ⊢
  obtain ⟨a0, a1, a2, a3, af⟩ := cells4 ra
  go_wp2_with fail
  go_at_call 12; refine (c5 _).mono ?_; rintro e w9 ⟨rfl, hb⟩
  replace ra := RowAt.below ra hb
  replace rb := RowAt.below rb hb
  replace rd := RowAt.below rd hb
  replace rx := RowAt.below rx hb
  replace hB := below2 hB hb
  clear hb
  clear a0 a1 a2 a3 af
  go_wp2_with fail
  go_at_call 14; refine (c6 _).mono ?_; rintro e w10 ⟨rfl, hb⟩
  replace ra := RowAt.below ra hb
  replace rb := RowAt.below rb hb
  replace rd := RowAt.below rd hb
  replace rx := RowAt.below rx hb
  replace hB := below2 hB hb
  clear hb
  go_upto_region 9 with fail
  obtain ⟨Y11, hY⟩ : ∃ Y11, Y11 = w10.alloc (.cells #[.bool false, .int .u64 0, .int .u64 167772160, .int .i64 8] 27) := ⟨_, rfl⟩
  have hbY : Below w10.heap.size w10 Y11 := by rw [hY]; exact below_new (Below.refl _ _) _
  have rq : RowAt Y11 w10.heap.size [.bool false, .int .u64 0, .int .u64 167772160, .int .i64 8] 27 := by rw [hY]; exact RowAt.new _ _ _
  rw [← hY]
  have laq : ga < w10.heap.size := RowAt.lt ra
  replace ra := RowAt.below ra hbY
  have lbq : gb < w10.heap.size := RowAt.lt rb
  replace rb := RowAt.below rb hbY
  have ldq : gd < w10.heap.size := RowAt.lt rd
  replace rd := RowAt.below rd hbY
  have lxq : gx < w10.heap.size := RowAt.lt rx
  replace rx := RowAt.below rx hbY
  replace hB := below2 hB hbY
  clear hY hbY
  generalize w10.heap.size = gq at rq laq lbq ldq lxq ⊢
  go_wp2_with fail
  go_at_call 16; refine (c7 _).mono ?_; rintro e w12 ⟨rfl, hb⟩
  replace ra := RowAt.below ra hb
  replace rb := RowAt.below rb hb
  replace rd := RowAt.below rd hb
  replace rx := RowAt.below rx hb
  replace rq := RowAt.below rq hb
  replace hB := below2 hB hb
  clear hb
  go_wp2_with fail
  go_at_call 18; refine (c8 _).mono ?_; rintro e w13 ⟨rfl, hb⟩
  replace ra := RowAt.below ra hb
  replace rb := RowAt.below rb hb
  replace rd := RowAt.below rd hb
  replace rx := RowAt.below rx hb
  replace rq := RowAt.below rq hb
  replace hB := below2 hB hb
  clear hb
  go_upto_region 11 with fail
  obtain ⟨Y14, hY⟩ : ∃ Y14, Y14 = w13.alloc (.cells #[.int .u8 2, .int .i64 0] 30) := ⟨_, rfl⟩
  have hbY : Below w13.heap.size w13 Y14 := by rw [hY]; exact below_new (Below.refl _ _) _
  have rz : RowAt Y14 w13.heap.size [.int .u8 2, .int .i64 0] 30 := by rw [hY]; exact RowAt.new _ _ _
  rw [← hY]
  have laz : ga < w13.heap.size := RowAt.lt ra
  replace ra := RowAt.below ra hbY
  have lbz : gb < w13.heap.size := RowAt.lt rb
  replace rb := RowAt.below rb hbY
  have ldz : gd < w13.heap.size := RowAt.lt rd
  replace rd := RowAt.below rd hbY
  have lxz : gx < w13.heap.size := RowAt.lt rx
  replace rx := RowAt.below rx hbY
  have lqz : gq < w13.heap.size := RowAt.lt rq
  replace rq := RowAt.below rq hbY
  replace hB := below2 hB hbY
  clear hY hbY
  generalize w13.heap.size = gz at rz laz lbz ldz lxz lqz ⊢
  clear c1 c2 c3 c4 c5 c6 c7 c8 d1 d2 d3
  have n1 : ¬ ga = gb := by omega
  have n2 : ¬ gb = ga := by omega
  have n3 : ¬ gd = gb := by omega
  have n4 : ¬ gb = gd := by omega
  have n5 : ¬ gq = gb := by omega
  have n6 : ¬ gb = gq := by omega
  have n7 : ¬ gz = gb := by omega
  have n8 : ¬ gb = gz := by omega
  obtain ⟨a0, a1, a2, a3, af⟩ := cells4 ra
  obtain ⟨⟨b0, b1, b2, b3, b4, b5⟩, ⟨b6, b7, b8, b9, b10, b11⟩, bf, bl⟩ := cells12 rb
  obtain ⟨⟨d0, d1, d2, d3, d4, d5⟩, ⟨d6, d7, d8, d9, d10, d11⟩, df, dl⟩ := cells12 rd
  obtain ⟨q0, q1, q2, q3, qf⟩ := cells4 rq
  obtain ⟨z0, z1, zf⟩ := cells2 rz
  have rb2 := set1 rb 10 (.int .i64 1)
  have rd2 := gkeep rd (gsetO Y14 gb 10 (.int .i64 1)) (by omega)
  have hBs : Below w.heap.size w (Y14.setCell ⟨gb, 10, none⟩ (.int .i64 1)) := bset hB (by omega)
  clear ra rb rd rx rq rz
  go_wp2_with fail
  go_at_call 10; refine (c9 _).mono ?_; rintro e wA ⟨rfl, hb⟩
  replace rd2 := RowAt.below rd2 hb
  have hBt := below2 hBs hb
  clear a0 a1 a2 a3 af b0 b1 b2 b3 b4 b5 b6 b7 b8 b9 b10 b11 bf bl d0 d1 d2 d3 d4 d5 d6 d7 d8 d9 d10 d11 df dl q0 q1 q2 q3 qf z0 z1 zf hb
  obtain ⟨⟨d0, d1, d2, d3, d4, d5⟩, ⟨d6, d7, d8, d9, d10, d11⟩, df, dl⟩ := cells12 rd2
  go_wp2_with fail
  go_at_call 10; refine (c10 _).mono ?_; rintro e wB ⟨rfl, hb⟩
  go_wp2_with fail
  go_ret
  exact ⟨rfl, below2 hBt hb⟩
end Go.Proofs.Ytngomogoicdjpaa.Msg
