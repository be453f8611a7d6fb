/- What rightParts, unnamed and Check return. -/
import Derived.Test.YtjgieaijdkmadaaMsgEq
set_option linter.unusedVariables false
namespace Go.Proofs.Ytjgieaijdkmadaa.Msg
open Go.RowKit
open Go.Proofs.Ytjgieaijdkmadaa.Addr (Pf okP checkP wideN firstN kP hiN loN adV pfV RowAt below2 below_drew below_new bset RowAt.lt RowAt.cell RowAt.frozen RowAt.below RowAt.drew RowAt.new RowAt.alloc gdrew gset gbelow galloc grefl cells2 cells4 results_cell)

theorem cells12' {W : World} {b : Nat} {a0 a1 a2 a3 a4 a5 a6 a7 a8 a9 a10 a11 : Value} {t : TypeId} (h : RowAt W b [a0, a1, a2, a3, a4, a5, a6, a7, a8, a9, a10, a11] t) :
    (W.cell? ⟨b, 0, none⟩ = some a0 ∧ W.cell? ⟨b, 1, none⟩ = some a1 ∧ W.cell? ⟨b, 2, none⟩ = some a2 ∧ W.cell? ⟨b, 3, none⟩ = some a3 ∧ W.cell? ⟨b, 4, none⟩ = some a4 ∧ W.cell? ⟨b, 5, none⟩ = some a5) ∧ (W.cell? ⟨b, 6, none⟩ = some a6 ∧ W.cell? ⟨b, 7, none⟩ = some a7 ∧ W.cell? ⟨b, 8, none⟩ = some a8 ∧ W.cell? ⟨b, 9, none⟩ = some a9 ∧ W.cell? ⟨b, 10, none⟩ = some a10 ∧ W.cell? ⟨b, 11, none⟩ = some a11) ∧ (∀ k, W.frozen? ⟨b, k, none⟩ = false) ∧ b < W.heap.size :=
  ⟨⟨RowAt.cell h 0, RowAt.cell h 1, RowAt.cell h 2, RowAt.cell h 3, RowAt.cell h 4, RowAt.cell h 5⟩, ⟨RowAt.cell h 6, RowAt.cell h 7, RowAt.cell h 8, RowAt.cell h 9, RowAt.cell h 10, RowAt.cell h 11⟩, RowAt.frozen h, RowAt.lt h⟩
set_option maxHeartbeats 2000000 in
theorem rightParts_any (e : Ev) (w : World) (hf : FitE e) : Calls Try.prog 82 #[evV e] w fun r w' => r = .returned (.bool (partsB e)) ∧ Below w.heap.size w w' := by
  have c1 := fun W => Addr.check_any e.pf W hf.len hf.n
  have c2 := fun W => between_int 0 e.iface 65536 W
  have c3 := fun W => between_int 0 e.peer 1048576 W
  have c4 := fun W => checkAction_any e.act W hf.act
  have HC : Hid (partsB e = (okP e.pf && (decide (0 ≤ e.iface) && decide (e.iface ≤ 65536)) && (decide (0 ≤ e.peer) && decide (e.peer ≤ 1048576)) && (decide (e.kind ≠ 3) || okA e.act))) := rfl
  generalize partsB e = R at HC ⊢
  have hk1 := hf.kind
  have hcp : checkP e.pf = if okP e.pf = true then 0 else 2 := rfl
  have hca : checkA e.act = if okA e.act = true then 0 else 2 := rfl
  obtain ⟨k, a, b, c, ⟨sx, n, l⟩, ⟨ak, ai⟩, i, p⟩ := e
  unfold Addr.pfV at c1
  unfold acV at c4
  unfold evV evC
  simp only at *
  rw [hcp] at c1
  rw [hca] at c4
  clear hf hcp hca
  generalize okP ⟨sx, n, l⟩ = B1 at *
  generalize okA ⟨ak, ai⟩ = B4 at *
  generalize (decide (0 ≤ i) && decide (i ≤ 65536)) = B2 at *
  generalize (decide (0 ≤ p) && decide (p ≤ 1048576)) = B3 at *
  obtain ⟨X, hX⟩ : ∃ X, X = w.alloc (.cells #[.int .u8 (k : Int), .int .i64 a, .int .u64 (b : Int), .int .i64 c, .bool sx, .int .u64 (hiN n : Int), .int .u64 (loN n : Int), .int .i64 l, .int .u8 (ak : Int), .int .i64 ai, .int .i64 i, .int .i64 p] 87) := ⟨_, rfl⟩
  have hB : Below w.heap.size w X := by rw [hX]; exact below_new (Below.refl _ _) _
  have r0 : RowAt X w.heap.size [.int .u8 (k : Int), .int .i64 a, .int .u64 (b : Int), .int .i64 c, .bool sx, .int .u64 (hiN n : Int), .int .u64 (loN n : Int), .int .i64 l, .int .u8 (ak : Int), .int .i64 ai, .int .i64 i, .int .i64 p] 87 := by rw [hX]; exact RowAt.new _ _ _
  obtain ⟨⟨y0, y1, y2, y3, y4, y5⟩, ⟨y6, y7, y8, y9, y10, y11⟩, yf, hly⟩ := cells12' r0
  generalize hiN n = nh at *
  generalize loN n = nl at *
  cases B1
  · have HV : Hid (R = false) := by show _ = _; rw [HC.out]; rfl
    clear HC
    simp only [Bool.false_eq_true, if_false] at c1
    go_enter Try.func82, Try.ntmps82
    go_upto_region 1 with fail
    rw [← hX]
    clear hX
    go_wp2_with fail
    go_at_call 37; refine (c1 _).mono ?_; rintro r w1 ⟨rfl, hb1⟩
    go_wp2_with fail
    go_ret
    exact ⟨by rw [HV.out]; rfl, below2 hB hb1⟩
  simp only [if_true] at c1
  cases B2
  · have HV : Hid (R = false) := by show _ = _; rw [HC.out]; rfl
    clear HC
    go_enter Try.func82, Try.ntmps82
    go_upto_region 1 with fail
    rw [← hX]
    clear hX
    go_wp2_with fail
    go_at_call 37; refine (c1 _).mono ?_; rintro r w1 ⟨rfl, hb1⟩
    clear y0 y1 y2 y3 y4 y5 y6 y7 y8 y9 y10 y11 yf hly
    obtain ⟨⟨y0, y1, y2, y3, y4, y5⟩, ⟨y6, y7, y8, y9, y10, y11⟩, yf, hly⟩ := cells12' (RowAt.below r0 hb1)
    go_wp2_with fail
    go_at_call 99; refine (c2 _).mono ?_; rintro r w2 ⟨rfl, rfl⟩
    go_wp2_with fail
    go_ret
    exact ⟨by rw [HV.out]; rfl, below2 hB hb1⟩
  cases B3
  · have HV : Hid (R = false) := by show _ = _; rw [HC.out]; rfl
    clear HC
    go_enter Try.func82, Try.ntmps82
    go_upto_region 1 with fail
    rw [← hX]
    clear hX
    go_wp2_with fail
    go_at_call 37; refine (c1 _).mono ?_; rintro r w1 ⟨rfl, hb1⟩
    clear y0 y1 y2 y3 y4 y5 y6 y7 y8 y9 y10 y11 yf hly
    obtain ⟨⟨y0, y1, y2, y3, y4, y5⟩, ⟨y6, y7, y8, y9, y10, y11⟩, yf, hly⟩ := cells12' (RowAt.below r0 hb1)
    go_wp2_with fail
    go_at_call 99; refine (c2 _).mono ?_; rintro r w2 ⟨rfl, rfl⟩
    go_wp2_with fail
    go_at_call 99; refine (c3 _).mono ?_; rintro r w3 ⟨rfl, rfl⟩
    go_wp2_with fail
    go_ret
    exact ⟨by rw [HV.out]; rfl, below2 hB hb1⟩
  by_cases hk3 : k = 3
  · have HV : Hid (R = B4) := by show _ = _; rw [HC.out, hk3]; cases B4 <;> rfl
    have q : ((k : Int) != 3) = false := by rw [hk3]; rfl
    clear HC hk3
    cases B4
    all_goals
      simp only [Bool.false_eq_true, if_false, if_true] at c4
      go_enter Try.func82, Try.ntmps82
      go_upto_region 1 with fail
      rw [← hX]
      clear hX
      go_wp2_with fail
      go_at_call 37; refine (c1 _).mono ?_; rintro r w1 ⟨rfl, hb1⟩
      clear y0 y1 y2 y3 y4 y5 y6 y7 y8 y9 y10 y11 yf hly
      obtain ⟨⟨y0, y1, y2, y3, y4, y5⟩, ⟨y6, y7, y8, y9, y10, y11⟩, yf, hly⟩ := cells12' (RowAt.below r0 hb1)
      go_wp2_with fail
      go_at_call 99; refine (c2 _).mono ?_; rintro r w2 ⟨rfl, rfl⟩
      go_wp2_with fail
      go_at_call 99; refine (c3 _).mono ?_; rintro r w3 ⟨rfl, rfl⟩
      go_wp2_with fail
      go_at_call 102; refine (c4 _).mono ?_; rintro r w4 ⟨rfl, hb4⟩
      go_wp2_with fail
      go_ret
      exact ⟨by rw [HV.out]; rfl, below2 (below2 hB hb1) hb4⟩
  · have HV : Hid (R = true) := by show _ = _; rw [HC.out, decide_eq_true hk3]; rfl
    have q : ((k : Int) != 3) = true := bne_iff_ne.2 (by omega)
    clear HC hk3
    go_enter Try.func82, Try.ntmps82
    go_upto_region 1 with fail
    rw [← hX]
    clear hX
    go_wp2_with fail
    go_at_call 37; refine (c1 _).mono ?_; rintro r w1 ⟨rfl, hb1⟩
    clear y0 y1 y2 y3 y4 y5 y6 y7 y8 y9 y10 y11 yf hly
    obtain ⟨⟨y0, y1, y2, y3, y4, y5⟩, ⟨y6, y7, y8, y9, y10, y11⟩, yf, hly⟩ := cells12' (RowAt.below r0 hb1)
    go_wp2_with fail
    go_at_call 99; refine (c2 _).mono ?_; rintro r w2 ⟨rfl, rfl⟩
    go_wp2_with fail
    go_at_call 99; refine (c3 _).mono ?_; rintro r w3 ⟨rfl, rfl⟩
    go_wp2_with fail
    go_ret
    exact ⟨by rw [HV.out]; rfl, below2 hB hb1⟩
end Go.Proofs.Ytjgieaijdkmadaa.Msg
