/- What first of events returns. -/
import Derived.Test.YtopabkkapbaibaaGreatMsgFirst
import Derived.Test.YtopabkkapbaibaaGreatMsgChk3
import Derived.Test.YtopabkkapbaibaaGreatShelf
set_option linter.unusedVariables false
namespace Go.Proofs.YtopabkkapbaibaaGreat.Msg
open Go.RowKit
open Go.Proofs.YtopabkkapbaibaaGreat.Addr (Pf okP checkP wideN firstN kP hiN loN adV pfV RowAt below2 below_drew below_new bset RowAt.lt RowAt.cell RowAt.frozen RowAt.below RowAt.drew RowAt.new RowAt.alloc gdrew gset gbelow galloc grefl cells2 cells4 results_cell)

set_option maxHeartbeats 4000000 in
theorem first_ev (s : List UInt8) (w : World) (hs : (s.length : Int) ≤ 200000000000000) :
    Calls Tryz.prog 30 #[.string ⟨s.toArray⟩, .func (.func 31) #[] #[], .func (.func 32) #[] #[]] w fun e w' => e = .returned (.tuple #[evV (firstP rdE okE zeroE s).1, .string ⟨(firstP rdE okE zeroE s).2.1.toArray⟩, .int .i64 (firstP rdE okE zeroE s).2.2]) ∧ Below w.heap.size w w' := by
  have hfit : FitE (rdE (some s)).1 := ev_fit s
  obtain ⟨X, hX⟩ : ∃ X, X = (w.alloc (.cells #[.int .u8 0, .int .i64 0, .int .u64 0, .int .i64 0, .bool false, .int .u64 0, .int .u64 0, .int .i64 0, .int .u8 0, .int .i64 0, .int .i64 0, .int .i64 0] 35)).alloc (.cells #[.string ⟨s.toArray⟩, .bool false] 100) := ⟨_, rfl⟩
  have hbx : Below w.heap.size w X := by rw [hX]; exact below_new (below_new (Below.refl _ _) _) _
  obtain ⟨rx, sx⟩ := row_new2 w [.int .u8 0, .int .i64 0, .int .u64 0, .int .i64 0, .bool false, .int .u64 0, .int .u64 0, .int .i64 0, .int .u8 0, .int .i64 0, .int .i64 0, .int .i64 0] [.string ⟨s.toArray⟩, .bool false] 35 100
  rw [show (w.alloc (.cells ([.int .u8 0, .int .i64 0, .int .u64 0, .int .i64 0, .bool false, .int .u64 0, .int .u64 0, .int .i64 0, .int .u8 0, .int .i64 0, .int .i64 0, .int .i64 0] : List Value).toArray 35)).alloc (.cells ([.string ⟨s.toArray⟩, .bool false] : List Value).toArray 100) = X from hX.symm] at rx sx
  have cr := readEvent_any (w.heap.size + 1) (some s) X sx (fun l e => by injection e with e; subst e; omega)
  have cc := fun W => echeck_any (rdE (some s)).1 W hfit
  have HP : Hid (firstP rdE okE zeroE s = match (rdE (some s)).2 with | none => (zeroE, [], 7) | some r => if okE (rdE (some s)).1 then ((rdE (some s)).1, r, 0) else (zeroE, [], 7)) := by show _ = _; unfold firstP; cases (rdE (some s)).2 <;> rfl
  generalize firstP rdE okE zeroE s = R at HP ⊢
  generalize rdE (some s) = Q at *
  obtain ⟨q, st⟩ := Q
  simp only at *
  clear hfit
  generalize hob : okE q = B at *
  have hcb : checkE q = if B = true then 0 else 2 := by rw [← hob]; rfl
  rw [hcb] at cc
  clear hob hcb
  obtain ⟨k, a, b, c, ⟨s6, n, ln⟩, ⟨ak, ai⟩, i, p⟩ := q
  unfold evV evC at cr cc
  simp only at *
  obtain ⟨x0, x1, xf⟩ := cells2 sx
  have hl1 := RowAt.lt sx
  go_enter Tryz.func30, Tryz.ntmps30
  go_upto_region 2 with fail
  rw [← hX]
  clear hX
  go_wp2_with fail
  go_at_call 31; refine cr.mono ?_; rintro e w1 ⟨rfl, hr1, hg1⟩
  have rx1 := gkeep rx hg1 (by omega)
  have hB1 : Below w.heap.size w w1 := Addr.gfinal hbx hg1 (by omega)
  clear cr x0 x1 xf rx sx
  go_upto_region 3 with fail
  obtain ⟨Y, hY⟩ : ∃ Y, Y = w1.alloc (.cells #[.int .u8 (k : Int), .int .i64 a, .int .u64 (b : Int), .int .i64 c, .bool s6, .int .u64 (hiN n : Int), .int .u64 (loN n : Int), .int .i64 ln, .int .u8 (ak : Int), .int .i64 ai, .int .i64 i, .int .i64 p] 35) := ⟨_, rfl⟩
  have hbY : Below w1.heap.size w1 Y := by rw [hY]; exact below_new (Below.refl _ _) _
  have tY : RowAt Y w1.heap.size [.int .u8 (k : Int), .int .i64 a, .int .u64 (b : Int), .int .i64 c, .bool s6, .int .u64 (hiN n : Int), .int .u64 (loN n : Int), .int .i64 ln, .int .u8 (ak : Int), .int .i64 ai, .int .i64 i, .int .i64 p] 35 := by rw [hY]; exact RowAt.new _ _ _
  rw [← hY]
  replace rx1 := RowAt.below rx1 hbY
  replace hr1 := rds_keep hr1 hbY
  replace hB1 := below2 hB1 hbY
  have hgt : w.heap.size + 1 < w1.heap.size := Nat.lt_of_lt_of_le hl1 hg1.size
  clear hY hbY hg1 hl1
  generalize w1.heap.size = t1 at tY hgt ⊢
  cases st with
  | none =>
    have HV : Hid (R = (zeroE, [], 7)) := HP.out
    clear HP
    obtain ⟨l', hr1⟩ := hr1
    obtain ⟨x0, x1, xf⟩ := cells2 hr1
    obtain ⟨⟨y0, y1, y2, y3, y4, y5⟩, ⟨y6, y7, y8, y9, y10, y11⟩, yf, yl⟩ := cells12 rx1
    have hlx := RowAt.lt rx1
    go_wp2_with fail
    refine bodyPost_ret (v := .tuple #[.agg #[.int .u8 0, .int .i64 0, .int .u64 0, .int .i64 0, .bool false, .int .u64 0, .int .u64 0, .int .i64 0, .int .u8 0, .int .i64 0, .int .i64 0, .int .i64 0], .string ⟨#[]⟩, .int .i64 7]) ?_ rfl ⟨by rw [HV.out]; rw [evV_z], ?_⟩
    · rw [results_cell_tmp2 rfl]
      go_simp
    · repeat' (first | with_reducible exact hB1 | with_reducible apply below_new | with_reducible refine bset ?_ (by omega))
  | some r =>
    have hr1 : Rd Y (w.heap.size + 1) r false := hr1
    obtain ⟨x0, x1, xf⟩ := cells2 hr1
    obtain ⟨⟨u0, u1, u2, u3, u4, u5⟩, ⟨u6, u7, u8, u9, u10, u11⟩, uf, ul⟩ := cells12 tY
    cases B
    · have HV : Hid (R = (zeroE, [], 7)) := HP.out
      clear HP
      simp only [Bool.false_eq_true, if_false] at cc
      go_wp2_with fail
      go_at_call 32; refine (cc _).mono ?_; rintro e w2 ⟨rfl, hb2⟩
      replace rx1 := RowAt.below rx1 hb2
      replace hB1 := below2 hB1 hb2
      obtain ⟨⟨y0, y1, y2, y3, y4, y5⟩, ⟨y6, y7, y8, y9, y10, y11⟩, yf, yl⟩ := cells12 rx1
      have hlx := RowAt.lt rx1
      clear u0 u1 u2 u3 u4 u5 u6 u7 u8 u9 u10 u11 uf ul x0 x1 xf
      go_wp2_with fail
      refine bodyPost_ret (v := .tuple #[.agg #[.int .u8 0, .int .i64 0, .int .u64 0, .int .i64 0, .bool false, .int .u64 0, .int .u64 0, .int .i64 0, .int .u8 0, .int .i64 0, .int .i64 0, .int .i64 0], .string ⟨#[]⟩, .int .i64 7]) ?_ rfl ⟨by rw [HV.out]; rw [evV_z], ?_⟩
      · rw [results_cell_tmp2 rfl]
        go_simp
      · repeat' (first | with_reducible exact hB1 | with_reducible apply below_new | with_reducible refine bset ?_ (by omega))
    · have HV : Hid (R = (⟨k, a, b, c, ⟨s6, n, ln⟩, ⟨ak, ai⟩, i, p⟩, r, 0)) := HP.out
      clear HP
      simp only [if_true] at cc
      go_wp2_with fail
      go_at_call 32; refine (cc _).mono ?_; rintro e w2 ⟨rfl, hb2⟩
      replace rx1 := RowAt.below rx1 hb2
      replace hr1 := RowAt.below hr1 hb2
      replace tY := RowAt.below tY hb2
      replace hB1 := below2 hB1 hb2
      clear u0 u1 u2 u3 u4 u5 u6 u7 u8 u9 u10 u11 uf ul x0 x1 xf
      obtain ⟨x0, x1, xf⟩ := cells2 hr1
      obtain ⟨⟨y0, y1, y2, y3, y4, y5⟩, ⟨y6, y7, y8, y9, y10, y11⟩, yf, yl⟩ := cells12 rx1
      obtain ⟨⟨u0, u1, u2, u3, u4, u5⟩, ⟨u6, u7, u8, u9, u10, u11⟩, uf, ul⟩ := cells12 tY
      have hlx := RowAt.lt rx1
      have hlt := RowAt.lt tY
      have hlr := RowAt.lt hr1
      clear hr1 rx1 tY
      go_wp2_with fail
      go_region
      go_wp2_with fail
      refine bodyPost_ret (v := .tuple #[.agg #[.int .u8 (k : Int), .int .i64 a, .int .u64 (b : Int), .int .i64 c, .bool s6, .int .u64 (hiN n : Int), .int .u64 (loN n : Int), .int .i64 ln, .int .u8 (ak : Int), .int .i64 ai, .int .i64 i, .int .i64 p], .string ⟨r.toArray⟩, .int .i64 0]) ?_ rfl ⟨by rw [HV.out]; rfl, ?_⟩
      · rw [results_cell_tmp2 rfl]
        go_simp
      · apply below_drew
        repeat' (first | with_reducible exact hB1 | with_reducible apply below_new | with_reducible refine bset ?_ (by omega))
end Go.Proofs.YtopabkkapbaibaaGreat.Msg
