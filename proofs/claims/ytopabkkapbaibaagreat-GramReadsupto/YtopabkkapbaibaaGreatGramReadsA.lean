/- The document's answer of layer 11: the event of a body, whole. -/
import Derived.Test.YtopabkkapbaibaaGreatMsgRX2
import Derived.Test.YtopabkkapbaibaaGreatMsgRX1
import Derived.Test.YtopabkkapbaibaaGreatMsgPut3
import Derived.Test.YtopabkkapbaibaaGreatMsgRX4
import Derived.Test.YtopabkkapbaibaaGreatMsgRX3
set_option linter.unusedVariables false
namespace Go.Proofs.YtopabkkapbaibaaGreat.Msg
open Go.RowKit
open Go.Proofs.YtopabkkapbaibaaGreat.Addr (Pf okP checkP wideN firstN kP hiN loN adV pfV RowAt below2 below_drew below_new bset RowAt.lt RowAt.cell RowAt.frozen RowAt.below RowAt.drew RowAt.new RowAt.alloc gdrew gset gbelow galloc grefl cells2 cells4 results_cell Bl bl_ne wp_region_bl bl_call bl_same)

set_option maxRecDepth 20000 in
set_option maxHeartbeats 4000000 in
theorem rput_no (k a b c hi lo l ak ai i p : Int) (sx : Bool) (w : World) (cC : ∀ W : World, Calls Tryz.prog 39 #[.agg #[.int .u8 k, .int .i64 a, .int .u64 b, .int .i64 c, .bool sx, .int .u64 hi, .int .u64 lo, .int .i64 l, .int .u8 ak, .int .i64 ai, .int .i64 i, .int .i64 p]] W fun e w' => e = .returned (.int .i64 2) ∧ Below W.heap.size W w') :
    Calls Tryz.prog 23 #[.agg #[.int .u8 k, .int .i64 a, .int .u64 b, .int .i64 c, .bool sx, .int .u64 hi, .int .u64 lo, .int .i64 l, .int .u8 ak, .int .i64 ai, .int .i64 i, .int .i64 p]] w fun e w' => e = .returned (.tuple #[.string ⟨#[]⟩, .int .i64 2]) ∧ Below w.heap.size w w' := by
  obtain ⟨X, hX⟩ : ∃ X, X = w.alloc (.cells #[.int .u8 k, .int .i64 a, .int .u64 b, .int .i64 c, .bool sx, .int .u64 hi, .int .u64 lo, .int .i64 l, .int .u8 ak, .int .i64 ai, .int .i64 i, .int .i64 p] 35) := ⟨_, rfl⟩
  have hB : Below w.heap.size w X := by rw [hX]; exact below_new (Below.refl _ _) _
  have r0 : RowAt X w.heap.size [.int .u8 k, .int .i64 a, .int .u64 b, .int .i64 c, .bool sx, .int .u64 hi, .int .u64 lo, .int .i64 l, .int .u8 ak, .int .i64 ai, .int .i64 i, .int .i64 p] 35 := by rw [hX]; exact RowAt.new _ _ _
  obtain ⟨⟨y0, y1, y2, y3, y4, y5⟩, ⟨y6, y7, y8, y9, y10, y11⟩, yf, hly⟩ := cells12' r0
  go_enter Tryz.func23, Tryz.ntmps23
  go_upto_region 1 with fail
  rw [← hX]
  clear hX
  go_wp2_with fail
  go_at_call 39; refine (cC _).mono ?_; rintro e w1 ⟨rfl, hb1⟩
  go_wp2_with fail
  go_ret2
  exact ⟨rfl, below2 hB hb1⟩
theorem one_made {W Y : World} {v : Value} {t : TypeId} (hb : Below (W.alloc (.cells #[v] t)).heap.size (W.alloc (.cells #[v] t)) Y) : Y.cell? ⟨W.heap.size, 0, none⟩ = some v ∧ W.heap.size < Y.heap.size := ⟨(RowAt.below (RowAt.new W [v] t) hb).cell 0, (RowAt.below (RowAt.new W [v] t) hb).lt⟩
theorem one_made2 {W Y : World} {v : Value} {t : TypeId} (hb : Below (W.alloc (.cells #[v] t)).drew.heap.size (W.alloc (.cells #[v] t)).drew Y) : Y.cell? ⟨W.heap.size, 0, none⟩ = some v ∧ W.heap.size < Y.heap.size := ⟨(RowAt.below (RowAt.new W [v] t).drew hb).cell 0, (RowAt.below (RowAt.new W [v] t).drew hb).lt⟩
theorem cell_keep {W Y : World} {g : Nat} {v : Value} (hb : Below W.heap.size W Y) (hp : g < W.heap.size) (h : W.cell? ⟨g, 0, none⟩ = some v) : Y.cell? ⟨g, 0, none⟩ = some v ∧ g < Y.heap.size := ⟨(hb.cell (p := ⟨g, 0, none⟩) hp).trans h, Nat.lt_of_lt_of_le hp hb.size⟩
set_option maxRecDepth 20000 in
set_option maxHeartbeats 8000000 in
theorem rput_yes (k a b c hi lo l ak ai i p : Int) (sx : Bool) (w : World) (cC : ∀ W : World, Calls Tryz.prog 39 #[.agg #[.int .u8 k, .int .i64 a, .int .u64 b, .int .i64 c, .bool sx, .int .u64 hi, .int .u64 lo, .int .i64 l, .int .u8 ak, .int .i64 ai, .int .i64 i, .int .i64 p]] W fun e w' => e = .returned (.int .i64 0) ∧ Below W.heap.size W w') (a2 c2 i2 p2 : Int) (K R2 S2 T2 K1 K2 S : ByteArray) (cR : ∀ W : World, Calls Tryz.prog 40 #[.int .u64 a2] W fun e w' => e = .returned (.string R2) ∧ Below W.heap.size W w') (cS : ∀ W : World, Calls Tryz.prog 40 #[.int .u64 b] W fun e w' => e = .returned (.string S2) ∧ Below W.heap.size W w') (cT : ∀ W : World, Calls Tryz.prog 40 #[.int .u64 c2] W fun e w' => e = .returned (.string T2) ∧ Below W.heap.size W w')
    (hcv : ∀ (W : World) (g : Nat), W.cell? ⟨g, 0, none⟩ = some (.int .u8 k) → (convert 70 9 (.slice (some ⟨g, 0, none⟩) 1 1)).run Tryz.prog W = .ok (.string K) W)
    (hwa : IntKind.u64.wrap a = a2) (hwc : IntKind.u64.wrap c = c2) (hK : K ++ R2 = K1) (hK1 : K1 ++ S2 = K2) (hK2 : K2 ++ T2 = S)
    (n1 : ¬ 9223372036854775807 < K.size + R2.size) (n2 : ¬ 9223372036854775807 < K1.size + S2.size) (n3 : ¬ 9223372036854775807 < K2.size + T2.size) (P2 A2 I2 J2 SP SI RES : ByteArray) (y z : Int) (cP : ∀ W : World, Calls Tryz.prog 41 #[.agg #[.bool sx, .int .u64 hi, .int .u64 lo, .int .i64 l]] W fun e w' => e = .returned (.tuple #[.string P2, .int .i64 y]) ∧ Below W.heap.size W w') (cA : ∀ W : World, Calls Tryz.prog 42 #[.agg #[.int .u8 ak, .int .i64 ai]] W fun e w' => e = .returned (.tuple #[.string A2, .int .i64 z]) ∧ Below W.heap.size W w') (cI : ∀ W : World, Calls Tryz.prog 40 #[.int .u64 i2] W fun e w' => e = .returned (.string I2) ∧ Below W.heap.size W w') (hwi : IntKind.u64.wrap i = i2) (cJ : ∀ W : World, Calls Tryz.prog 40 #[.int .u64 p2] W fun e w' => e = .returned (.string J2) ∧ Below W.heap.size W w') (hwp : IntKind.u64.wrap p = p2)
    (hSP : S ++ P2 = SP) (hSI : S ++ I2 = SI) (n4 : ¬ 9223372036854775807 < S.size + P2.size) (n5 : ¬ 9223372036854775807 < SP.size + A2.size) (n6 : ¬ 9223372036854775807 < S.size + I2.size) (n7 : ¬ 9223372036854775807 < SI.size + J2.size)
    (H3 : k = 3 → Hid (SP ++ A2 = RES)) (H4 : k = 4 → Hid (SP = RES)) (H5 : k = 5 → Hid (SI ++ J2 = RES)) (H6 : k = 6 → Hid (SI = RES)) (H0 : k ≠ 3 → k ≠ 4 → k ≠ 5 → k ≠ 6 → Hid (S = RES)) :
    Calls Tryz.prog 23 #[.agg #[.int .u8 k, .int .i64 a, .int .u64 b, .int .i64 c, .bool sx, .int .u64 hi, .int .u64 lo, .int .i64 l, .int .u8 ak, .int .i64 ai, .int .i64 i, .int .i64 p]] w fun e w' => e = .returned (.tuple #[.string RES, .int .i64 0]) ∧ Below w.heap.size w w' := by
  obtain ⟨X, hX⟩ : ∃ X, X = w.alloc (.cells #[.int .u8 k, .int .i64 a, .int .u64 b, .int .i64 c, .bool sx, .int .u64 hi, .int .u64 lo, .int .i64 l, .int .u8 ak, .int .i64 ai, .int .i64 i, .int .i64 p] 35) := ⟨_, rfl⟩
  have hB : Below w.heap.size w X := by rw [hX]; exact below_new (Below.refl _ _) _
  have r0 : RowAt X w.heap.size [.int .u8 k, .int .i64 a, .int .u64 b, .int .i64 c, .bool sx, .int .u64 hi, .int .u64 lo, .int .i64 l, .int .u8 ak, .int .i64 ai, .int .i64 i, .int .i64 p] 35 := by rw [hX]; exact RowAt.new _ _ _
  obtain ⟨⟨y0, y1, y2, y3, y4, y5⟩, ⟨y6, y7, y8, y9, y10, y11⟩, yf, hly⟩ := cells12' r0
  go_enter Tryz.func23, Tryz.ntmps23
  go_upto_region 1 with fail
  rw [← hX]
  clear hX
  go_wp2_with fail
  go_at_call 39; refine (cC _).mono ?_; rintro e w1 ⟨rfl, hb1⟩
  replace r0 := RowAt.below r0 hb1
  replace hB := below2 hB hb1
  clear y0 y1 y2 y3 y4 y5 y6 y7 y8 y9 y10 y11 yf hly hb1 cC
  obtain ⟨g0, hg0⟩ : ∃ g, g = w.heap.size := ⟨_, rfl⟩
  rw [← hg0] at r0 ⊢
  clear hg0
  obtain ⟨⟨y0, y1, y2, y3, y4, y5⟩, ⟨y6, y7, y8, y9, y10, y11⟩, yf, hly⟩ := cells12' r0
  go_upto_region 3 with fail
  go_cut [4] (fun v wc => v = .string S ∧ Below w1.heap.size w1 wc)
  case first =>
    have HSK : Hid (∀ w' : World, Below w1.heap.size w1 w' → (w'.cell? ⟨g0, 0, none⟩ = some (.int .u8 k) ∧ w'.cell? ⟨g0, 1, none⟩ = some (.int .i64 a) ∧ w'.cell? ⟨g0, 2, none⟩ = some (.int .u64 b) ∧ w'.cell? ⟨g0, 3, none⟩ = some (.int .i64 c))) := fun W hb => by
      have r := RowAt.below r0 hb
      exact ⟨r.cell 0, r.cell 1, r.cell 2, r.cell 3⟩
    have hbA : Below w1.heap.size w1 w1 := Below.refl _ _
    clear r0 hB cP cA cI cJ H3 H4 H5 H6 H0 hSP hSI n4 n5 n6 n7 hwi hwp
    go_region_held (fun w' => w'.cell? ⟨g0, 0, none⟩ = some (.int .u8 k) ∧ w'.cell? ⟨g0, 1, none⟩ = some (.int .i64 a) ∧ w'.cell? ⟨g0, 2, none⟩ = some (.int .u64 b) ∧ w'.cell? ⟨g0, 3, none⟩ = some (.int .i64 c))
      (first
        | (refine HSK.out _ ?_
           repeat' (first | with_reducible exact hbA | with_reducible apply below_drew | with_reducible apply below_new))
        | go_keep)
      (first
        | (go_at_call 40
           with_reducible refine (cR _).mono ?_
           rintro e w3 ⟨rfl, hb3⟩
           (first | (with_reducible have hz := one_made2 hb3) | (with_reducible have hz := one_made hb3) | (with_reducible have hz := cell_keep hb3 hlq hq) | skip)
           (first | (clear hq hlq; obtain ⟨hq, hlq⟩ := hz) | obtain ⟨hq, hlq⟩ := hz | skip)
           have hbN : Below w1.heap.size w1 w3 := below2 (by repeat' (first | with_reducible exact hbA | with_reducible apply below_drew | with_reducible apply below_new)) hb3
           clear hbA
           have hbA := hbN
           clear hbN)
        | (go_at_call 40
           with_reducible refine (cS _).mono ?_
           rintro e w3 ⟨rfl, hb3⟩
           (first | (with_reducible have hz := one_made2 hb3) | (with_reducible have hz := one_made hb3) | (with_reducible have hz := cell_keep hb3 hlq hq) | skip)
           (first | (clear hq hlq; obtain ⟨hq, hlq⟩ := hz) | obtain ⟨hq, hlq⟩ := hz | skip)
           have hbN : Below w1.heap.size w1 w3 := below2 (by repeat' (first | with_reducible exact hbA | with_reducible apply below_drew | with_reducible apply below_new)) hb3
           clear hbA
           have hbA := hbN
           clear hbN)
        | (go_at_call 40
           with_reducible refine (cT _).mono ?_
           rintro e w3 ⟨rfl, hb3⟩
           (first | (with_reducible have hz := one_made2 hb3) | (with_reducible have hz := one_made hb3) | (with_reducible have hz := cell_keep hb3 hlq hq) | skip)
           (first | (clear hq hlq; obtain ⟨hq, hlq⟩ := hz) | obtain ⟨hq, hlq⟩ := hz | skip)
           have hbN : Below w1.heap.size w1 w3 := below2 (by repeat' (first | with_reducible exact hbA | with_reducible apply below_drew | with_reducible apply below_new)) hb3
           clear hbA
           have hbA := hbN
           clear hbN))
    all_goals go_wp2_with fail
    all_goals go_meet
    all_goals exact ⟨rfl, by repeat' (first | with_reducible exact hbA | with_reducible apply below_drew | with_reducible apply below_new)⟩
  case rest =>
  obtain ⟨rfl, hbc⟩ := hcut
  replace r0 := RowAt.below r0 hbc
  replace hB := below2 hB hbc
  clear y0 y1 y2 y3 y4 y5 y6 y7 y8 y9 y10 y11 yf hly hbc
  obtain ⟨⟨y0, y1, y2, y3, y4, y5⟩, ⟨y6, y7, y8, y9, y10, y11⟩, yf, hly⟩ := cells12' r0
  by_cases k3 : k = 3
  · have hr := (H3 k3).out
    subst k3
    clear H3 H4 H5 H6 H0 cR cS cT hcv
    skip
    go_wp2_with fail
    go_at_call 41; refine (cP _).mono ?_; rintro e v0 ⟨rfl, hbq⟩
    replace r0 := RowAt.below r0 hbq
    replace hB := below2 hB hbq
    clear y0 y1 y2 y3 y4 y5 y6 y7 y8 y9 y10 y11 yf hly hbq
    obtain ⟨⟨y0, y1, y2, y3, y4, y5⟩, ⟨y6, y7, y8, y9, y10, y11⟩, yf, hly⟩ := cells12' r0
    go_wp2_with fail
    go_at_call 42; refine (cA _).mono ?_; rintro e v1 ⟨rfl, hbq⟩
    replace r0 := RowAt.below r0 hbq
    replace hB := below2 hB hbq
    clear y0 y1 y2 y3 y4 y5 y6 y7 y8 y9 y10 y11 yf hly hbq
    obtain ⟨⟨y0, y1, y2, y3, y4, y5⟩, ⟨y6, y7, y8, y9, y10, y11⟩, yf, hly⟩ := cells12' r0
    go_wp2_with fail
    go_ret2
    exact ⟨rfl, hB⟩
  by_cases k4 : k = 4
  · have hr := (H4 k4).out
    subst k4
    clear H3 H4 H5 H6 H0 cR cS cT hcv
    subst hr
    go_wp2_with fail
    go_at_call 41; refine (cP _).mono ?_; rintro e v0 ⟨rfl, hbq⟩
    replace r0 := RowAt.below r0 hbq
    replace hB := below2 hB hbq
    clear y0 y1 y2 y3 y4 y5 y6 y7 y8 y9 y10 y11 yf hly hbq
    obtain ⟨⟨y0, y1, y2, y3, y4, y5⟩, ⟨y6, y7, y8, y9, y10, y11⟩, yf, hly⟩ := cells12' r0
    go_wp2_with fail
    go_ret2
    exact ⟨rfl, hB⟩
  by_cases k5 : k = 5
  · have hr := (H5 k5).out
    subst k5
    clear H3 H4 H5 H6 H0 cR cS cT hcv
    skip
    go_wp2_with fail
    go_at_call 40; refine (cI _).mono ?_; rintro e v0 ⟨rfl, hbq⟩
    replace r0 := RowAt.below r0 hbq
    replace hB := below2 hB hbq
    clear y0 y1 y2 y3 y4 y5 y6 y7 y8 y9 y10 y11 yf hly hbq
    obtain ⟨⟨y0, y1, y2, y3, y4, y5⟩, ⟨y6, y7, y8, y9, y10, y11⟩, yf, hly⟩ := cells12' r0
    go_wp2_with fail
    go_at_call 40; refine (cJ _).mono ?_; rintro e v1 ⟨rfl, hbq⟩
    replace r0 := RowAt.below r0 hbq
    replace hB := below2 hB hbq
    clear y0 y1 y2 y3 y4 y5 y6 y7 y8 y9 y10 y11 yf hly hbq
    obtain ⟨⟨y0, y1, y2, y3, y4, y5⟩, ⟨y6, y7, y8, y9, y10, y11⟩, yf, hly⟩ := cells12' r0
    go_wp2_with fail
    go_ret2
    exact ⟨rfl, hB⟩
  by_cases k6 : k = 6
  · have hr := (H6 k6).out
    subst k6
    clear H3 H4 H5 H6 H0 cR cS cT hcv
    subst hr
    go_wp2_with fail
    go_at_call 40; refine (cI _).mono ?_; rintro e v0 ⟨rfl, hbq⟩
    replace r0 := RowAt.below r0 hbq
    replace hB := below2 hB hbq
    clear y0 y1 y2 y3 y4 y5 y6 y7 y8 y9 y10 y11 yf hly hbq
    obtain ⟨⟨y0, y1, y2, y3, y4, y5⟩, ⟨y6, y7, y8, y9, y10, y11⟩, yf, hly⟩ := cells12' r0
    go_wp2_with fail
    go_ret2
    exact ⟨rfl, hB⟩
  have hr := (H0 k3 k4 k5 k6).out
  have q3 : (k == 3) = false := beq_eq_false_iff_ne.2 k3
  have q4 : (k == 4) = false := beq_eq_false_iff_ne.2 k4
  have q5 : (k == 5) = false := beq_eq_false_iff_ne.2 k5
  have q6 : (k == 6) = false := beq_eq_false_iff_ne.2 k6
  clear H3 H4 H5 H6 H0 cR cS cT hcv k3 k4 k5 k6
  subst hr
  go_wp2_with fail
  go_ret2
  exact ⟨rfl, hB⟩
end Go.Proofs.YtopabkkapbaibaaGreat.Msg
namespace Go.Proofs.YtopabkkapbaibaaGreat.Msg
open Go.RowKit
open Go.Proofs.YtopabkkapbaibaaGreat.Addr (Pf okP checkP wideN firstN kP hiN loN adV pfV)
theorem rputE_any (e : Ev) (w : World) (hf : FitE e) : Calls Tryz.prog 23 #[evV e] w fun r w' => r = .returned (.tuple #[.string ⟨(if okE e then evB e else []).toArray⟩, .int .i64 (checkE e)]) ∧ Below w.heap.size w w' := by
  have cC := fun W : World => rcheckE_any e W hf
  have hc : checkE e = if okE e = true then 0 else 2 := rfl
  rw [hc] at cC ⊢
  clear hc
  cases hok : okE e with
  | false =>
    rw [hok] at cC
    simp only [Bool.false_eq_true, if_false] at cC ⊢
    unfold evV evC at *
    exact rput_no _ _ _ _ _ _ _ _ _ _ _ _ w cC
  | true =>
    rw [hok] at cC
    simp only [if_true] at cC ⊢
    obtain ⟨⟨⟨k1, k2⟩, ⟨r1, r2⟩, ⟨q1, q2⟩, ⟨t1, t2⟩⟩, ⟨hp, ⟨i1, i2⟩, ⟨p1, p2⟩, ha⟩, hu⟩ := okE_bd hok
    have cP := fun W : World => rputPrefix_any e.pf W hf.len hf.n
    have cA := fun W : World => rputAction_any e.act W hf.act
    rw [hp] at cP
    simp only [if_true] at cP
    have cR := fun W : World => rput e.router W (by omega) (by omega)
    have cS := fun W : World => rput (e.seq : Int) W (by omega) (by omega)
    have cT := fun W : World => rput e.time W (by omega) (by omega)
    have cI := fun W : World => rput e.iface W (by omega) (by omega)
    have cJ := fun W : World => rput e.peer W (by omega) (by omega)
    rw [Int.toNat_natCast] at cS
    have lR := putL_le e.router.toNat (by omega)
    have lS := putL_le e.seq (by omega)
    have lT := putL_le e.time.toNat (by omega)
    have lI := putL_le e.iface.toNat (by omega)
    have lJ := putL_le e.peer.toNat (by omega)
    have hcv := fun (W : World) (g : Nat) => conv_one (e.kind : Int) (by omega) (by omega) W g
    rw [Int.toNat_natCast] at hcv
    have lP : (prefB e.pf).length ≤ 18 := by
      unfold prefB
      have : wB e.pf.six ≤ 16 := (by cases e.pf.six <;> decide)
      rw [List.length_append, List.length_take, be_len]
      simp only [List.length_cons, List.length_nil]
      omega
    have lA : (if okA e.act = true then actB e.act else []).length ≤ 11 := by
      cases hA : okA e.act with
      | false => simp
      | true =>
        have := actB_le e.act (okA_bd hA).2.1.2
        simp only [if_true]
        omega
    have hK1 := bytes_cat [UInt8.ofNat e.kind] (putL e.router.toNat)
    have hK2 := bytes_cat ([UInt8.ofNat e.kind] ++ putL e.router.toNat) (putL e.seq)
    have hS := bytes_cat ([UInt8.ofNat e.kind] ++ putL e.router.toNat ++ putL e.seq) (putL e.time.toNat)
    have hSP := bytes_cat ([UInt8.ofNat e.kind] ++ putL e.router.toNat ++ putL e.seq ++ putL e.time.toNat) (prefB e.pf)
    have hSI := bytes_cat ([UInt8.ofNat e.kind] ++ putL e.router.toNat ++ putL e.seq ++ putL e.time.toNat) (putL e.iface.toNat)
    have hSA := bytes_cat ([UInt8.ofNat e.kind] ++ putL e.router.toNat ++ putL e.seq ++ putL e.time.toNat ++ prefB e.pf) (if okA e.act = true then actB e.act else [])
    have hSJ := bytes_cat ([UInt8.ofNat e.kind] ++ putL e.router.toNat ++ putL e.seq ++ putL e.time.toNat ++ putL e.iface.toNat) (putL e.peer.toNat)
    have hw1 : IntKind.u64.wrap e.router = e.router := by rw [IntKind.wrap_u64]; omega
    have hw2 : IntKind.u64.wrap e.time = e.time := by rw [IntKind.wrap_u64]; omega
    have hw3 : IntKind.u64.wrap e.iface = e.iface := by rw [IntKind.wrap_u64]; omega
    have hw4 : IntKind.u64.wrap e.peer = e.peer := by rw [IntKind.wrap_u64]; omega
    unfold evV evC at cC ⊢
    unfold Addr.pfV at cP
    unfold acV at cA
    refine rput_yes (e.kind : Int) e.router (e.seq : Int) e.time (hiN e.pf.n) (loN e.pf.n) e.pf.len e.act.k e.act.i e.iface e.peer e.pf.six w cC e.router e.time e.iface e.peer _ _ _ _ _ _ _ cR cS cT hcv hw1 hw2 hK1 hK2 hS ?_ ?_ ?_ _ _ _ _ _ _ _ _ _ cP cA cI hw3 cJ hw4 hSP hSI ?_ ?_ ?_ ?_ ?_ ?_ ?_ ?_ ?_
    any_goals (simp only [List.length_append, List.length_cons, List.length_nil, ByteArray.size, List.size_toArray]; omega)
    · intro hk
      have hk : e.kind = 3 := by omega
      show _ = _
      rw [hSA, ha hk]
      unfold evB restB
      rw [if_pos hk]
      simp only [if_true, List.append_assoc]
    · intro hk
      have hk : e.kind = 4 := by omega
      show _ = _
      unfold evB restB
      rw [if_neg (by omega), if_pos hk]
    · intro hk
      have hk : e.kind = 5 := by omega
      show _ = _
      rw [hSJ]
      unfold evB restB
      rw [if_neg (by omega), if_neg (by omega), if_pos hk]
      simp only [List.append_assoc]
    · intro hk
      have hk : e.kind = 6 := by omega
      show _ = _
      unfold evB restB
      rw [if_neg (by omega), if_neg (by omega), if_neg (by omega), if_pos hk]
    · intro h3 h4 h5 h6
      show _ = _
      unfold evB restB
      rw [if_neg (by omega), if_neg (by omega), if_neg (by omega), if_neg (by omega), List.append_nil]
end Go.Proofs.YtopabkkapbaibaaGreat.Msg
namespace Go.Proofs.YtopabkkapbaibaaGreat.Msg
open Go.RowKit
open Go.Proofs.YtopabkkapbaibaaGreat.Addr (Pf okP checkP wideN firstN kP hiN loN adV pfV RowAt below2 below_drew below_new bset RowAt.lt RowAt.cell RowAt.frozen RowAt.below RowAt.drew RowAt.new RowAt.alloc gdrew gset gbelow galloc grefl gfinal cells2 cells4 results_cell)

theorem gzero_fit : FitE zeroE := ⟨by decide, by decide, by decide, by decide, by decide, by decide, ⟨by decide, by decide, by decide⟩, by decide, by decide⟩
theorem gget_put (e : Ev) (h : okE e = true) : getE (evB e) = (e, 0) := by
  have h1 := rdE_put e [] h
  rw [List.append_nil] at h1
  have h2 : firstP rdE okE zeroE (evB e) = (e, [], 0) := by
    unfold firstP
    rw [h1]
    simp only
    rw [if_pos h]
  unfold getE
  rw [h2]
  rfl
theorem gget_cases (s : List UInt8) : (okE (getE s).1 = true ∧ evB (getE s).1 = s ∧ (getE s).2 = 0) ∨ getE s = (zeroE, 7) := by
  unfold getE
  cases hr : (rdE (some s)).2 with
  | none =>
    have h2 : firstP rdE okE zeroE s = (zeroE, [], 7) := by unfold firstP; rw [hr]
    rw [h2]
    exact .inr rfl
  | some r =>
    cases ho : okE (rdE (some s)).1 with
    | false =>
      have h2 : firstP rdE okE zeroE s = (zeroE, [], 7) := by unfold firstP; rw [hr]; simp only; rw [ho]; rfl
      rw [h2]
      exact .inr rfl
    | true =>
      have h2 : firstP rdE okE zeroE s = ((rdE (some s)).1, r, 0) := by unfold firstP; rw [hr]; simp only; rw [ho]; rfl
      rw [h2]
      cases r with
      | nil =>
        have := rdE_back hr ho
        rw [List.append_nil] at this
        exact .inl ⟨ho, this.symm, rfl⟩
      | cons a t => exact .inr rfl
theorem numS_put (m n : Nat) (l : List UInt8) (ok : Bool) (h : n ≤ m) (hn : n < 18446744073709551616) : numS m (putL n ++ l) ok = (n, l, ok) := by
  have hg := getGo_put l n 0 0 (by omega) (.inl rfl) (by omega)
  simp only [Nat.pow_zero, Nat.mul_one, Nat.zero_add] at hg
  unfold numS
  rw [hg]
  simp only
  rw [if_pos ⟨trivial, h⟩]
theorem numS_le (m : Nat) (l : List UInt8) (ok : Bool) : (numS m l ok).1 ≤ m := by
  unfold numS
  split
  · rename_i h; exact h.2
  · exact Nat.zero_le _
theorem numS_len (m : Nat) (l : List UInt8) (ok : Bool) : (numS m l ok).2.1.length ≤ l.length := by
  unfold numS
  split
  · rename_i h
    have h1 : getGo 0 0 l = ((getGo 0 0 l).1, (getGo 0 0 l).2.1, 0) := by
      conv => lhs; rw [show getGo 0 0 l = ((getGo 0 0 l).1, (getGo 0 0 l).2.1, (getGo 0 0 l).2.2) from rfl]
      rw [h.1]
    have := (getGo_back h1).2
    have := congrArg List.length this
    rw [List.length_append] at this
    simp only
    omega
  · exact Nat.le_refl _
theorem fpP_fit (m : List UInt8) : FitP (firstP rdP okP zeroPf m).1 := by
  unfold firstP
  split
  · exact ⟨⟨by decide, by decide⟩, by decide⟩
  · split
    · exact pf_fit m
    · exact ⟨⟨by decide, by decide⟩, by decide⟩
theorem fpA_fit (m : List UInt8) : FitA (firstP rdA okA zeroA m).1 := by
  unfold firstP
  split
  · exact ⟨by decide, by decide, by decide⟩
  · split
    · exact ac_fit m
    · exact ⟨by decide, by decide, by decide⟩
theorem fpP_put (p : Pf) (m : List UInt8) (h : okP p = true) : firstP rdP okP zeroPf (prefB p ++ m) = (p, m, 0) := by
  unfold firstP
  rw [rdP_put p m h]
  simp only
  rw [if_pos h]
theorem fpA_put (a : Ac) (m : List UInt8) (h : okA a = true) : firstP rdA okA zeroA (actB a ++ m) = (a, m, 0) := by
  unfold firstP
  rw [rdA_put a m h]
  simp only
  rw [if_pos h]
theorem fpP_len (s : List UInt8) : (firstP rdP okP zeroPf s).2.1.length ≤ s.length := by
  have hl : Len (some s) s.length := fun l e => by cases e; exact Nat.le_refl _
  have := rdP_len hl
  unfold firstP
  split
  · exact Nat.zero_le _
  · rename_i r hr
    split
    · exact this r hr
    · exact Nat.zero_le _
/-- what a right event's body begins with -/
theorem evB_head (e : Ev) (h : okE e = true) : ∃ t, evB e = UInt8.ofNat e.kind :: t ∧ numS 1048576 t true = (e.router.toNat, putL e.seq ++ (putL e.time.toNat ++ restB e), true) ∧ numS 1099511627776 (putL e.seq ++ (putL e.time.toNat ++ restB e)) true = (e.seq, putL e.time.toNat ++ restB e, true) ∧ numS 1099511627776 (putL e.time.toNat ++ restB e) true = (e.time.toNat, restB e, true) := by
  obtain ⟨⟨⟨k1, k2⟩, ⟨r1, r2⟩, ⟨q1, q2⟩, ⟨t1, t2⟩⟩, _, _⟩ := okE_bd h
  refine ⟨putL e.router.toNat ++ (putL e.seq ++ (putL e.time.toNat ++ restB e)), ?_, numS_put _ _ _ _ (by omega) (by omega), numS_put _ _ _ _ (by omega) (by omega), numS_put _ _ _ _ (by omega) (by omega)⟩
  unfold evB
  simp only [List.append_assoc, List.cons_append, List.nil_append]
theorem ev_want (e : Ev) (h : okE e = true) : wantE e = e := by
  rw [okE_ref] at h
  simp only [Bool.and_eq_true] at h
  exact (eqE_iff _ _).1 h.2
/-- a body that is read back is the program's event: what is to be shown of a way of Get -/
theorem get_meets (s : List UInt8) (e : Ev) (o : Bool) (he : ∀ e0, okE e0 = true → evB e0 = s → o = true ∧ e = e0) :
    (o = true ∧ checkE e = 0 ∧ (⟨(if okE e = true then evB e else []).toArray⟩ : ByteArray) = ⟨s.toArray⟩ → Hid (Value.tuple #[evV (getE s).1, .int .i64 (getE s).2] = .tuple #[evV e, .int .i64 0])) ∧
    (¬ (o = true ∧ checkE e = 0 ∧ (⟨(if okE e = true then evB e else []).toArray⟩ : ByteArray) = ⟨s.toArray⟩) → Hid (Value.tuple #[evV (getE s).1, .int .i64 (getE s).2] = .tuple #[evV zeroE, .int .i64 7])) := by
  constructor
  · rintro ⟨h1, h2, h3⟩
    have hok : okE e = true := by
      unfold checkE at h2
      cases hh : okE e with
      | true => rfl
      | false => rw [hh] at h2; exact absurd h2 (by decide)
    rw [hok] at h3
    simp only [if_true] at h3
    have hs : evB e = s := by
      injection h3 with h3
      exact List.toArray_inj h3
    show _ = _
    rw [← hs, gget_put e hok]
  · intro hn
    show _ = _
    rcases gget_cases s with ⟨h1, h2, h3⟩ | h
    · exfalso
      obtain ⟨h4, h5⟩ := he _ h1 h2
      apply hn
      refine ⟨h4, ?_, ?_⟩
      · rw [h5]; unfold checkE; rw [h1]; rfl
      · rw [h5, h1]; simp only [if_true]; rw [h2]
    · rw [h]
set_option maxHeartbeats 1000000 in
theorem rgetE_nil (w : World) : Calls Tryz.prog 15 #[.string ⟨#[]⟩] w fun e w' => e = .returned (.tuple #[evV zeroE, .int .i64 7]) ∧ Below w.heap.size w w' := by
  rw [evV_z]
  obtain ⟨X, hX⟩ : ∃ X, X = w.alloc (.cells #[.int .u8 0, .int .i64 0, .int .u64 0, .int .i64 0, .bool false, .int .u64 0, .int .u64 0, .int .i64 0, .int .u8 0, .int .i64 0, .int .i64 0, .int .i64 0] 35) := ⟨_, rfl⟩
  have hB : Below w.heap.size w X := by rw [hX]; exact below_new (Below.refl _ _) _
  have rx : RowAt X w.heap.size [.int .u8 0, .int .i64 0, .int .u64 0, .int .i64 0, .bool false, .int .u64 0, .int .u64 0, .int .i64 0, .int .u8 0, .int .i64 0, .int .i64 0, .int .i64 0] 35 := by rw [hX]; exact RowAt.new _ _ _
  go_enter Tryz.func15, Tryz.ntmps15
  go_upto_region 1 with fail
  rw [← hX]
  clear hX
  obtain ⟨⟨z0, z1, z2, z3, z4, z5⟩, ⟨z6, z7, z8, z9, z10, z11⟩, zf, hlz⟩ := cells12' rx
  go_wp2_with fail
  refine bodyPost_ret (v := .tuple #[.agg #[.int .u8 0, .int .i64 0, .int .u64 0, .int .i64 0, .bool false, .int .u64 0, .int .u64 0, .int .i64 0, .int .u8 0, .int .i64 0, .int .i64 0, .int .i64 0], .int .i64 7]) ?_ rfl ⟨rfl, ?_⟩
  any_goals (rw [results_cell_tmp rfl]; go_simp)
  all_goals (repeat' (first | with_reducible exact hB | with_reducible apply below_drew | with_reducible refine bset ?_ (by omega)))
end Go.Proofs.YtopabkkapbaibaaGreat.Msg
namespace Go.Proofs.YtopabkkapbaibaaGreat.Msg
open Go.RowKit
open Go.Proofs.YtopabkkapbaibaaGreat.Addr (Pf okP checkP wideN firstN kP hiN loN adV pfV RowAt)
theorem meets_head {b : UInt8} {t : List UInt8} {e0 : Ev} (hok : okE e0 = true) (hev : evB e0 = b :: t) {a b2 c : Nat} {T1 T2 T3 : List UInt8} {o1 o2 o3 : Bool}
    (h1 : numS 1048576 t true = (a, T1, o1)) (h2 : numS 1099511627776 T1 o1 = (b2, T2, o2)) (h3 : numS 1099511627776 T2 o2 = (c, T3, o3)) :
    b.toNat = e0.kind ∧ (a : Int) = e0.router ∧ b2 = e0.seq ∧ (c : Int) = e0.time ∧ T3 = restB e0 ∧ o3 = true := by
  obtain ⟨⟨⟨k1, k2⟩, ⟨r1, r2⟩, ⟨q1, q2⟩, ⟨t1, t2⟩⟩, _, _⟩ := okE_bd hok
  obtain ⟨t', g1, g2, g3, g4⟩ := evB_head e0 hok
  rw [hev] at g1
  injection g1 with g5 g6
  subst g6
  rw [g2] at h1
  simp only [Prod.mk.injEq] at h1
  obtain ⟨rfl, rfl, rfl⟩ := h1
  rw [g3] at h2
  simp only [Prod.mk.injEq] at h2
  obtain ⟨rfl, rfl, rfl⟩ := h2
  rw [g4] at h3
  simp only [Prod.mk.injEq] at h3
  obtain ⟨rfl, rfl, rfl⟩ := h3
  refine ⟨?_, by omega, rfl, by omega, rfl, rfl⟩
  rw [g5, UInt8.toNat_ofNat_of_lt' (by show e0.kind < 256; omega)]
theorem rgetE_any (s : List UInt8) (w : World) (hs : (s.length : Int) ≤ 200000000000000) :
    Calls Tryz.prog 15 #[.string ⟨s.toArray⟩] w fun e w' => e = .returned (.tuple #[evV (getE s).1, .int .i64 (getE s).2]) ∧ Below w.heap.size w w' := by
  cases s with
  | nil =>
    have : getE [] = (zeroE, 7) := by
      rcases gget_cases [] with ⟨h1, h2, _⟩ | h
      · obtain ⟨t', g1, _⟩ := evB_head _ h1
        rw [h2] at g1
        cases g1
      · exact h
    rw [this]
    exact rgetE_nil w
  | cons b t =>
    have hl : t.length ≤ 200000000000000 := by rw [List.length_cons] at hs; omega
    have hsz : (⟨(b :: t).toArray⟩ : ByteArray).size = t.length + 1 := by rw [size_list]; rfl
    have h0 : ∀ h : 0 < (⟨(b :: t).toArray⟩ : ByteArray).size, (⟨(b :: t).toArray⟩ : ByteArray)[0]'h = b := fun h => rfl
    have h1s : 1 ≤ ((⟨(b :: t).toArray⟩ : ByteArray).size : Int) := by rw [hsz]; omega
    have hx : (⟨(b :: t).toArray⟩ : ByteArray).extract 1 (⟨(b :: t).toArray⟩ : ByteArray).size = ⟨t.toArray⟩ := by
      rw [hsz]
      apply ByteArray.ext
      simp
    have hne : (⟨(b :: t).toArray⟩ : ByteArray).toList.isEmpty = false := by rw [ByteArray.toList_eq]; rfl
    have hb8 := b.toNat_lt
    have n1 := fun (g : Nat) (W : World) (h : RowAt W g [.string ⟨t.toArray⟩, .bool true] 61) => num_any g t true 1048576 W h hl
    have l1 := numS_len 1048576 t true
    have b1 := numS_le 1048576 t true
    generalize hN1 : numS 1048576 t true = N1 at n1 l1 b1
    obtain ⟨a, T1, o1⟩ := N1
    simp only at n1 l1 b1
    have n2 := fun (g : Nat) (W : World) (h : RowAt W g [.string ⟨T1.toArray⟩, .bool o1] 61) => num_any g T1 o1 1099511627776 W h (by omega)
    have l2 := numS_len 1099511627776 T1 o1
    have b2 := numS_le 1099511627776 T1 o1
    generalize hN2 : numS 1099511627776 T1 o1 = N2 at n2 l2 b2
    obtain ⟨q, T2, o2⟩ := N2
    simp only at n2 l2 b2
    have n3 := fun (g : Nat) (W : World) (h : RowAt W g [.string ⟨T2.toArray⟩, .bool o2] 61) => num_any g T2 o2 1099511627776 W h (by omega)
    have l3 := numS_len 1099511627776 T2 o2
    have b3 := numS_le 1099511627776 T2 o2
    generalize hN3 : numS 1099511627776 T2 o2 = N3 at n3 l3 b3
    obtain ⟨c, T3, o3⟩ := N3
    simp only at n3 l3 b3
    have zf := gzero_fit
    by_cases hk3 : b.toNat = 3
    · have hk : b = 3 := UInt8.toNat_inj.1 hk3
      have cP := fun W : World => rgetPrefix_any T3 W (by omega)
      have fP := fpP_fit T3
      have lP := fpP_len T3
      generalize hP : firstP rdP okP zeroPf T3 = P at cP fP lP
      obtain ⟨pf, T4, y⟩ := P
      simp only at cP fP lP
      have cA := fun W : World => rgetAction_any T4 W (by omega)
      have fA := fpA_fit T4
      generalize hA : firstP rdA okA zeroA T4 = A at cA fA
      obtain ⟨ac, T5, z⟩ := A
      simp only at cA fA
      unfold Addr.pfV at cP
      unfold acV at cA
      have fE : FitE ⟨3, (a : Int), q, (c : Int), pf, ac, 0, 0⟩ := ⟨by show ((3 : Nat) : Int) ≤ 255; decide, by show (-9223372036854775808 : Int) ≤ (a : Int) ∧ (a : Int) ≤ 9223372036854775807; omega, by show (q : Int) ≤ 18446744073709551615; omega, by show (-9223372036854775808 : Int) ≤ (c : Int) ∧ (c : Int) ≤ 9223372036854775807; omega, fP.1, fP.2, fA, zf.iface, zf.peer⟩
      have cPut := fun W : World => rputE_any ⟨3, (a : Int), q, (c : Int), pf, ac, 0, 0⟩ W fE
      obtain ⟨HY, HN⟩ := get_meets (b :: t) ⟨3, (a : Int), q, (c : Int), pf, ac, 0, 0⟩ (o3 && decide (y = 0) && decide (z = 0)) (fun e0 hok hev => by
        obtain ⟨m1, m2, m3, m4, m5, m6⟩ := meets_head hok hev hN1 hN2 hN3
        rw [hk] at m1
        replace m1 : 3 = e0.kind := m1
        have hkk : e0.kind = 3 := by omega
        obtain ⟨_, ⟨hp, _, _, ha⟩, _⟩ := okE_bd hok
        have hrest : restB e0 = prefB e0.pf ++ (actB e0.act ++ []) := by unfold restB; rw [if_pos hkk, List.append_nil]
        rw [m5, hrest, fpP_put _ _ hp] at hP
        simp only [Prod.mk.injEq] at hP
        obtain ⟨rfl, rfl, rfl⟩ := hP
        rw [fpA_put _ _ (ha hkk)] at hA
        simp only [Prod.mk.injEq] at hA
        obtain ⟨rfl, rfl, rfl⟩ := hA
        refine ⟨by rw [m6]; rfl, ?_⟩
        have hw := ev_want e0 hok
        rw [← hw]
        unfold wantE
        simp only [hkk]
        simp [m2, m3, m4])
      rw [evV_z] at HN
      have hev : evV ⟨3, (a : Int), q, (c : Int), pf, ac, 0, 0⟩ = .agg #[.int .u8 3, .int .i64 (a : Int), .int .u64 (q : Int), .int .i64 (c : Int), .bool pf.six, .int .u64 (hiN pf.n : Int), .int .u64 (loN pf.n : Int), .int .i64 pf.len, .int .u8 (ac.k : Int), .int .i64 ac.i, .int .i64 0, .int .i64 0] := rfl
      rw [hev] at cPut HY
      exact rget_3 _ _ w b h1s h0 hx hne a q c _ _ (⟨T1.toArray⟩) ⟨T2.toArray⟩ ⟨T3.toArray⟩ o1 o2 o3 ⟨T4.toArray⟩ ⟨T5.toArray⟩ pf.six (hiN pf.n) (loN pf.n) pf.len y ac.k ac.i z n1 n2 n3 (by omega) (by omega) hk cP cA cPut _ HY HN
    by_cases hk4 : b.toNat = 4
    · have hk : b = 4 := UInt8.toNat_inj.1 hk4
      have cP := fun W : World => rgetPrefix_any T3 W (by omega)
      have fP := fpP_fit T3
      generalize hP : firstP rdP okP zeroPf T3 = P at cP fP
      obtain ⟨pf, T4, y⟩ := P
      simp only at cP fP
      unfold Addr.pfV at cP
      have fE : FitE ⟨4, (a : Int), q, (c : Int), pf, zeroA, 0, 0⟩ := ⟨by show ((4 : Nat) : Int) ≤ 255; decide, by show (-9223372036854775808 : Int) ≤ (a : Int) ∧ (a : Int) ≤ 9223372036854775807; omega, by show (q : Int) ≤ 18446744073709551615; omega, by show (-9223372036854775808 : Int) ≤ (c : Int) ∧ (c : Int) ≤ 9223372036854775807; omega, fP.1, fP.2, zf.act, zf.iface, zf.peer⟩
      have cPut := fun W : World => rputE_any ⟨4, (a : Int), q, (c : Int), pf, zeroA, 0, 0⟩ W fE
      obtain ⟨HY, HN⟩ := get_meets (b :: t) ⟨4, (a : Int), q, (c : Int), pf, zeroA, 0, 0⟩ (o3 && decide (y = 0)) (fun e0 hok hev => by
        obtain ⟨m1, m2, m3, m4, m5, m6⟩ := meets_head hok hev hN1 hN2 hN3
        rw [hk] at m1
        replace m1 : 4 = e0.kind := m1
        have hkk : e0.kind = 4 := by omega
        obtain ⟨_, ⟨hp, _, _, ha⟩, _⟩ := okE_bd hok
        have hrest : restB e0 = prefB e0.pf ++ [] := by unfold restB; rw [if_neg (by omega), if_pos hkk, List.append_nil]
        rw [m5, hrest, fpP_put _ _ hp] at hP
        simp only [Prod.mk.injEq] at hP
        obtain ⟨rfl, rfl, rfl⟩ := hP
        refine ⟨by rw [m6]; rfl, ?_⟩
        have hw := ev_want e0 hok
        rw [← hw]
        unfold wantE
        simp only [hkk]
        simp [m2, m3, m4])
      rw [evV_z] at HN
      have hev : evV ⟨4, (a : Int), q, (c : Int), pf, zeroA, 0, 0⟩ = .agg #[.int .u8 4, .int .i64 (a : Int), .int .u64 (q : Int), .int .i64 (c : Int), .bool pf.six, .int .u64 (hiN pf.n : Int), .int .u64 (loN pf.n : Int), .int .i64 pf.len, .int .u8 0, .int .i64 0, .int .i64 0, .int .i64 0] := rfl
      rw [hev] at cPut HY
      exact rget_4 _ _ w b h1s h0 hx hne a q c _ _ (⟨T1.toArray⟩) ⟨T2.toArray⟩ ⟨T3.toArray⟩ o1 o2 o3 ⟨T4.toArray⟩ pf.six (hiN pf.n) (loN pf.n) pf.len y n1 n2 n3 (by omega) (by omega) hk cP cPut _ HY HN
    by_cases hk5 : b.toNat = 5
    · have hk : b = 5 := UInt8.toNat_inj.1 hk5
      have n4 := fun (g : Nat) (W : World) (h : RowAt W g [.string ⟨T3.toArray⟩, .bool o3] 61) => num_any g T3 o3 65536 W h (by omega)
      have l4 := numS_len 65536 T3 o3
      have b4 := numS_le 65536 T3 o3
      generalize hN4 : numS 65536 T3 o3 = N4 at n4 l4 b4
      obtain ⟨i, T4, o4⟩ := N4
      simp only at n4 l4 b4
      have n5 := fun (g : Nat) (W : World) (h : RowAt W g [.string ⟨T4.toArray⟩, .bool o4] 61) => num_any g T4 o4 1048576 W h (by omega)
      have l5 := numS_len 1048576 T4 o4
      have b5 := numS_le 1048576 T4 o4
      generalize hN5 : numS 1048576 T4 o4 = N5 at n5 l5 b5
      obtain ⟨p, T5, o5⟩ := N5
      simp only at n5 l5 b5
      have fE : FitE ⟨5, (a : Int), q, (c : Int), zeroPf, zeroA, (i : Int), (p : Int)⟩ := ⟨by show ((5 : Nat) : Int) ≤ 255; decide, by show (-9223372036854775808 : Int) ≤ (a : Int) ∧ (a : Int) ≤ 9223372036854775807; omega, by show (q : Int) ≤ 18446744073709551615; omega, by show (-9223372036854775808 : Int) ≤ (c : Int) ∧ (c : Int) ≤ 9223372036854775807; omega, zf.len, zf.n, zf.act, by show (-9223372036854775808 : Int) ≤ (i : Int) ∧ (i : Int) ≤ 9223372036854775807; omega, by show (-9223372036854775808 : Int) ≤ (p : Int) ∧ (p : Int) ≤ 9223372036854775807; omega⟩
      have cPut := fun W : World => rputE_any ⟨5, (a : Int), q, (c : Int), zeroPf, zeroA, (i : Int), (p : Int)⟩ W fE
      obtain ⟨HY, HN⟩ := get_meets (b :: t) ⟨5, (a : Int), q, (c : Int), zeroPf, zeroA, (i : Int), (p : Int)⟩ o5 (fun e0 hok hev => by
        obtain ⟨m1, m2, m3, m4, m5, m6⟩ := meets_head hok hev hN1 hN2 hN3
        rw [hk] at m1
        replace m1 : 5 = e0.kind := m1
        have hkk : e0.kind = 5 := by omega
        obtain ⟨_, ⟨hp, ⟨i1, i2⟩, ⟨p1, p2⟩, ha⟩, _⟩ := okE_bd hok
        have hrest : restB e0 = putL e0.iface.toNat ++ (putL e0.peer.toNat ++ []) := by unfold restB; rw [if_neg (by omega), if_neg (by omega), if_pos hkk]; rw [List.append_nil]
        rw [m5, hrest, numS_put _ _ _ _ (by omega) (by omega)] at hN4
        simp only [Prod.mk.injEq] at hN4
        obtain ⟨rfl, rfl, rfl⟩ := hN4
        rw [numS_put _ _ _ _ (by omega) (by omega)] at hN5
        simp only [Prod.mk.injEq] at hN5
        obtain ⟨rfl, rfl, rfl⟩ := hN5
        refine ⟨m6, ?_⟩
        have hw := ev_want e0 hok
        rw [← hw]
        unfold wantE
        simp only [hkk]
        simp [m2, m3, m4]
        omega)
      rw [evV_z] at HN
      have hev : evV ⟨5, (a : Int), q, (c : Int), zeroPf, zeroA, (i : Int), (p : Int)⟩ = .agg #[.int .u8 5, .int .i64 (a : Int), .int .u64 (q : Int), .int .i64 (c : Int), .bool false, .int .u64 0, .int .u64 0, .int .i64 0, .int .u8 0, .int .i64 0, .int .i64 (i : Int), .int .i64 (p : Int)] := by rw [evV_zero]; rfl
      rw [hev] at cPut HY
      exact rget_5 _ _ w b h1s h0 hx hne a q c _ _ (⟨T1.toArray⟩) ⟨T2.toArray⟩ ⟨T3.toArray⟩ o1 o2 o3 ⟨T4.toArray⟩ ⟨T5.toArray⟩ o4 o5 i p n1 n2 n3 (by omega) (by omega) hk n4 (by omega) n5 (by omega) cPut _ HY HN
    by_cases hk6 : b.toNat = 6
    · have hk : b = 6 := UInt8.toNat_inj.1 hk6
      have n4 := fun (g : Nat) (W : World) (h : RowAt W g [.string ⟨T3.toArray⟩, .bool o3] 61) => num_any g T3 o3 65536 W h (by omega)
      have l4 := numS_len 65536 T3 o3
      have b4 := numS_le 65536 T3 o3
      generalize hN4 : numS 65536 T3 o3 = N4 at n4 l4 b4
      obtain ⟨i, T4, o4⟩ := N4
      simp only at n4 l4 b4
      have fE : FitE ⟨6, (a : Int), q, (c : Int), zeroPf, zeroA, (i : Int), 0⟩ := ⟨by show ((6 : Nat) : Int) ≤ 255; decide, by show (-9223372036854775808 : Int) ≤ (a : Int) ∧ (a : Int) ≤ 9223372036854775807; omega, by show (q : Int) ≤ 18446744073709551615; omega, by show (-9223372036854775808 : Int) ≤ (c : Int) ∧ (c : Int) ≤ 9223372036854775807; omega, zf.len, zf.n, zf.act, by show (-9223372036854775808 : Int) ≤ (i : Int) ∧ (i : Int) ≤ 9223372036854775807; omega, zf.peer⟩
      have cPut := fun W : World => rputE_any ⟨6, (a : Int), q, (c : Int), zeroPf, zeroA, (i : Int), 0⟩ W fE
      obtain ⟨HY, HN⟩ := get_meets (b :: t) ⟨6, (a : Int), q, (c : Int), zeroPf, zeroA, (i : Int), 0⟩ o4 (fun e0 hok hev => by
        obtain ⟨m1, m2, m3, m4, m5, m6⟩ := meets_head hok hev hN1 hN2 hN3
        rw [hk] at m1
        replace m1 : 6 = e0.kind := m1
        have hkk : e0.kind = 6 := by omega
        obtain ⟨_, ⟨hp, ⟨i1, i2⟩, ⟨p1, p2⟩, ha⟩, _⟩ := okE_bd hok
        have hrest : restB e0 = putL e0.iface.toNat ++ [] := by unfold restB; rw [if_neg (by omega), if_neg (by omega), if_neg (by omega), if_pos hkk, List.append_nil]
        rw [m5, hrest, numS_put _ _ _ _ (by omega) (by omega)] at hN4
        simp only [Prod.mk.injEq] at hN4
        obtain ⟨rfl, rfl, rfl⟩ := hN4
        refine ⟨m6, ?_⟩
        have hw := ev_want e0 hok
        rw [← hw]
        unfold wantE
        simp only [hkk]
        simp [m2, m3, m4]
        omega)
      rw [evV_z] at HN
      have hev : evV ⟨6, (a : Int), q, (c : Int), zeroPf, zeroA, (i : Int), 0⟩ = .agg #[.int .u8 6, .int .i64 (a : Int), .int .u64 (q : Int), .int .i64 (c : Int), .bool false, .int .u64 0, .int .u64 0, .int .i64 0, .int .u8 0, .int .i64 0, .int .i64 (i : Int), .int .i64 0] := by rw [evV_zero]; rfl
      rw [hev] at cPut HY
      exact rget_6 _ _ w b h1s h0 hx hne a q c _ _ (⟨T1.toArray⟩) ⟨T2.toArray⟩ ⟨T3.toArray⟩ o1 o2 o3 ⟨T4.toArray⟩ o4 i n1 n2 n3 (by omega) (by omega) hk n4 (by omega) cPut _ HY HN
    have fE : FitE ⟨b.toNat, (a : Int), q, (c : Int), zeroPf, zeroA, 0, 0⟩ := ⟨by show (b.toNat : Int) ≤ 255; omega, by show (-9223372036854775808 : Int) ≤ (a : Int) ∧ (a : Int) ≤ 9223372036854775807; omega, by show (q : Int) ≤ 18446744073709551615; omega, by show (-9223372036854775808 : Int) ≤ (c : Int) ∧ (c : Int) ≤ 9223372036854775807; omega, zf.len, zf.n, zf.act, zf.iface, zf.peer⟩
    have cPut := fun W : World => rputE_any ⟨b.toNat, (a : Int), q, (c : Int), zeroPf, zeroA, 0, 0⟩ W fE
    obtain ⟨HY, HN⟩ := get_meets (b :: t) ⟨b.toNat, (a : Int), q, (c : Int), zeroPf, zeroA, 0, 0⟩ o3 (fun e0 hok hev => by
      obtain ⟨m1, m2, m3, m4, m5, m6⟩ := meets_head hok hev hN1 hN2 hN3
      refine ⟨m6, ?_⟩
      have hw := ev_want e0 hok
      rw [← hw]
      unfold wantE
      have z3 : ¬ e0.kind = 3 := by omega
      have z4 : ¬ e0.kind = 4 := by omega
      have z5 : ¬ e0.kind = 5 := by omega
      have z6 : ¬ e0.kind = 6 := by omega
      simp [z3, z4, z5, z6, m1, m2, m3, m4])
    rw [evV_z] at HN
    have hev : evV ⟨b.toNat, (a : Int), q, (c : Int), zeroPf, zeroA, 0, 0⟩ = .agg #[.int .u8 (b.toNat : Int), .int .i64 (a : Int), .int .u64 (q : Int), .int .i64 (c : Int), .bool false, .int .u64 0, .int .u64 0, .int .i64 0, .int .u8 0, .int .i64 0, .int .i64 0, .int .i64 0] := by rw [evV_zero]; rfl
    rw [hev] at cPut HY
    exact rget_o _ _ w b h1s h0 hx hne a q c _ _ (⟨T1.toArray⟩) ⟨T2.toArray⟩ ⟨T3.toArray⟩ o1 o2 o3 b.toNat n1 n2 n3 (by omega) (by omega) rfl (beq_eq_false_iff_ne.2 (by omega)) (beq_eq_false_iff_ne.2 (by omega)) (beq_eq_false_iff_ne.2 (by omega)) (beq_eq_false_iff_ne.2 (by omega)) cPut _ HY HN
end Go.Proofs.YtopabkkapbaibaaGreat.Msg
