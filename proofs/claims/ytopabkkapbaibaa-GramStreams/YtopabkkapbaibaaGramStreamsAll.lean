/- For all events: spoorlaw13.GramStreams returns true, and changes nothing that was there. No condition. -/
import Derived.Test.YtopabkkapbaibaaMsgRX2
import Derived.Test.YtopabkkapbaibaaMsgRX1
import Derived.Test.YtopabkkapbaibaaMsgPut3
import Derived.Test.YtopabkkapbaibaaGramTX
import Derived.Test.YtopabkkapbaibaaRows
import Derived.Test.YtopabkkapbaibaaGramTB
import Derived.ProofKit
import Derived.OpenShut
import Derived.ShutString
import Derived.SizedLaws
set_option linter.unusedVariables false
namespace Go.Proofs.Ytopabkkapbaibaa.Msg
open Go.RowKit
open Go.Proofs.Ytopabkkapbaibaa.Addr (Pf okP checkP wideN firstN kP hiN loN adV pfV RowAt below2 below_drew below_new bset RowAt.lt RowAt.cell RowAt.frozen RowAt.below RowAt.drew RowAt.new RowAt.alloc gdrew gset gbelow galloc grefl cells2 cells4 results_cell Bl bl_ne wp_region_bl bl_call bl_same)

set_option maxRecDepth 20000 in
set_option maxHeartbeats 4000000 in
theorem rput_no (k a b c hi lo l ak ai i p : Int) (sx : Bool) (w : World) (cC : ∀ W : World, Calls Try.prog 29 #[.agg #[.int .u8 k, .int .i64 a, .int .u64 b, .int .i64 c, .bool sx, .int .u64 hi, .int .u64 lo, .int .i64 l, .int .u8 ak, .int .i64 ai, .int .i64 i, .int .i64 p]] W fun e w' => e = .returned (.int .i64 2) ∧ Below W.heap.size W w') :
    Calls Try.prog 18 #[.agg #[.int .u8 k, .int .i64 a, .int .u64 b, .int .i64 c, .bool sx, .int .u64 hi, .int .u64 lo, .int .i64 l, .int .u8 ak, .int .i64 ai, .int .i64 i, .int .i64 p]] w fun e w' => e = .returned (.tuple #[.string ⟨#[]⟩, .int .i64 2]) ∧ Below w.heap.size w w' := by
  obtain ⟨X, hX⟩ : ∃ X, X = w.alloc (.cells #[.int .u8 k, .int .i64 a, .int .u64 b, .int .i64 c, .bool sx, .int .u64 hi, .int .u64 lo, .int .i64 l, .int .u8 ak, .int .i64 ai, .int .i64 i, .int .i64 p] 50) := ⟨_, rfl⟩
  have hB : Below w.heap.size w X := by rw [hX]; exact below_new (Below.refl _ _) _
  have r0 : RowAt X w.heap.size [.int .u8 k, .int .i64 a, .int .u64 b, .int .i64 c, .bool sx, .int .u64 hi, .int .u64 lo, .int .i64 l, .int .u8 ak, .int .i64 ai, .int .i64 i, .int .i64 p] 50 := by rw [hX]; exact RowAt.new _ _ _
  obtain ⟨⟨y0, y1, y2, y3, y4, y5⟩, ⟨y6, y7, y8, y9, y10, y11⟩, yf, hly⟩ := cells12' r0
  go_enter Try.func18, Try.ntmps18
  go_upto_region 1 with fail
  rw [← hX]
  clear hX
  go_wp2_with fail
  go_at_call 29; refine (cC _).mono ?_; rintro e w1 ⟨rfl, hb1⟩
  go_wp2_with fail
  go_ret2
  exact ⟨rfl, below2 hB hb1⟩
theorem one_made {W Y : World} {v : Value} {t : TypeId} (hb : Below (W.alloc (.cells #[v] t)).heap.size (W.alloc (.cells #[v] t)) Y) : Y.cell? ⟨W.heap.size, 0, none⟩ = some v ∧ W.heap.size < Y.heap.size := ⟨(RowAt.below (RowAt.new W [v] t) hb).cell 0, (RowAt.below (RowAt.new W [v] t) hb).lt⟩
theorem one_made2 {W Y : World} {v : Value} {t : TypeId} (hb : Below (W.alloc (.cells #[v] t)).drew.heap.size (W.alloc (.cells #[v] t)).drew Y) : Y.cell? ⟨W.heap.size, 0, none⟩ = some v ∧ W.heap.size < Y.heap.size := ⟨(RowAt.below (RowAt.new W [v] t).drew hb).cell 0, (RowAt.below (RowAt.new W [v] t).drew hb).lt⟩
theorem cell_keep {W Y : World} {g : Nat} {v : Value} (hb : Below W.heap.size W Y) (hp : g < W.heap.size) (h : W.cell? ⟨g, 0, none⟩ = some v) : Y.cell? ⟨g, 0, none⟩ = some v ∧ g < Y.heap.size := ⟨(hb.cell (p := ⟨g, 0, none⟩) hp).trans h, Nat.lt_of_lt_of_le hp hb.size⟩
set_option maxRecDepth 20000 in
set_option maxHeartbeats 8000000 in
theorem rput_yes (k a b c hi lo l ak ai i p : Int) (sx : Bool) (w : World) (cC : ∀ W : World, Calls Try.prog 29 #[.agg #[.int .u8 k, .int .i64 a, .int .u64 b, .int .i64 c, .bool sx, .int .u64 hi, .int .u64 lo, .int .i64 l, .int .u8 ak, .int .i64 ai, .int .i64 i, .int .i64 p]] W fun e w' => e = .returned (.int .i64 0) ∧ Below W.heap.size W w') (a2 c2 i2 p2 : Int) (K R2 S2 T2 K1 K2 S : ByteArray) (cR : ∀ W : World, Calls Try.prog 30 #[.int .u64 a2] W fun e w' => e = .returned (.string R2) ∧ Below W.heap.size W w') (cS : ∀ W : World, Calls Try.prog 30 #[.int .u64 b] W fun e w' => e = .returned (.string S2) ∧ Below W.heap.size W w') (cT : ∀ W : World, Calls Try.prog 30 #[.int .u64 c2] W fun e w' => e = .returned (.string T2) ∧ Below W.heap.size W w')
    (hcv : ∀ (W : World) (g : Nat), W.cell? ⟨g, 0, none⟩ = some (.int .u8 k) → (convert 56 9 (.slice (some ⟨g, 0, none⟩) 1 1)).run Try.prog W = .ok (.string K) W)
    (hwa : IntKind.u64.wrap a = a2) (hwc : IntKind.u64.wrap c = c2) (hK : K ++ R2 = K1) (hK1 : K1 ++ S2 = K2) (hK2 : K2 ++ T2 = S)
    (n1 : ¬ 9223372036854775807 < K.size + R2.size) (n2 : ¬ 9223372036854775807 < K1.size + S2.size) (n3 : ¬ 9223372036854775807 < K2.size + T2.size) (P2 A2 I2 J2 SP SI RES : ByteArray) (y z : Int) (cP : ∀ W : World, Calls Try.prog 31 #[.agg #[.bool sx, .int .u64 hi, .int .u64 lo, .int .i64 l]] W fun e w' => e = .returned (.tuple #[.string P2, .int .i64 y]) ∧ Below W.heap.size W w') (cA : ∀ W : World, Calls Try.prog 32 #[.agg #[.int .u8 ak, .int .i64 ai]] W fun e w' => e = .returned (.tuple #[.string A2, .int .i64 z]) ∧ Below W.heap.size W w') (cI : ∀ W : World, Calls Try.prog 30 #[.int .u64 i2] W fun e w' => e = .returned (.string I2) ∧ Below W.heap.size W w') (hwi : IntKind.u64.wrap i = i2) (cJ : ∀ W : World, Calls Try.prog 30 #[.int .u64 p2] W fun e w' => e = .returned (.string J2) ∧ Below W.heap.size W w') (hwp : IntKind.u64.wrap p = p2)
    (hSP : S ++ P2 = SP) (hSI : S ++ I2 = SI) (n4 : ¬ 9223372036854775807 < S.size + P2.size) (n5 : ¬ 9223372036854775807 < SP.size + A2.size) (n6 : ¬ 9223372036854775807 < S.size + I2.size) (n7 : ¬ 9223372036854775807 < SI.size + J2.size)
    (H3 : k = 3 → Hid (SP ++ A2 = RES)) (H4 : k = 4 → Hid (SP = RES)) (H5 : k = 5 → Hid (SI ++ J2 = RES)) (H6 : k = 6 → Hid (SI = RES)) (H0 : k ≠ 3 → k ≠ 4 → k ≠ 5 → k ≠ 6 → Hid (S = RES)) :
    Calls Try.prog 18 #[.agg #[.int .u8 k, .int .i64 a, .int .u64 b, .int .i64 c, .bool sx, .int .u64 hi, .int .u64 lo, .int .i64 l, .int .u8 ak, .int .i64 ai, .int .i64 i, .int .i64 p]] w fun e w' => e = .returned (.tuple #[.string RES, .int .i64 0]) ∧ Below w.heap.size w w' := by
  obtain ⟨X, hX⟩ : ∃ X, X = w.alloc (.cells #[.int .u8 k, .int .i64 a, .int .u64 b, .int .i64 c, .bool sx, .int .u64 hi, .int .u64 lo, .int .i64 l, .int .u8 ak, .int .i64 ai, .int .i64 i, .int .i64 p] 50) := ⟨_, rfl⟩
  have hB : Below w.heap.size w X := by rw [hX]; exact below_new (Below.refl _ _) _
  have r0 : RowAt X w.heap.size [.int .u8 k, .int .i64 a, .int .u64 b, .int .i64 c, .bool sx, .int .u64 hi, .int .u64 lo, .int .i64 l, .int .u8 ak, .int .i64 ai, .int .i64 i, .int .i64 p] 50 := by rw [hX]; exact RowAt.new _ _ _
  obtain ⟨⟨y0, y1, y2, y3, y4, y5⟩, ⟨y6, y7, y8, y9, y10, y11⟩, yf, hly⟩ := cells12' r0
  go_enter Try.func18, Try.ntmps18
  go_upto_region 1 with fail
  rw [← hX]
  clear hX
  go_wp2_with fail
  go_at_call 29; refine (cC _).mono ?_; rintro e w1 ⟨rfl, hb1⟩
  replace r0 := RowAt.below r0 hb1
  replace hB := below2 hB hb1
  clear y0 y1 y2 y3 y4 y5 y6 y7 y8 y9 y10 y11 yf hly hb1 cC
  obtain ⟨g0, hg0⟩ : ∃ g, g = w.heap.size := ⟨_, rfl⟩
  rw [← hg0] at r0 ⊢
  clear hg0
  obtain ⟨⟨y0, y1, y2, y3, y4, y5⟩, ⟨y6, y7, y8, y9, y10, y11⟩, yf, hly⟩ := cells12' r0
  go_upto_region 3 with fail
  go_cut [4] (fun v wc => v = .string S ∧ Below w1.heap.size w1 wc)
  case first =>
    have HSK : Hid (∀ w' : World, Below w1.heap.size w1 w' → (w'.cell? ⟨g0, 0, none⟩ = some (.int .u8 k) ∧ w'.cell? ⟨g0, 1, none⟩ = some (.int .i64 a) ∧ w'.cell? ⟨g0, 2, none⟩ = some (.int .u64 b) ∧ w'.cell? ⟨g0, 3, none⟩ = some (.int .i64 c))) := fun W hb => by
      have r := RowAt.below r0 hb
      exact ⟨r.cell 0, r.cell 1, r.cell 2, r.cell 3⟩
    have hbA : Below w1.heap.size w1 w1 := Below.refl _ _
    clear r0 hB cP cA cI cJ H3 H4 H5 H6 H0 hSP hSI n4 n5 n6 n7 hwi hwp
    go_region_held (fun w' => w'.cell? ⟨g0, 0, none⟩ = some (.int .u8 k) ∧ w'.cell? ⟨g0, 1, none⟩ = some (.int .i64 a) ∧ w'.cell? ⟨g0, 2, none⟩ = some (.int .u64 b) ∧ w'.cell? ⟨g0, 3, none⟩ = some (.int .i64 c))
      (first
        | (refine HSK.out _ ?_
           repeat' (first | with_reducible exact hbA | with_reducible apply below_drew | with_reducible apply below_new))
        | go_keep)
      (first
        | (go_at_call 30
           with_reducible refine (cR _).mono ?_
           rintro e w3 ⟨rfl, hb3⟩
           (first | (with_reducible have hz := one_made2 hb3) | (with_reducible have hz := one_made hb3) | (with_reducible have hz := cell_keep hb3 hlq hq) | skip)
           (first | (clear hq hlq; obtain ⟨hq, hlq⟩ := hz) | obtain ⟨hq, hlq⟩ := hz | skip)
           have hbN : Below w1.heap.size w1 w3 := below2 (by repeat' (first | with_reducible exact hbA | with_reducible apply below_drew | with_reducible apply below_new)) hb3
           clear hbA
           have hbA := hbN
           clear hbN)
        | (go_at_call 30
           with_reducible refine (cS _).mono ?_
           rintro e w3 ⟨rfl, hb3⟩
           (first | (with_reducible have hz := one_made2 hb3) | (with_reducible have hz := one_made hb3) | (with_reducible have hz := cell_keep hb3 hlq hq) | skip)
           (first | (clear hq hlq; obtain ⟨hq, hlq⟩ := hz) | obtain ⟨hq, hlq⟩ := hz | skip)
           have hbN : Below w1.heap.size w1 w3 := below2 (by repeat' (first | with_reducible exact hbA | with_reducible apply below_drew | with_reducible apply below_new)) hb3
           clear hbA
           have hbA := hbN
           clear hbN)
        | (go_at_call 30
           with_reducible refine (cT _).mono ?_
           rintro e w3 ⟨rfl, hb3⟩
           (first | (with_reducible have hz := one_made2 hb3) | (with_reducible have hz := one_made hb3) | (with_reducible have hz := cell_keep hb3 hlq hq) | skip)
           (first | (clear hq hlq; obtain ⟨hq, hlq⟩ := hz) | obtain ⟨hq, hlq⟩ := hz | skip)
           have hbN : Below w1.heap.size w1 w3 := below2 (by repeat' (first | with_reducible exact hbA | with_reducible apply below_drew | with_reducible apply below_new)) hb3
           clear hbA
           have hbA := hbN
           clear hbN))
    all_goals go_wp2_with fail
    all_goals go_meet
    all_goals exact ⟨rfl, by repeat' (first | with_reducible exact hbA | with_reducible apply below_drew | with_reducible apply below_new)⟩
  case rest =>
  obtain ⟨rfl, hbc⟩ := hcut
  replace r0 := RowAt.below r0 hbc
  replace hB := below2 hB hbc
  clear y0 y1 y2 y3 y4 y5 y6 y7 y8 y9 y10 y11 yf hly hbc
  obtain ⟨⟨y0, y1, y2, y3, y4, y5⟩, ⟨y6, y7, y8, y9, y10, y11⟩, yf, hly⟩ := cells12' r0
  by_cases k3 : k = 3
  · have hr := (H3 k3).out
    subst k3
    clear H3 H4 H5 H6 H0 cR cS cT hcv
    skip
    go_wp2_with fail
    go_at_call 31; refine (cP _).mono ?_; rintro e v0 ⟨rfl, hbq⟩
    replace r0 := RowAt.below r0 hbq
    replace hB := below2 hB hbq
    clear y0 y1 y2 y3 y4 y5 y6 y7 y8 y9 y10 y11 yf hly hbq
    obtain ⟨⟨y0, y1, y2, y3, y4, y5⟩, ⟨y6, y7, y8, y9, y10, y11⟩, yf, hly⟩ := cells12' r0
    go_wp2_with fail
    go_at_call 32; refine (cA _).mono ?_; rintro e v1 ⟨rfl, hbq⟩
    replace r0 := RowAt.below r0 hbq
    replace hB := below2 hB hbq
    clear y0 y1 y2 y3 y4 y5 y6 y7 y8 y9 y10 y11 yf hly hbq
    obtain ⟨⟨y0, y1, y2, y3, y4, y5⟩, ⟨y6, y7, y8, y9, y10, y11⟩, yf, hly⟩ := cells12' r0
    go_wp2_with fail
    go_ret2
    exact ⟨rfl, hB⟩
  by_cases k4 : k = 4
  · have hr := (H4 k4).out
    subst k4
    clear H3 H4 H5 H6 H0 cR cS cT hcv
    subst hr
    go_wp2_with fail
    go_at_call 31; refine (cP _).mono ?_; rintro e v0 ⟨rfl, hbq⟩
    replace r0 := RowAt.below r0 hbq
    replace hB := below2 hB hbq
    clear y0 y1 y2 y3 y4 y5 y6 y7 y8 y9 y10 y11 yf hly hbq
    obtain ⟨⟨y0, y1, y2, y3, y4, y5⟩, ⟨y6, y7, y8, y9, y10, y11⟩, yf, hly⟩ := cells12' r0
    go_wp2_with fail
    go_ret2
    exact ⟨rfl, hB⟩
  by_cases k5 : k = 5
  · have hr := (H5 k5).out
    subst k5
    clear H3 H4 H5 H6 H0 cR cS cT hcv
    skip
    go_wp2_with fail
    go_at_call 30; refine (cI _).mono ?_; rintro e v0 ⟨rfl, hbq⟩
    replace r0 := RowAt.below r0 hbq
    replace hB := below2 hB hbq
    clear y0 y1 y2 y3 y4 y5 y6 y7 y8 y9 y10 y11 yf hly hbq
    obtain ⟨⟨y0, y1, y2, y3, y4, y5⟩, ⟨y6, y7, y8, y9, y10, y11⟩, yf, hly⟩ := cells12' r0
    go_wp2_with fail
    go_at_call 30; refine (cJ _).mono ?_; rintro e v1 ⟨rfl, hbq⟩
    replace r0 := RowAt.below r0 hbq
    replace hB := below2 hB hbq
    clear y0 y1 y2 y3 y4 y5 y6 y7 y8 y9 y10 y11 yf hly hbq
    obtain ⟨⟨y0, y1, y2, y3, y4, y5⟩, ⟨y6, y7, y8, y9, y10, y11⟩, yf, hly⟩ := cells12' r0
    go_wp2_with fail
    go_ret2
    exact ⟨rfl, hB⟩
  by_cases k6 : k = 6
  · have hr := (H6 k6).out
    subst k6
    clear H3 H4 H5 H6 H0 cR cS cT hcv
    subst hr
    go_wp2_with fail
    go_at_call 30; refine (cI _).mono ?_; rintro e v0 ⟨rfl, hbq⟩
    replace r0 := RowAt.below r0 hbq
    replace hB := below2 hB hbq
    clear y0 y1 y2 y3 y4 y5 y6 y7 y8 y9 y10 y11 yf hly hbq
    obtain ⟨⟨y0, y1, y2, y3, y4, y5⟩, ⟨y6, y7, y8, y9, y10, y11⟩, yf, hly⟩ := cells12' r0
    go_wp2_with fail
    go_ret2
    exact ⟨rfl, hB⟩
  have hr := (H0 k3 k4 k5 k6).out
  have q3 : (k == 3) = false := beq_eq_false_iff_ne.2 k3
  have q4 : (k == 4) = false := beq_eq_false_iff_ne.2 k4
  have q5 : (k == 5) = false := beq_eq_false_iff_ne.2 k5
  have q6 : (k == 6) = false := beq_eq_false_iff_ne.2 k6
  clear H3 H4 H5 H6 H0 cR cS cT hcv k3 k4 k5 k6
  subst hr
  go_wp2_with fail
  go_ret2
  exact ⟨rfl, hB⟩
end Go.Proofs.Ytopabkkapbaibaa.Msg
namespace Go.Proofs.Ytopabkkapbaibaa.Msg
open Go.RowKit
open Go.Proofs.Ytopabkkapbaibaa.Addr (Pf okP checkP wideN firstN kP hiN loN adV pfV)
theorem rputE_any (e : Ev) (w : World) (hf : FitE e) : Calls Try.prog 18 #[evV e] w fun r w' => r = .returned (.tuple #[.string ⟨(if okE e then evB e else []).toArray⟩, .int .i64 (checkE e)]) ∧ Below w.heap.size w w' := by
  have cC := fun W : World => rcheckE_any e W hf
  have hc : checkE e = if okE e = true then 0 else 2 := rfl
  rw [hc] at cC ⊢
  clear hc
  cases hok : okE e with
  | false =>
    rw [hok] at cC
    simp only [Bool.false_eq_true, if_false] at cC ⊢
    unfold evV evC at *
    exact rput_no _ _ _ _ _ _ _ _ _ _ _ _ w cC
  | true =>
    rw [hok] at cC
    simp only [if_true] at cC ⊢
    obtain ⟨⟨⟨k1, k2⟩, ⟨r1, r2⟩, ⟨q1, q2⟩, ⟨t1, t2⟩⟩, ⟨hp, ⟨i1, i2⟩, ⟨p1, p2⟩, ha⟩, hu⟩ := okE_bd hok
    have cP := fun W : World => rputPrefix_any e.pf W hf.len hf.n
    have cA := fun W : World => rputAction_any e.act W hf.act
    rw [hp] at cP
    simp only [if_true] at cP
    have cR := fun W : World => rput e.router W (by omega) (by omega)
    have cS := fun W : World => rput (e.seq : Int) W (by omega) (by omega)
    have cT := fun W : World => rput e.time W (by omega) (by omega)
    have cI := fun W : World => rput e.iface W (by omega) (by omega)
    have cJ := fun W : World => rput e.peer W (by omega) (by omega)
    rw [Int.toNat_natCast] at cS
    have lR := putL_le e.router.toNat (by omega)
    have lS := putL_le e.seq (by omega)
    have lT := putL_le e.time.toNat (by omega)
    have lI := putL_le e.iface.toNat (by omega)
    have lJ := putL_le e.peer.toNat (by omega)
    have hcv := fun (W : World) (g : Nat) => conv_one (e.kind : Int) (by omega) (by omega) W g
    rw [Int.toNat_natCast] at hcv
    have lP : (prefB e.pf).length ≤ 18 := by
      unfold prefB
      have : wB e.pf.six ≤ 16 := (by cases e.pf.six <;> decide)
      rw [List.length_append, List.length_take, be_len]
      simp only [List.length_cons, List.length_nil]
      omega
    have lA : (if okA e.act = true then actB e.act else []).length ≤ 11 := by
      cases hA : okA e.act with
      | false => simp
      | true =>
        have := actB_le e.act (okA_bd hA).2.1.2
        simp only [if_true]
        omega
    have hK1 := bytes_cat [UInt8.ofNat e.kind] (putL e.router.toNat)
    have hK2 := bytes_cat ([UInt8.ofNat e.kind] ++ putL e.router.toNat) (putL e.seq)
    have hS := bytes_cat ([UInt8.ofNat e.kind] ++ putL e.router.toNat ++ putL e.seq) (putL e.time.toNat)
    have hSP := bytes_cat ([UInt8.ofNat e.kind] ++ putL e.router.toNat ++ putL e.seq ++ putL e.time.toNat) (prefB e.pf)
    have hSI := bytes_cat ([UInt8.ofNat e.kind] ++ putL e.router.toNat ++ putL e.seq ++ putL e.time.toNat) (putL e.iface.toNat)
    have hSA := bytes_cat ([UInt8.ofNat e.kind] ++ putL e.router.toNat ++ putL e.seq ++ putL e.time.toNat ++ prefB e.pf) (if okA e.act = true then actB e.act else [])
    have hSJ := bytes_cat ([UInt8.ofNat e.kind] ++ putL e.router.toNat ++ putL e.seq ++ putL e.time.toNat ++ putL e.iface.toNat) (putL e.peer.toNat)
    have hw1 : IntKind.u64.wrap e.router = e.router := by rw [IntKind.wrap_u64]; omega
    have hw2 : IntKind.u64.wrap e.time = e.time := by rw [IntKind.wrap_u64]; omega
    have hw3 : IntKind.u64.wrap e.iface = e.iface := by rw [IntKind.wrap_u64]; omega
    have hw4 : IntKind.u64.wrap e.peer = e.peer := by rw [IntKind.wrap_u64]; omega
    unfold evV evC at cC ⊢
    unfold Addr.pfV at cP
    unfold acV at cA
    refine rput_yes (e.kind : Int) e.router (e.seq : Int) e.time (hiN e.pf.n) (loN e.pf.n) e.pf.len e.act.k e.act.i e.iface e.peer e.pf.six w cC e.router e.time e.iface e.peer _ _ _ _ _ _ _ cR cS cT hcv hw1 hw2 hK1 hK2 hS ?_ ?_ ?_ _ _ _ _ _ _ _ _ _ cP cA cI hw3 cJ hw4 hSP hSI ?_ ?_ ?_ ?_ ?_ ?_ ?_ ?_ ?_
    any_goals (simp only [List.length_append, List.length_cons, List.length_nil, ByteArray.size, List.size_toArray]; omega)
    · intro hk
      have hk : e.kind = 3 := by omega
      show _ = _
      rw [hSA, ha hk]
      unfold evB restB
      rw [if_pos hk]
      simp only [if_true, List.append_assoc]
    · intro hk
      have hk : e.kind = 4 := by omega
      show _ = _
      unfold evB restB
      rw [if_neg (by omega), if_pos hk]
    · intro hk
      have hk : e.kind = 5 := by omega
      show _ = _
      rw [hSJ]
      unfold evB restB
      rw [if_neg (by omega), if_neg (by omega), if_pos hk]
      simp only [List.append_assoc]
    · intro hk
      have hk : e.kind = 6 := by omega
      show _ = _
      unfold evB restB
      rw [if_neg (by omega), if_neg (by omega), if_neg (by omega), if_pos hk]
    · intro h3 h4 h5 h6
      show _ = _
      unfold evB restB
      rw [if_neg (by omega), if_neg (by omega), if_neg (by omega), if_neg (by omega), List.append_nil]
end Go.Proofs.Ytopabkkapbaibaa.Msg
namespace Go.Proofs.Ytopabkkapbaibaa.Gram
open Go.RowKit Go.Shelf
open Go.Proofs.Ytopabkkapbaibaa.Ord (HasEvs HasEvs.keep HasEvs.cell HasRow.slice)
open Go.Proofs.Ytopabkkapbaibaa.Msg (Ev evV evC okE evB checkE FitE rputE_any bytes_cat cells12')
open Go.Proofs.Ytopabkkapbaibaa.Addr (hiN loN RowAt below2 below_drew below_new bset RowAt.lt RowAt.cell RowAt.frozen RowAt.below RowAt.drew RowAt.new RowAt.alloc cells2 cells4)
set_option maxHeartbeats 2000000 in
set_option maxRecDepth 20000 in
theorem rwrap_any (l : List UInt8) (w : World) (h1 : 1 ≤ (l.length : Int)) (h2 : (l.length : Int) ≤ 64) :
    Calls Try.prog 19 #[.string ⟨l.toArray⟩] w fun e w' => e = .returned (.tuple #[.string ⟨(wrapL l).toArray⟩, .int .i64 0]) ∧ Below w.heap.size w w' := by
  have HW : Hid (wrapL l = [245, 0, UInt8.ofNat l.length] ++ l) := rfl
  have hcat := bytes_cat [245, 0, UInt8.ofNat l.length] l
  generalize wrapL l = R at HW ⊢
  rw [← HW.out] at hcat
  have hc3 := conv3 w l.length 0 5 (by omega) rfl
  have hin : l.length ≤ 64 := by omega
  have hip : 1 ≤ l.length := by omega
  clear HW
  go_enter Try.func19, Try.ntmps19
  go_wp2_with fail
  go_ret2
  exact ⟨rfl, below_new (Below.refl _ _) _⟩
set_option maxHeartbeats 4000000 in
set_option maxRecDepth 20000 in
theorem rstream_any (es : List Ev) (v : Value) (w : World) (he : HasEvs w v es) (hf : ∀ e ∈ es, FitE e) (hm : es.length ≤ 2000000000000) :
    Calls Try.prog 8 #[v] w fun r w' => r = .returned (.tuple #[strV (streamG [] es).1, .int .i64 (streamG [] es).2]) ∧ Below w.heap.size w w' := by
  obtain ⟨o, c, rfl, hc1, hc2⟩ := HasRow.slice he
  have HR : Hid (∀ wr : World, Below w.heap.size w wr → HasEvs wr (.slice o es.length c) es) := fun wr hb => he.keep hb
  obtain ⟨n, hn⟩ : ∃ n, n = es.length := ⟨_, rfl⟩
  have HN : Hid (n = es.length) := hn
  have HF : Hid (∀ e ∈ es, FitE e) := hf
  rw [← hn] at HR hc1 hm ⊢
  have hni : (n : Int) ≤ 2000000000000 := by omega
  obtain ⟨R, hR⟩ : ∃ R, R = streamG [] es := ⟨_, rfl⟩
  have HD : Hid (R = streamG [] (es.drop 0)) := hR
  rw [← hR]
  clear he hf hn hR
  unfold strV
  go_enter Try.func8, Try.ntmps8
  go_wp2_with fail
  go_loopw [4, 13] (fun s i wr => ∃ (k : Nat) (acc : List UInt8), k ≤ n ∧ i = .int .i64 k ∧ s = .string ⟨acc.toArray⟩ ∧ Below w.heap.size w wr ∧ Hid (R = streamG acc (es.drop k)) ∧ Hid (acc.length ≤ 67 * k)) (fun _ i _ => n - (intOf i).toNat)
  case atStart => exact ⟨0, [], by omega, rfl, rfl, Below.refl _ w, HD, by show _ ≤ _; simp⟩
  case round =>
    obtain ⟨k, acc, hk, rfl, rfl, hB, HG, HL⟩ := hrel
    have hh := HR.out _ hB
    by_cases hlt : k < n
    · have hkz : k < es.length := by rw [← HN.out]; exact hlt
      obtain ⟨g1, i1, rfl, hg1, a0, a1, a2, a3, a4, a5, a6, a7, a8, a9, a10, a11⟩ := HasEvs.cell hh k hkz
      have hfe := HF.out es[k] (List.getElem_mem hkz)
      have HB := stream_step acc es k hkz
      have hki : (k : Int) < (n : Int) := by omega
      obtain ⟨e0, he0⟩ : ∃ e0 : Ev, e0 = es[k] := ⟨_, rfl⟩
      rw [← he0] at a0 a1 a2 a3 a4 a5 a6 a7 a8 a9 a10 a11 HB hfe
      have HB1 : Hid (okE e0 = true → R = streamG (acc ++ wrapL (evB e0)) (es.drop (k + 1)) ∧ (1 ≤ ((evB e0).length : Int) ∧ ((evB e0).length : Int) ≤ 64)) := fun e => by
        have := evB_len e0 e
        exact ⟨by rw [HG.out, HB, mess_ok e0 e, if_pos rfl], by omega, by omega⟩
      have HB2 : Hid (okE e0 = false → R = ([], 2)) := fun e => by rw [HG.out, HB, mess_no e0 e]; rfl
      clear he0 HG hg1 HB
      go_upto_region 5 with fail
      obtain ⟨X, hX⟩ : ∃ X, X = wr.alloc (.cells #[.int .u8 (e0.kind : Int), .int .i64 e0.router, .int .u64 (e0.seq : Int), .int .i64 e0.time, .bool e0.pf.six, .int .u64 (hiN e0.pf.n : Int), .int .u64 (loN e0.pf.n : Int), .int .i64 e0.pf.len, .int .u8 (e0.act.k : Int), .int .i64 e0.act.i, .int .i64 e0.iface, .int .i64 e0.peer] 50) := ⟨_, rfl⟩
      have hbX : Below wr.heap.size wr X := by rw [hX]; exact below_new (Below.refl _ _) _
      have r0 : RowAt X wr.heap.size [.int .u8 (e0.kind : Int), .int .i64 e0.router, .int .u64 (e0.seq : Int), .int .i64 e0.time, .bool e0.pf.six, .int .u64 (hiN e0.pf.n : Int), .int .u64 (loN e0.pf.n : Int), .int .i64 e0.pf.len, .int .u8 (e0.act.k : Int), .int .i64 e0.act.i, .int .i64 e0.iface, .int .i64 e0.peer] 50 := by rw [hX]; exact RowAt.new _ _ _
      rw [← hX]
      have hBX := below2 hB hbX
      have cn := fun W => rputE_any e0 W hfe
      have cw := fun W (h : 1 ≤ ((evB e0).length : Int)) => rwrap_any (evB e0) W h
      have hc : checkE e0 = if okE e0 = true then 0 else 2 := rfl
      rw [hc] at cn
      unfold evV evC at cn
      clear hX a0 a1 a2 a3 a4 a5 a6 a7 a8 a9 a10 a11 hh hc hfe
      obtain ⟨gs, hgs⟩ : ∃ g, g = wr.heap.size := ⟨_, rfl⟩
      rw [← hgs] at r0 ⊢
      clear hgs hbX
      obtain ⟨⟨y0, y1, y2, y3, y4, y5⟩, ⟨y6, y7, y8, y9, y10, y11⟩, yf, hly⟩ := cells12' r0
      cases hok : okE e0
      · rw [hok] at cn HB2
        simp only [Bool.false_eq_true, if_false] at cn
        have HV : Hid (R = ([], 2)) := HB2.out rfl
        clear HB1 HB2 cw
        go_wp2_with fail
        go_at_call 18; refine (cn _).mono ?_; rintro e w2 ⟨rfl, hb2⟩
        have hW := below2 hBX hb2
        go_wp2_with fail
        go_ret2
        exact ⟨by rw [HV.out]; rfl, hW⟩
      · rw [hok] at cn HB1
        simp only [if_true] at cn
        obtain ⟨hV, hl1, hl2⟩ := HB1.out rfl
        have HV : Hid (R = streamG (acc ++ wrapL (evB e0)) (es.drop (k + 1))) := hV
        have hwl : (wrapL (evB e0)).length = 3 + (evB e0).length := by simp [wrapL]; omega
        have cw2 := fun W => cw W hl1 hl2
        have hcat := bytes_cat acc (wrapL (evB e0))
        have HAL : Hid ((acc ++ wrapL (evB e0)).length ≤ 67 * (k + 1)) := by show _ ≤ _; have := HL.out; rw [List.length_append]; omega
        have hal : (acc.length : Int) + ((wrapL (evB e0)).length : Int) ≤ 281474976710655 := by have := HL.out; omega
        have hal2 : (acc.length : Int) ≤ 281474976710655 := by omega
        have hal3 : ((wrapL (evB e0)).length : Int) ≤ 67 := by omega
        clear HB1 HB2 cw hV hwl HL
        generalize acc ++ wrapL (evB e0) = acc2 at *
        generalize wrapL (evB e0) = wr0 at *
        generalize evB e0 = bd at *
        go_wp2_with fail
        go_at_call 18; refine (cn _).mono ?_; rintro e w2 ⟨rfl, hb2⟩
        have hW := below2 hBX hb2
        go_wp2_with fail
        go_at_call 19; refine (cw2 _).mono ?_; rintro e w3 ⟨rfl, hb3⟩
        replace hW := below2 hW hb3
        go_wp2_with fail
        go_roundw
        case rel => exact ⟨k + 1, acc2, by omega, by go_num, by first | rfl | exact congrArg _ hcat | simp [hcat], hW, HV, HAL⟩
        case measure => simp [intOf]; omega
    · obtain rfl : k = n := by omega
      have HE : Hid (R = (acc, 0)) := by show _ = _; rw [HG.out, HN.out, List.drop_length]; rfl
      go_wp2_with fail
      go_ret2
      exact ⟨by rw [HE.out]; rfl, hB⟩
end Go.Proofs.Ytopabkkapbaibaa.Gram
namespace Go.Proofs.Ytopabkkapbaibaa
namespace gramStreams
open Go.ChangeShapes Go.WideShapes Go.ChangeAt Go.RowKit
open Go.Proofs.Ytopabkkapbaibaa.Gram
open Go.Proofs.Ytopabkkapbaibaa.Ord (HasEvs HasEvs.keep HasEvs.cell HasRow.slice)
open Go.Proofs.Ytopabkkapbaibaa.Msg (Ev evV evC okE evB checkE FitE bytes_cat zeroE)
open Go.Proofs.Ytopabkkapbaibaa.Addr (hiN loN RowAt below2 below_drew below_new bset)

theorem own : ownKnob Try.prog.godebug = none := by kernel_rfl
theorem laidOut : laidOutB Try.prog = true := by kernel_rfl
set_option maxHeartbeats 4000000 in
set_option maxRecDepth 20000 in
theorem walk0 (v : Value) (S : ByteArray) (y : Int) (w : World)
    (kl : ∀ W : World, Calls Try.prog 9 #[] W fun e w' => e = .returned (.bool true) ∧ Below W.heap.size W w')
    (kS : ∀ W : World, Below w.heap.size w W → Calls Try.prog 7 #[v] W fun e w' => e = .returned (.tuple #[.string S, .int .i64 y]) ∧ Below W.heap.size W w')
    (kR : ∀ W : World, Below w.heap.size w W → Calls Try.prog 8 #[v] W fun e w' => e = .returned (.tuple #[.string S, .int .i64 y]) ∧ Below W.heap.size W w') :
    Calls Try.prog 3 #[v] w fun e w' => e = .returned (.bool true) ∧ Below w.heap.size w w' := by
  have h1 : (S.toList == S.toList) = true := by simp
  have h2 : (y == y) = true := by simp
  go_enter Try.func3, Try.ntmps3
  go_wp2_with fail
  go_at_call 7; refine (kS _ (Below.refl _ _)).mono ?_; rintro e w1 ⟨rfl, hb1⟩
  go_wp2_with fail
  go_at_call 8; refine (kR _ hb1).mono ?_; rintro e w2 ⟨rfl, hb2⟩
  have hB := below2 hb1 hb2
  go_wp2_with fail
  go_at_call 9; refine (kl _).mono ?_; rintro e w3 ⟨rfl, hb3⟩
  replace hB := below2 hB hb3
  go_wp2_with fail
  go_ret
  exact ⟨by first | rfl | simp, hB⟩
theorem walk (v : Value) (es : List Ev) (w : World) (b0 : HasEvs w v es) (f0 : ∀ e ∈ es, FitE e) (m0 : es.length ≤ 1466015503658) :
    Calls Try.prog 3 #[v] w fun e w' => e = .returned (.bool true) ∧ Below w.heap.size w w' :=
  walk0 v _ _ w (fun W => lives_any W) (fun W hb => stream_any es v W (b0.keep hb) f0 (fun e _ h => (evB_len e h).2) (by omega)) (fun W hb => rstream_any es v W (b0.keep hb) f0 (by omega))

set_option maxRecDepth 100000 in
theorem lifted (os : Os) (started : os.Started) (H : Type) (enc : TypeId × Value → H) :
    ReturnsInHanded {} Try.checked os 3 .any (Rows.gramStreamsSpec.pre6 enc Try.prog Try.f3 Rows.gramStreamsRow.domain false) (Rows.gramStreamsSpec.post enc Try.prog Try.f3 false true false false) := by
  refine returnsInHanded_of_change_sized (C := Try.checked) own started (by kernel_rfl) Try.func3
    (ChangeSpec.witness6 (enc := enc) (C := Try.checked) false ⟨#[], #[.slice none 0 0], []⟩ 8 (by kernel_rfl) (by kernel_rfl) (by kernel_rfl) (by kernel_rfl)) ?_
  intro W base args ds gs before hval0 hW _ hsz0 _
  have hsz : (DataW.weightsEach Try.prog (Try.f3.params.toList ++ Rows.gramStreamsSpec.plain.varTypes Try.prog) (ds ++ gs)).all (· ≤ reachBytes) = true := hsz0
  clear hsz0
  have hval : ∀ (j : Nat) t v, Try.f3.params[j]? = some t → args[j]? = some v → Value.okWide Try.prog W .any base t v := hval0
  have hW' := hW
  obtain ⟨p, q, hA0, hV, rfl, hfz, hnd⟩ := hW
  have hA : DataW.TrodAll enc Try.prog W 0 (fun _ => true) true Try.f3.params.toList args.toList ds p := hA0
  rw [Try.params3] at hA hval hsz
  obtain ⟨v0, vs0, d0, ds0, p0, q0, hargs, rfl, rfl, h0, r0⟩ := trodAll_cons hA
  obtain ⟨rfl, rfl, rfl⟩ := trodAll_nil r0
  obtain rfl : args = #[v0] := by cases args; simp_all
  obtain ⟨rfl, rfl⟩ := trodVars_none hV
  obtain ⟨a0, len0, cap0, rfl⟩ := okWide_slice Try.underlying22 (hval 0 22 v0 rfl rfl)
  have k0 := h0
  have lt0 : ∀ x ∈ p0, x.block < W.heap.size := by obtain ⟨m, hm⟩ := k0; exact DataW.trod_lt m _ _ _ hm
  have n0 : len0 ≤ 1466015503658 := by
    obtain ⟨fuel, hf⟩ := k0
    rcases Go.Deep.open_slice Try.underlying22 hf with ⟨hcs, _⟩ | ⟨x, l, c, m, n, D, Pl, hcs, _, _, _, _, hx, _⟩
    · simp [Value.cells] at hcs
      omega
    · simp [Value.cells] at hcs
      obtain ⟨rfl, rfl, rfl⟩ := hcs
      have hs := sized_slice hsz (j := 0) (t := 22) (e := 50) rfl (congrArg some (Prod.mk.inj hx).1) Try.underlying22
      rw [show Try.prog.bytesOf 50 = 96 by kernel_rfl] at hs
      simp [reachBytes] at hs
      omega
  obtain ⟨fuel0, hf0⟩ := h0
  obtain ⟨z0, b0, f0⟩ := Ord.open_events hf0
  have m0 : z0.length ≤ 1466015503658 := by
    obtain ⟨_, _, e, _⟩ := Ord.HasRow.slice b0
    injection e with _ e _
    omega
  clear hA0 hval0
  refine (walk (.slice a0 len0 cap0) z0 W b0 f0 m0).mono fun e W' ⟨he, bel⟩ => ?_
  subst he
  exact ⟨_, rfl, _, _, _, [], _, [], hW', trodAll_mk1 (shut_bool Try.underlying4 _), (trodAll_cons_mk (Below.trod laidOut (by kernel_rfl) (of_decide_eq_true (by kernel_rfl)) k0 bel lt0) trodAll_mk0), rfl, bel.frame _, fun h => by cases h⟩

theorem over : Rows.gramStreamsRow.holds Try.pinned (OpenSpec.ofChange Rows.gramStreamsSpec) :=
  OpenClaim.holds_of_wide 3 Try.f3 rfl rfl rfl rfl rfl rfl rfl ⟨rfl, rfl, rfl, rfl, rfl⟩ rfl rfl rfl rfl rfl (by kernel_rfl) Try.func3 (by kernel_rfl)
    (of_decide_eq_true (by kernel_rfl)) (by unfold Func.isWrapper; first | (rw [if_pos (by decide +kernel)]; kernel_rfl) | (rw [if_neg (by decide +kernel)]; exact ⟨rfl, rfl⟩))
    (fun os started H enc _ => lifted os started H enc)
end gramStreams
theorem gstreams_holds : Rows.GramStreamsSaid := gramStreams.over
#print axioms gstreams_holds
end Go.Proofs.Ytopabkkapbaibaa
