/- For every kind of addresses, and any two rows of spans: spoorlaw10.SpanTwice returns true, and changes nothing that was there. No condition. -/
import Derived.Test.YtfancibjicpdkaaRows
import Derived.Test.YtfancibjicpdkaaSpLives
import Derived.Test.YtfancibjicpdkaaSpOpen
import Derived.ProofKit
import Derived.OpenShut
import Derived.ShutString
import Derived.SizedLaws
set_option linter.unusedVariables false
namespace Go.Proofs.Ytfancibjicpdkaa
namespace spanTwice
open Go.ChangeShapes Go.WideShapes Go.ChangeAt Go.RowKit
open Go.ChangeMaps (open_string shut_string)
open Go.Proofs.Ytfancibjicpdkaa.Sp
open Go.Proofs.Ytfancibjicpdkaa.Lk (HasRow)
open Go.Proofs.Ytfancibjicpdkaa.Addr (rightB hiN loN adV RowAt below2 below_drew below_new bset RowAt.lt RowAt.cell RowAt.frozen RowAt.below RowAt.drew RowAt.new RowAt.alloc cells2)
theorem own : ownKnob Try.prog.godebug = none := by kernel_rfl
theorem laidOut : laidOutB Try.prog = true := by kernel_rfl
/-- an answer whose row is bounded: the row itself -/
theorem ans_get {six : Bool} {w w' : World} {e : Ending} {ok : Bool} {bad : Int} {m : Nat → Bool} {bound : Nat} (h : AnsIs six w ok bad m bound e w') (hok : ok = true) (hb : bound ≤ 1024) : ∃ u R, e = .returned (.tuple #[u, .int .i64 0]) ∧ Own1 w w' 34 u R ∧ Row six R ∧ (∀ x, inB R x = m x) ∧ R.length ≤ bound := by
  obtain ⟨u, R, why, he, hO, _, h2⟩ := h
  rcases h2 hok with ⟨h3, h4, h5, h6, h7⟩ | ⟨h3, h4, L', h5, h6, h7, h8⟩
  · subst h3
    exact ⟨u, R, he, hO, h4, h5, h7⟩
  · omega
theorem fit_row {six : Bool} {l : List Sp} (h : Row six l) : ∀ s ∈ l, FitS s := fun s hs => ok_fit (h.1 s hs)
theorem twice_eq {six : Bool} {l n k : List Sp} (hl : Row six l) (hn : ∀ x, inB n x = (decide (x ≤ topN six) && !inB l x)) (hk : Row six k) (h : ∀ x, inB k x = (decide (x ≤ topN six) && !inB n x)) : k = l := by
  refine row_ext hk hl (fun x => ?_)
  rw [h, hn]
  by_cases hx : x ≤ topN six
  · simp [hx]
  · have : inB l x = false := by
      rw [Bool.eq_false_iff]; intro h2; exact hx (row_in hl h2)
    simp [hx, this]
theorem neither_eq {six : Bool} {l m n o r a b : List Sp} (hn : ∀ x, inB n x = (decide (x ≤ topN six) && !inB l x)) (ho : ∀ x, inB o x = (decide (x ≤ topN six) && !inB m x)) (hr : ∀ x, inB r x = (inB l x || inB m x)) (ha : Row six a) (ha2 : ∀ x, inB a x = (decide (x ≤ topN six) && !inB r x)) (hb : Row six b) (hb2 : ∀ x, inB b x = (inB n x && inB o x)) : a = b := by
  refine row_ext ha hb (fun x => ?_)
  rw [ha2, hb2, hr, hn, ho]
  cases decide (x ≤ topN six) <;> cases inB l x <;> cases inB m x <;> rfl
set_option maxHeartbeats 16000000 in
set_option maxRecDepth 20000 in
theorem walk (six : Bool) (v : Value) (l : List Sp) (u : Value) (m : List Sp) (w : World) (b1 : HasSps w v l) (f1 : ∀ s ∈ l, FitS s) (b2 : HasSps w u m) (f2 : ∀ s ∈ m, FitS s) :
    Calls Try.prog 7 #[.bool six, v, u] w fun e w' => e = .returned (.bool true) ∧ Below w.heap.size w w' := by
  have c0 := fun (W : World) => lives_any W
  have ck1 := fun (W : World) (h : HasSps W v l) => check_any six l v W h f1
  have ck2 := fun (W : World) (h : HasSps W u m) => check_any six m u W h f2
  obtain ⟨o1, p1, rfl, _, _⟩ := HasRow.slice b1
  obtain ⟨o2, p2, rfl, _, _⟩ := HasRow.slice b2
  have hB : Below w.heap.size w w := Below.refl _ _
  by_cases hgo : (okB six l = true ∧ okB six m = true) ∧ l.length ≤ 400 ∧ m.length ≤ 400
  · obtain ⟨⟨hA, hC⟩, hl4, hm4⟩ := hgo
    have rl := (okB_iff.1 hA).2
    have rm := (okB_iff.1 hC).2
    rw [hA] at ck1
    rw [hC] at ck2
    unfold chk at ck1 ck2
    simp only [if_true] at ck1 ck2
    have hq1 : decide ((400 : Int) < (l.length : Int)) = false := decide_eq_false (by omega)
    have hq2 : decide (400 < l.length) = false := decide_eq_false (by omega)
    have hq3 : decide ((400 : Int) < (m.length : Int)) = false := decide_eq_false (by omega)
    have hq4 : decide (400 < m.length) = false := decide_eq_false (by omega)
    go_enter Try.func7, Try.ntmps7
    go_wp2_with fail
    go_at_call 10; refine (c0 _).mono ?_; rintro e w1 ⟨rfl, hb⟩
    replace hB := below2 hB hb
    replace b1 := b1.keep hb
    replace b2 := b2.keep hb
    clear hb
    go_wp2_with fail
    go_at_call 16; refine (ck1 _ b1).mono ?_; rintro e w2 ⟨rfl, hb⟩
    replace hB := below2 hB hb
    replace b1 := b1.keep hb
    replace b2 := b2.keep hb
    clear hb
    go_wp2_with fail
    go_at_call 16; refine (ck2 _ b2).mono ?_; rintro e w3 ⟨rfl, hb⟩
    replace hB := below2 hB hb
    replace b1 := b1.keep hb
    replace b2 := b2.keep hb
    clear hb
    clear c0 ck1 ck2
    have hA0 : okB six l = true := okB_iff.2 ⟨by omega, rl⟩
    have hC0 : okB six m = true := okB_iff.2 ⟨by omega, rm⟩
    have cc := not_any six l _ w3 b1 f1
    go_wp2_with fail
    go_at_call 22; refine cc.mono ?_; rintro e w4 hA
    obtain ⟨uN, N, rfl, hO, rN, mN, tN⟩ := ans_get hA hA0 (by omega)
    replace hB := below2 hB hO.bl
    replace b1 := b1.keep hO.bl
    replace b2 := b2.keep hO.bl
    have hrN := hO.has
    obtain ⟨oN, cN, eN, _, _⟩ := HasRow.slice hrN
    subst eN
    clear hO hA cc
    have cc := not_any six N _ w4 hrN (fit_row rN)
    go_wp2_with fail
    go_at_call 22; refine cc.mono ?_; rintro e w5 hA
    obtain ⟨uK, K, rfl, hO, rK, mK, tK⟩ := ans_get hA (okB_iff.2 ⟨by omega, rN⟩) (by omega)
    replace hB := below2 hB hO.bl
    replace b1 := b1.keep hO.bl
    replace b2 := b2.keep hO.bl
    replace hrN := hrN.keep hO.bl
    have hrK := hO.has
    obtain ⟨oK, cK, eK, _, _⟩ := HasRow.slice hrK
    subst eK
    clear hO hA cc
    have cc := not_any six m _ w5 b2 f2
    go_wp2_with fail
    go_at_call 22; refine cc.mono ?_; rintro e w6 hA
    obtain ⟨uO, O, rfl, hO, rO, mO, tO⟩ := ans_get hA hC0 (by omega)
    replace hB := below2 hB hO.bl
    replace b1 := b1.keep hO.bl
    replace b2 := b2.keep hO.bl
    replace hrN := hrN.keep hO.bl
    replace hrK := hrK.keep hO.bl
    have hrO := hO.has
    obtain ⟨oO, cO, eO, _, _⟩ := HasRow.slice hrO
    subst eO
    clear hO hA cc
    have cc := or_any six l m _ _ w6 b1 b2 f1 f2
    go_wp2_with fail
    go_at_call 18; refine cc.mono ?_; rintro e w7 hA
    obtain ⟨uQ, Q, rfl, hO, rQ, mQ, tQ⟩ := ans_get hA (by rw [hA0, hC0]; rfl) (by omega)
    replace hB := below2 hB hO.bl
    replace b1 := b1.keep hO.bl
    replace b2 := b2.keep hO.bl
    replace hrN := hrN.keep hO.bl
    replace hrK := hrK.keep hO.bl
    replace hrO := hrO.keep hO.bl
    have hrQ := hO.has
    obtain ⟨oQ, cQ, eQ, _, _⟩ := HasRow.slice hrQ
    subst eQ
    clear hO hA cc
    have cc := not_any six Q _ w7 hrQ (fit_row rQ)
    go_wp2_with fail
    go_at_call 22; refine cc.mono ?_; rintro e w8 hA
    obtain ⟨uA, A, rfl, hO, rA, mA, tA⟩ := ans_get hA (okB_iff.2 ⟨by omega, rQ⟩) (by omega)
    replace hB := below2 hB hO.bl
    replace b1 := b1.keep hO.bl
    replace b2 := b2.keep hO.bl
    replace hrN := hrN.keep hO.bl
    replace hrK := hrK.keep hO.bl
    replace hrO := hrO.keep hO.bl
    replace hrQ := hrQ.keep hO.bl
    have hrA := hO.has
    obtain ⟨oA, cA, eA, _, _⟩ := HasRow.slice hrA
    subst eA
    clear hO hA cc
    have cc := and_any six N O _ _ w8 hrN hrO (fit_row rN) (fit_row rO)
    go_wp2_with fail
    go_at_call 20; refine cc.mono ?_; rintro e w9 hA
    obtain ⟨uB, B, rfl, hO, rB, mB, tB⟩ := ans_get hA (by rw [okB_iff.2 ⟨by omega, rN⟩, okB_iff.2 ⟨by omega, rO⟩]; rfl) (by omega)
    replace hB := below2 hB hO.bl
    replace b1 := b1.keep hO.bl
    replace b2 := b2.keep hO.bl
    replace hrN := hrN.keep hO.bl
    replace hrK := hrK.keep hO.bl
    replace hrO := hrO.keep hO.bl
    replace hrQ := hrQ.keep hO.bl
    replace hrA := hrA.keep hO.bl
    have hrB := hO.has
    obtain ⟨oB, cB, eB, _, _⟩ := HasRow.slice hrB
    subst eB
    clear hO hA cc
    have cc := make_any six l _ w9 b1 f1 (by omega)
    go_wp2_with fail
    go_at_call 11; refine cc.mono ?_; rintro e w10 hA
    obtain ⟨uD, D, rfl, hO, rD, mD, tD⟩ := ans_get hA (List.all_eq_true.2 rl.1) (by omega)
    replace hB := below2 hB hO.bl
    replace b1 := b1.keep hO.bl
    replace b2 := b2.keep hO.bl
    replace hrN := hrN.keep hO.bl
    replace hrK := hrK.keep hO.bl
    replace hrO := hrO.keep hO.bl
    replace hrQ := hrQ.keep hO.bl
    replace hrA := hrA.keep hO.bl
    replace hrB := hrB.keep hO.bl
    have hrD := hO.has
    obtain ⟨oD, cD, eD, _, _⟩ := HasRow.slice hrD
    subst eD
    clear hO hA cc
    have eK : K = l := twice_eq rl mN rK mK
    have eA : B = A := (neither_eq mN mO mQ rA mA rB mB).symm
    have eD : D = l := row_ext rD rl mD
    rw [eK] at hrK
    rw [eA] at hrB
    rw [eD] at hrD
    simp only [eK, eA, eD]
    clear eK eA eD
    go_wp2_with fail
    go_at_call 15; refine (same_any l _ _ _ hrK b1).mono ?_; rintro e v1 ⟨rfl, hb⟩
    replace hB := below2 hB hb
    replace b1 := b1.keep hb
    replace hrA := hrA.keep hb
    replace hrB := hrB.keep hb
    replace hrD := hrD.keep hb
    clear hb
    go_wp2_with fail
    go_at_call 15; refine (same_any A _ _ _ hrA hrB).mono ?_; rintro e v2 ⟨rfl, hb⟩
    replace hB := below2 hB hb
    replace b1 := b1.keep hb
    replace hrD := hrD.keep hb
    clear hb
    go_wp2_with fail
    go_at_call 15; refine (same_any l _ _ _ hrD b1).mono ?_; rintro e v3 ⟨rfl, hb⟩
    replace hB := below2 hB hb
    go_wp2_with fail
    go_ret
    exact ⟨rfl, hB⟩
  · have hsp : okB six l = false ∨ okB six m = false ∨ (okB six l = true ∧ okB six m = true ∧ 400 < l.length) ∨ (okB six l = true ∧ okB six m = true ∧ l.length ≤ 400 ∧ 400 < m.length) := by
      cases h1 : okB six l
      · exact .inl rfl
      · cases h2 : okB six m
        · exact .inr (.inl rfl)
        · rcases Nat.lt_or_ge 400 l.length with h3 | h3
          · exact .inr (.inr (.inl ⟨rfl, rfl, h3⟩))
          · rcases Nat.lt_or_ge 400 m.length with h4 | h4
            · exact .inr (.inr (.inr ⟨rfl, rfl, h3, h4⟩))
            · exact absurd ⟨⟨h1, h2⟩, h3, h4⟩ hgo
    clear hgo
    rcases hsp with h1 | h1 | ⟨h1, h2, h3⟩ | ⟨h1, h2, h3, h4⟩
    · rw [h1] at ck1
      unfold chk at ck1
      simp only [Bool.false_eq_true, if_false] at ck1
      generalize l.length = na at *
      generalize m.length = nb at *
      go_enter Try.func7, Try.ntmps7
      go_wp2_with fail
      go_at_call 10; refine (c0 _).mono ?_; rintro e w1 ⟨rfl, hb⟩
      replace hB := below2 hB hb
      replace b1 := b1.keep hb
      go_wp2_with fail
      go_at_call 16; refine (ck1 _ b1).mono ?_; rintro e w2 ⟨rfl, hb2⟩
      replace hB := below2 hB hb2
      go_wp2_with fail
      go_ret
      exact ⟨rfl, hB⟩
    · cases h0 : okB six l
      · rw [h0] at ck1
        unfold chk at ck1
        simp only [Bool.false_eq_true, if_false] at ck1
        generalize l.length = na at *
        generalize m.length = nb at *
        go_enter Try.func7, Try.ntmps7
        go_wp2_with fail
        go_at_call 10; refine (c0 _).mono ?_; rintro e w1 ⟨rfl, hb⟩
        replace hB := below2 hB hb
        replace b1 := b1.keep hb
        go_wp2_with fail
        go_at_call 16; refine (ck1 _ b1).mono ?_; rintro e w2 ⟨rfl, hb2⟩
        replace hB := below2 hB hb2
        go_wp2_with fail
        go_ret
        exact ⟨rfl, hB⟩
      · rw [h0] at ck1
        rw [h1] at ck2
        unfold chk at ck1 ck2
        simp only [Bool.false_eq_true, if_false, if_true] at ck1 ck2
        generalize l.length = na at *
        generalize m.length = nb at *
        go_enter Try.func7, Try.ntmps7
        go_wp2_with fail
        go_at_call 10; refine (c0 _).mono ?_; rintro e w1 ⟨rfl, hb⟩
        replace hB := below2 hB hb
        replace b1 := b1.keep hb
        replace b2 := b2.keep hb
        go_wp2_with fail
        go_at_call 16; refine (ck1 _ b1).mono ?_; rintro e w2 ⟨rfl, hb2⟩
        replace hB := below2 hB hb2
        replace b2 := b2.keep hb2
        go_wp2_with fail
        go_at_call 16; refine (ck2 _ b2).mono ?_; rintro e w3 ⟨rfl, hb3⟩
        replace hB := below2 hB hb3
        go_wp2_with fail
        go_ret
        exact ⟨rfl, hB⟩
    · rw [h1] at ck1
      rw [h2] at ck2
      unfold chk at ck1 ck2
      simp only [if_true] at ck1 ck2
      have hq1 : decide ((400 : Int) < (l.length : Int)) = true := decide_eq_true (by omega)
      have hq2 : decide (400 < l.length) = true := decide_eq_true h3
      generalize l.length = na at *
      generalize m.length = nb at *
      go_enter Try.func7, Try.ntmps7
      go_wp2_with fail
      go_at_call 10; refine (c0 _).mono ?_; rintro e w1 ⟨rfl, hb⟩
      replace hB := below2 hB hb
      replace b1 := b1.keep hb
      replace b2 := b2.keep hb
      go_wp2_with fail
      go_at_call 16; refine (ck1 _ b1).mono ?_; rintro e w2 ⟨rfl, hb2⟩
      replace hB := below2 hB hb2
      replace b2 := b2.keep hb2
      go_wp2_with fail
      go_at_call 16; refine (ck2 _ b2).mono ?_; rintro e w3 ⟨rfl, hb3⟩
      replace hB := below2 hB hb3
      go_wp2_with fail
      go_ret
      exact ⟨rfl, hB⟩
    · rw [h1] at ck1
      rw [h2] at ck2
      unfold chk at ck1 ck2
      simp only [if_true] at ck1 ck2
      have hq1 : decide ((400 : Int) < (l.length : Int)) = false := decide_eq_false (by omega)
      have hq2 : decide (400 < l.length) = false := decide_eq_false (by omega)
      have hq3 : decide ((400 : Int) < (m.length : Int)) = true := decide_eq_true (by omega)
      have hq4 : decide (400 < m.length) = true := decide_eq_true h4
      generalize l.length = na at *
      generalize m.length = nb at *
      go_enter Try.func7, Try.ntmps7
      go_wp2_with fail
      go_at_call 10; refine (c0 _).mono ?_; rintro e w1 ⟨rfl, hb⟩
      replace hB := below2 hB hb
      replace b1 := b1.keep hb
      replace b2 := b2.keep hb
      go_wp2_with fail
      go_at_call 16; refine (ck1 _ b1).mono ?_; rintro e w2 ⟨rfl, hb2⟩
      replace hB := below2 hB hb2
      replace b2 := b2.keep hb2
      go_wp2_with fail
      go_at_call 16; refine (ck2 _ b2).mono ?_; rintro e w3 ⟨rfl, hb3⟩
      replace hB := below2 hB hb3
      go_wp2_with fail
      go_ret
      exact ⟨rfl, hB⟩
set_option maxRecDepth 100000 in
theorem lifted (os : Os) (started : os.Started) (H : Type) (enc : TypeId × Value → H) :
    ReturnsInHanded {} Try.checked os 7 .any (Rows.spanTwiceSpec.pre6 enc Try.prog Try.f7 Rows.spanTwiceRow.domain false) (Rows.spanTwiceSpec.post enc Try.prog Try.f7 false true false false) := by
  refine returnsInHanded_of_change_sized (C := Try.checked) own started (by kernel_rfl) Try.func7
    (ChangeSpec.witness6 (enc := enc) (C := Try.checked) false ⟨#[], #[.bool false, .slice none 0 0, .slice none 0 0], []⟩ 8 (by kernel_rfl) (by kernel_rfl) (by kernel_rfl) (by kernel_rfl)) ?_
  intro W base args ds gs before hval0 hW _ hsz0 _
  have hsz : (DataW.weightsEach Try.prog (Try.f7.params.toList ++ Rows.spanTwiceSpec.plain.varTypes Try.prog) (ds ++ gs)).all (· ≤ reachBytes) = true := hsz0
  clear hsz0
  have hval : ∀ (j : Nat) t v, Try.f7.params[j]? = some t → args[j]? = some v → Value.okWide Try.prog W .any base t v := hval0
  have hW' := hW
  obtain ⟨p, q, hA0, hV, rfl, hfz, hnd⟩ := hW
  have hA : DataW.TrodAll enc Try.prog W 0 (fun _ => true) true Try.f7.params.toList args.toList ds p := hA0
  rw [Try.params7] at hA hval hsz
  obtain ⟨v0, vs0, d0, ds0, p0, q0, hargs, rfl, rfl, h0, r0⟩ := trodAll_cons hA
  obtain ⟨v1, vs1, d1, ds1, p1, q1, rfl, rfl, rfl, h1, r1⟩ := trodAll_cons r0
  obtain ⟨v2, vs2, d2, ds2, p2, q2, rfl, rfl, rfl, h2, r2⟩ := trodAll_cons r1
  obtain ⟨rfl, rfl, rfl⟩ := trodAll_nil r2
  obtain rfl : args = #[v0, v1, v2] := by cases args; simp_all
  obtain ⟨rfl, rfl⟩ := trodVars_none hV
  obtain ⟨a0, rfl, rfl, rfl⟩ := open_bool Try.underlying4 (hval 0 4 v0 rfl rfl) h0
  obtain ⟨a1, len1, cap1, rfl⟩ := okWide_slice Try.underlying22 (hval 1 22 v1 rfl rfl)
  have k1 := h1
  have lt1 : ∀ x ∈ p1, x.block < W.heap.size := by obtain ⟨m, hm⟩ := k1; exact DataW.trod_lt m _ _ _ hm
  obtain ⟨fuel1, hf1⟩ := h1
  obtain ⟨z1, b1, f1⟩ := Sp.open_spans hf1
  obtain ⟨a2, len2, cap2, rfl⟩ := okWide_slice Try.underlying22 (hval 2 22 v2 rfl rfl)
  have k2 := h2
  have lt2 : ∀ x ∈ p2, x.block < W.heap.size := by obtain ⟨m, hm⟩ := k2; exact DataW.trod_lt m _ _ _ hm
  obtain ⟨fuel2, hf2⟩ := h2
  obtain ⟨z2, b2, f2⟩ := Sp.open_spans hf2
  clear hA0 hval0
  refine (walk a0 (.slice a1 len1 cap1) z1 (.slice a2 len2 cap2) z2 W b1 f1 b2 f2).mono fun e W' ⟨he, bel⟩ => ?_
  subst he
  exact ⟨_, rfl, _, _, _, [], _, [], hW', trodAll_mk1 (shut_bool Try.underlying4 _), (trodAll_cons_mk (shut_bool Try.underlying4 a0) (trodAll_cons_mk (Below.trod laidOut (by kernel_rfl) (of_decide_eq_true (by kernel_rfl)) k1 bel lt1) (trodAll_cons_mk (Below.trod laidOut (by kernel_rfl) (of_decide_eq_true (by kernel_rfl)) k2 bel lt2) trodAll_mk0))), rfl, bel.frame _, fun h => by cases h⟩

theorem over : Rows.spanTwiceRow.holds Try.pinned (OpenSpec.ofChange Rows.spanTwiceSpec) :=
  OpenClaim.holds_of_wide 7 Try.f7 rfl rfl rfl rfl rfl rfl rfl ⟨rfl, rfl, rfl, rfl, rfl⟩ rfl rfl rfl rfl rfl (by kernel_rfl) Try.func7 (by kernel_rfl)
    (of_decide_eq_true (by kernel_rfl)) (by unfold Func.isWrapper; first | (rw [if_pos (by decide +kernel)]; kernel_rfl) | (rw [if_neg (by decide +kernel)]; exact ⟨rfl, rfl⟩))
    (fun os started H enc _ => lifted os started H enc)
end spanTwice
theorem span_twice_holds : Rows.SpanTwiceSaid := spanTwice.over
#print axioms span_twice_holds
end Go.Proofs.Ytfancibjicpdkaa
