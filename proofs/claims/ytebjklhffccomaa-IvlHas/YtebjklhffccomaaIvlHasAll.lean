/- For any two rows of intervals, any interval and any time: spoorlaw19.IvlHas returns true, and changes nothing that was there. No condition. -/
import Derived.Test.YtebjklhffccomaaRows
import Derived.Test.YtebjklhffccomaaIvZ1
import Derived.Test.YtebjklhffccomaaIvOpen
import Derived.ProofKit
import Derived.OpenShut
import Derived.ShutString
import Derived.SizedLaws
set_option linter.unusedVariables false
namespace Go.Proofs.Ytebjklhffccomaa
namespace ivlHas
open Go.ChangeShapes Go.WideShapes Go.ChangeAt Go.RowKit
open Go.ChangeMaps (open_string shut_string)
open Go.Proofs.Ytebjklhffccomaa.Iv
open Go.Proofs.Ytebjklhffccomaa.Lk (HasRow)
open Go.Proofs.Ytebjklhffccomaa.Sp (Sp inB Row rowB row_ext okB okB_iff topN chk)
open Go.Proofs.Ytebjklhffccomaa.Addr (RowAt below2 below_drew below_new bset RowAt.lt RowAt.cell RowAt.frozen RowAt.below RowAt.drew RowAt.new RowAt.alloc cells2 cells4)
theorem own : ownKnob Try.prog.godebug = none := by kernel_rfl
theorem laidOut : laidOutB Try.prog = true := by kernel_rfl
set_option maxHeartbeats 16000000 in
set_option maxRecDepth 20000 in
theorem walk (v : Value) (l : List Iv) (u : Value) (m : List Iv) (wi : Iv) (t : Int) (w : World) (b1 : HasI w v l) (f1 : ∀ s ∈ l, FitI s) (b2 : HasI w u m) (f2 : ∀ s ∈ m, FitI s) (b3 : FitI wi) (b4 : FitT t) :
    Calls Try.prog 5 #[v, u, ivV wi, .int .i64 t] w fun e w' => e = .returned (.bool true) ∧ Below w.heap.size w w' := by
  have c0 := fun (W : World) => lives_any W
  have ck1 := fun (W : World) (h : HasI W v l) => chk_any l v W h
  have ck2 := fun (W : World) (h : HasI W u m) => chk_any m u W h
  obtain ⟨o1, p1, rfl, _, _⟩ := HasRow.slice b1
  obtain ⟨o2, p2, rfl, _, _⟩ := HasRow.slice b2
  obtain ⟨X0, hX0⟩ : ∃ X, X = w.alloc (.cells #[.int .i64 wi.1, .int .i64 wi.2] 36) := ⟨_, rfl⟩
  have hB : Below w.heap.size w X0 := by rw [hX0]; exact below_new (Below.refl _ _) _
  have rp : RowAt X0 w.heap.size [.int .i64 wi.1, .int .i64 wi.2] 36 := by rw [hX0]; exact RowAt.new _ _ _
  replace b1 := b1.keep hB
  replace b2 := b2.keep hB
  unfold ivV
  by_cases hgo : (okJ l = true ∧ okJ m = true) ∧ l.length ≤ 400 ∧ m.length ≤ 400
  · obtain ⟨⟨hA, hC⟩, hl4, hm4⟩ := hgo
    rw [hA] at ck1
    rw [hC] at ck2
    unfold chk at ck1 ck2
    simp only [if_true] at ck1 ck2
    have hq1 : decide ((400 : Int) < (l.length : Int)) = false := decide_eq_false (by omega)
    have hq2 : decide (400 < l.length) = false := decide_eq_false (by omega)
    have hq3 : decide ((400 : Int) < (m.length : Int)) = false := decide_eq_false (by omega)
    have hq4 : decide (400 < m.length) = false := decide_eq_false (by omega)
    go_enter Try.func5, Try.ntmps5
    go_upto_region 1 with fail
    rw [← hX0]
    clear hX0
    go_wp2_with fail
    go_at_call 10; refine (c0 _).mono ?_; rintro e w1 ⟨rfl, hb⟩
    replace hB := below2 hB hb
    replace rp := rp.below hb
    replace b1 := b1.keep hb
    replace b2 := b2.keep hb
    clear hb c0
    go_wp2_with fail
    go_at_call 18; refine (ck1 _ b1).mono ?_; rintro e w2 ⟨rfl, hb⟩
    replace hB := below2 hB hb
    replace rp := rp.below hb
    replace b1 := b1.keep hb
    replace b2 := b2.keep hb
    clear hb ck1
    go_wp2_with fail
    go_at_call 18; refine (ck2 _ b2).mono ?_; rintro e w3 ⟨rfl, hb⟩
    replace hB := below2 hB hb
    replace rp := rp.below hb
    replace b1 := b1.keep hb
    replace b2 := b2.keep hb
    clear hb ck2
    have ch := fun (W : World) (h : HasI W (.slice o1 l.length p1) l) => hasI_any l t _ W h b4
    rw [show hasJ l t = (inI l t, 0) from by unfold hasJ; rw [hA]; rfl] at ch
    have ch2 := fun (W : World) (h : HasI W (.slice o2 m.length p2) m) => hasI_any m t _ W h b4
    rw [show hasJ m t = (inI m t, 0) from by unfold hasJ; rw [hC]; rfl] at ch2
    go_wp2_with fail
    go_at_call 13; refine (ch _ b1).mono ?_; rintro e w4 ⟨rfl, hb⟩
    replace hB := below2 hB hb
    replace rp := rp.below hb
    replace b1 := b1.keep hb
    replace b2 := b2.keep hb
    clear hb ch
    go_wp2_with fail
    go_at_call 13; refine (ch2 _ b2).mono ?_; rintro e w5 ⟨rfl, hb⟩
    replace hB := below2 hB hb
    replace rp := rp.below hb
    replace b1 := b1.keep hb
    replace b2 := b2.keep hb
    clear hb ch2
    have cs := orI_any l m _ _ w5 b1 b2
    go_wp2_with fail
    go_at_call 20; refine (cs).mono ?_; rintro e w6 hS
    obtain ⟨uR, R, rfl, hrR, hb, rR, tR, mR, nR⟩ := set_get hS (by rw [hA, hC]; rfl) (by omega)
    replace hB := below2 hB hb
    replace rp := rp.below hb
    replace b1 := b1.keep hb
    replace b2 := b2.keep hb
    clear hb cs
    obtain ⟨oR, cR, eR, _, _⟩ := HasRow.slice hrR
    subst eR
    rw [List.length_map] at hrR
    clear hS
    have cs := andI_any l m _ _ w6 b1 b2
    go_wp2_with fail
    go_at_call 22; refine (cs).mono ?_; rintro e w7 hS
    obtain ⟨uQ, Q, rfl, hrQ, hb, rQ, tQ, mQ, nQ⟩ := set_get hS (by rw [hA, hC]; rfl) (by omega)
    replace hB := below2 hB hb
    replace rp := rp.below hb
    replace b1 := b1.keep hb
    replace b2 := b2.keep hb
    replace hrR := hrR.keep hb
    clear hb cs
    obtain ⟨oQ, cQ, eQ, _, _⟩ := HasRow.slice hrQ
    subst eQ
    rw [List.length_map] at hrQ
    clear hS
    obtain ⟨x0, x1, xf⟩ := cells2 rp
    have cs := notI_any l wi _ w7 b1
    cases hw : okI wi
    · go_wp2_with fail
      go_at_call 24; refine (cs).mono ?_; rintro e w8 hS
      obtain ⟨uN, rfl, hrN, hb⟩ := set_bad hS (by rw [hA, hw]; rfl)
      replace hB := below2 hB hb
      replace rp := rp.below hb
      replace hrR := hrR.keep hb
      replace hrQ := hrQ.keep hb
      clear hb cs x0 x1 xf b1 hS
      obtain ⟨oN, cN, eN, _, _⟩ := HasRow.slice hrN
      subst eN
      have chR := hasI_any (R.map ofS) t _ w8 hrR b4
      rw [has_of rR tR (by omega) t] at chR
      go_wp2_with fail
      go_at_call 13; refine (chR).mono ?_; rintro e w9 ⟨rfl, hb⟩
      replace hB := below2 hB hb
      replace rp := rp.below hb
      replace hrR := hrR.keep hb
      replace hrQ := hrQ.keep hb
      replace hrN := hrN.keep hb
      clear hb chR
      have chQ := hasI_any (Q.map ofS) t _ w9 hrQ b4
      rw [has_of rQ tQ (by omega) t] at chQ
      go_wp2_with fail
      go_at_call 13; refine (chQ).mono ?_; rintro e w10 ⟨rfl, hb⟩
      replace hB := below2 hB hb
      replace rp := rp.below hb
      replace hrQ := hrQ.keep hb
      replace hrN := hrN.keep hb
      clear hb chQ
      have chN := hasI_any [] t _ w10 hrN b4
      rw [show hasJ [] t = (inI [] t, 0) from rfl] at chN
      go_wp2_with fail
      go_at_call 13; refine (chN).mono ?_; rintro e w11 ⟨rfl, hb⟩
      replace hB := below2 hB hb
      replace rp := rp.below hb
      replace hrN := hrN.keep hb
      clear hb chN
      have HR := in_two (f := fun a b => a || b) rfl hA hC tR mR t
      have HQ := in_two (f := fun a b => a && b) rfl hA hC tQ mQ t
      simp only [HR, HQ]
      clear HR HQ
      generalize inI l t = A at *
      generalize inI m t = B at *
      clear rR tR mR nR rQ tQ mQ nQ hA hC hw hl4 hm4 hq1 hq2 hq3 hq4 f1 f2 b3 b4
      cases A <;> cases B
      all_goals go_wp2_with fail
      all_goals go_ret
      all_goals exact ⟨rfl, hB⟩
    · go_wp2_with fail
      go_at_call 24; refine (cs).mono ?_; rintro e w8 hS
      obtain ⟨uN, N, rfl, hrN, hb, rN, tN, mN, nN⟩ := set_get hS (by rw [hA, hw]; rfl) (by omega)
      replace hB := below2 hB hb
      replace rp := rp.below hb
      replace hrR := hrR.keep hb
      replace hrQ := hrQ.keep hb
      clear hb cs x0 x1 xf b1
      obtain ⟨oN, cN, eN, _, _⟩ := HasRow.slice hrN
      subst eN
      rw [List.length_map] at hrN
      clear hS
      have chR := hasI_any (R.map ofS) t _ w8 hrR b4
      rw [has_of rR tR (by omega) t] at chR
      go_wp2_with fail
      go_at_call 13; refine (chR).mono ?_; rintro e w9 ⟨rfl, hb⟩
      replace hB := below2 hB hb
      replace rp := rp.below hb
      replace hrR := hrR.keep hb
      replace hrQ := hrQ.keep hb
      replace hrN := hrN.keep hb
      clear hb chR
      have chQ := hasI_any (Q.map ofS) t _ w9 hrQ b4
      rw [has_of rQ tQ (by omega) t] at chQ
      go_wp2_with fail
      go_at_call 13; refine (chQ).mono ?_; rintro e w10 ⟨rfl, hb⟩
      replace hB := below2 hB hb
      replace rp := rp.below hb
      replace hrQ := hrQ.keep hb
      replace hrN := hrN.keep hb
      clear hb chQ
      have chN := hasI_any (N.map ofS) t _ w10 hrN b4
      rw [has_of rN tN (by omega) t] at chN
      go_wp2_with fail
      go_at_call 13; refine (chN).mono ?_; rintro e w11 ⟨rfl, hb⟩
      replace hB := below2 hB hb
      replace rp := rp.below hb
      replace hrN := hrN.keep hb
      clear hb chN
      have HR := in_two (f := fun a b => a || b) rfl hA hC tR mR t
      have HQ := in_two (f := fun a b => a && b) rfl hA hC tQ mQ t
      have HN := in_not hA hw tN mN t
      obtain ⟨x0, x1, xf⟩ := cells2 rp
      obtain ⟨a0, e0⟩ := wi
      simp only at HN x0 x1
      simp only [HR, HQ, HN]
      clear HR HQ HN
      generalize hd1 : decide (a0 ≤ t) = D1
      generalize hd2 : decide (t ≤ e0) = D2
      generalize inI l t = A at *
      generalize inI m t = B at *
      clear rR tR mR nR rQ tQ mQ nQ rN tN mN nN hA hC hw hl4 hm4 hq1 hq2 hq3 hq4 f1 f2 b3 b4 rp
      cases A
      · cases B
        · go_upto_region 15 with fail
          cases D1
          · go_wp2_with fail
            go_ret
            exact ⟨rfl, hB⟩
          · cases D2
            · go_wp2_with fail
              go_ret
              exact ⟨rfl, hB⟩
            · go_wp2_with fail
              go_ret
              exact ⟨rfl, hB⟩
        · go_upto_region 15 with fail
          cases D1
          · go_wp2_with fail
            go_ret
            exact ⟨rfl, hB⟩
          · cases D2
            · go_wp2_with fail
              go_ret
              exact ⟨rfl, hB⟩
            · go_wp2_with fail
              go_ret
              exact ⟨rfl, hB⟩
      · cases B
        · go_wp2_with fail
          go_ret
          exact ⟨rfl, hB⟩
        · go_wp2_with fail
          go_ret
          exact ⟨rfl, hB⟩
  · have hsp : okJ l = false ∨ okJ m = false ∨ (okJ l = true ∧ okJ m = true ∧ 400 < l.length) ∨ (okJ l = true ∧ okJ m = true ∧ l.length ≤ 400 ∧ 400 < m.length) := by
      cases h1 : okJ l
      · exact .inl rfl
      · cases h2 : okJ m
        · exact .inr (.inl rfl)
        · rcases Nat.lt_or_ge 400 l.length with h3 | h3
          · exact .inr (.inr (.inl ⟨rfl, rfl, h3⟩))
          · rcases Nat.lt_or_ge 400 m.length with h4 | h4
            · exact .inr (.inr (.inr ⟨rfl, rfl, h3, h4⟩))
            · exact absurd ⟨⟨h1, h2⟩, h3, h4⟩ hgo
    clear hgo
    unfold chk at ck1 ck2
    rcases hsp with h1 | h1 | ⟨h1, h2, h3⟩ | ⟨h1, h2, h3, h4⟩
    · rw [h1] at ck1
      simp only [Bool.false_eq_true, if_false] at ck1
      generalize l.length = na at *
      generalize m.length = nb at *
      go_enter Try.func5, Try.ntmps5
      go_upto_region 1 with fail
      rw [← hX0]
      clear hX0
      go_wp2_with fail
      go_at_call 10; refine (c0 _).mono ?_; rintro e w1 ⟨rfl, hb⟩
      replace hB := below2 hB hb
      replace b1 := b1.keep hb
      go_wp2_with fail
      go_at_call 18; refine (ck1 _ b1).mono ?_; rintro e w2 ⟨rfl, hb2⟩
      replace hB := below2 hB hb2
      go_wp2_with fail
      go_ret
      exact ⟨rfl, hB⟩
    · cases h0 : okJ l
      · rw [h0] at ck1
        simp only [Bool.false_eq_true, if_false] at ck1
        generalize l.length = na at *
        generalize m.length = nb at *
        go_enter Try.func5, Try.ntmps5
        go_upto_region 1 with fail
        rw [← hX0]
        clear hX0
        go_wp2_with fail
        go_at_call 10; refine (c0 _).mono ?_; rintro e w1 ⟨rfl, hb⟩
        replace hB := below2 hB hb
        replace b1 := b1.keep hb
        go_wp2_with fail
        go_at_call 18; refine (ck1 _ b1).mono ?_; rintro e w2 ⟨rfl, hb2⟩
        replace hB := below2 hB hb2
        go_wp2_with fail
        go_ret
        exact ⟨rfl, hB⟩
      · rw [h0] at ck1
        rw [h1] at ck2
        simp only [Bool.false_eq_true, if_false, if_true] at ck1 ck2
        generalize l.length = na at *
        generalize m.length = nb at *
        go_enter Try.func5, Try.ntmps5
        go_upto_region 1 with fail
        rw [← hX0]
        clear hX0
        go_wp2_with fail
        go_at_call 10; refine (c0 _).mono ?_; rintro e w1 ⟨rfl, hb⟩
        replace hB := below2 hB hb
        replace b1 := b1.keep hb
        replace b2 := b2.keep hb
        go_wp2_with fail
        go_at_call 18; refine (ck1 _ b1).mono ?_; rintro e w2 ⟨rfl, hb2⟩
        replace hB := below2 hB hb2
        replace b2 := b2.keep hb2
        go_wp2_with fail
        go_at_call 18; refine (ck2 _ b2).mono ?_; rintro e w3 ⟨rfl, hb3⟩
        replace hB := below2 hB hb3
        go_wp2_with fail
        go_ret
        exact ⟨rfl, hB⟩
    · rw [h1] at ck1
      rw [h2] at ck2
      simp only [if_true] at ck1 ck2
      have hq1 : decide ((400 : Int) < (l.length : Int)) = true := decide_eq_true (by omega)
      have hq2 : decide (400 < l.length) = true := decide_eq_true h3
      generalize l.length = na at *
      generalize m.length = nb at *
      go_enter Try.func5, Try.ntmps5
      go_upto_region 1 with fail
      rw [← hX0]
      clear hX0
      go_wp2_with fail
      go_at_call 10; refine (c0 _).mono ?_; rintro e w1 ⟨rfl, hb⟩
      replace hB := below2 hB hb
      replace b1 := b1.keep hb
      replace b2 := b2.keep hb
      go_wp2_with fail
      go_at_call 18; refine (ck1 _ b1).mono ?_; rintro e w2 ⟨rfl, hb2⟩
      replace hB := below2 hB hb2
      replace b2 := b2.keep hb2
      go_wp2_with fail
      go_at_call 18; refine (ck2 _ b2).mono ?_; rintro e w3 ⟨rfl, hb3⟩
      replace hB := below2 hB hb3
      go_wp2_with fail
      go_ret
      exact ⟨rfl, hB⟩
    · rw [h1] at ck1
      rw [h2] at ck2
      simp only [if_true] at ck1 ck2
      have hq1 : decide ((400 : Int) < (l.length : Int)) = false := decide_eq_false (by omega)
      have hq2 : decide (400 < l.length) = false := decide_eq_false (by omega)
      have hq3 : decide ((400 : Int) < (m.length : Int)) = true := decide_eq_true (by omega)
      have hq4 : decide (400 < m.length) = true := decide_eq_true h4
      generalize l.length = na at *
      generalize m.length = nb at *
      go_enter Try.func5, Try.ntmps5
      go_upto_region 1 with fail
      rw [← hX0]
      clear hX0
      go_wp2_with fail
      go_at_call 10; refine (c0 _).mono ?_; rintro e w1 ⟨rfl, hb⟩
      replace hB := below2 hB hb
      replace b1 := b1.keep hb
      replace b2 := b2.keep hb
      go_wp2_with fail
      go_at_call 18; refine (ck1 _ b1).mono ?_; rintro e w2 ⟨rfl, hb2⟩
      replace hB := below2 hB hb2
      replace b2 := b2.keep hb2
      go_wp2_with fail
      go_at_call 18; refine (ck2 _ b2).mono ?_; rintro e w3 ⟨rfl, hb3⟩
      replace hB := below2 hB hb3
      go_wp2_with fail
      go_ret
      exact ⟨rfl, hB⟩
set_option maxRecDepth 100000 in
theorem lifted (os : Os) (started : os.Started) (H : Type) (enc : TypeId × Value → H) :
    ReturnsInHanded {} Try.checked os 5 .any (Rows.ivlHasSpec.pre6 enc Try.prog Try.f5 Rows.ivlHasRow.domain false) (Rows.ivlHasSpec.post enc Try.prog Try.f5 false true false false) := by
  refine returnsInHanded_of_change_sized (C := Try.checked) own started (by kernel_rfl) Try.func5
    (ChangeSpec.witness6 (enc := enc) (C := Try.checked) false ⟨#[], #[.slice none 0 0, .slice none 0 0, .agg #[.int .i64 0, .int .i64 0], .int .i64 0], []⟩ 8 (by kernel_rfl) (by kernel_rfl) (by kernel_rfl) (by kernel_rfl)) ?_
  intro W base args ds gs before hval0 hW _ hsz0 _
  have hsz : (DataW.weightsEach Try.prog (Try.f5.params.toList ++ Rows.ivlHasSpec.plain.varTypes Try.prog) (ds ++ gs)).all (· ≤ reachBytes) = true := hsz0
  clear hsz0
  have hval : ∀ (j : Nat) t v, Try.f5.params[j]? = some t → args[j]? = some v → Value.okWide Try.prog W .any base t v := hval0
  have hW' := hW
  obtain ⟨p, q, hA0, hV, rfl, hfz, hnd⟩ := hW
  have hA : DataW.TrodAll enc Try.prog W 0 (fun _ => true) true Try.f5.params.toList args.toList ds p := hA0
  rw [Try.params5] at hA hval hsz
  obtain ⟨v0, vs0, d0, ds0, p0, q0, hargs, rfl, rfl, h0, r0⟩ := trodAll_cons hA
  obtain ⟨v1, vs1, d1, ds1, p1, q1, rfl, rfl, rfl, h1, r1⟩ := trodAll_cons r0
  obtain ⟨v2, vs2, d2, ds2, p2, q2, rfl, rfl, rfl, h2, r2⟩ := trodAll_cons r1
  obtain ⟨v3, vs3, d3, ds3, p3, q3, rfl, rfl, rfl, h3, r3⟩ := trodAll_cons r2
  obtain ⟨rfl, rfl, rfl⟩ := trodAll_nil r3
  obtain rfl : args = #[v0, v1, v2, v3] := by cases args; simp_all
  obtain ⟨rfl, rfl⟩ := trodVars_none hV
  obtain ⟨a0, len0, cap0, rfl⟩ := okWide_slice Try.underlying22 (hval 0 22 v0 rfl rfl)
  have k0 := h0
  have lt0 : ∀ x ∈ p0, x.block < W.heap.size := by obtain ⟨m, hm⟩ := k0; exact DataW.trod_lt m _ _ _ hm
  obtain ⟨fuel0, hf0⟩ := h0
  obtain ⟨z0, b0, f0⟩ := Iv.open_ivs hf0
  obtain ⟨a1, len1, cap1, rfl⟩ := okWide_slice Try.underlying22 (hval 1 22 v1 rfl rfl)
  have k1 := h1
  have lt1 : ∀ x ∈ p1, x.block < W.heap.size := by obtain ⟨m, hm⟩ := k1; exact DataW.trod_lt m _ _ _ hm
  obtain ⟨fuel1, hf1⟩ := h1
  obtain ⟨z1, b1, f1⟩ := Iv.open_ivs hf1
  have k2 := h2
  have lt2 : ∀ x ∈ p2, x.block < W.heap.size := by obtain ⟨m, hm⟩ := k2; exact DataW.trod_lt m _ _ _ hm
  obtain ⟨n2, rfl, b2⟩ := Iv.open_ivl (hval 2 36 v2 rfl rfl) h2
  obtain ⟨a3, rfl, rfl, rfl, w3⟩ := open_int Try.underlying2 (hval 3 2 v3 rfl rfl) h3
  have b3 : -9223372036854775808 ≤ a3 ∧ a3 ≤ 9223372036854775807 := by simpa [Lit.wf, IntKind.min, IntKind.max, IntKind.signed, IntKind.bits] using w3
  clear hA0 hval0
  refine (walk (.slice a0 len0 cap0) z0 (.slice a1 len1 cap1) z1 n2 a3 W b0 f0 b1 f1 b2 b3).mono fun e W' ⟨he, bel⟩ => ?_
  subst he
  exact ⟨_, rfl, _, _, _, [], _, [], hW', trodAll_mk1 (shut_bool Try.underlying4 _), (trodAll_cons_mk (Below.trod laidOut (by kernel_rfl) (of_decide_eq_true (by kernel_rfl)) k0 bel lt0) (trodAll_cons_mk (Below.trod laidOut (by kernel_rfl) (of_decide_eq_true (by kernel_rfl)) k1 bel lt1) (trodAll_cons_mk (Below.trod laidOut (by kernel_rfl) (of_decide_eq_true (by kernel_rfl)) k2 bel lt2) (trodAll_cons_mk (shut_int Try.underlying2 w3) trodAll_mk0)))), rfl, bel.frame _, fun h => by cases h⟩

theorem over : Rows.ivlHasRow.holds Try.pinned (OpenSpec.ofChange Rows.ivlHasSpec) :=
  OpenClaim.holds_of_wide 5 Try.f5 rfl rfl rfl rfl rfl rfl rfl ⟨rfl, rfl, rfl, rfl, rfl⟩ rfl rfl rfl rfl rfl (by kernel_rfl) Try.func5 (by kernel_rfl)
    (of_decide_eq_true (by kernel_rfl)) (by unfold Func.isWrapper; first | (rw [if_pos (by decide +kernel)]; kernel_rfl) | (rw [if_neg (by decide +kernel)]; exact ⟨rfl, rfl⟩))
    (fun os started H enc _ => lifted os started H enc)
end ivlHas
theorem ivl_has_holds : Rows.IvlHasSaid := ivlHas.over
#print axioms ivl_has_holds
end Go.Proofs.Ytebjklhffccomaa
