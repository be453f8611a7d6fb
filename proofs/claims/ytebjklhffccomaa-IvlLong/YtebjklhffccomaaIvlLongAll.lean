/- For any two rows of intervals, and any interval: spoorlaw19.IvlLong returns true, and changes nothing that was there. No condition. -/
import Derived.Test.YtebjklhffccomaaRows
import Derived.Test.YtebjklhffccomaaIvZ1
import Derived.Test.YtebjklhffccomaaIvOpen
import Derived.Test.YtebjklhffccomaaAddrQuiet
import Derived.BigQuiet
import Derived.ProofKit
import Derived.OpenShut
import Derived.ShutString
import Derived.SizedLaws
set_option linter.unusedVariables false
namespace Go.Proofs.Ytebjklhffccomaa
namespace ivlLong
open Go.ChangeShapes Go.WideShapes Go.ChangeAt Go.RowKit
open Go.ChangeMaps (open_string shut_string)
open Go.Proofs.Ytebjklhffccomaa.Iv
open Go.Proofs.Ytebjklhffccomaa.Lk (HasRow)
open Go.Proofs.Ytebjklhffccomaa.Sp (Sp inB Row rowB row_ext okB okB_iff topN chk)
open Go.Proofs.Ytebjklhffccomaa.Addr (Bl bl_ne wp_region_bl bl_call RowAt below2 below_drew below_new bset RowAt.lt RowAt.cell RowAt.frozen RowAt.below RowAt.drew RowAt.new RowAt.alloc cells2 cells4)
theorem own : ownKnob Try.prog.godebug = none := by kernel_rfl
theorem laidOut : laidOutB Try.prog = true := by kernel_rfl
/-- what lies between the ends of a row lies within an interval that the ends lie in -/
theorem in_ends {l : List Iv} {a e : Int} (hA : okJ l = true) (h : 0 < l.length) (h1 : ¬ l[0].1 < a) (h2 : ¬ e < l[l.length - 1].2) {x : Nat} (hx : inB (l.map toS) x = true) : a.toNat ≤ x ∧ x ≤ e.toNat := by
  obtain ⟨s, hs, p1, p2⟩ := Sp.inB_iff.1 hx
  obtain ⟨y, hy, rfl⟩ := List.mem_map.1 hs
  obtain ⟨j, hj, rfl⟩ := List.getElem_of_mem hy
  have hu := up2_of hA
  have okj := okI_iff.1 (List.all_eq_true.1 hu.1 _ (List.getElem_mem hj))
  have ok0 := okI_iff.1 (List.all_eq_true.1 hu.1 _ (List.getElem_mem h))
  have okn := okI_iff.1 (List.all_eq_true.1 hu.1 _ (List.getElem_mem (show l.length - 1 < l.length by omega)))
  have q1 : l[j].1.toNat ≤ x := p1
  have q2 : x ≤ l[j].2.toNat := p2
  have t1 : l[0].1 ≤ l[j].1 := by
    by_cases e0 : j = 0
    · subst e0; exact Int.le_refl _
    · have := List.pairwise_iff_getElem.1 hu.2 0 j h hj (by omega)
      omega
  have t2 : l[j].2 ≤ l[l.length - 1].2 := by
    by_cases e0 : j = l.length - 1
    · subst e0; exact Int.le_refl _
    · have := List.pairwise_iff_getElem.1 hu.2 j (l.length - 1) hj (by omega) (by omega)
      omega
  omega
set_option maxHeartbeats 16000000 in
set_option maxRecDepth 20000 in
theorem walk (v : Value) (l : List Iv) (u : Value) (m : List Iv) (wi : Iv) (w : World) (b1 : HasI w v l) (f1 : ∀ s ∈ l, FitI s) (b2 : HasI w u m) (f2 : ∀ s ∈ m, FitI s) (b3 : FitI wi) :
    Calls Try.prog 6 #[v, u, ivV wi] w fun e w' => e = .returned (.bool true) ∧ Below w.heap.size w w' := by
  have c0 := fun (W : World) => lives_any W
  have ck1 := fun (W : World) (h : HasI W v l) => chk_any l v W h
  have ck2 := fun (W : World) (h : HasI W u m) => chk_any m u W h
  obtain ⟨o1, p1, rfl, _, _⟩ := HasRow.slice b1
  obtain ⟨o2, p2, rfl, _, _⟩ := HasRow.slice b2
  obtain ⟨X0, hX0⟩ : ∃ X, X = w.alloc (.cells #[.int .i64 wi.1, .int .i64 wi.2] 36) := ⟨_, rfl⟩
  have hB : Below w.heap.size w X0 := by rw [hX0]; exact below_new (Below.refl _ _) _
  have rp : RowAt X0 w.heap.size [.int .i64 wi.1, .int .i64 wi.2] 36 := by rw [hX0]; exact RowAt.new _ _ _
  replace b1 := b1.keep hB
  replace b2 := b2.keep hB
  unfold ivV
  by_cases hgo : (okJ l = true ∧ okJ m = true) ∧ l.length ≤ 400 ∧ m.length ≤ 400
  · obtain ⟨⟨hA, hC⟩, hl4, hm4⟩ := hgo
    rw [hA] at ck1
    rw [hC] at ck2
    unfold chk at ck1 ck2
    simp only [if_true] at ck1 ck2
    have hq1 : decide ((400 : Int) < (l.length : Int)) = false := decide_eq_false (by omega)
    have hq2 : decide (400 < l.length) = false := decide_eq_false (by omega)
    have hq3 : decide ((400 : Int) < (m.length : Int)) = false := decide_eq_false (by omega)
    have hq4 : decide (400 < m.length) = false := decide_eq_false (by omega)
    go_enter Try.func6, Try.ntmps6
    go_upto_region 1 with fail
    rw [← hX0]
    clear hX0
    go_wp2_with fail
    go_at_call 10; refine (c0 _).mono ?_; rintro e w1 ⟨rfl, hb⟩
    replace hB := below2 hB hb
    replace rp := rp.below hb
    replace b1 := b1.keep hb
    replace b2 := b2.keep hb
    clear hb c0
    go_wp2_with fail
    go_at_call 18; refine (ck1 _ b1).mono ?_; rintro e w2 ⟨rfl, hb⟩
    replace hB := below2 hB hb
    replace rp := rp.below hb
    replace b1 := b1.keep hb
    replace b2 := b2.keep hb
    clear hb ck1
    go_wp2_with fail
    go_at_call 18; refine (ck2 _ b2).mono ?_; rintro e w3 ⟨rfl, hb⟩
    replace hB := below2 hB hb
    replace rp := rp.below hb
    replace b1 := b1.keep hb
    replace b2 := b2.keep hb
    clear hb ck2
    have cs := orI_any l m _ _ w3 b1 b2
    go_wp2_with fail
    go_at_call 20; refine (cs).mono ?_; rintro e w4 hS
    obtain ⟨uR, R, rfl, hrR, hb, rR, tR, mR, nR⟩ := set_get hS (by rw [hA, hC]; rfl) (by omega)
    replace hB := below2 hB hb
    replace rp := rp.below hb
    replace b1 := b1.keep hb
    replace b2 := b2.keep hb
    clear hb cs
    obtain ⟨oR, cR, eR, _, _⟩ := HasRow.slice hrR
    subst eR
    rw [List.length_map] at hrR
    clear hS
    have cs := andI_any l m _ _ w4 b1 b2
    go_wp2_with fail
    go_at_call 22; refine (cs).mono ?_; rintro e w5 hS
    obtain ⟨uQ, Q, rfl, hrQ, hb, rQ, tQ, mQ, nQ⟩ := set_get hS (by rw [hA, hC]; rfl) (by omega)
    replace hB := below2 hB hb
    replace rp := rp.below hb
    replace b1 := b1.keep hb
    replace b2 := b2.keep hb
    replace hrR := hrR.keep hb
    clear hb cs
    obtain ⟨oQ, cQ, eQ, _, _⟩ := HasRow.slice hrQ
    subst eQ
    rw [List.length_map] at hrQ
    clear hS
    have HSUM := long_two hA hC rR tR rQ tQ mR mQ
    have d1 := long_bd hA
    have d2 := long_bd hC
    have d3 := long_bd (okJ_of rR tR (by omega))
    have d4 := long_bd (okJ_of rQ tQ (by omega))
    have okR := okJ_of rR tR (by omega)
    have okQ := okJ_of rQ tQ (by omega)
    clear rR tR mR rQ tQ mQ
    have cL1 := longI_any l _ w5 b1
    rw [show longJ l = (longI l, 0) from by unfold longJ; rw [hA]; rfl] at cL1
    go_wp2_with fail
    go_at_call 15; refine (cL1).mono ?_; rintro e w6 ⟨rfl, hb⟩
    replace hB := below2 hB hb
    replace rp := rp.below hb
    replace b1 := b1.keep hb
    replace b2 := b2.keep hb
    replace hrR := hrR.keep hb
    replace hrQ := hrQ.keep hb
    clear hb cL1
    have cL2 := longI_any m _ w6 b2
    rw [show longJ m = (longI m, 0) from by unfold longJ; rw [hC]; rfl] at cL2
    go_wp2_with fail
    go_at_call 15; refine (cL2).mono ?_; rintro e w7 ⟨rfl, hb⟩
    replace hB := below2 hB hb
    replace rp := rp.below hb
    replace b1 := b1.keep hb
    replace b2 := b2.keep hb
    replace hrR := hrR.keep hb
    replace hrQ := hrQ.keep hb
    clear hb cL2
    have cL3 := longI_any (R.map ofS) _ w7 hrR
    rw [show longJ (R.map ofS) = (longI (R.map ofS), 0) from by unfold longJ; rw [okR]; rfl] at cL3
    go_wp2_with fail
    go_at_call 15; refine (cL3).mono ?_; rintro e w8 ⟨rfl, hb⟩
    replace hB := below2 hB hb
    replace rp := rp.below hb
    replace b1 := b1.keep hb
    replace hrQ := hrQ.keep hb
    clear hb cL3
    have cL4 := longI_any (Q.map ofS) _ w8 hrQ
    rw [show longJ (Q.map ofS) = (longI (Q.map ofS), 0) from by unfold longJ; rw [okQ]; rfl] at cL4
    go_wp2_with fail
    go_at_call 15; refine (cL4).mono ?_; rintro e w9 ⟨rfl, hb⟩
    replace hB := below2 hB hb
    replace rp := rp.below hb
    replace b1 := b1.keep hb
    clear hb cL4
    generalize hla : longI l = la at *
    generalize hlm : longI m = lm at *
    generalize longI (R.map ofS) = lr at *
    generalize longI (Q.map ofS) = lq at *
    have hwa : IntKind.i64.wrap (la + lm) = la + lm := by rw [IntKind.wrap_i64]; omega
    have hwb : IntKind.i64.wrap (lr + lq) = lr + lq := by rw [IntKind.wrap_i64]; omega
    have hne : ((la + lm) != (lr + lq)) = false := by rw [HSUM]; simp
    have HLA : Hid (longI l = la) := hla
    clear hla hlm okR okQ nR nQ
    go_upto_region 13 with fail
    clear hne hwa hwb HSUM d2 d3 d4
    obtain ⟨x0, x1, xf⟩ := cells2 rp
    have cs := notI_any l wi _ w9 b1
    cases hw : okI wi
    · go_wp2_with fail
      go_at_call 24; refine (cs).mono ?_; rintro e w10 hS
      obtain ⟨uN, rfl, hrN, hb⟩ := set_bad hS (by rw [hA, hw]; rfl)
      replace hB := below2 hB hb
      replace rp := rp.below hb
      replace b1 := b1.keep hb
      clear hb cs x0 x1 xf hS
      obtain ⟨oN, cN, eN, _, _⟩ := HasRow.slice hrN
      subst eN
      have cN2 := longI_any [] _ w10 hrN
      rw [show longJ [] = (0, 0) from rfl] at cN2
      go_wp2_with fail
      go_at_call 15; refine (cN2).mono ?_; rintro e w11 ⟨rfl, hb⟩
      replace hB := below2 hB hb
      replace rp := rp.below hb
      replace b1 := b1.keep hb
      clear hb cN2
      clear f1 f2 b3 b1 hA hC rp
      generalize l.length = na at *
      haveI := bl_ne w11
      go_wp2_with fail
      refine wp_region_bl (by kernel_rfl) (by kernel_rfl) ?_
      repeat (go_big_quiet_step (fail))
      refine wpQuiet_nil ?_
      intro Z hw'
      obtain ⟨⟨wy, hqq⟩, hw2⟩ := hw'
      subst hw2
      have hB2 := below2 hB hqq
      clear hqq hB
      go_wp2_with fail
      go_ret
      exact ⟨rfl, hB2⟩
    · go_wp2_with fail
      go_at_call 24; refine (cs).mono ?_; rintro e w10 hS
      obtain ⟨uN, N, rfl, hrN, hb, rN, tN, mN, nN⟩ := set_get hS (by rw [hA, hw]; rfl) (by omega)
      replace hB := below2 hB hb
      replace rp := rp.below hb
      replace b1 := b1.keep hb
      clear hb cs x0 x1 xf
      obtain ⟨oN, cN, eN, _, _⟩ := HasRow.slice hrN
      subst eN
      rw [List.length_map] at hrN
      clear hS
      have okN := okJ_of rN tN (by omega)
      have cN2 := longI_any (N.map ofS) _ w10 hrN
      rw [show longJ (N.map ofS) = (longI (N.map ofS), 0) from by unfold longJ; rw [okN]; rfl] at cN2
      go_wp2_with fail
      go_at_call 15; refine (cN2).mono ?_; rintro e w11 ⟨rfl, hb⟩
      replace hB := below2 hB hb
      replace rp := rp.below hb
      replace b1 := b1.keep hb
      clear hb cN2
      have d5 := long_bd okN
      have HNOT : Hid ((∀ x, inB (l.map toS) x = true → wi.1.toNat ≤ x ∧ x ≤ wi.2.toNat) → longI l + longI (N.map ofS) = wi.2 - wi.1 + 1) := fun h => long_not hA hw rN tN mN h
      have hw3 := okI_iff.1 hw
      have HEM : Hid (l = [] → ∀ x, inB (l.map toS) x = true → wi.1.toNat ≤ x ∧ x ≤ wi.2.toNat) := fun h x hx => by subst h; cases hx
      have HIN : Hid (∀ h : 0 < l.length, ¬ l[0].1 < wi.1 → ¬ wi.2 < l[l.length - 1].2 → ∀ x, inB (l.map toS) x = true → wi.1.toNat ≤ x ∧ x ≤ wi.2.toNat) := fun h h1 h2 x hx => in_ends hA h h1 h2 hx
      obtain ⟨a0, e0⟩ := wi
      simp only at HNOT HEM HIN hw3 rp
      have HRP : Hid (∀ W, Below w11.heap.size w11 W → RowAt W w.heap.size [.int .i64 a0, .int .i64 e0] 36) := fun W hq => rp.below hq
      have v0 : ∀ x : Bl w11, x.W.cell? ⟨w.heap.size, 0, none⟩ = some (.int .i64 a0) := fun x => (rp.below x.h).cell 0
      have v1 : ∀ x : Bl w11, x.W.cell? ⟨w.heap.size, 1, none⟩ = some (.int .i64 e0) := fun x => (rp.below x.h).cell 1
      generalize longI (N.map ofS) = ln at *
      have hwe : IntKind.i64.wrap (e0 - a0) = e0 - a0 := by rw [IntKind.wrap_i64]; omega
      have hwf : IntKind.i64.wrap (e0 - a0 + 1) = e0 - a0 + 1 := by rw [IntKind.wrap_i64]; omega
      have hwl : IntKind.i64.wrap (la + ln) = la + ln := by rw [IntKind.wrap_i64]; omega
      clear f1 f2 b3 hC rp rN tN mN nN okN hA hw hw3 d1 d5
      by_cases h0 : 0 < l.length
      · obtain ⟨b, i, ho, hx1, hx2, hx3⟩ := HasI.cell b1 0 h0
        clear hx1 hx2 hx3
        have HC : Hid (∀ W, Below w11.heap.size w11 W → W.cell? ⟨b, i, none⟩ = some (.int .i64 l[0].1) ∧ W.cell? ⟨b, i + (l.length - 1) * 2 + 1, none⟩ = some (.int .i64 l[l.length - 1].2)) := fun W hq => by
          obtain ⟨b2, i2, e2, _, c0, _⟩ := HasI.cell (b1.keep hq) 0 h0
          obtain ⟨b3, i3, e3, _, _, c1⟩ := HasI.cell (b1.keep hq) (l.length - 1) (by omega)
          rw [ho] at e2 e3
          injection e2 with e2
          injection e2 with e21 e22
          injection e3 with e3
          injection e3 with e31 e32
          subst e21 e22 e31 e32
          rw [Nat.zero_mul, Nat.add_zero] at c0
          exact ⟨c0, c1⟩
        have HIN2 : Hid (¬ l[0].1 < a0 → ¬ e0 < l[l.length - 1].2 → la + ln = e0 - a0 + 1) := fun h1 h2 => by rw [← HLA.out]; exact HNOT.out (HIN.out h0 h1 h2)
        clear b1 HIN HNOT HEM
        subst ho
        obtain ⟨k, hk⟩ : ∃ k, l.length = k + 1 := ⟨l.length - 1, by omega⟩
        generalize l[0].1 = fz at HC HIN2
        generalize l[l.length - 1].2 = lz at HC HIN2
        rw [hk] at HC hl4 ⊢
        clear hq1 hq2 hq3 hq4 h0 HLA
        rw [Nat.add_sub_cancel] at HC
        have u0 : ∀ x : Bl w11, x.W.cell? ⟨b, i, none⟩ = some (.int .i64 fz) := fun x => (HC.out x.W x.h).1
        have u1 : ∀ x : Bl w11, x.W.cell? ⟨b, i + k * 2 + 1, none⟩ = some (.int .i64 lz) := fun x => (HC.out x.W x.h).2
        have hk1 : ((k + 1 : Nat) : Int) - 1 = (k : Int) := by omega
        have hk2 : (k : Int) + 1 - 1 = (k : Int) := by omega
        have hk3 : IntKind.i64.wrap (k : Int) = (k : Int) := by rw [IntKind.wrap_i64]; omega
        have hk4 : decide ((0 : Int) < (k : Int) + 1) = true := decide_eq_true (by omega)
        have hk5 : (0 : Int) < (k : Int) + 1 := by omega
        have hk6 : (k : Int) < (k : Int) + 1 := by omega
        have hk7 : decide ((0 : Int) < ((k + 1 : Nat) : Int)) = true := decide_eq_true (by omega)
        clear hk
        by_cases h1 : fz < a0
        · have g1 : decide (fz < a0) = true := decide_eq_true h1
          clear HIN2
          haveI := bl_ne w11
          go_wp2_with fail
          refine wp_region_bl (by kernel_rfl) (by kernel_rfl) ?_
          repeat (go_big_quiet_step (fail))
          refine wpQuiet_nil ?_
          intro Z hw'
          obtain ⟨⟨wy, hqq⟩, hw2⟩ := hw'
          subst hw2
          have hB2 := below2 hB hqq
          obtain ⟨y0, y1, yf⟩ := cells2 (HRP.out _ hqq)
          clear hqq hB u0 u1 v0 v1
          go_wp2_with fail
          go_ret
          exact ⟨rfl, hB2⟩
        · have g1 : decide (fz < a0) = false := decide_eq_false h1
          by_cases h2 : e0 < lz
          · have g2 : decide (e0 < lz) = true := decide_eq_true h2
            clear HIN2
            haveI := bl_ne w11
            go_wp2_with fail
            refine wp_region_bl (by kernel_rfl) (by kernel_rfl) ?_
            repeat (go_big_quiet_step (fail))
            refine wpQuiet_nil ?_
            intro Z hw'
            obtain ⟨⟨wy, hqq⟩, hw2⟩ := hw'
            subst hw2
            have hB2 := below2 hB hqq
            obtain ⟨y0, y1, yf⟩ := cells2 (HRP.out _ hqq)
            clear hqq hB u0 u1 v0 v1
            go_wp2_with fail
            go_ret
            exact ⟨rfl, hB2⟩
          · have g2 : decide (e0 < lz) = false := decide_eq_false h2
            have HEQ := HIN2.out h1 h2
            have hee : ((la + ln) == (e0 - a0 + 1)) = true := by rw [HEQ]; simp
            clear HIN2
            haveI := bl_ne w11
            go_wp2_with fail
            refine wp_region_bl (by kernel_rfl) (by kernel_rfl) ?_
            repeat (go_big_quiet_step (fail))
            refine wpQuiet_nil ?_
            intro Z hw'
            obtain ⟨⟨wy, hqq⟩, hw2⟩ := hw'
            subst hw2
            have hB2 := below2 hB hqq
            obtain ⟨y0, y1, yf⟩ := cells2 (HRP.out _ hqq)
            clear hqq hB u0 u1 v0 v1
            go_wp2_with fail
            go_ret
            exact ⟨rfl, hB2⟩
      · have hl0 : l.length = 0 := by omega
        have HEQ : la + ln = e0 - a0 + 1 := by rw [← HLA.out]; exact HNOT.out (HEM.out (List.eq_nil_of_length_eq_zero hl0))
        have hee : ((la + ln) == (e0 - a0 + 1)) = true := by rw [HEQ]; simp
        clear b1 HIN HNOT HEM HLA hq1 hq2 hq3 hq4 h0
        rw [hl0] at hl4 ⊢
        clear hl0
        haveI := bl_ne w11
        go_wp2_with fail
        refine wp_region_bl (by kernel_rfl) (by kernel_rfl) ?_
        repeat (go_big_quiet_step (fail))
        refine wpQuiet_nil ?_
        intro Z hw'
        obtain ⟨⟨wy, hqq⟩, hw2⟩ := hw'
        subst hw2
        have hB2 := below2 hB hqq
        obtain ⟨y0, y1, yf⟩ := cells2 (HRP.out _ hqq)
        clear hqq hB v0 v1
        go_wp2_with fail
        go_ret
        exact ⟨rfl, hB2⟩
  · have hsp : okJ l = false ∨ okJ m = false ∨ (okJ l = true ∧ okJ m = true ∧ 400 < l.length) ∨ (okJ l = true ∧ okJ m = true ∧ l.length ≤ 400 ∧ 400 < m.length) := by
      cases h1 : okJ l
      · exact .inl rfl
      · cases h2 : okJ m
        · exact .inr (.inl rfl)
        · rcases Nat.lt_or_ge 400 l.length with h3 | h3
          · exact .inr (.inr (.inl ⟨rfl, rfl, h3⟩))
          · rcases Nat.lt_or_ge 400 m.length with h4 | h4
            · exact .inr (.inr (.inr ⟨rfl, rfl, h3, h4⟩))
            · exact absurd ⟨⟨h1, h2⟩, h3, h4⟩ hgo
    clear hgo
    unfold chk at ck1 ck2
    rcases hsp with h1 | h1 | ⟨h1, h2, h3⟩ | ⟨h1, h2, h3, h4⟩
    · rw [h1] at ck1
      simp only [Bool.false_eq_true, if_false] at ck1
      generalize l.length = na at *
      generalize m.length = nb at *
      go_enter Try.func6, Try.ntmps6
      go_upto_region 1 with fail
      rw [← hX0]
      clear hX0
      go_wp2_with fail
      go_at_call 10; refine (c0 _).mono ?_; rintro e w1 ⟨rfl, hb⟩
      replace hB := below2 hB hb
      replace b1 := b1.keep hb
      go_wp2_with fail
      go_at_call 18; refine (ck1 _ b1).mono ?_; rintro e w2 ⟨rfl, hb2⟩
      replace hB := below2 hB hb2
      go_wp2_with fail
      go_ret
      exact ⟨rfl, hB⟩
    · cases h0 : okJ l
      · rw [h0] at ck1
        simp only [Bool.false_eq_true, if_false] at ck1
        generalize l.length = na at *
        generalize m.length = nb at *
        go_enter Try.func6, Try.ntmps6
        go_upto_region 1 with fail
        rw [← hX0]
        clear hX0
        go_wp2_with fail
        go_at_call 10; refine (c0 _).mono ?_; rintro e w1 ⟨rfl, hb⟩
        replace hB := below2 hB hb
        replace b1 := b1.keep hb
        go_wp2_with fail
        go_at_call 18; refine (ck1 _ b1).mono ?_; rintro e w2 ⟨rfl, hb2⟩
        replace hB := below2 hB hb2
        go_wp2_with fail
        go_ret
        exact ⟨rfl, hB⟩
      · rw [h0] at ck1
        rw [h1] at ck2
        simp only [Bool.false_eq_true, if_false, if_true] at ck1 ck2
        generalize l.length = na at *
        generalize m.length = nb at *
        go_enter Try.func6, Try.ntmps6
        go_upto_region 1 with fail
        rw [← hX0]
        clear hX0
        go_wp2_with fail
        go_at_call 10; refine (c0 _).mono ?_; rintro e w1 ⟨rfl, hb⟩
        replace hB := below2 hB hb
        replace b1 := b1.keep hb
        replace b2 := b2.keep hb
        go_wp2_with fail
        go_at_call 18; refine (ck1 _ b1).mono ?_; rintro e w2 ⟨rfl, hb2⟩
        replace hB := below2 hB hb2
        replace b2 := b2.keep hb2
        go_wp2_with fail
        go_at_call 18; refine (ck2 _ b2).mono ?_; rintro e w3 ⟨rfl, hb3⟩
        replace hB := below2 hB hb3
        go_wp2_with fail
        go_ret
        exact ⟨rfl, hB⟩
    · rw [h1] at ck1
      rw [h2] at ck2
      simp only [if_true] at ck1 ck2
      have hq1 : decide ((400 : Int) < (l.length : Int)) = true := decide_eq_true (by omega)
      have hq2 : decide (400 < l.length) = true := decide_eq_true h3
      generalize l.length = na at *
      generalize m.length = nb at *
      go_enter Try.func6, Try.ntmps6
      go_upto_region 1 with fail
      rw [← hX0]
      clear hX0
      go_wp2_with fail
      go_at_call 10; refine (c0 _).mono ?_; rintro e w1 ⟨rfl, hb⟩
      replace hB := below2 hB hb
      replace b1 := b1.keep hb
      replace b2 := b2.keep hb
      go_wp2_with fail
      go_at_call 18; refine (ck1 _ b1).mono ?_; rintro e w2 ⟨rfl, hb2⟩
      replace hB := below2 hB hb2
      replace b2 := b2.keep hb2
      go_wp2_with fail
      go_at_call 18; refine (ck2 _ b2).mono ?_; rintro e w3 ⟨rfl, hb3⟩
      replace hB := below2 hB hb3
      go_wp2_with fail
      go_ret
      exact ⟨rfl, hB⟩
    · rw [h1] at ck1
      rw [h2] at ck2
      simp only [if_true] at ck1 ck2
      have hq1 : decide ((400 : Int) < (l.length : Int)) = false := decide_eq_false (by omega)
      have hq2 : decide (400 < l.length) = false := decide_eq_false (by omega)
      have hq3 : decide ((400 : Int) < (m.length : Int)) = true := decide_eq_true (by omega)
      have hq4 : decide (400 < m.length) = true := decide_eq_true h4
      generalize l.length = na at *
      generalize m.length = nb at *
      go_enter Try.func6, Try.ntmps6
      go_upto_region 1 with fail
      rw [← hX0]
      clear hX0
      go_wp2_with fail
      go_at_call 10; refine (c0 _).mono ?_; rintro e w1 ⟨rfl, hb⟩
      replace hB := below2 hB hb
      replace b1 := b1.keep hb
      replace b2 := b2.keep hb
      go_wp2_with fail
      go_at_call 18; refine (ck1 _ b1).mono ?_; rintro e w2 ⟨rfl, hb2⟩
      replace hB := below2 hB hb2
      replace b2 := b2.keep hb2
      go_wp2_with fail
      go_at_call 18; refine (ck2 _ b2).mono ?_; rintro e w3 ⟨rfl, hb3⟩
      replace hB := below2 hB hb3
      go_wp2_with fail
      go_ret
      exact ⟨rfl, hB⟩
set_option maxRecDepth 100000 in
theorem lifted (os : Os) (started : os.Started) (H : Type) (enc : TypeId × Value → H) :
    ReturnsInHanded {} Try.checked os 6 .any (Rows.ivlLongSpec.pre6 enc Try.prog Try.f6 Rows.ivlLongRow.domain false) (Rows.ivlLongSpec.post enc Try.prog Try.f6 false true false false) := by
  refine returnsInHanded_of_change_sized (C := Try.checked) own started (by kernel_rfl) Try.func6
    (ChangeSpec.witness6 (enc := enc) (C := Try.checked) false ⟨#[], #[.slice none 0 0, .slice none 0 0, .agg #[.int .i64 0, .int .i64 0]], []⟩ 8 (by kernel_rfl) (by kernel_rfl) (by kernel_rfl) (by kernel_rfl)) ?_
  intro W base args ds gs before hval0 hW _ hsz0 _
  have hsz : (DataW.weightsEach Try.prog (Try.f6.params.toList ++ Rows.ivlLongSpec.plain.varTypes Try.prog) (ds ++ gs)).all (· ≤ reachBytes) = true := hsz0
  clear hsz0
  have hval : ∀ (j : Nat) t v, Try.f6.params[j]? = some t → args[j]? = some v → Value.okWide Try.prog W .any base t v := hval0
  have hW' := hW
  obtain ⟨p, q, hA0, hV, rfl, hfz, hnd⟩ := hW
  have hA : DataW.TrodAll enc Try.prog W 0 (fun _ => true) true Try.f6.params.toList args.toList ds p := hA0
  rw [Try.params6] at hA hval hsz
  obtain ⟨v0, vs0, d0, ds0, p0, q0, hargs, rfl, rfl, h0, r0⟩ := trodAll_cons hA
  obtain ⟨v1, vs1, d1, ds1, p1, q1, rfl, rfl, rfl, h1, r1⟩ := trodAll_cons r0
  obtain ⟨v2, vs2, d2, ds2, p2, q2, rfl, rfl, rfl, h2, r2⟩ := trodAll_cons r1
  obtain ⟨rfl, rfl, rfl⟩ := trodAll_nil r2
  obtain rfl : args = #[v0, v1, v2] := by cases args; simp_all
  obtain ⟨rfl, rfl⟩ := trodVars_none hV
  obtain ⟨a0, len0, cap0, rfl⟩ := okWide_slice Try.underlying22 (hval 0 22 v0 rfl rfl)
  have k0 := h0
  have lt0 : ∀ x ∈ p0, x.block < W.heap.size := by obtain ⟨m, hm⟩ := k0; exact DataW.trod_lt m _ _ _ hm
  obtain ⟨fuel0, hf0⟩ := h0
  obtain ⟨z0, b0, f0⟩ := Iv.open_ivs hf0
  obtain ⟨a1, len1, cap1, rfl⟩ := okWide_slice Try.underlying22 (hval 1 22 v1 rfl rfl)
  have k1 := h1
  have lt1 : ∀ x ∈ p1, x.block < W.heap.size := by obtain ⟨m, hm⟩ := k1; exact DataW.trod_lt m _ _ _ hm
  obtain ⟨fuel1, hf1⟩ := h1
  obtain ⟨z1, b1, f1⟩ := Iv.open_ivs hf1
  have k2 := h2
  have lt2 : ∀ x ∈ p2, x.block < W.heap.size := by obtain ⟨m, hm⟩ := k2; exact DataW.trod_lt m _ _ _ hm
  obtain ⟨n2, rfl, b2⟩ := Iv.open_ivl (hval 2 36 v2 rfl rfl) h2
  clear hA0 hval0
  refine (walk (.slice a0 len0 cap0) z0 (.slice a1 len1 cap1) z1 n2 W b0 f0 b1 f1 b2).mono fun e W' ⟨he, bel⟩ => ?_
  subst he
  exact ⟨_, rfl, _, _, _, [], _, [], hW', trodAll_mk1 (shut_bool Try.underlying4 _), (trodAll_cons_mk (Below.trod laidOut (by kernel_rfl) (of_decide_eq_true (by kernel_rfl)) k0 bel lt0) (trodAll_cons_mk (Below.trod laidOut (by kernel_rfl) (of_decide_eq_true (by kernel_rfl)) k1 bel lt1) (trodAll_cons_mk (Below.trod laidOut (by kernel_rfl) (of_decide_eq_true (by kernel_rfl)) k2 bel lt2) trodAll_mk0))), rfl, bel.frame _, fun h => by cases h⟩

theorem over : Rows.ivlLongRow.holds Try.pinned (OpenSpec.ofChange Rows.ivlLongSpec) :=
  OpenClaim.holds_of_wide 6 Try.f6 rfl rfl rfl rfl rfl rfl rfl ⟨rfl, rfl, rfl, rfl, rfl⟩ rfl rfl rfl rfl rfl (by kernel_rfl) Try.func6 (by kernel_rfl)
    (of_decide_eq_true (by kernel_rfl)) (by unfold Func.isWrapper; first | (rw [if_pos (by decide +kernel)]; kernel_rfl) | (rw [if_neg (by decide +kernel)]; exact ⟨rfl, rfl⟩))
    (fun os started H enc _ => lifted os started H enc)
end ivlLong
theorem ivl_long_holds : Rows.IvlLongSaid := ivlLong.over
#print axioms ivl_long_holds
end Go.Proofs.Ytebjklhffccomaa
