/- What seated answers. -/
import Derived.Test.YtkjhnefbcnnjlaaGreatNv17
import Derived.Test.YtkjhnefbcnnjlaaGreatNv15
import Derived.Deep.RegionHeld
set_option linter.unusedVariables false
namespace Go.Proofs.YtkjhnefbcnnjlaaGreat.Ord
open Go.RowKit
open Go.Proofs.YtkjhnefbcnnjlaaGreat.Msg (Ev okE checkE evV FitE echeck_any cells12')
open Go.Proofs.YtkjhnefbcnnjlaaGreat.Addr (RowAt below2 below_new RowAt.below RowAt.new RowAt.alloc cells4)

set_option maxHeartbeats 4000000 in
set_option maxRecDepth 20000 in
theorem ask_walk (v : Value) (c0 c1 c2 c3 c5 c6 c7 c8 c9 c10 c11 : Int) (cs : Bool) (h : Int) (w : World) (E1 E2 R : Int)
    (k1 : ∀ W : World, Below w.heap.size w W → Calls Tryz.prog 22 #[v] W fun e w' => e = .returned (.int .i64 E1) ∧ Below W.heap.size W w')
    (k2 : ∀ W : World, Calls Tryz.prog 58 #[.agg #[.int .u8 c0, .int .i64 c1, .int .u64 c2, .int .i64 c3, .bool cs, .int .u64 c5, .int .u64 c6, .int .i64 c7, .int .u8 c8, .int .i64 c9, .int .i64 c10, .int .i64 c11]] W fun e w' => e = .returned (.int .i64 E2) ∧ Below W.heap.size W w')
    (H1 : E1 ≠ 0 → Hid (R = 2)) (H2 : E2 ≠ 0 → Hid (R = 2)) (H3 : E1 = 0 → E2 = 0 → (h < -1 ∨ 1099511627776 < h) → Hid (R = 1)) (H4 : E1 = 0 → E2 = 0 → ¬ (h < -1 ∨ 1099511627776 < h) → Hid (R = 0)) :
    Calls Tryz.prog 54 #[v, .agg #[.int .u8 c0, .int .i64 c1, .int .u64 c2, .int .i64 c3, .bool cs, .int .u64 c5, .int .u64 c6, .int .i64 c7, .int .u8 c8, .int .i64 c9, .int .i64 c10, .int .i64 c11], .int .i64 h] w fun e w' => e = .returned (.int .i64 R) ∧ Below w.heap.size w w' := by
  obtain ⟨X, hX⟩ : ∃ X, X = w.alloc (.cells #[.int .u8 c0, .int .i64 c1, .int .u64 c2, .int .i64 c3, .bool cs, .int .u64 c5, .int .u64 c6, .int .i64 c7, .int .u8 c8, .int .i64 c9, .int .i64 c10, .int .i64 c11] 38) := ⟨_, rfl⟩
  have hB : Below w.heap.size w X := by rw [hX]; exact below_new (Below.refl _ _) _
  have r0 : RowAt X w.heap.size [.int .u8 c0, .int .i64 c1, .int .u64 c2, .int .i64 c3, .bool cs, .int .u64 c5, .int .u64 c6, .int .i64 c7, .int .u8 c8, .int .i64 c9, .int .i64 c10, .int .i64 c11] 38 := by rw [hX]; exact RowAt.new _ _ _
  go_enter Tryz.func54, Tryz.ntmps54
  go_upto_region 1 with fail
  rw [← hX]
  clear hX
  go_wp2_with fail
  go_at_call 22; refine (k1 _ hB).mono ?_; rintro e w1 ⟨rfl, hb1⟩
  replace hB := below2 hB hb1
  replace r0 := RowAt.below r0 hb1
  clear hb1 k1
  obtain ⟨⟨y0, y1, y2, y3, y4, y5⟩, ⟨y6, y7, y8, y9, y10, y11⟩, yf, hly⟩ := cells12' r0
  by_cases h1 : E1 = 0
  · subst h1
    go_wp2_with fail
    go_at_call 58; refine (k2 _).mono ?_; rintro e w2 ⟨rfl, hb2⟩
    replace hB := below2 hB hb2
    clear y0 y1 y2 y3 y4 y5 y6 y7 y8 y9 y10 y11 yf hly hb2 r0 k2
    by_cases h2 : E2 = 0
    · subst h2
      by_cases h3 : h < -1
      · have HV := (H3 (by trivial) (by trivial) (.inl h3))
        have q1 : decide (h < -1) = true := decide_eq_true h3
        clear H1 H2 H3 H4
        go_wp2_with fail
        go_ret
        exact ⟨by rw [HV.out]; rfl, hB⟩
      · have q1 : decide (h < -1) = false := decide_eq_false h3
        by_cases h4 : 1099511627776 < h
        · have HV := (H3 (by trivial) (by trivial) (.inr h4))
          have q2 : decide (1099511627776 < h) = true := decide_eq_true h4
          clear H1 H2 H3 H4
          go_wp2_with fail
          go_ret
          exact ⟨by rw [HV.out]; rfl, hB⟩
        · have HV := (H4 (by trivial) (by trivial) (fun c => c.elim h3 h4))
          have q2 : decide (1099511627776 < h) = false := decide_eq_false h4
          clear H1 H2 H3 H4
          go_wp2_with fail
          go_ret
          exact ⟨by rw [HV.out]; rfl, hB⟩
    · have HV := H2 h2
      have q1 : (E2 == 0) = false := beq_eq_false_iff_ne.2 h2
      have q2 : (E2 != 0) = true := bne_iff_ne.2 h2
      clear H1 H2 H3 H4 h2
      go_wp2_with fail
      go_ret
      exact ⟨by rw [HV.out]; rfl, hB⟩
  · have HV := H1 h1
    have q1 : (E1 == 0) = false := beq_eq_false_iff_ne.2 h1
    have q2 : (E1 != 0) = true := bne_iff_ne.2 h1
    clear H1 H2 H3 H4 h1 y0 y1 y2 y3 y4 y5 y6 y7 y8 y9 y10 y11 yf hly r0
    go_wp2_with fail
    go_ret
    exact ⟨by rw [HV.out]; rfl, hB⟩
theorem ask_any (l : List St) (v : Value) (e : Ev) (h : Int) (w : World) (hl : HasSts w v l) (hf : FitE e) :
    Calls Tryz.prog 54 #[v, evV e, .int .i64 h] w fun r w' => r = .returned (.int .i64 (askL l e h)) ∧ Below w.heap.size w w' := by
  have c1 : checkL l = if okL l = true then 0 else 2 := rfl
  have c2 : checkE e = if okE e = true then 0 else 2 := rfl
  refine ask_walk v _ _ _ _ _ _ _ _ _ _ _ _ h w (checkL l) (checkE e) _ (fun W hb => check_any l v W (hl.keep hb)) (fun W => echeck_any e W hf) ?_ ?_ ?_ ?_
  · intro h1
    show _ = _
    unfold askL
    cases hk : okL l with
    | true => rw [c1, hk] at h1; exact absurd rfl h1
    | false => rfl
  · intro h1
    show _ = _
    unfold askL
    cases hk : okE e with
    | true => rw [c2, hk] at h1; exact absurd rfl h1
    | false => rw [Bool.and_false]; rfl
  · intro h1 h2 h3
    show _ = _
    unfold askL
    cases hk : okL l with
    | false => rw [c1, hk] at h1; exact absurd h1 (by decide)
    | true =>
      cases hk2 : okE e with
      | false => rw [c2, hk2] at h2; exact absurd h2 (by decide)
      | true =>
        show (if h < -1 ∨ 1099511627776 < h then (1 : Int) else 0) = 1
        rw [if_pos h3]
  · intro h1 h2 h3
    show _ = _
    unfold askL
    cases hk : okL l with
    | false => rw [c1, hk] at h1; exact absurd h1 (by decide)
    | true =>
      cases hk2 : okE e with
      | false => rw [c2, hk2] at h2; exact absurd h2 (by decide)
      | true =>
        show (if h < -1 ∨ 1099511627776 < h then (1 : Int) else 0) = 0
        rw [if_neg h3]
set_option maxHeartbeats 8000000 in
set_option maxRecDepth 20000 in
theorem mis_walk (o : Option Addr) (n cp : Nat) (c0 c1 c2 c3 c5 c6 c7 c8 c9 c10 c11 : Int) (cs : Bool) (h : Int) (w : World) (s0 s1 s2 : Int) (su is : Bool) (R : Int)
    (k1 : ∀ W : World, Below w.heap.size w W → Calls Tryz.prog 81 #[.slice o n cp, .int .i64 c1] W fun e w' => e = .returned (.tuple #[.agg #[.int .i64 s0, .int .u64 s1, .int .i64 s2, .bool su], .bool is]) ∧ Below W.heap.size W w')
    (hs : 0 ≤ s1 ∧ s1 ≤ 1099511627776) (hn : (n : Int) ≤ 64)
    (H1 : is = false ∧ c0 ≠ 1 → Hid (R = 14)) (H2 : ¬ (is = false ∧ c0 ≠ 1) → c2 ≠ s1 + 1 → Hid (R = 12)) (H3 : ¬ (is = false ∧ c0 ≠ 1) → c2 = s1 + 1 → (c3 < s2 ∨ c3 ≤ h) → Hid (R = 13))
    (H4 : ¬ (is = false ∧ c0 ≠ 1) → c2 = s1 + 1 → ¬ (c3 < s2 ∨ c3 ≤ h) → decide (c0 = 1) = su → Hid (R = 10))
    (H5 : ¬ (is = false ∧ c0 ≠ 1) → c2 = s1 + 1 → ¬ (c3 < s2 ∨ c3 ≤ h) → decide (c0 = 1) ≠ su → (is = false ∧ (n : Int) = 64) → Hid (R = 8))
    (H6 : ¬ (is = false ∧ c0 ≠ 1) → c2 = s1 + 1 → ¬ (c3 < s2 ∨ c3 ≤ h) → decide (c0 = 1) ≠ su → ¬ (is = false ∧ (n : Int) = 64) → Hid (R = 0)) :
    Calls Tryz.prog 55 #[.slice o n cp, .agg #[.int .u8 c0, .int .i64 c1, .int .u64 c2, .int .i64 c3, .bool cs, .int .u64 c5, .int .u64 c6, .int .i64 c7, .int .u8 c8, .int .i64 c9, .int .i64 c10, .int .i64 c11], .int .i64 h] w fun e w' => e = .returned (.int .i64 R) ∧ Below w.heap.size w w' := by
  have hwr : IntKind.u64.wrap (s1 + 1) = s1 + 1 := by rw [IntKind.wrap_u64]; omega
  obtain ⟨X, hX⟩ : ∃ X, X = w.alloc (.cells #[.int .u8 c0, .int .i64 c1, .int .u64 c2, .int .i64 c3, .bool cs, .int .u64 c5, .int .u64 c6, .int .i64 c7, .int .u8 c8, .int .i64 c9, .int .i64 c10, .int .i64 c11] 38) := ⟨_, rfl⟩
  have hB : Below w.heap.size w X := by rw [hX]; exact below_new (Below.refl _ _) _
  have r0 : RowAt X w.heap.size [.int .u8 c0, .int .i64 c1, .int .u64 c2, .int .i64 c3, .bool cs, .int .u64 c5, .int .u64 c6, .int .i64 c7, .int .u8 c8, .int .i64 c9, .int .i64 c10, .int .i64 c11] 38 := by rw [hX]; exact RowAt.new _ _ _
  go_enter Tryz.func55, Tryz.ntmps55
  go_upto_region 1 with fail
  rw [← hX]
  clear hX
  obtain ⟨⟨y0, y1, y2, y3, y4, y5⟩, ⟨y6, y7, y8, y9, y10, y11⟩, yf, hly⟩ := cells12' r0
  go_wp2_with fail
  go_at_call 81; refine (k1 _ hB).mono ?_; rintro e w1 ⟨rfl, hb1⟩
  replace hB := below2 hB hb1
  replace r0 := RowAt.below r0 hb1
  clear hb1 k1 y0 y1 y2 y3 y4 y5 y6 y7 y8 y9 y10 y11 yf hly
  obtain ⟨⟨y0, y1, y2, y3, y4, y5⟩, ⟨y6, y7, y8, y9, y10, y11⟩, yf, hly⟩ := cells12' r0
  go_upto_region 2 with fail
  obtain ⟨Y, hY⟩ : ∃ Y, Y = w1.alloc (.cells #[.int .i64 s0, .int .u64 s1, .int .i64 s2, .bool su] 70) := ⟨_, rfl⟩
  have hbY : Below w1.heap.size w1 Y := by rw [hY]; exact below_new (Below.refl _ _) _
  have r1 : RowAt Y w1.heap.size [.int .i64 s0, .int .u64 s1, .int .i64 s2, .bool su] 70 := by rw [hY]; exact RowAt.new _ _ _
  rw [← hY]
  replace r0 := RowAt.below r0 hbY
  replace hB := below2 hB hbY
  clear hY hbY y0 y1 y2 y3 y4 y5 y6 y7 y8 y9 y10 y11 yf hly
  generalize w1.heap.size = g1 at r1 ⊢
  obtain ⟨⟨y0, y1, y2, y3, y4, y5⟩, ⟨y6, y7, y8, y9, y10, y11⟩, yf, hly⟩ := cells12' r0
  obtain ⟨x0, x1, x2, x3, xf⟩ := cells4 r1
  clear r0 r1
  generalize hs1 : s1 + 1 = t1 at *
  by_cases b1 : is = false ∧ c0 ≠ 1
  · have HV := H1 b1
    obtain ⟨rfl, b2⟩ := b1
    have q1 : (c0 == 1) = false := beq_eq_false_iff_ne.2 b2
    clear H1 H2 H3 H4 H5 H6 b2
    go_wp2_with fail
    go_ret
    exact ⟨by rw [HV.out]; rfl, hB⟩
  replace H2 := H2 b1
  replace H3 := H3 b1
  replace H4 := H4 b1
  replace H5 := H5 b1
  replace H6 := H6 b1
  clear H1
  have hc : (is = true ∧ ((c0 == 1) = false ∨ c0 = 1)) ∨ (is = false ∧ c0 = 1) := by
    by_cases b2 : c0 = 1
    · cases is
      · exact .inr ⟨rfl, b2⟩
      · exact .inl ⟨rfl, .inr b2⟩
    · cases is
      · exact absurd ⟨rfl, b2⟩ b1
      · exact .inl ⟨rfl, .inl (beq_eq_false_iff_ne.2 b2)⟩
  clear b1
  by_cases b3 : c2 = t1
  · replace H3 := H3 b3
    replace H4 := H4 b3
    replace H5 := H5 b3
    replace H6 := H6 b3
    clear H2
    subst b3
    by_cases b4 : c3 < s2 ∨ c3 ≤ h
    · have HV := H3 b4
      clear H3 H4 H5 H6
      by_cases b5 : c3 < s2
      · have q3 : decide (c3 < s2) = true := decide_eq_true b5
        rcases hc with ⟨rfl, q1 | rfl⟩ | ⟨rfl, rfl⟩
        all_goals
          go_wp2_with fail
          go_ret
          exact ⟨by rw [HV.out]; rfl, hB⟩
      · have q3 : decide (c3 < s2) = false := decide_eq_false b5
        have q4 : decide (c3 ≤ h) = true := decide_eq_true (b4.resolve_left b5)
        rcases hc with ⟨rfl, q1 | rfl⟩ | ⟨rfl, rfl⟩
        all_goals
          go_wp2_with fail
          go_ret
          exact ⟨by rw [HV.out]; rfl, hB⟩
    · have q3 : decide (c3 < s2) = false := decide_eq_false (fun c => b4 (.inl c))
      have q4 : decide (c3 ≤ h) = false := decide_eq_false (fun c => b4 (.inr c))
      replace H4 := H4 b4
      replace H5 := H5 b4
      replace H6 := H6 b4
      clear H3 b4
      rcases hc with ⟨rfl, q1 | rfl⟩ | ⟨rfl, rfl⟩
      · have e1 : decide (c0 = 1) = false := decide_eq_false (beq_eq_false_iff_ne.1 q1)
        cases su
        · have HV := H4 e1
          clear H4 H5 H6 e1
          go_wp2_with fail
          go_ret
          exact ⟨by rw [HV.out]; rfl, hB⟩
        · have HV := H6 (by rw [e1]; decide) (fun c => absurd c.1 (by decide))
          clear H4 H5 H6 e1
          go_wp2_with fail
          go_ret
          exact ⟨by rw [HV.out]; rfl, hB⟩
      · cases su
        · have HV := H6 (by decide) (fun c => absurd c.1 (by decide))
          clear H4 H5 H6
          go_wp2_with fail
          go_ret
          exact ⟨by rw [HV.out]; rfl, hB⟩
        · have HV := H4 (by decide)
          clear H4 H5 H6
          go_wp2_with fail
          go_ret
          exact ⟨by rw [HV.out]; rfl, hB⟩
      · cases su
        · by_cases b6 : (n : Int) = 64
          · have HV := H5 (by decide) ⟨rfl, b6⟩
            have q6 : ((n : Int) == 64) = true := by rw [b6]; rfl
            have q7 : (n == 64) = true := by simp; omega
            clear H4 H5 H6 b6
            go_wp2_with fail
            go_ret
            exact ⟨by rw [HV.out]; rfl, hB⟩
          · have HV := H6 (by decide) (fun c => b6 c.2)
            have q6 : ((n : Int) == 64) = false := beq_eq_false_iff_ne.2 b6
            have q7 : (n == 64) = false := beq_eq_false_iff_ne.2 (by omega)
            clear H4 H5 H6 b6
            go_wp2_with fail
            go_ret
            exact ⟨by rw [HV.out]; rfl, hB⟩
        · have HV := H4 (by decide)
          clear H4 H5 H6
          go_wp2_with fail
          go_ret
          exact ⟨by rw [HV.out]; rfl, hB⟩
  · have HV := H2 b3
    have q2 : (c2 == t1) = false := beq_eq_false_iff_ne.2 b3
    have q3 : (c2 != t1) = true := bne_iff_ne.2 b3
    clear H2 H3 H4 H5 H6 b3
    rcases hc with ⟨rfl, q1 | rfl⟩ | ⟨rfl, rfl⟩
    all_goals
      go_wp2_with fail
      go_ret
      exact ⟨by rw [HV.out]; rfl, hB⟩
theorem rise_ok (l : List St) : ∀ p, rise p l = true → ∀ s ∈ l, okS s = true := by
  induction l with
  | nil => intro p _ s hs; cases hs
  | cons x t ih =>
    intro p h s hs
    have h2 : okS x = true ∧ rise (some x.router) t = true := by
      cases p with
      | none => simp only [rise, Bool.and_eq_true] at h; exact h
      | some r => simp only [rise, Bool.and_eq_true] at h; exact ⟨h.1.1, h.2⟩
    rcases List.mem_cons.1 hs with rfl | hs
    · exact h2.1
    · exact ih _ h2.2 s hs
theorem okS_bd {s : St} (h : okS s = true) : (0 ≤ s.router ∧ s.router ≤ 1048576) ∧ (1 ≤ s.seq ∧ s.seq ≤ 1099511627776) ∧ (0 ≤ s.time ∧ s.time ≤ 1099511627776) := by
  unfold okS at h
  simp only [Bool.and_eq_true, decide_eq_true_eq] at h
  omega
theorem okL_all {l : List St} (h : okL l = true) : l.length ≤ 64 ∧ ∀ s ∈ l, okS s = true := by
  unfold okL at h
  simp only [Bool.and_eq_true, decide_eq_true_eq] at h
  exact ⟨h.1, rise_ok l none h.2⟩
theorem seat_bd {l : List St} (h : okL l = true) (r : Int) : (0 : Int) ≤ ((seatOf l r).seq : Int) ∧ ((seatOf l r).seq : Int) ≤ 1099511627776 := by
  refine ⟨by omega, ?_⟩
  unfold seatOf
  cases hf : findL l r with
  | none => show ((0 : Nat) : Int) ≤ _; decide
  | some s =>
    have hm : s ∈ l := List.mem_of_find?_eq_some hf
    have := (okS_bd ((okL_all h).2 s hm)).2.1.2
    show (s.seq : Int) ≤ _
    omega
theorem mis_any (l : List St) (v : Value) (e : Ev) (h : Int) (w : World) (hl : HasSts w v l) (hok : okL l = true) :
    Calls Tryz.prog 55 #[v, evV e, .int .i64 h] w fun r w' => r = .returned (.int .i64 (misL l e h)) ∧ Below w.heap.size w w' := by
  obtain ⟨o, c, rfl, hc1, hc2⟩ := HasRow.slice hl
  have hn := (okL_all hok).1
  refine mis_walk o l.length c _ _ _ _ _ _ _ _ _ _ _ _ h w (seatOf l e.router).router ((seatOf l e.router).seq : Int) (seatOf l e.router).time (seatOf l e.router).up (isIn l e.router) _ (fun W hb => find_any l _ e.router W (hl.keep hb)) (seat_bd hok e.router) (by omega) ?_ ?_ ?_ ?_ ?_ ?_
  all_goals unfold misL
  all_goals (generalize isIn l e.router = is; generalize seatOf l e.router = s)
  · rintro ⟨h1, h2⟩
    show _ = _
    rw [if_pos ⟨h1, by omega⟩]
  · intro h1 h2
    show _ = _
    rw [if_neg (fun c => h1 ⟨c.1, by omega⟩), if_pos (by omega)]
  · intro h1 h2 h3
    show _ = _
    rw [if_neg (fun c => h1 ⟨c.1, by omega⟩), if_neg (by omega), if_pos h3]
  · intro h1 h2 h3 h4
    have h4' : decide (e.kind = 1) = s.up := by rw [← h4]; exact decide_eq_decide.2 (by omega)
    show _ = _
    rw [if_neg (fun c => h1 ⟨c.1, by omega⟩), if_neg (by omega), if_neg h3, if_pos h4']
  · intro h1 h2 h3 h4 h5
    have h4' : ¬ decide (e.kind = 1) = s.up := by intro c; apply h4; rw [← c]; exact decide_eq_decide.2 (by omega)
    show _ = _
    rw [if_neg (fun c => h1 ⟨c.1, by omega⟩), if_neg (by omega), if_neg h3, if_neg h4', if_pos ⟨h5.1, by omega⟩]
  · intro h1 h2 h3 h4 h5
    have h4' : ¬ decide (e.kind = 1) = s.up := by intro c; apply h4; rw [← c]; exact decide_eq_decide.2 (by omega)
    show _ = _
    rw [if_neg (fun c => h1 ⟨c.1, by omega⟩), if_neg (by omega), if_neg h3, if_neg h4', if_neg (fun c => h5 ⟨c.1, by omega⟩)]
theorem ask_ok {l : List St} {e : Ev} {h : Int} (ha : askL l e h = 0) : okL l = true ∧ okE e = true ∧ -1 ≤ h ∧ h ≤ 1099511627776 := by
  unfold askL at ha
  cases hk : okL l with
  | false => rw [hk] at ha; exact absurd (show (2 : Int) = 0 from ha) (by decide)
  | true =>
    cases hk2 : okE e with
    | false => rw [hk, hk2] at ha; exact absurd (show (2 : Int) = 0 from ha) (by decide)
    | true =>
      rw [hk, hk2] at ha
      replace ha : (if h < -1 ∨ 1099511627776 < h then (1 : Int) else 0) = 0 := ha
      split at ha
      · exact absurd ha (by decide)
      · exact ⟨rfl, rfl, by omega, by omega⟩
end Go.Proofs.YtkjhnefbcnnjlaaGreat.Ord
namespace Go.Proofs.YtkjhnefbcnnjlaaGreat.Ord
open Go.RowKit Go.Shelf
open Go.Proofs.YtkjhnefbcnnjlaaGreat.Addr (RowAt below2 below_new RowAt.lt RowAt.cell RowAt.below RowAt.new RowAt.alloc cells4)
attribute [-go_sem] Builtin.append_

theorem one_has (W : World) (s : St) : HasSts (W.alloc (.cells #[.int .i64 s.router, .int .u64 (s.seq : Int), .int .i64 s.time, .bool s.up] 70)) (.slice (some ⟨W.heap.size, 0, none⟩) 1 1) [s] := by
  refine ⟨rfl, .inr ⟨⟨W.heap.size, 0, none⟩, 1, rfl, Nat.le_refl _, by decide, fun _ => ⟨rfl, by simp⟩, fun j hj => ?_⟩⟩
  rw [addr_add, Nat.zero_add]
  exact (RowAt.new W (stC s) 70).cell j
theorem own_below {W W' : World} {m e size k : Nat} {v : Value} {xs : List Value} (h : W.ownsRow m e size v k xs) (hb : Below W.heap.size W W') : W'.ownsRow m e size v k xs := h.kept (row := none) ⟨hb.os, hb.tape, hb.output, hb.size, fun k hk _ => hb.block k hk⟩ (by cases v.ownBlock <;> simp)
set_option maxHeartbeats 2000000 in
theorem ahead_is (a b c : Int) (u : Bool) (g : Nat) (p q r : Int) (t : Bool) (w : World) (hg : RowAt w g [.int .i64 p, .int .u64 q, .int .i64 r, .bool t] 70) :
    Calls Tryz.prog 82 #[.agg #[.int .i64 a, .int .u64 b, .int .i64 c, .bool u], .pointer (some ⟨g, 0, none⟩)] w fun e w' => e = .returned (.bool (decide (a < p))) ∧ Below w.heap.size w w' := by
  obtain ⟨X, hX⟩ : ∃ X, X = w.alloc (.cells #[.int .i64 a, .int .u64 b, .int .i64 c, .bool u] 70) := ⟨_, rfl⟩
  have hB : Below w.heap.size w X := by rw [hX]; exact below_new (Below.refl _ _) _
  have r0 : RowAt X w.heap.size [.int .i64 a, .int .u64 b, .int .i64 c, .bool u] 70 := by rw [hX]; exact RowAt.new _ _ _
  have r1 := RowAt.below hg hB
  obtain ⟨x0, x1, x2, x3, xf⟩ := cells4 r0
  obtain ⟨y0, y1, y2, y3, yf⟩ := cells4 r1
  clear r0 r1 hg
  go_enter Tryz.func82, Tryz.ntmps82
  go_upto_region 1 with fail
  rw [← hX]
  clear hX
  go_wp2_with fail
  go_ret
  exact ⟨rfl, hB⟩
set_option maxHeartbeats 4000000 in
set_option maxRecDepth 20000 in
theorem ahead_any (l : List St) (v : Value) (g : Nat) (p q r : Int) (t : Bool) (w : World) (h : HasSts w v l) (hg : RowAt w g [.int .i64 p, .int .u64 q, .int .i64 r, .bool t] 70) (hl : l.length ≤ 1000) :
    Calls Tryz.prog 85 #[v, .func (.func 82) #[] #[.pointer (some ⟨g, 0, none⟩)]] w fun e w' => ∃ u, e = .returned u ∧ w'.ownsRow w.heap.size 70 4 u (ahead l p).length (stCs (ahead l p)) ∧ Below w.heap.size w w' := by
  obtain ⟨o, c, rfl, hc1, hc2⟩ := HasRow.slice h
  have HR : Hid (∀ wr : World, Below w.heap.size w wr → HasSts wr (.slice o l.length c) l ∧ RowAt wr g [.int .i64 p, .int .u64 q, .int .i64 r, .bool t] 70) := fun wr hb => ⟨h.keep hb, RowAt.below hg hb⟩
  obtain ⟨n, hn⟩ : ∃ n, n = l.length := ⟨_, rfl⟩
  have HN : Hid (n = l.length) := hn
  rw [← hn] at HR hc1 hl ⊢
  have hni : (n : Int) ≤ 1000 := by omega
  clear h hg hn hl
  go_enter Tryz.func85, Tryz.ntmps85
  go_wp2_with fail
  go_loopw [5, 10] (fun s i wr => ∃ k : Nat, k ≤ n ∧ i = .int .i64 k ∧ Below w.heap.size w wr ∧ Hid (wr.ownsRow w.heap.size 70 4 s (ahead (l.take k) p).length (stCs (ahead (l.take k) p)))) (fun _ i _ => n - (intOf i).toNat)
  case atStart => exact ⟨0, by omega, rfl, Below.refl _ _, World.ownsRow_nil _ _ _ _⟩
  case round =>
    obtain ⟨k, hk, rfl, hB, HO⟩ := hrel
    obtain ⟨hh, hr⟩ := HR.out _ hB
    by_cases hlt : k < n
    · have hkz : k < l.length := by rw [← HN.out]; exact hlt
      obtain ⟨g1, i1, rfl, hg1, a0, a1, a2, a3⟩ := HasSts.cell hh k hkz
      have hstep : ahead (l.take (k + 1)) p = ahead (l.take k) p ++ (if decide (l[k].router < p) then [l[k]] else []) := by
        unfold ahead
        rw [List.take_succ_eq_append_getElem hkz, List.filter_append, List.filter_cons, List.filter_nil]
      have hlen : (ahead (l.take k) p).length ≤ n := by
        unfold ahead
        refine Nat.le_trans (List.length_filter_le _ _) ?_
        rw [List.length_take]; omega
      have HB1 : Hid (decide (l[k].router < p) = true → ahead (l.take (k + 1)) p = ahead (l.take k) p ++ [l[k]]) := fun e => by rw [hstep, e]; rfl
      have HB2 : Hid (decide (l[k].router < p) = false → ahead (l.take (k + 1)) p = ahead (l.take k) p) := fun e => by rw [hstep, e]; simp
      have hki : (k : Int) < (n : Int) := by omega
      have HST : Hid (∃ s0 : St, s0 = l[k]) := ⟨_, rfl⟩
      obtain ⟨s0, hs0⟩ := HST.out
      rw [← hs0] at a0 a1 a2 a3 HB1 HB2
      clear hs0 HST hstep hg1
      go_upto_region 5 with fail
      obtain ⟨X, hX⟩ : ∃ X, X = wr.alloc (.cells #[.int .i64 s0.router, .int .u64 (s0.seq : Int), .int .i64 s0.time, .bool s0.up] 70) := ⟨_, rfl⟩
      have hbX : Below wr.heap.size wr X := by rw [hX]; exact below_new (Below.refl _ _) _
      have rx : RowAt X wr.heap.size [.int .i64 s0.router, .int .u64 (s0.seq : Int), .int .i64 s0.time, .bool s0.up] 70 := by rw [hX]; exact RowAt.new _ _ _
      rw [← hX]
      have hOX := own_below HO.out hbX
      have hBX := below2 hB hbX
      have cr := ahead_is s0.router (s0.seq : Int) s0.time s0.up g p q r t X (RowAt.below hr hbX)
      clear hX a0 a1 a2 a3 hh hr HO
      obtain ⟨gs, hgs⟩ : ∃ g, g = wr.heap.size := ⟨_, rfl⟩
      rw [← hgs] at rx ⊢
      clear hgs hbX
      obtain ⟨x0, x1, x2, x3, xf⟩ := cells4 rx
      generalize decide (s0.router < p) = B at cr HB1 HB2
      go_wp2_with fail
      go_at_call 82; refine cr.mono ?_; rintro e w1 ⟨rfl, hb1⟩
      have hW := below2 hBX hb1
      have hO1 := own_below hOX hb1
      replace rx := RowAt.below rx hb1
      clear x0 x1 x2 x3 xf hOX hBX hb1 cr
      obtain ⟨x0, x1, x2, x3, xf⟩ := cells4 rx
      cases B
      · have HO2 : Hid (w1.ownsRow w.heap.size 70 4 u5 (ahead (l.take (k + 1)) p).length (stCs (ahead (l.take (k + 1)) p))) := by
          show w1.ownsRow _ _ _ _ _ _
          rw [HB2.out rfl]; exact hO1
        clear HB1 HB2 hO1 rx
        go_wp2_with fail
        go_roundw
        case rel => exact ⟨k + 1, by omega, by go_num, hW, HO2⟩
        case measure => simp [intOf]; omega
      · obtain ⟨Y, hY⟩ : ∃ Y, Y = w1.alloc (.cells #[.int .i64 s0.router, .int .u64 (s0.seq : Int), .int .i64 s0.time, .bool s0.up] 70) := ⟨_, rfl⟩
        have hbY : Below w1.heap.size w1 Y := by rw [hY]; exact below_new (Below.refl _ _) _
        have hOY := own_below hO1 hbY
        have hsrc : HasSts Y (.slice (some ⟨w1.heap.size, 0, none⟩) 1 1) [s0] := by rw [hY]; exact one_has w1 s0
        have hBY := below2 hW hbY
        obtain ⟨v', w3, hrun, ho3, hg3⟩ := append_row info_seat Tryz.underlying22 rfl (by decide) hOY hsrc (one_seats [s0]) (by simp only [List.length_cons, List.length_nil]; omega) (by simp only [List.length_cons, List.length_nil]; omega) hBY.size
        have hB3 : Below w.heap.size w w3 := hBY.grown hg3 hBY.size (fun k e => (hOY.lt k e).1)
        have HO3 : Hid (w3.ownsRow w.heap.size 70 4 v' (ahead (l.take (k + 1)) p).length (stCs (ahead (l.take (k + 1)) p))) := by
          show w3.ownsRow _ _ _ _ _ _
          rw [HB1.out rfl, stCs_app, List.length_append]; exact ho3
        clear HB1 HB2 hO1 rx hOY hsrc ho3 hg3 hBY hbY
        go_upto_region 6 with fail
        rw [hY] at hrun
        go_wp2_with fail
        go_roundw
        case rel => exact ⟨k + 1, by omega, by go_num, hB3, HO3⟩
        case measure => simp [intOf]; omega
    · obtain rfl : k = n := by omega
      have HO2 : Hid (wr.ownsRow w.heap.size 70 4 u5 (ahead l p).length (stCs (ahead l p))) := by
        have := HO.out
        rw [List.take_of_length_le (by rw [← HN.out]; exact Nat.le_refl _)] at this
        exact this
      clear hh hr HO
      go_wp2
      go_ret
      exact ⟨_, rfl, HO2.out, hB⟩
set_option maxHeartbeats 2000000 in
theorem behind_is (a b c : Int) (u : Bool) (g : Nat) (p q r : Int) (t : Bool) (w : World) (hg : RowAt w g [.int .i64 p, .int .u64 q, .int .i64 r, .bool t] 70) :
    Calls Tryz.prog 83 #[.agg #[.int .i64 a, .int .u64 b, .int .i64 c, .bool u], .pointer (some ⟨g, 0, none⟩)] w fun e w' => e = .returned (.bool (decide (p < a))) ∧ Below w.heap.size w w' := by
  obtain ⟨X, hX⟩ : ∃ X, X = w.alloc (.cells #[.int .i64 a, .int .u64 b, .int .i64 c, .bool u] 70) := ⟨_, rfl⟩
  have hB : Below w.heap.size w X := by rw [hX]; exact below_new (Below.refl _ _) _
  have r0 : RowAt X w.heap.size [.int .i64 a, .int .u64 b, .int .i64 c, .bool u] 70 := by rw [hX]; exact RowAt.new _ _ _
  have r1 := RowAt.below hg hB
  obtain ⟨x0, x1, x2, x3, xf⟩ := cells4 r0
  obtain ⟨y0, y1, y2, y3, yf⟩ := cells4 r1
  clear r0 r1 hg
  go_enter Tryz.func83, Tryz.ntmps83
  go_upto_region 1 with fail
  rw [← hX]
  clear hX
  go_wp2_with fail
  go_ret
  exact ⟨rfl, hB⟩
set_option maxHeartbeats 4000000 in
set_option maxRecDepth 20000 in
theorem behind_any (l : List St) (v : Value) (g : Nat) (p q r : Int) (t : Bool) (w : World) (h : HasSts w v l) (hg : RowAt w g [.int .i64 p, .int .u64 q, .int .i64 r, .bool t] 70) (hl : l.length ≤ 1000) :
    Calls Tryz.prog 85 #[v, .func (.func 83) #[] #[.pointer (some ⟨g, 0, none⟩)]] w fun e w' => ∃ u, e = .returned u ∧ w'.ownsRow w.heap.size 70 4 u (behind l p).length (stCs (behind l p)) ∧ Below w.heap.size w w' := by
  obtain ⟨o, c, rfl, hc1, hc2⟩ := HasRow.slice h
  have HR : Hid (∀ wr : World, Below w.heap.size w wr → HasSts wr (.slice o l.length c) l ∧ RowAt wr g [.int .i64 p, .int .u64 q, .int .i64 r, .bool t] 70) := fun wr hb => ⟨h.keep hb, RowAt.below hg hb⟩
  obtain ⟨n, hn⟩ : ∃ n, n = l.length := ⟨_, rfl⟩
  have HN : Hid (n = l.length) := hn
  rw [← hn] at HR hc1 hl ⊢
  have hni : (n : Int) ≤ 1000 := by omega
  clear h hg hn hl
  go_enter Tryz.func85, Tryz.ntmps85
  go_wp2_with fail
  go_loopw [5, 10] (fun s i wr => ∃ k : Nat, k ≤ n ∧ i = .int .i64 k ∧ Below w.heap.size w wr ∧ Hid (wr.ownsRow w.heap.size 70 4 s (behind (l.take k) p).length (stCs (behind (l.take k) p)))) (fun _ i _ => n - (intOf i).toNat)
  case atStart => exact ⟨0, by omega, rfl, Below.refl _ _, World.ownsRow_nil _ _ _ _⟩
  case round =>
    obtain ⟨k, hk, rfl, hB, HO⟩ := hrel
    obtain ⟨hh, hr⟩ := HR.out _ hB
    by_cases hlt : k < n
    · have hkz : k < l.length := by rw [← HN.out]; exact hlt
      obtain ⟨g1, i1, rfl, hg1, a0, a1, a2, a3⟩ := HasSts.cell hh k hkz
      have hstep : behind (l.take (k + 1)) p = behind (l.take k) p ++ (if decide (p < l[k].router) then [l[k]] else []) := by
        unfold behind
        rw [List.take_succ_eq_append_getElem hkz, List.filter_append, List.filter_cons, List.filter_nil]
      have hlen : (behind (l.take k) p).length ≤ n := by
        unfold behind
        refine Nat.le_trans (List.length_filter_le _ _) ?_
        rw [List.length_take]; omega
      have HB1 : Hid (decide (p < l[k].router) = true → behind (l.take (k + 1)) p = behind (l.take k) p ++ [l[k]]) := fun e => by rw [hstep, e]; rfl
      have HB2 : Hid (decide (p < l[k].router) = false → behind (l.take (k + 1)) p = behind (l.take k) p) := fun e => by rw [hstep, e]; simp
      have hki : (k : Int) < (n : Int) := by omega
      have HST : Hid (∃ s0 : St, s0 = l[k]) := ⟨_, rfl⟩
      obtain ⟨s0, hs0⟩ := HST.out
      rw [← hs0] at a0 a1 a2 a3 HB1 HB2
      clear hs0 HST hstep hg1
      go_upto_region 5 with fail
      obtain ⟨X, hX⟩ : ∃ X, X = wr.alloc (.cells #[.int .i64 s0.router, .int .u64 (s0.seq : Int), .int .i64 s0.time, .bool s0.up] 70) := ⟨_, rfl⟩
      have hbX : Below wr.heap.size wr X := by rw [hX]; exact below_new (Below.refl _ _) _
      have rx : RowAt X wr.heap.size [.int .i64 s0.router, .int .u64 (s0.seq : Int), .int .i64 s0.time, .bool s0.up] 70 := by rw [hX]; exact RowAt.new _ _ _
      rw [← hX]
      have hOX := own_below HO.out hbX
      have hBX := below2 hB hbX
      have cr := behind_is s0.router (s0.seq : Int) s0.time s0.up g p q r t X (RowAt.below hr hbX)
      clear hX a0 a1 a2 a3 hh hr HO
      obtain ⟨gs, hgs⟩ : ∃ g, g = wr.heap.size := ⟨_, rfl⟩
      rw [← hgs] at rx ⊢
      clear hgs hbX
      obtain ⟨x0, x1, x2, x3, xf⟩ := cells4 rx
      generalize decide (p < s0.router) = B at cr HB1 HB2
      go_wp2_with fail
      go_at_call 83; refine cr.mono ?_; rintro e w1 ⟨rfl, hb1⟩
      have hW := below2 hBX hb1
      have hO1 := own_below hOX hb1
      replace rx := RowAt.below rx hb1
      clear x0 x1 x2 x3 xf hOX hBX hb1 cr
      obtain ⟨x0, x1, x2, x3, xf⟩ := cells4 rx
      cases B
      · have HO2 : Hid (w1.ownsRow w.heap.size 70 4 u5 (behind (l.take (k + 1)) p).length (stCs (behind (l.take (k + 1)) p))) := by
          show w1.ownsRow _ _ _ _ _ _
          rw [HB2.out rfl]; exact hO1
        clear HB1 HB2 hO1 rx
        go_wp2_with fail
        go_roundw
        case rel => exact ⟨k + 1, by omega, by go_num, hW, HO2⟩
        case measure => simp [intOf]; omega
      · obtain ⟨Y, hY⟩ : ∃ Y, Y = w1.alloc (.cells #[.int .i64 s0.router, .int .u64 (s0.seq : Int), .int .i64 s0.time, .bool s0.up] 70) := ⟨_, rfl⟩
        have hbY : Below w1.heap.size w1 Y := by rw [hY]; exact below_new (Below.refl _ _) _
        have hOY := own_below hO1 hbY
        have hsrc : HasSts Y (.slice (some ⟨w1.heap.size, 0, none⟩) 1 1) [s0] := by rw [hY]; exact one_has w1 s0
        have hBY := below2 hW hbY
        obtain ⟨v', w3, hrun, ho3, hg3⟩ := append_row info_seat Tryz.underlying22 rfl (by decide) hOY hsrc (one_seats [s0]) (by simp only [List.length_cons, List.length_nil]; omega) (by simp only [List.length_cons, List.length_nil]; omega) hBY.size
        have hB3 : Below w.heap.size w w3 := hBY.grown hg3 hBY.size (fun k e => (hOY.lt k e).1)
        have HO3 : Hid (w3.ownsRow w.heap.size 70 4 v' (behind (l.take (k + 1)) p).length (stCs (behind (l.take (k + 1)) p))) := by
          show w3.ownsRow _ _ _ _ _ _
          rw [HB1.out rfl, stCs_app, List.length_append]; exact ho3
        clear HB1 HB2 hO1 rx hOY hsrc ho3 hg3 hBY hbY
        go_upto_region 6 with fail
        rw [hY] at hrun
        go_wp2_with fail
        go_roundw
        case rel => exact ⟨k + 1, by omega, by go_num, hB3, HO3⟩
        case measure => simp [intOf]; omega
    · obtain rfl : k = n := by omega
      have HO2 : Hid (wr.ownsRow w.heap.size 70 4 u5 (behind l p).length (stCs (behind l p))) := by
        have := HO.out
        rw [List.take_of_length_le (by rw [← HN.out]; exact Nat.le_refl _)] at this
        exact this
      clear hh hr HO
      go_wp2
      go_ret
      exact ⟨_, rfl, HO2.out, hB⟩
end Go.Proofs.YtkjhnefbcnnjlaaGreat.Ord
namespace Go.Proofs.YtkjhnefbcnnjlaaGreat.Ord
open Go.RowKit Go.Shelf
open Go.Proofs.YtkjhnefbcnnjlaaGreat.Addr (RowAt below2 below_drew below_new RowAt.lt RowAt.cell RowAt.below RowAt.drew RowAt.new RowAt.alloc cells4)
attribute [-go_sem] Builtin.append_

theorem own_slice {W : World} {B e sz n : Nat} {v : Value} {cs : List Value} (h : W.ownsRow B e sz v n cs) : ∃ o c, v = .slice o n c := by
  obtain ⟨o, c, e, _⟩ := HasRow.slice (hasRow_own h)
  exact ⟨o, c, e⟩
theorem seats_len (l : List St) (p : Int) : (ahead l p).length ≤ l.length ∧ (behind l p).length ≤ l.length := ⟨List.length_filter_le _ _, List.length_filter_le _ _⟩
theorem one_keep {L Y : World} (s : St) (hb : Below (L.alloc (.cells #[.int .i64 s.router, .int .u64 (s.seq : Int), .int .i64 s.time, .bool s.up] 70)).heap.size (L.alloc (.cells #[.int .i64 s.router, .int .u64 (s.seq : Int), .int .i64 s.time, .bool s.up] 70)) Y) : HasSts Y (.slice (some ⟨L.heap.size, 0, none⟩) 1 1) [s] := (one_has L s).keep hb
theorem one_keep2 {L Y : World} (s : St) (hb : Below (L.alloc (.cells #[.int .i64 s.router, .int .u64 (s.seq : Int), .int .i64 s.time, .bool s.up] 70)).drew.heap.size (L.alloc (.cells #[.int .i64 s.router, .int .u64 (s.seq : Int), .int .i64 s.time, .bool s.up] 70)).drew Y) : HasSts Y (.slice (some ⟨L.heap.size, 0, none⟩) 1 1) [s] := ((one_has L s).keep (below_drew (Below.refl _ _))).keep hb
/-- three rows put together, in a world in which a row of the three has just been made -/
theorem three (L : World) (la lb lc : List St) (oa ob oc : Option Addr) (na nb nc ca cb cc : Nat) (ea : na = la.length) (eb : nb = lb.length) (ec : nc = lc.length)
    (ha : HasSts L (.slice oa na ca) la) (hb : HasSts L (.slice ob nb cb) lb) (hc : HasSts L (.slice oc nc cc) lc) (hla : na ≤ 1000) (hlb : nb ≤ 1000) (hlc : nc ≤ 1000) (W : World)
    (hW : W = L.alloc (.cells #[.slice oa na ca, .slice ob nb cb, .slice oc nc cc] 22) ∨ W = (L.alloc (.cells #[.slice oa na ca, .slice ob nb cb, .slice oc nc cc] 22)).drew) :
    Calls Tryz.prog 84 #[.slice (some ⟨L.heap.size, 0, none⟩) 3 3] W fun e w' => ∃ v, e = .returned v ∧ (∃ B, L.heap.size ≤ B ∧ w'.ownsRow B 70 4 v (la ++ (lb ++ lc)).length (stCs (la ++ (lb ++ lc)))) ∧ Below L.heap.size L w' := by
  have hbW : Below L.heap.size L W := by
    rcases hW with rfl | rfl
    · exact below_new (Below.refl _ _) _
    · exact below_drew (below_new (Below.refl _ _) _)
  have rw1 : RowAt W L.heap.size [.slice oa na ca, .slice ob nb cb, .slice oc nc cc] 22 := by
    rcases hW with rfl | rfl
    · exact RowAt.new _ _ _
    · exact (RowAt.new _ _ _).drew
  refine (concat_any L.heap.size la lb lc oa ob oc na nb nc ca cb cc W rw1.lt (rw1.cell 0) (rw1.cell 1) (rw1.cell 2) ea eb ec (ha.keep hbW) (hb.keep hbW) (hc.keep hbW) hla hlb hlc).mono ?_
  rintro e w' ⟨v, rfl, ho, hb'⟩
  exact ⟨v, rfl, ⟨W.heap.size, hbW.size, ho⟩, below2 hbW hb'⟩
theorem three3 (L : World) (s : St) (la lc : List St) (oa oc : Option Addr) (na nc ca cc : Nat) (ea : na = la.length) (ec : nc = lc.length)
    (ha : HasSts L (.slice oa na ca) la) (hc : HasSts L (.slice oc nc cc) lc) (hla : na ≤ 1000) (hlc : nc ≤ 1000) (W : World)
    (hW : W = (L.alloc (.cells #[.int .i64 s.router, .int .u64 (s.seq : Int), .int .i64 s.time, .bool s.up] 70)).alloc (.cells #[.slice oa na ca, .slice (some ⟨L.heap.size, 0, none⟩) 1 1, .slice oc nc cc] 22) ∨ W = ((L.alloc (.cells #[.int .i64 s.router, .int .u64 (s.seq : Int), .int .i64 s.time, .bool s.up] 70)).alloc (.cells #[.slice oa na ca, .slice (some ⟨L.heap.size, 0, none⟩) 1 1, .slice oc nc cc] 22)).drew) :
    Calls Tryz.prog 84 #[.slice (some ⟨L.heap.size + 1, 0, none⟩) 3 3] W fun e w' => ∃ v, e = .returned v ∧ (∃ B, L.heap.size ≤ B ∧ w'.ownsRow B 70 4 v (la ++ ([s] ++ lc)).length (stCs (la ++ ([s] ++ lc)))) ∧ Below L.heap.size L w' := by
  have hb := below_new (Below.refl _ L) (.cells #[.int .i64 s.router, .int .u64 (s.seq : Int), .int .i64 s.time, .bool s.up] 70)
  have h := three (L.alloc (.cells #[.int .i64 s.router, .int .u64 (s.seq : Int), .int .i64 s.time, .bool s.up] 70)) la [s] lc oa _ oc na 1 nc ca 1 cc ea rfl ec (ha.keep hb) (one_has L s) (hc.keep hb) hla (by decide) hlc W hW
  have e1 : (L.alloc (.cells #[.int .i64 s.router, .int .u64 (s.seq : Int), .int .i64 s.time, .bool s.up] 70)).heap.size = L.heap.size + 1 := World.size_alloc _ _
  rw [show (⟨(L.alloc (.cells #[.int .i64 s.router, .int .u64 (s.seq : Int), .int .i64 s.time, .bool s.up] 70)).heap.size, 0, none⟩ : Addr) = ⟨L.heap.size + 1, 0, none⟩ by rw [e1]] at h
  refine h.mono ?_
  rintro e w' ⟨v, rfl, ⟨B, hB, ho⟩, hb'⟩
  exact ⟨v, rfl, ⟨B, Nat.le_trans hb.size hB, ho⟩, below2 hb hb'⟩
set_option maxHeartbeats 8000000 in
set_option maxRecDepth 20000 in
theorem seated_any (l : List St) (v : Value) (s : St) (w : World) (h : HasSts w v l) (hl : l.length ≤ 1000) :
    Calls Tryz.prog 56 #[v, stV s] w fun e w' => ∃ u, e = .returned u ∧ (∃ B, w.heap.size ≤ B ∧ w'.ownsRow B 70 4 u (seatedL l s).length (stCs (seatedL l s))) ∧ Below w.heap.size w w' := by
  show Calls Tryz.prog 56 #[v, .agg #[.int .i64 s.router, .int .u64 (s.seq : Int), .int .i64 s.time, .bool s.up]] w _
  obtain ⟨X, hX⟩ : ∃ X, X = w.alloc (.cells #[.int .i64 s.router, .int .u64 (s.seq : Int), .int .i64 s.time, .bool s.up] 70) := ⟨_, rfl⟩
  have hB : Below w.heap.size w X := by rw [hX]; exact below_new (Below.refl _ _) _
  have rx : RowAt X w.heap.size [.int .i64 s.router, .int .u64 (s.seq : Int), .int .i64 s.time, .bool s.up] 70 := by rw [hX]; exact RowAt.new _ _ _
  have hXs := h.keep hB
  have c1 : Hid (∀ W : World, Below X.heap.size X W → Calls Tryz.prog 85 #[v, .func (.func 82) #[] #[.pointer (some ⟨w.heap.size, 0, none⟩)]] W fun e w' => ∃ u, e = .returned u ∧ w'.ownsRow W.heap.size 70 4 u (ahead l s.router).length (stCs (ahead l s.router)) ∧ Below W.heap.size W w') := fun W hb => ahead_any l v w.heap.size _ _ _ _ W (hXs.keep hb) (rx.below hb) hl
  have c2 : Hid (∀ W : World, Below X.heap.size X W → Calls Tryz.prog 85 #[v, .func (.func 83) #[] #[.pointer (some ⟨w.heap.size, 0, none⟩)]] W fun e w' => ∃ u, e = .returned u ∧ w'.ownsRow W.heap.size 70 4 u (behind l s.router).length (stCs (behind l s.router)) ∧ Below W.heap.size W w') := fun W hb => behind_any l v w.heap.size _ _ _ _ W (hXs.keep hb) (rx.below hb) hl
  have HSK : Hid (∀ W : World, Below X.heap.size X W → (W.cell? ⟨w.heap.size, 0, none⟩ = some (.int .i64 s.router) ∧ W.cell? ⟨w.heap.size, 1, none⟩ = some (.int .u64 (s.seq : Int)) ∧ W.cell? ⟨w.heap.size, 2, none⟩ = some (.int .i64 s.time) ∧ W.cell? ⟨w.heap.size, 3, none⟩ = some (.bool s.up))) := fun W hb => by
    have r := RowAt.below rx hb
    exact ⟨r.cell 0, r.cell 1, r.cell 2, r.cell 3⟩
  have HL : Hid (seatedL l s = ahead l s.router ++ ([s] ++ behind l s.router)) := rfl
  generalize seatedL l s = RL at HL ⊢
  obtain ⟨hla, hlb⟩ := seats_len l s.router
  have hla1 : (ahead l s.router).length ≤ 1000 := by omega
  have hlb1 : (behind l s.router).length ≤ 1000 := by omega
  generalize ahead l s.router = LA at *
  generalize behind l s.router = LB at *
  obtain ⟨x0, x1, x2, x3, xf⟩ := cells4 rx
  have hbA : Below X.heap.size X X := Below.refl _ _
  have hone : 1 = [s].length := rfl
  have H1000 : Hid (1 ≤ 1000) := by show 1 ≤ 1000; decide
  have HONE : Hid (1 = [s].length) := hone
  clear hone
  clear h hXs rx hla hlb hl
  go_enter Tryz.func56, Tryz.ntmps56
  go_upto_region 1 with fail
  rw [← hX]
  clear hX
  go_upto_region 3 with fail
  go_region_held (fun w' => w'.cell? ⟨w.heap.size, 0, none⟩ = some (.int .i64 s.router) ∧ w'.cell? ⟨w.heap.size, 1, none⟩ = some (.int .u64 (s.seq : Int)) ∧ w'.cell? ⟨w.heap.size, 2, none⟩ = some (.int .i64 s.time) ∧ w'.cell? ⟨w.heap.size, 3, none⟩ = some (.bool s.up))
    (first
      | (refine HSK.out _ ?_
         repeat' (first | with_reducible exact hbA | with_reducible apply below_drew | with_reducible apply below_new))
      | go_keep)
    (first
      | (go_at_call 85
         with_reducible refine (c1.out _ (by repeat' (first | with_reducible exact hbA | with_reducible apply below_drew | with_reducible apply below_new))).mono ?_
         rintro e w3 ⟨u1, rfl, ho1, hb3⟩
         obtain ⟨oa, ca, rfl⟩ := own_slice ho1
         (first | (with_reducible have hlit := one_keep s hb3) | (with_reducible have hlit := one_keep2 s hb3) | skip)
         have hbN : Below X.heap.size X w3 := below2 (by repeat' (first | with_reducible exact hbA | with_reducible apply below_drew | with_reducible apply below_new)) hb3
         have hra : HasSts w3 (.slice oa LA.length ca) LA := hasRow_own ho1
         clear hbA ho1 hb3
         have hbA := hbN
         clear hbN)
      | (go_at_call 85
         with_reducible refine (c2.out _ (by repeat' (first | with_reducible exact hbA | with_reducible apply below_drew | with_reducible apply below_new))).mono ?_
         rintro e w4 ⟨u2, rfl, ho2, hb4⟩
         obtain ⟨ob, cb, rfl⟩ := own_slice ho2
         (first | (with_reducible have hlit := one_keep s hb4) | (with_reducible have hlit := one_keep2 s hb4) | skip)
         have hbN : Below X.heap.size X w4 := below2 (by repeat' (first | with_reducible exact hbA | with_reducible apply below_drew | with_reducible apply below_new)) hb4
         have h34 : Below w3.heap.size w3 w4 := below2 (by repeat' (first | with_reducible exact Below.refl _ _ | with_reducible apply below_drew | with_reducible apply below_new)) hb4
         have hrb : HasSts w4 (.slice ob LB.length cb) LB := hasRow_own ho2
         replace hra := HasSts.keep hra h34
         (first | (with_reducible replace hlit := HasSts.keep hlit h34) | skip)
         clear hbA ho2 hb4
         have hbA := hbN
         clear hbN)
      | (go_at_call 84
         (first
           | (with_reducible refine (three w4 LA [s] LB oa _ ob LA.length 1 LB.length ca 1 cb rfl HONE.out rfl hra hlit hrb hla1 H1000.out hlb1 _ (.inl rfl)).mono ?_)
           | (with_reducible refine (three w4 LA [s] LB oa _ ob LA.length 1 LB.length ca 1 cb rfl HONE.out rfl hra hlit hrb hla1 H1000.out hlb1 _ (.inr rfl)).mono ?_)
           | (with_reducible refine (three3 w4 s LA LB oa ob LA.length LB.length ca cb rfl rfl hra hrb hla1 hlb1 _ (.inl rfl)).mono ?_)
           | (with_reducible refine (three3 w4 s LA LB oa ob LA.length LB.length ca cb rfl rfl hra hrb hla1 hlb1 _ (.inr rfl)).mono ?_))
         rintro e w5 ⟨u3, rfl, ⟨B5, hB5, ho5⟩, hb5⟩
         have hB6 : X.heap.size ≤ B5 := Nat.le_trans (Below.size (by repeat' (first | with_reducible exact hbA | with_reducible apply below_drew | with_reducible apply below_new))) hB5
         have hbN : Below X.heap.size X w5 := below2 (by repeat' (first | with_reducible exact hbA | with_reducible apply below_drew | with_reducible apply below_new)) hb5
         clear hbA hB5
         have hbA := hbN
         clear hbN))
  all_goals go_wp2_with fail
  all_goals go_ret
  all_goals exact ⟨_, rfl, ⟨B5, Nat.le_trans hB.size hB6, by rw [HL.out]; exact ho5⟩, below2 hB hbA⟩
end Go.Proofs.YtkjhnefbcnnjlaaGreat.Ord
