/- What a put makes of routes, plain. -/
import Derived.Test.YtkjhnefbcnnjlaaTv13
import Derived.Test.YtkjhnefbcnnjlaaTv11
import Derived.Test.YtkjhnefbcnnjlaaTv06
import Derived.Test.YtkjhnefbcnnjlaaTv07
import Derived.Test.YtkjhnefbcnnjlaaTv09
set_option linter.unusedVariables false
namespace Go.Proofs.Ytkjhnefbcnnjlaa.Ord
open Go.RowKit
open Go.Proofs.Ytkjhnefbcnnjlaa.Msg (Ev okE checkE evV FitE echeck_any cells12')
open Go.Proofs.Ytkjhnefbcnnjlaa.Addr (RowAt below2 below_new RowAt.below RowAt.new RowAt.alloc cells4)

set_option maxHeartbeats 4000000 in
set_option maxRecDepth 20000 in
theorem ask_walk (v : Value) (c0 c1 c2 c3 c5 c6 c7 c8 c9 c10 c11 : Int) (cs : Bool) (h : Int) (w : World) (E1 E2 R : Int)
    (k1 : ∀ W : World, Below w.heap.size w W → Calls Try.prog 27 #[v] W fun e w' => e = .returned (.int .i64 E1) ∧ Below W.heap.size W w')
    (k2 : ∀ W : World, Calls Try.prog 18 #[.agg #[.int .u8 c0, .int .i64 c1, .int .u64 c2, .int .i64 c3, .bool cs, .int .u64 c5, .int .u64 c6, .int .i64 c7, .int .u8 c8, .int .i64 c9, .int .i64 c10, .int .i64 c11]] W fun e w' => e = .returned (.int .i64 E2) ∧ Below W.heap.size W w')
    (H1 : E1 ≠ 0 → Hid (R = 2)) (H2 : E2 ≠ 0 → Hid (R = 2)) (H3 : E1 = 0 → E2 = 0 → (h < -1 ∨ 1099511627776 < h) → Hid (R = 1)) (H4 : E1 = 0 → E2 = 0 → ¬ (h < -1 ∨ 1099511627776 < h) → Hid (R = 0)) :
    Calls Try.prog 52 #[v, .agg #[.int .u8 c0, .int .i64 c1, .int .u64 c2, .int .i64 c3, .bool cs, .int .u64 c5, .int .u64 c6, .int .i64 c7, .int .u8 c8, .int .i64 c9, .int .i64 c10, .int .i64 c11], .int .i64 h] w fun e w' => e = .returned (.int .i64 R) ∧ Below w.heap.size w w' := by
  obtain ⟨X, hX⟩ : ∃ X, X = w.alloc (.cells #[.int .u8 c0, .int .i64 c1, .int .u64 c2, .int .i64 c3, .bool cs, .int .u64 c5, .int .u64 c6, .int .i64 c7, .int .u8 c8, .int .i64 c9, .int .i64 c10, .int .i64 c11] 49) := ⟨_, rfl⟩
  have hB : Below w.heap.size w X := by rw [hX]; exact below_new (Below.refl _ _) _
  have r0 : RowAt X w.heap.size [.int .u8 c0, .int .i64 c1, .int .u64 c2, .int .i64 c3, .bool cs, .int .u64 c5, .int .u64 c6, .int .i64 c7, .int .u8 c8, .int .i64 c9, .int .i64 c10, .int .i64 c11] 49 := by rw [hX]; exact RowAt.new _ _ _
  go_enter Try.func52, Try.ntmps52
  go_upto_region 1 with fail
  rw [← hX]
  clear hX
  go_wp2_with fail
  go_at_call 27; refine (k1 _ hB).mono ?_; rintro e w1 ⟨rfl, hb1⟩
  replace hB := below2 hB hb1
  replace r0 := RowAt.below r0 hb1
  clear hb1 k1
  obtain ⟨⟨y0, y1, y2, y3, y4, y5⟩, ⟨y6, y7, y8, y9, y10, y11⟩, yf, hly⟩ := cells12' r0
  by_cases h1 : E1 = 0
  · subst h1
    go_wp2_with fail
    go_at_call 18; refine (k2 _).mono ?_; rintro e w2 ⟨rfl, hb2⟩
    replace hB := below2 hB hb2
    clear y0 y1 y2 y3 y4 y5 y6 y7 y8 y9 y10 y11 yf hly hb2 r0 k2
    by_cases h2 : E2 = 0
    · subst h2
      by_cases h3 : h < -1
      · have HV := (H3 (by trivial) (by trivial) (.inl h3))
        have q1 : decide (h < -1) = true := decide_eq_true h3
        clear H1 H2 H3 H4
        go_wp2_with fail
        go_ret
        exact ⟨by rw [HV.out]; rfl, hB⟩
      · have q1 : decide (h < -1) = false := decide_eq_false h3
        by_cases h4 : 1099511627776 < h
        · have HV := (H3 (by trivial) (by trivial) (.inr h4))
          have q2 : decide (1099511627776 < h) = true := decide_eq_true h4
          clear H1 H2 H3 H4
          go_wp2_with fail
          go_ret
          exact ⟨by rw [HV.out]; rfl, hB⟩
        · have HV := (H4 (by trivial) (by trivial) (fun c => c.elim h3 h4))
          have q2 : decide (1099511627776 < h) = false := decide_eq_false h4
          clear H1 H2 H3 H4
          go_wp2_with fail
          go_ret
          exact ⟨by rw [HV.out]; rfl, hB⟩
    · have HV := H2 h2
      have q1 : (E2 == 0) = false := beq_eq_false_iff_ne.2 h2
      have q2 : (E2 != 0) = true := bne_iff_ne.2 h2
      clear H1 H2 H3 H4 h2
      go_wp2_with fail
      go_ret
      exact ⟨by rw [HV.out]; rfl, hB⟩
  · have HV := H1 h1
    have q1 : (E1 == 0) = false := beq_eq_false_iff_ne.2 h1
    have q2 : (E1 != 0) = true := bne_iff_ne.2 h1
    clear H1 H2 H3 H4 h1 y0 y1 y2 y3 y4 y5 y6 y7 y8 y9 y10 y11 yf hly r0
    go_wp2_with fail
    go_ret
    exact ⟨by rw [HV.out]; rfl, hB⟩
theorem ask_any (l : List St) (v : Value) (e : Ev) (h : Int) (w : World) (hl : HasSts w v l) (hf : FitE e) :
    Calls Try.prog 52 #[v, evV e, .int .i64 h] w fun r w' => r = .returned (.int .i64 (askL l e h)) ∧ Below w.heap.size w w' := by
  have c1 : checkL l = if okL l = true then 0 else 2 := rfl
  have c2 : checkE e = if okE e = true then 0 else 2 := rfl
  refine ask_walk v _ _ _ _ _ _ _ _ _ _ _ _ h w (checkL l) (checkE e) _ (fun W hb => check_any l v W (hl.keep hb)) (fun W => echeck_any e W hf) ?_ ?_ ?_ ?_
  · intro h1
    show _ = _
    unfold askL
    cases hk : okL l with
    | true => rw [c1, hk] at h1; exact absurd rfl h1
    | false => rfl
  · intro h1
    show _ = _
    unfold askL
    cases hk : okE e with
    | true => rw [c2, hk] at h1; exact absurd rfl h1
    | false => rw [Bool.and_false]; rfl
  · intro h1 h2 h3
    show _ = _
    unfold askL
    cases hk : okL l with
    | false => rw [c1, hk] at h1; exact absurd h1 (by decide)
    | true =>
      cases hk2 : okE e with
      | false => rw [c2, hk2] at h2; exact absurd h2 (by decide)
      | true =>
        show (if h < -1 ∨ 1099511627776 < h then (1 : Int) else 0) = 1
        rw [if_pos h3]
  · intro h1 h2 h3
    show _ = _
    unfold askL
    cases hk : okL l with
    | false => rw [c1, hk] at h1; exact absurd h1 (by decide)
    | true =>
      cases hk2 : okE e with
      | false => rw [c2, hk2] at h2; exact absurd h2 (by decide)
      | true =>
        show (if h < -1 ∨ 1099511627776 < h then (1 : Int) else 0) = 0
        rw [if_neg h3]
set_option maxHeartbeats 8000000 in
set_option maxRecDepth 20000 in
theorem mis_walk (o : Option Addr) (n cp : Nat) (c0 c1 c2 c3 c5 c6 c7 c8 c9 c10 c11 : Int) (cs : Bool) (h : Int) (w : World) (s0 s1 s2 : Int) (su is : Bool) (R : Int)
    (k1 : ∀ W : World, Below w.heap.size w W → Calls Try.prog 73 #[.slice o n cp, .int .i64 c1] W fun e w' => e = .returned (.tuple #[.agg #[.int .i64 s0, .int .u64 s1, .int .i64 s2, .bool su], .bool is]) ∧ Below W.heap.size W w')
    (hs : 0 ≤ s1 ∧ s1 ≤ 1099511627776) (hn : (n : Int) ≤ 64)
    (H1 : is = false ∧ c0 ≠ 1 → Hid (R = 14)) (H2 : ¬ (is = false ∧ c0 ≠ 1) → c2 ≠ s1 + 1 → Hid (R = 12)) (H3 : ¬ (is = false ∧ c0 ≠ 1) → c2 = s1 + 1 → (c3 < s2 ∨ c3 ≤ h) → Hid (R = 13))
    (H4 : ¬ (is = false ∧ c0 ≠ 1) → c2 = s1 + 1 → ¬ (c3 < s2 ∨ c3 ≤ h) → decide (c0 = 1) = su → Hid (R = 10))
    (H5 : ¬ (is = false ∧ c0 ≠ 1) → c2 = s1 + 1 → ¬ (c3 < s2 ∨ c3 ≤ h) → decide (c0 = 1) ≠ su → (is = false ∧ (n : Int) = 64) → Hid (R = 8))
    (H6 : ¬ (is = false ∧ c0 ≠ 1) → c2 = s1 + 1 → ¬ (c3 < s2 ∨ c3 ≤ h) → decide (c0 = 1) ≠ su → ¬ (is = false ∧ (n : Int) = 64) → Hid (R = 0)) :
    Calls Try.prog 53 #[.slice o n cp, .agg #[.int .u8 c0, .int .i64 c1, .int .u64 c2, .int .i64 c3, .bool cs, .int .u64 c5, .int .u64 c6, .int .i64 c7, .int .u8 c8, .int .i64 c9, .int .i64 c10, .int .i64 c11], .int .i64 h] w fun e w' => e = .returned (.int .i64 R) ∧ Below w.heap.size w w' := by
  have hwr : IntKind.u64.wrap (s1 + 1) = s1 + 1 := by rw [IntKind.wrap_u64]; omega
  obtain ⟨X, hX⟩ : ∃ X, X = w.alloc (.cells #[.int .u8 c0, .int .i64 c1, .int .u64 c2, .int .i64 c3, .bool cs, .int .u64 c5, .int .u64 c6, .int .i64 c7, .int .u8 c8, .int .i64 c9, .int .i64 c10, .int .i64 c11] 49) := ⟨_, rfl⟩
  have hB : Below w.heap.size w X := by rw [hX]; exact below_new (Below.refl _ _) _
  have r0 : RowAt X w.heap.size [.int .u8 c0, .int .i64 c1, .int .u64 c2, .int .i64 c3, .bool cs, .int .u64 c5, .int .u64 c6, .int .i64 c7, .int .u8 c8, .int .i64 c9, .int .i64 c10, .int .i64 c11] 49 := by rw [hX]; exact RowAt.new _ _ _
  go_enter Try.func53, Try.ntmps53
  go_upto_region 1 with fail
  rw [← hX]
  clear hX
  obtain ⟨⟨y0, y1, y2, y3, y4, y5⟩, ⟨y6, y7, y8, y9, y10, y11⟩, yf, hly⟩ := cells12' r0
  go_wp2_with fail
  go_at_call 73; refine (k1 _ hB).mono ?_; rintro e w1 ⟨rfl, hb1⟩
  replace hB := below2 hB hb1
  replace r0 := RowAt.below r0 hb1
  clear hb1 k1 y0 y1 y2 y3 y4 y5 y6 y7 y8 y9 y10 y11 yf hly
  obtain ⟨⟨y0, y1, y2, y3, y4, y5⟩, ⟨y6, y7, y8, y9, y10, y11⟩, yf, hly⟩ := cells12' r0
  go_upto_region 2 with fail
  obtain ⟨Y, hY⟩ : ∃ Y, Y = w1.alloc (.cells #[.int .i64 s0, .int .u64 s1, .int .i64 s2, .bool su] 33) := ⟨_, rfl⟩
  have hbY : Below w1.heap.size w1 Y := by rw [hY]; exact below_new (Below.refl _ _) _
  have r1 : RowAt Y w1.heap.size [.int .i64 s0, .int .u64 s1, .int .i64 s2, .bool su] 33 := by rw [hY]; exact RowAt.new _ _ _
  rw [← hY]
  replace r0 := RowAt.below r0 hbY
  replace hB := below2 hB hbY
  clear hY hbY y0 y1 y2 y3 y4 y5 y6 y7 y8 y9 y10 y11 yf hly
  generalize w1.heap.size = g1 at r1 ⊢
  obtain ⟨⟨y0, y1, y2, y3, y4, y5⟩, ⟨y6, y7, y8, y9, y10, y11⟩, yf, hly⟩ := cells12' r0
  obtain ⟨x0, x1, x2, x3, xf⟩ := cells4 r1
  clear r0 r1
  generalize hs1 : s1 + 1 = t1 at *
  by_cases b1 : is = false ∧ c0 ≠ 1
  · have HV := H1 b1
    obtain ⟨rfl, b2⟩ := b1
    have q1 : (c0 == 1) = false := beq_eq_false_iff_ne.2 b2
    clear H1 H2 H3 H4 H5 H6 b2
    go_wp2_with fail
    go_ret
    exact ⟨by rw [HV.out]; rfl, hB⟩
  replace H2 := H2 b1
  replace H3 := H3 b1
  replace H4 := H4 b1
  replace H5 := H5 b1
  replace H6 := H6 b1
  clear H1
  have hc : (is = true ∧ ((c0 == 1) = false ∨ c0 = 1)) ∨ (is = false ∧ c0 = 1) := by
    by_cases b2 : c0 = 1
    · cases is
      · exact .inr ⟨rfl, b2⟩
      · exact .inl ⟨rfl, .inr b2⟩
    · cases is
      · exact absurd ⟨rfl, b2⟩ b1
      · exact .inl ⟨rfl, .inl (beq_eq_false_iff_ne.2 b2)⟩
  clear b1
  by_cases b3 : c2 = t1
  · replace H3 := H3 b3
    replace H4 := H4 b3
    replace H5 := H5 b3
    replace H6 := H6 b3
    clear H2
    subst b3
    by_cases b4 : c3 < s2 ∨ c3 ≤ h
    · have HV := H3 b4
      clear H3 H4 H5 H6
      by_cases b5 : c3 < s2
      · have q3 : decide (c3 < s2) = true := decide_eq_true b5
        rcases hc with ⟨rfl, q1 | rfl⟩ | ⟨rfl, rfl⟩
        all_goals
          go_wp2_with fail
          go_ret
          exact ⟨by rw [HV.out]; rfl, hB⟩
      · have q3 : decide (c3 < s2) = false := decide_eq_false b5
        have q4 : decide (c3 ≤ h) = true := decide_eq_true (b4.resolve_left b5)
        rcases hc with ⟨rfl, q1 | rfl⟩ | ⟨rfl, rfl⟩
        all_goals
          go_wp2_with fail
          go_ret
          exact ⟨by rw [HV.out]; rfl, hB⟩
    · have q3 : decide (c3 < s2) = false := decide_eq_false (fun c => b4 (.inl c))
      have q4 : decide (c3 ≤ h) = false := decide_eq_false (fun c => b4 (.inr c))
      replace H4 := H4 b4
      replace H5 := H5 b4
      replace H6 := H6 b4
      clear H3 b4
      rcases hc with ⟨rfl, q1 | rfl⟩ | ⟨rfl, rfl⟩
      · have e1 : decide (c0 = 1) = false := decide_eq_false (beq_eq_false_iff_ne.1 q1)
        cases su
        · have HV := H4 e1
          clear H4 H5 H6 e1
          go_wp2_with fail
          go_ret
          exact ⟨by rw [HV.out]; rfl, hB⟩
        · have HV := H6 (by rw [e1]; decide) (fun c => absurd c.1 (by decide))
          clear H4 H5 H6 e1
          go_wp2_with fail
          go_ret
          exact ⟨by rw [HV.out]; rfl, hB⟩
      · cases su
        · have HV := H6 (by decide) (fun c => absurd c.1 (by decide))
          clear H4 H5 H6
          go_wp2_with fail
          go_ret
          exact ⟨by rw [HV.out]; rfl, hB⟩
        · have HV := H4 (by decide)
          clear H4 H5 H6
          go_wp2_with fail
          go_ret
          exact ⟨by rw [HV.out]; rfl, hB⟩
      · cases su
        · by_cases b6 : (n : Int) = 64
          · have HV := H5 (by decide) ⟨rfl, b6⟩
            have q6 : ((n : Int) == 64) = true := by rw [b6]; rfl
            have q7 : (n == 64) = true := by simp; omega
            clear H4 H5 H6 b6
            go_wp2_with fail
            go_ret
            exact ⟨by rw [HV.out]; rfl, hB⟩
          · have HV := H6 (by decide) (fun c => b6 c.2)
            have q6 : ((n : Int) == 64) = false := beq_eq_false_iff_ne.2 b6
            have q7 : (n == 64) = false := beq_eq_false_iff_ne.2 (by omega)
            clear H4 H5 H6 b6
            go_wp2_with fail
            go_ret
            exact ⟨by rw [HV.out]; rfl, hB⟩
        · have HV := H4 (by decide)
          clear H4 H5 H6
          go_wp2_with fail
          go_ret
          exact ⟨by rw [HV.out]; rfl, hB⟩
  · have HV := H2 b3
    have q2 : (c2 == t1) = false := beq_eq_false_iff_ne.2 b3
    have q3 : (c2 != t1) = true := bne_iff_ne.2 b3
    clear H2 H3 H4 H5 H6 b3
    rcases hc with ⟨rfl, q1 | rfl⟩ | ⟨rfl, rfl⟩
    all_goals
      go_wp2_with fail
      go_ret
      exact ⟨by rw [HV.out]; rfl, hB⟩
theorem rise_ok (l : List St) : ∀ p, rise p l = true → ∀ s ∈ l, okS s = true := by
  induction l with
  | nil => intro p _ s hs; cases hs
  | cons x t ih =>
    intro p h s hs
    have h2 : okS x = true ∧ rise (some x.router) t = true := by
      cases p with
      | none => simp only [rise, Bool.and_eq_true] at h; exact h
      | some r => simp only [rise, Bool.and_eq_true] at h; exact ⟨h.1.1, h.2⟩
    rcases List.mem_cons.1 hs with rfl | hs
    · exact h2.1
    · exact ih _ h2.2 s hs
theorem okS_bd {s : St} (h : okS s = true) : (0 ≤ s.router ∧ s.router ≤ 1048576) ∧ (1 ≤ s.seq ∧ s.seq ≤ 1099511627776) ∧ (0 ≤ s.time ∧ s.time ≤ 1099511627776) := by
  unfold okS at h
  simp only [Bool.and_eq_true, decide_eq_true_eq] at h
  omega
theorem okL_all {l : List St} (h : okL l = true) : l.length ≤ 64 ∧ ∀ s ∈ l, okS s = true := by
  unfold okL at h
  simp only [Bool.and_eq_true, decide_eq_true_eq] at h
  exact ⟨h.1, rise_ok l none h.2⟩
theorem seat_bd {l : List St} (h : okL l = true) (r : Int) : (0 : Int) ≤ ((seatOf l r).seq : Int) ∧ ((seatOf l r).seq : Int) ≤ 1099511627776 := by
  refine ⟨by omega, ?_⟩
  unfold seatOf
  cases hf : findL l r with
  | none => show ((0 : Nat) : Int) ≤ _; decide
  | some s =>
    have hm : s ∈ l := List.mem_of_find?_eq_some hf
    have := (okS_bd ((okL_all h).2 s hm)).2.1.2
    show (s.seq : Int) ≤ _
    omega
theorem mis_any (l : List St) (v : Value) (e : Ev) (h : Int) (w : World) (hl : HasSts w v l) (hok : okL l = true) :
    Calls Try.prog 53 #[v, evV e, .int .i64 h] w fun r w' => r = .returned (.int .i64 (misL l e h)) ∧ Below w.heap.size w w' := by
  obtain ⟨o, c, rfl, hc1, hc2⟩ := HasRow.slice hl
  have hn := (okL_all hok).1
  refine mis_walk o l.length c _ _ _ _ _ _ _ _ _ _ _ _ h w (seatOf l e.router).router ((seatOf l e.router).seq : Int) (seatOf l e.router).time (seatOf l e.router).up (isIn l e.router) _ (fun W hb => find_any l _ e.router W (hl.keep hb)) (seat_bd hok e.router) (by omega) ?_ ?_ ?_ ?_ ?_ ?_
  all_goals unfold misL
  all_goals (generalize isIn l e.router = is; generalize seatOf l e.router = s)
  · rintro ⟨h1, h2⟩
    show _ = _
    rw [if_pos ⟨h1, by omega⟩]
  · intro h1 h2
    show _ = _
    rw [if_neg (fun c => h1 ⟨c.1, by omega⟩), if_pos (by omega)]
  · intro h1 h2 h3
    show _ = _
    rw [if_neg (fun c => h1 ⟨c.1, by omega⟩), if_neg (by omega), if_pos h3]
  · intro h1 h2 h3 h4
    have h4' : decide (e.kind = 1) = s.up := by rw [← h4]; exact decide_eq_decide.2 (by omega)
    show _ = _
    rw [if_neg (fun c => h1 ⟨c.1, by omega⟩), if_neg (by omega), if_neg h3, if_pos h4']
  · intro h1 h2 h3 h4 h5
    have h4' : ¬ decide (e.kind = 1) = s.up := by intro c; apply h4; rw [← c]; exact decide_eq_decide.2 (by omega)
    show _ = _
    rw [if_neg (fun c => h1 ⟨c.1, by omega⟩), if_neg (by omega), if_neg h3, if_neg h4', if_pos ⟨h5.1, by omega⟩]
  · intro h1 h2 h3 h4 h5
    have h4' : ¬ decide (e.kind = 1) = s.up := by intro c; apply h4; rw [← c]; exact decide_eq_decide.2 (by omega)
    show _ = _
    rw [if_neg (fun c => h1 ⟨c.1, by omega⟩), if_neg (by omega), if_neg h3, if_neg h4', if_neg (fun c => h5 ⟨c.1, by omega⟩)]
theorem ask_ok {l : List St} {e : Ev} {h : Int} (ha : askL l e h = 0) : okL l = true ∧ okE e = true ∧ -1 ≤ h ∧ h ≤ 1099511627776 := by
  unfold askL at ha
  cases hk : okL l with
  | false => rw [hk] at ha; exact absurd (show (2 : Int) = 0 from ha) (by decide)
  | true =>
    cases hk2 : okE e with
    | false => rw [hk, hk2] at ha; exact absurd (show (2 : Int) = 0 from ha) (by decide)
    | true =>
      rw [hk, hk2] at ha
      replace ha : (if h < -1 ∨ 1099511627776 < h then (1 : Int) else 0) = 0 := ha
      split at ha
      · exact absurd ha (by decide)
      · exact ⟨rfl, rfl, by omega, by omega⟩
end Go.Proofs.Ytkjhnefbcnnjlaa.Ord
namespace Go.Proofs.Ytkjhnefbcnnjlaa.Msg
open Go.RowKit
open Go.Proofs.Ytkjhnefbcnnjlaa.Addr (okP)

theorem okE_bd {e : Ev} (h : okE e = true) : ((1 ≤ e.kind ∧ e.kind ≤ 6) ∧ (0 ≤ e.router ∧ e.router ≤ 1048576) ∧ (1 ≤ e.seq ∧ e.seq ≤ 1099511627776) ∧ (0 ≤ e.time ∧ e.time ≤ 1099511627776)) ∧ (okP e.pf = true ∧ (0 ≤ e.iface ∧ e.iface ≤ 65536) ∧ (0 ≤ e.peer ∧ e.peer ≤ 1048576) ∧ (e.kind = 3 → okA e.act = true)) ∧ unN e = zeroE := by
  unfold okE headB partsB at h
  simp only [Bool.and_eq_true, decide_eq_true_eq, Bool.or_eq_true, and_assoc] at h
  obtain ⟨h1, h2, h3, h4, h5, h6, h7, h8, h9, h10, h11, h12, h13, h14, h15⟩ := h
  refine ⟨⟨⟨h1, h2⟩, ⟨h3, h4⟩, ⟨h5, h6⟩, ⟨h7, h8⟩⟩, ⟨h9, ⟨h10, h11⟩, ⟨h12, h13⟩, fun hk => ?_⟩, (eqE_iff _ _).1 h15⟩
  rcases h14 with h | h
  · exact absurd hk h
  · exact h
end Go.Proofs.Ytkjhnefbcnnjlaa.Msg
namespace Go.Proofs.Ytkjhnefbcnnjlaa.Ord
open Go.Proofs.Ytkjhnefbcnnjlaa.Msg (Ev okE_bd)

def Up (l : List St) : Prop := l.Pairwise (fun a b => a.router < b.router)
theorem rise_iff (l : List St) : ∀ p : Option Int, rise p l = true ↔ (∀ s ∈ l, okS s = true) ∧ Up l ∧ ∀ r, p = some r → ∀ s ∈ l, r < s.router := by
  induction l with
  | nil => intro p; simp [rise, Up]
  | cons x t ih =>
    intro p
    have hx := ih (some x.router)
    have key : rise p (x :: t) = true ↔ (okS x = true ∧ (∀ r, p = some r → r < x.router)) ∧ rise (some x.router) t = true := by
      cases p with
      | none => simp [rise]
      | some r => simp [rise]
    rw [key, hx]
    unfold Up
    rw [List.pairwise_cons]
    constructor
    · rintro ⟨⟨h1, h2⟩, h3, h4, h5⟩
      refine ⟨?_, ⟨fun s hs => h5 _ rfl s hs, h4⟩, ?_⟩
      · intro s hs
        rcases List.mem_cons.1 hs with rfl | hs
        · exact h1
        · exact h3 s hs
      · intro r hr s hs
        rcases List.mem_cons.1 hs with rfl | hs
        · exact h2 r hr
        · exact Int.lt_trans (h2 r hr) (h5 _ rfl s hs)
    · rintro ⟨h1, ⟨h2, h3⟩, h4⟩
      refine ⟨⟨h1 x (by simp), fun r hr => h4 r hr x (by simp)⟩, fun s hs => h1 s (by simp [hs]), h3, ?_⟩
      intro r hr s hs
      injection hr with hr
      subst hr
      exact h2 s hs
theorem okL_iff (l : List St) : okL l = true ↔ l.length ≤ 64 ∧ (∀ s ∈ l, okS s = true) ∧ Up l := by
  unfold okL
  rw [Bool.and_eq_true, decide_eq_true_eq, rise_iff]
  constructor
  · rintro ⟨h1, h2, h3, _⟩; exact ⟨h1, h2, h3⟩
  · rintro ⟨h1, h2, h3⟩; exact ⟨h1, h2, h3, fun r hr => by cases hr⟩
theorem find_mem {l : List St} (h : Up l) : ∀ {s : St}, s ∈ l → findL l s.router = some s := by
  induction l with
  | nil => intro s hs; cases hs
  | cons x t ih =>
    intro s hs
    unfold Up at h
    rw [List.pairwise_cons] at h
    unfold findL
    rw [List.find?_cons]
    rcases List.mem_cons.1 hs with rfl | hs
    · simp
    · have hlt := h.1 s hs
      have hd : decide (x.router = s.router) = false := decide_eq_false (by omega)
      rw [hd]
      exact ih h.2 hs
theorem find_has {l : List St} {r : Int} {s : St} (h : findL l r = some s) : s ∈ l ∧ s.router = r := by
  refine ⟨List.mem_of_find?_eq_some h, ?_⟩
  have := List.find?_some h
  simpa using this
theorem up_len {l : List St} (h : Up l) (r : Int) : l.length = (ahead l r).length + (behind l r).length + (if isIn l r = true then 1 else 0) := by
  induction l with
  | nil => rfl
  | cons x t ih =>
    have h0 := h
    unfold Up at h
    rw [List.pairwise_cons] at h
    have iht := ih h.2
    by_cases h1 : x.router < r
    · have e1 : ahead (x :: t) r = x :: ahead t r := by unfold ahead; rw [List.filter_cons_of_pos (by simpa using h1)]
      have e2 : behind (x :: t) r = behind t r := by unfold behind; rw [List.filter_cons_of_neg (by simp; omega)]
      have e3 : isIn (x :: t) r = isIn t r := by
        unfold isIn findL
        rw [List.find?_cons, decide_eq_false (by omega)]
      rw [e1, e2, e3, List.length_cons, List.length_cons, iht]
      omega
    · have e1 : ahead (x :: t) r = [] := by
        unfold ahead
        rw [List.filter_eq_nil_iff]
        intro s hs
        rcases List.mem_cons.1 hs with rfl | hs
        · simp; omega
        · have := h.1 s hs; simp; omega
      by_cases h2 : x.router = r
      · have e2 : behind (x :: t) r = t := by
          unfold behind
          rw [List.filter_cons_of_neg (by simp; omega), List.filter_eq_self]
          intro s hs
          have := h.1 s hs
          simp; omega
        have e3 : isIn (x :: t) r = true := by
          unfold isIn findL
          rw [List.find?_cons, decide_eq_true h2]
          rfl
        rw [e1, e2, e3, List.length_cons]
        simp
      · have e2 : behind (x :: t) r = x :: t := by
          unfold behind
          rw [List.filter_eq_self]
          intro s hs
          rcases List.mem_cons.1 hs with rfl | hs
          · simp; omega
          · have := h.1 s hs; simp; omega
        have e3 : isIn (x :: t) r = false := by
          unfold isIn findL
          rw [List.find?_eq_none.2]
          · rfl
          · intro s hs
            rcases List.mem_cons.1 hs with rfl | hs
            · simpa using h2
            · have := h.1 s hs; simp; omega
        rw [e1, e2, e3]
        simp
theorem up_seated {l : List St} (h : Up l) (s : St) : Up (seatedL l s) := by
  unfold seatedL Up
  rw [List.pairwise_append]
  refine ⟨List.Pairwise.filter _ h, ?_, ?_⟩
  · rw [List.pairwise_append]
    refine ⟨by simp, List.Pairwise.filter _ h, ?_⟩
    intro a ha b hb
    simp only [List.mem_cons, List.not_mem_nil, or_false] at ha
    subst ha
    unfold behind at hb
    simpa using (List.mem_filter.1 hb).2
  · intro a ha b hb
    have h1 : a.router < s.router := by unfold ahead at ha; simpa using (List.mem_filter.1 ha).2
    rcases List.mem_append.1 hb with hb | hb
    · simp only [List.mem_cons, List.not_mem_nil, or_false] at hb
      subst hb; exact h1
    · have : s.router < b.router := by unfold behind at hb; simpa using (List.mem_filter.1 hb).2
      omega
theorem mem_seated {l : List St} {s t : St} (ht : t ∈ l) (hne : t.router ≠ s.router) : t ∈ seatedL l s := by
  unfold seatedL ahead behind
  rw [List.mem_append, List.mem_append]
  by_cases h : t.router < s.router
  · exact .inl (List.mem_filter.2 ⟨ht, by simpa using h⟩)
  · exact .inr (.inr (List.mem_filter.2 ⟨ht, by simp; omega⟩))
theorem own_seated (l : List St) (s : St) : s ∈ seatedL l s := by
  unfold seatedL
  simp
def aloneL (l : List St) (r : Int) : List St := match findL l r with
  | some s => [s]
  | none => []
/-- what is so where an event was taken -/
theorem taken {l : List St} {e : Ev} {h : Int} (hy : (nextL l e h).2 = 0) :
    okL (nextL l e h).1 = true ∧ (nextL l e h).1.length + (aloneL l e.router).length = l.length + 1 ∧
    (∀ s ∈ l, isIn (nextL l e h).1 s.router = true ∧ (s.router ≠ e.router → seatOf (nextL l e h).1 s.router = s)) := by
  have ha : askL l e h = 0 := by
    by_cases ha : askL l e h = 0
    · exact ha
    · unfold nextL at hy; rw [if_neg ha] at hy; exact absurd hy ha
  have hm : misL l e h = 0 := by
    by_cases hm : misL l e h = 0
    · exact hm
    · unfold nextL at hy; rw [if_pos ha, if_neg hm] at hy; exact absurd hy hm
  obtain ⟨hok, hoe, hh1, hh2⟩ := ask_ok ha
  obtain ⟨hl64, hall, hup⟩ := (okL_iff l).1 hok
  obtain ⟨⟨_, ⟨r1, r2⟩, ⟨q1, q2⟩, ⟨t1, t2⟩⟩, _, _⟩ := okE_bd hoe
  have e1 : (nextL l e h).1 = seatedL l ⟨e.router, e.seq, e.time, decide (e.kind ≠ 2)⟩ := by unfold nextL; rw [if_pos ha, if_pos hm]
  rw [e1]
  generalize hs : (⟨e.router, e.seq, e.time, decide (e.kind ≠ 2)⟩ : St) = s0
  have hr0 : s0.router = e.router := by rw [← hs]
  have hok0 : okS s0 = true := by
    rw [← hs]
    unfold okS
    simp only [Bool.and_eq_true, decide_eq_true_eq]
    omega
  have hu := up_seated hup s0
  have hlen := up_len hup e.router
  have hlm : (seatedL l s0).length = (ahead l e.router).length + (behind l e.router).length + 1 := by
    unfold seatedL
    rw [hr0]
    simp only [List.length_append, List.length_cons, List.length_nil]
    omega
  have hal : (aloneL l e.router).length = if isIn l e.router = true then 1 else 0 := by
    unfold aloneL isIn
    cases findL l e.router <;> rfl
  have hfull : ¬ (isIn l e.router = false ∧ l.length = 64) := by
    intro c
    unfold misL at hm
    split at hm
    · exact absurd hm (by decide)
    · split at hm
      · exact absurd hm (by decide)
      · split at hm
        · exact absurd hm (by decide)
        · split at hm
          · exact absurd hm (by decide)
          · exact absurd hm (by decide)
  refine ⟨?_, by rw [hlm, hal]; omega, ?_⟩
  · rw [okL_iff]
    refine ⟨?_, ?_, hu⟩
    · cases hi : isIn l e.router with
      | true => rw [hi] at hlen; simp only [if_true] at hlen; omega
      | false =>
        have : l.length ≠ 64 := fun c => hfull ⟨hi, c⟩
        rw [hi] at hlen
        simp only [Bool.false_eq_true, if_false] at hlen
        omega
    · intro s hs'
      unfold seatedL at hs'
      rcases List.mem_append.1 hs' with hs' | hs'
      · exact hall s ((List.mem_filter.1 hs').1)
      · rcases List.mem_append.1 hs' with hs' | hs'
        · simp only [List.mem_cons, List.not_mem_nil, or_false] at hs'
          subst hs'; exact hok0
        · exact hall s ((List.mem_filter.1 hs').1)
  · intro s hsl
    by_cases hne : s.router = e.router
    · refine ⟨?_, fun c => absurd hne c⟩
      have := find_mem hu (own_seated l s0)
      unfold isIn
      rw [hne, ← hr0, this]
      rfl
    · have := find_mem hu (mem_seated (s := s0) hsl (by rw [hr0]; exact hne))
      refine ⟨?_, fun _ => ?_⟩
      · unfold isIn; rw [this]; rfl
      · unfold seatOf; rw [this]; rfl
end Go.Proofs.Ytkjhnefbcnnjlaa.Ord
namespace Go.Proofs.Ytkjhnefbcnnjlaa.Ord
open Go.Proofs.Ytkjhnefbcnnjlaa.Msg (Ev okE_bd)

def ofR (r : Int) (l : List Ev) : List Ev := l.filter (fun e => decide (e.router = r))
def cntR (r : Int) (l : List Ev) : Nat := (ofR r l).length
def lastR (r : Int) (l : List Ev) : Int := match (ofR r l).getLast? with
  | some e => e.time
  | none => -1
theorem of_snoc (r : Int) (l : List Ev) (e : Ev) : ofR r (l ++ [e]) = if e.router = r then ofR r l ++ [e] else ofR r l := by
  unfold ofR
  rw [List.filter_append, List.filter_cons, List.filter_nil]
  by_cases h : e.router = r
  · rw [if_pos h, if_pos (by simpa using h)]
  · rw [if_neg h, if_neg (by simpa using h), List.append_nil]
theorem cnt_snoc (r : Int) (l : List Ev) (e : Ev) : cntR r (l ++ [e]) = if e.router = r then cntR r l + 1 else cntR r l := by
  unfold cntR
  rw [of_snoc]
  split
  · rw [List.length_append]; rfl
  · rfl
theorem last_snoc (r : Int) (l : List Ev) (e : Ev) : lastR r (l ++ [e]) = if e.router = r then e.time else lastR r l := by
  unfold lastR
  rw [of_snoc]
  by_cases h : e.router = r
  · rw [if_pos h, if_pos h, List.getLast?_append]; rfl
  · rw [if_neg h, if_neg h]
theorem last_none {r : Int} {l : List Ev} (h : cntR r l = 0) : lastR r l = -1 := by
  unfold lastR
  rw [List.eq_nil_of_length_eq_zero h]
  rfl
structure Inv (l : List St) (pre : List Ev) : Prop where
  ok : okL l = true
  seat : ∀ r, (findL l r = none ∧ cntR r pre = 0) ∨ ∃ s, findL l r = some s ∧ s.seq = cntR r pre ∧ s.time = lastR r pre ∧ 0 < cntR r pre
theorem inv_nil : Inv [] [] := ⟨rfl, fun r => .inl ⟨rfl, rfl⟩⟩
theorem find_seated {l : List St} (h : Up l) (s : St) (r : Int) : findL (seatedL l s) r = if r = s.router then some s else findL l r := by
  have hu := up_seated h s
  by_cases hr : r = s.router
  · rw [if_pos hr, hr]
    exact find_mem hu (own_seated l s)
  · rw [if_neg hr]
    cases hf : findL l r with
    | some t =>
      obtain ⟨ht, htr⟩ := find_has hf
      have := find_mem hu (mem_seated (s := s) ht (by rw [htr]; exact hr))
      rw [htr] at this
      exact this
    | none =>
      cases hg : findL (seatedL l s) r with
      | none => rfl
      | some t =>
        exfalso
        obtain ⟨ht, htr⟩ := find_has hg
        have htl : t ∈ l := by
          unfold seatedL ahead behind at ht
          rcases List.mem_append.1 ht with ht | ht
          · exact (List.mem_filter.1 ht).1
          · rcases List.mem_append.1 ht with ht | ht
            · simp only [List.mem_cons, List.not_mem_nil, or_false] at ht
              subst ht
              exact absurd htr.symm hr
            · exact (List.mem_filter.1 ht).1
        have := find_mem h htl
        rw [htr, hf] at this
        cases this
theorem mis_zero {l : List St} {e : Ev} {h : Int} (hm : misL l e h = 0) : e.seq = (seatOf l e.router).seq + 1 ∧ (seatOf l e.router).time ≤ e.time := by
  unfold misL at hm
  split at hm
  · exact absurd hm (by decide)
  · split at hm
    · exact absurd hm (by decide)
    · split at hm
      · exact absurd hm (by decide)
      · omega
theorem next_zero {l : List St} {e : Ev} {h : Int} (hy : (nextL l e h).2 = 0) : askL l e h = 0 ∧ misL l e h = 0 := by
  have ha : askL l e h = 0 := by
    by_cases ha : askL l e h = 0
    · exact ha
    · unfold nextL at hy; rw [if_neg ha] at hy; exact absurd hy ha
  refine ⟨ha, ?_⟩
  by_cases hm : misL l e h = 0
  · exact hm
  · unfold nextL at hy; rw [if_pos ha, if_neg hm] at hy; exact absurd hy hm
theorem inv_step {l : List St} {pre : List Ev} {e : Ev} {h : Int} (hi : Inv l pre) (hy : (nextL l e h).2 = 0) :
    Inv (nextL l e h).1 (pre ++ [e]) ∧ e.seq = cntR e.router pre + 1 ∧ lastR e.router pre ≤ e.time := by
  obtain ⟨ha, hm⟩ := next_zero hy
  obtain ⟨hok, hoe, _, _⟩ := ask_ok ha
  obtain ⟨⟨_, ⟨r1, r2⟩, ⟨q1, q2⟩, ⟨t1, t2⟩⟩, _, _⟩ := okE_bd hoe
  obtain ⟨m1, m2⟩ := mis_zero hm
  have e1 : (nextL l e h).1 = seatedL l ⟨e.router, e.seq, e.time, decide (e.kind ≠ 2)⟩ := by unfold nextL; rw [if_pos ha, if_pos hm]
  have hs : e.seq = cntR e.router pre + 1 ∧ lastR e.router pre ≤ e.time := by
    rcases hi.seat e.router with ⟨h1, h2⟩ | ⟨s, h1, h2, h3, h4⟩
    · have : seatOf l e.router = zeroS := by unfold seatOf; rw [h1]; rfl
      rw [this] at m1
      refine ⟨by rw [m1, h2]; rfl, by rw [last_none h2]; omega⟩
    · have : seatOf l e.router = s := by unfold seatOf; rw [h1]; rfl
      rw [this] at m1 m2
      exact ⟨by rw [m1, h2], by rw [← h3]; exact m2⟩
  refine ⟨⟨(taken hy).1, fun r => ?_⟩, hs⟩
  rw [e1, find_seated ((okL_iff l).1 hok).2.2, cnt_snoc, last_snoc]
  by_cases hr : r = e.router
  · rw [if_pos hr, if_pos hr.symm, if_pos hr.symm]
    refine .inr ⟨_, rfl, ?_, rfl, by omega⟩
    rw [hr]
    exact hs.1
  · rw [if_neg hr, if_neg (fun c => hr c.symm), if_neg (fun c => hr c.symm)]
    exact hi.seat r
end Go.Proofs.Ytkjhnefbcnnjlaa.Ord
namespace Go.Proofs.Ytkjhnefbcnnjlaa.Tr
open Go.Proofs.Ytkjhnefbcnnjlaa.Addr (Pf)
theorem othersT_len (l : List Rt) (p : Pf) : (othersT l p).length = (aheadT l p).length + (behindT l p).length := by
  unfold othersT aheadT behindT
  induction l with
  | nil => rfl
  | cons x l ih =>
    rcases Int.lt_trichotomy (ordP x.pf p) 0 with h | h | h
    · rw [List.filter_cons_of_pos (by simp; omega), List.filter_cons_of_pos (by simp; omega), List.filter_cons_of_neg (by simp; omega), List.length_cons, List.length_cons, ih]; omega
    · rw [List.filter_cons_of_neg (by simp; omega), List.filter_cons_of_neg (by simp; omega), List.filter_cons_of_neg (by simp; omega), ih]
    · rw [List.filter_cons_of_pos (by simp; omega), List.filter_cons_of_neg (by simp; omega), List.filter_cons_of_pos (by simp; omega), List.length_cons, List.length_cons, ih]; omega
theorem insT_len (l : List Rt) (r : Rt) : (insT l r).length = (othersT l r.pf).length + 1 := by
  unfold insT
  rw [othersT_len]
  simp only [List.length_append, List.length_cons, List.length_nil]
  omega
theorem insT_mem {l : List Rt} {r x : Rt} (h : x ∈ insT l r) : x = r ∨ x ∈ l := by
  unfold insT aheadT behindT at h
  simp only [List.mem_append, List.mem_filter, List.mem_singleton] at h
  rcases h with h | h | h
  · exact .inr h.1
  · exact .inl h
  · exact .inr h.1
theorem insT_up {l : List Rt} {r : Rt} (h : Up l) : Up (insT l r) := by
  unfold insT
  refine List.pairwise_append.2 ⟨h.filter _, List.pairwise_append.2 ⟨List.pairwise_singleton _ _, h.filter _, fun a ha b hb => ?_⟩, fun a ha b hb => ?_⟩
  · rw [List.mem_singleton] at ha
    subst ha
    have := (List.mem_filter.1 hb).2
    simp only [decide_eq_true_eq] at this
    exact (ordP_gt _ _).1 this
  · have h1 := (List.mem_filter.1 ha).2
    simp only [decide_eq_true_eq] at h1
    have h1 := (ordP_lt _ _).1 h1
    rcases List.mem_append.1 hb with hb | hb
    · rw [List.mem_singleton] at hb
      subst hb
      exact h1
    · have := (List.mem_filter.1 hb).2
      simp only [decide_eq_true_eq] at this
      exact ltP_trans h1 ((ordP_gt _ _).1 this)
theorem othersT_le (l : List Rt) (p : Pf) : (othersT l p).length ≤ l.length := List.length_filter_le _ _
theorem putT_ok {l : List Rt} {r : Rt} (h : (putT l r).2 = 0) : okT l = true ∧ okR r = true ∧ (putT l r).1 = insT l r ∧ okT (insT l r) = true := by
  unfold putT at h ⊢
  cases h1 : okT l && okR r with
  | false => rw [h1] at h; simp at h
  | true =>
    rw [h1] at h
    simp only [if_true] at h ⊢
    rw [Bool.and_eq_true] at h1
    by_cases h2 : (othersT l r.pf).length = 256
    · rw [if_pos h2] at h; simp at h
    · rw [if_neg h2]
      obtain ⟨k1, k2, k3⟩ := (okT_iff l).1 h1.1
      refine ⟨h1.1, h1.2, rfl, (okT_iff _).2 ⟨?_, fun x hx => ?_, insT_up k3⟩⟩
      · rw [insT_len]; have := othersT_le l r.pf; omega
      · rcases insT_mem hx with rfl | hx
        · exact h1.2
        · exact k2 x hx
end Go.Proofs.Ytkjhnefbcnnjlaa.Tr
