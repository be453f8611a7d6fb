/- What order.mayAsk, misfit and May return. -/
import Derived.Test.YtckaajadajjijabOrdFind
set_option linter.unusedVariables false
namespace Go.Proofs.Ytckaajadajjijab.Ord
open Go.RowKit
open Go.Proofs.Ytckaajadajjijab.Msg (Ev okE checkE evV evC FitE echeck_any cells12' gkeep gsetO results_cell_tmp1)
open Go.Proofs.Ytckaajadajjijab.Addr (hiN loN RowAt below2 below_drew below_new bset RowAt.lt RowAt.cell RowAt.frozen RowAt.below RowAt.drew RowAt.new RowAt.alloc gdrew gset gbelow galloc grefl gfinal cells2 cells4 results_cell Bl bl_ne wp_region_bl bl_call bl_same)

set_option maxHeartbeats 4000000 in
set_option maxRecDepth 20000 in
theorem ask_walk (v : Value) (c0 c1 c2 c3 c5 c6 c7 c8 c9 c10 c11 : Int) (cs : Bool) (h : Int) (w : World) (E1 E2 R : Int)
    (k1 : ∀ W : World, Below w.heap.size w W → Calls Try.prog 17 #[v] W fun e w' => e = .returned (.int .i64 E1) ∧ Below W.heap.size W w')
    (k2 : ∀ W : World, Calls Try.prog 47 #[.agg #[.int .u8 c0, .int .i64 c1, .int .u64 c2, .int .i64 c3, .bool cs, .int .u64 c5, .int .u64 c6, .int .i64 c7, .int .u8 c8, .int .i64 c9, .int .i64 c10, .int .i64 c11]] W fun e w' => e = .returned (.int .i64 E2) ∧ Below W.heap.size W w')
    (H1 : E1 ≠ 0 → Hid (R = 2)) (H2 : E2 ≠ 0 → Hid (R = 2)) (H3 : E1 = 0 → E2 = 0 → (h < -1 ∨ 1099511627776 < h) → Hid (R = 1)) (H4 : E1 = 0 → E2 = 0 → ¬ (h < -1 ∨ 1099511627776 < h) → Hid (R = 0)) :
    Calls Try.prog 31 #[v, .agg #[.int .u8 c0, .int .i64 c1, .int .u64 c2, .int .i64 c3, .bool cs, .int .u64 c5, .int .u64 c6, .int .i64 c7, .int .u8 c8, .int .i64 c9, .int .i64 c10, .int .i64 c11], .int .i64 h] w fun e w' => e = .returned (.int .i64 R) ∧ Below w.heap.size w w' := by
  obtain ⟨X, hX⟩ : ∃ X, X = w.alloc (.cells #[.int .u8 c0, .int .i64 c1, .int .u64 c2, .int .i64 c3, .bool cs, .int .u64 c5, .int .u64 c6, .int .i64 c7, .int .u8 c8, .int .i64 c9, .int .i64 c10, .int .i64 c11] 39) := ⟨_, rfl⟩
  have hB : Below w.heap.size w X := by rw [hX]; exact below_new (Below.refl _ _) _
  have r0 : RowAt X w.heap.size [.int .u8 c0, .int .i64 c1, .int .u64 c2, .int .i64 c3, .bool cs, .int .u64 c5, .int .u64 c6, .int .i64 c7, .int .u8 c8, .int .i64 c9, .int .i64 c10, .int .i64 c11] 39 := by rw [hX]; exact RowAt.new _ _ _
  go_enter Try.func31, Try.ntmps31
  go_upto_region 1 with fail
  rw [← hX]
  clear hX
  go_wp2_with fail
  go_at_call 17; refine (k1 _ hB).mono ?_; rintro e w1 ⟨rfl, hb1⟩
  replace hB := below2 hB hb1
  replace r0 := RowAt.below r0 hb1
  clear hb1 k1
  obtain ⟨⟨y0, y1, y2, y3, y4, y5⟩, ⟨y6, y7, y8, y9, y10, y11⟩, yf, hly⟩ := cells12' r0
  by_cases h1 : E1 = 0
  · subst h1
    go_wp2_with fail
    go_at_call 47; refine (k2 _).mono ?_; rintro e w2 ⟨rfl, hb2⟩
    replace hB := below2 hB hb2
    clear y0 y1 y2 y3 y4 y5 y6 y7 y8 y9 y10 y11 yf hly hb2 r0 k2
    by_cases h2 : E2 = 0
    · subst h2
      by_cases h3 : h < -1
      · have HV := (H3 (by trivial) (by trivial) (.inl h3))
        have q1 : decide (h < -1) = true := decide_eq_true h3
        clear H1 H2 H3 H4
        go_wp2_with fail
        go_ret
        exact ⟨by rw [HV.out]; rfl, hB⟩
      · have q1 : decide (h < -1) = false := decide_eq_false h3
        by_cases h4 : 1099511627776 < h
        · have HV := (H3 (by trivial) (by trivial) (.inr h4))
          have q2 : decide (1099511627776 < h) = true := decide_eq_true h4
          clear H1 H2 H3 H4
          go_wp2_with fail
          go_ret
          exact ⟨by rw [HV.out]; rfl, hB⟩
        · have HV := (H4 (by trivial) (by trivial) (fun c => c.elim h3 h4))
          have q2 : decide (1099511627776 < h) = false := decide_eq_false h4
          clear H1 H2 H3 H4
          go_wp2_with fail
          go_ret
          exact ⟨by rw [HV.out]; rfl, hB⟩
    · have HV := H2 h2
      have q1 : (E2 == 0) = false := beq_eq_false_iff_ne.2 h2
      have q2 : (E2 != 0) = true := bne_iff_ne.2 h2
      clear H1 H2 H3 H4 h2
      go_wp2_with fail
      go_ret
      exact ⟨by rw [HV.out]; rfl, hB⟩
  · have HV := H1 h1
    have q1 : (E1 == 0) = false := beq_eq_false_iff_ne.2 h1
    have q2 : (E1 != 0) = true := bne_iff_ne.2 h1
    clear H1 H2 H3 H4 h1 y0 y1 y2 y3 y4 y5 y6 y7 y8 y9 y10 y11 yf hly r0
    go_wp2_with fail
    go_ret
    exact ⟨by rw [HV.out]; rfl, hB⟩
theorem ask_any (l : List St) (v : Value) (e : Ev) (h : Int) (w : World) (hl : HasSts w v l) (hf : FitE e) :
    Calls Try.prog 31 #[v, evV e, .int .i64 h] w fun r w' => r = .returned (.int .i64 (askL l e h)) ∧ Below w.heap.size w w' := by
  have c1 : checkL l = if okL l = true then 0 else 2 := rfl
  have c2 : checkE e = if okE e = true then 0 else 2 := rfl
  refine ask_walk v _ _ _ _ _ _ _ _ _ _ _ _ h w (checkL l) (checkE e) _ (fun W hb => check_any l v W (hl.keep hb)) (fun W => echeck_any e W hf) ?_ ?_ ?_ ?_
  · intro h1
    show _ = _
    unfold askL
    cases hk : okL l with
    | true => rw [c1, hk] at h1; exact absurd rfl h1
    | false => rfl
  · intro h1
    show _ = _
    unfold askL
    cases hk : okE e with
    | true => rw [c2, hk] at h1; exact absurd rfl h1
    | false => rw [Bool.and_false]; rfl
  · intro h1 h2 h3
    show _ = _
    unfold askL
    cases hk : okL l with
    | false => rw [c1, hk] at h1; exact absurd h1 (by decide)
    | true =>
      cases hk2 : okE e with
      | false => rw [c2, hk2] at h2; exact absurd h2 (by decide)
      | true =>
        show (if h < -1 ∨ 1099511627776 < h then (1 : Int) else 0) = 1
        rw [if_pos h3]
  · intro h1 h2 h3
    show _ = _
    unfold askL
    cases hk : okL l with
    | false => rw [c1, hk] at h1; exact absurd h1 (by decide)
    | true =>
      cases hk2 : okE e with
      | false => rw [c2, hk2] at h2; exact absurd h2 (by decide)
      | true =>
        show (if h < -1 ∨ 1099511627776 < h then (1 : Int) else 0) = 0
        rw [if_neg h3]
set_option maxHeartbeats 8000000 in
set_option maxRecDepth 20000 in
theorem mis_walk (o : Option Addr) (n cp : Nat) (c0 c1 c2 c3 c5 c6 c7 c8 c9 c10 c11 : Int) (cs : Bool) (h : Int) (w : World) (s0 s1 s2 : Int) (su is : Bool) (R : Int)
    (k1 : ∀ W : World, Below w.heap.size w W → Calls Try.prog 14 #[.slice o n cp, .int .i64 c1] W fun e w' => e = .returned (.tuple #[.agg #[.int .i64 s0, .int .u64 s1, .int .i64 s2, .bool su], .bool is]) ∧ Below W.heap.size W w')
    (hs : 0 ≤ s1 ∧ s1 ≤ 1099511627776) (hn : (n : Int) ≤ 64)
    (H1 : is = false ∧ c0 ≠ 1 → Hid (R = 14)) (H2 : ¬ (is = false ∧ c0 ≠ 1) → c2 ≠ s1 + 1 → Hid (R = 12)) (H3 : ¬ (is = false ∧ c0 ≠ 1) → c2 = s1 + 1 → (c3 < s2 ∨ c3 ≤ h) → Hid (R = 13))
    (H4 : ¬ (is = false ∧ c0 ≠ 1) → c2 = s1 + 1 → ¬ (c3 < s2 ∨ c3 ≤ h) → decide (c0 = 1) = su → Hid (R = 10))
    (H5 : ¬ (is = false ∧ c0 ≠ 1) → c2 = s1 + 1 → ¬ (c3 < s2 ∨ c3 ≤ h) → decide (c0 = 1) ≠ su → (is = false ∧ (n : Int) = 64) → Hid (R = 8))
    (H6 : ¬ (is = false ∧ c0 ≠ 1) → c2 = s1 + 1 → ¬ (c3 < s2 ∨ c3 ≤ h) → decide (c0 = 1) ≠ su → ¬ (is = false ∧ (n : Int) = 64) → Hid (R = 0)) :
    Calls Try.prog 32 #[.slice o n cp, .agg #[.int .u8 c0, .int .i64 c1, .int .u64 c2, .int .i64 c3, .bool cs, .int .u64 c5, .int .u64 c6, .int .i64 c7, .int .u8 c8, .int .i64 c9, .int .i64 c10, .int .i64 c11], .int .i64 h] w fun e w' => e = .returned (.int .i64 R) ∧ Below w.heap.size w w' := by
  have hwr : IntKind.u64.wrap (s1 + 1) = s1 + 1 := by rw [IntKind.wrap_u64]; omega
  obtain ⟨X, hX⟩ : ∃ X, X = w.alloc (.cells #[.int .u8 c0, .int .i64 c1, .int .u64 c2, .int .i64 c3, .bool cs, .int .u64 c5, .int .u64 c6, .int .i64 c7, .int .u8 c8, .int .i64 c9, .int .i64 c10, .int .i64 c11] 39) := ⟨_, rfl⟩
  have hB : Below w.heap.size w X := by rw [hX]; exact below_new (Below.refl _ _) _
  have r0 : RowAt X w.heap.size [.int .u8 c0, .int .i64 c1, .int .u64 c2, .int .i64 c3, .bool cs, .int .u64 c5, .int .u64 c6, .int .i64 c7, .int .u8 c8, .int .i64 c9, .int .i64 c10, .int .i64 c11] 39 := by rw [hX]; exact RowAt.new _ _ _
  go_enter Try.func32, Try.ntmps32
  go_upto_region 1 with fail
  rw [← hX]
  clear hX
  obtain ⟨⟨y0, y1, y2, y3, y4, y5⟩, ⟨y6, y7, y8, y9, y10, y11⟩, yf, hly⟩ := cells12' r0
  go_wp2_with fail
  go_at_call 14; refine (k1 _ hB).mono ?_; rintro e w1 ⟨rfl, hb1⟩
  replace hB := below2 hB hb1
  replace r0 := RowAt.below r0 hb1
  clear hb1 k1 y0 y1 y2 y3 y4 y5 y6 y7 y8 y9 y10 y11 yf hly
  obtain ⟨⟨y0, y1, y2, y3, y4, y5⟩, ⟨y6, y7, y8, y9, y10, y11⟩, yf, hly⟩ := cells12' r0
  go_upto_region 2 with fail
  obtain ⟨Y, hY⟩ : ∃ Y, Y = w1.alloc (.cells #[.int .i64 s0, .int .u64 s1, .int .i64 s2, .bool su] 48) := ⟨_, rfl⟩
  have hbY : Below w1.heap.size w1 Y := by rw [hY]; exact below_new (Below.refl _ _) _
  have r1 : RowAt Y w1.heap.size [.int .i64 s0, .int .u64 s1, .int .i64 s2, .bool su] 48 := by rw [hY]; exact RowAt.new _ _ _
  rw [← hY]
  replace r0 := RowAt.below r0 hbY
  replace hB := below2 hB hbY
  clear hY hbY y0 y1 y2 y3 y4 y5 y6 y7 y8 y9 y10 y11 yf hly
  generalize w1.heap.size = g1 at r1 ⊢
  obtain ⟨⟨y0, y1, y2, y3, y4, y5⟩, ⟨y6, y7, y8, y9, y10, y11⟩, yf, hly⟩ := cells12' r0
  obtain ⟨x0, x1, x2, x3, xf⟩ := cells4 r1
  clear r0 r1
  generalize hs1 : s1 + 1 = t1 at *
  by_cases b1 : is = false ∧ c0 ≠ 1
  · have HV := H1 b1
    obtain ⟨rfl, b2⟩ := b1
    have q1 : (c0 == 1) = false := beq_eq_false_iff_ne.2 b2
    clear H1 H2 H3 H4 H5 H6 b2
    go_wp2_with fail
    go_ret
    exact ⟨by rw [HV.out]; rfl, hB⟩
  replace H2 := H2 b1
  replace H3 := H3 b1
  replace H4 := H4 b1
  replace H5 := H5 b1
  replace H6 := H6 b1
  clear H1
  have hc : (is = true ∧ ((c0 == 1) = false ∨ c0 = 1)) ∨ (is = false ∧ c0 = 1) := by
    by_cases b2 : c0 = 1
    · cases is
      · exact .inr ⟨rfl, b2⟩
      · exact .inl ⟨rfl, .inr b2⟩
    · cases is
      · exact absurd ⟨rfl, b2⟩ b1
      · exact .inl ⟨rfl, .inl (beq_eq_false_iff_ne.2 b2)⟩
  clear b1
  by_cases b3 : c2 = t1
  · replace H3 := H3 b3
    replace H4 := H4 b3
    replace H5 := H5 b3
    replace H6 := H6 b3
    clear H2
    subst b3
    by_cases b4 : c3 < s2 ∨ c3 ≤ h
    · have HV := H3 b4
      clear H3 H4 H5 H6
      by_cases b5 : c3 < s2
      · have q3 : decide (c3 < s2) = true := decide_eq_true b5
        rcases hc with ⟨rfl, q1 | rfl⟩ | ⟨rfl, rfl⟩
        all_goals
          go_wp2_with fail
          go_ret
          exact ⟨by rw [HV.out]; rfl, hB⟩
      · have q3 : decide (c3 < s2) = false := decide_eq_false b5
        have q4 : decide (c3 ≤ h) = true := decide_eq_true (b4.resolve_left b5)
        rcases hc with ⟨rfl, q1 | rfl⟩ | ⟨rfl, rfl⟩
        all_goals
          go_wp2_with fail
          go_ret
          exact ⟨by rw [HV.out]; rfl, hB⟩
    · have q3 : decide (c3 < s2) = false := decide_eq_false (fun c => b4 (.inl c))
      have q4 : decide (c3 ≤ h) = false := decide_eq_false (fun c => b4 (.inr c))
      replace H4 := H4 b4
      replace H5 := H5 b4
      replace H6 := H6 b4
      clear H3 b4
      rcases hc with ⟨rfl, q1 | rfl⟩ | ⟨rfl, rfl⟩
      · have e1 : decide (c0 = 1) = false := decide_eq_false (beq_eq_false_iff_ne.1 q1)
        cases su
        · have HV := H4 e1
          clear H4 H5 H6 e1
          go_wp2_with fail
          go_ret
          exact ⟨by rw [HV.out]; rfl, hB⟩
        · have HV := H6 (by rw [e1]; decide) (fun c => absurd c.1 (by decide))
          clear H4 H5 H6 e1
          go_wp2_with fail
          go_ret
          exact ⟨by rw [HV.out]; rfl, hB⟩
      · cases su
        · have HV := H6 (by decide) (fun c => absurd c.1 (by decide))
          clear H4 H5 H6
          go_wp2_with fail
          go_ret
          exact ⟨by rw [HV.out]; rfl, hB⟩
        · have HV := H4 (by decide)
          clear H4 H5 H6
          go_wp2_with fail
          go_ret
          exact ⟨by rw [HV.out]; rfl, hB⟩
      · cases su
        · by_cases b6 : (n : Int) = 64
          · have HV := H5 (by decide) ⟨rfl, b6⟩
            have q6 : ((n : Int) == 64) = true := by rw [b6]; rfl
            have q7 : (n == 64) = true := by simp; omega
            clear H4 H5 H6 b6
            go_wp2_with fail
            go_ret
            exact ⟨by rw [HV.out]; rfl, hB⟩
          · have HV := H6 (by decide) (fun c => b6 c.2)
            have q6 : ((n : Int) == 64) = false := beq_eq_false_iff_ne.2 b6
            have q7 : (n == 64) = false := beq_eq_false_iff_ne.2 (by omega)
            clear H4 H5 H6 b6
            go_wp2_with fail
            go_ret
            exact ⟨by rw [HV.out]; rfl, hB⟩
        · have HV := H4 (by decide)
          clear H4 H5 H6
          go_wp2_with fail
          go_ret
          exact ⟨by rw [HV.out]; rfl, hB⟩
  · have HV := H2 b3
    have q2 : (c2 == t1) = false := beq_eq_false_iff_ne.2 b3
    have q3 : (c2 != t1) = true := bne_iff_ne.2 b3
    clear H2 H3 H4 H5 H6 b3
    rcases hc with ⟨rfl, q1 | rfl⟩ | ⟨rfl, rfl⟩
    all_goals
      go_wp2_with fail
      go_ret
      exact ⟨by rw [HV.out]; rfl, hB⟩
theorem rise_ok (l : List St) : ∀ p, rise p l = true → ∀ s ∈ l, okS s = true := by
  induction l with
  | nil => intro p _ s hs; cases hs
  | cons x t ih =>
    intro p h s hs
    have h2 : okS x = true ∧ rise (some x.router) t = true := by
      cases p with
      | none => simp only [rise, Bool.and_eq_true] at h; exact h
      | some r => simp only [rise, Bool.and_eq_true] at h; exact ⟨h.1.1, h.2⟩
    rcases List.mem_cons.1 hs with rfl | hs
    · exact h2.1
    · exact ih _ h2.2 s hs
theorem okS_bd {s : St} (h : okS s = true) : (0 ≤ s.router ∧ s.router ≤ 1048576) ∧ (1 ≤ s.seq ∧ s.seq ≤ 1099511627776) ∧ (0 ≤ s.time ∧ s.time ≤ 1099511627776) := by
  unfold okS at h
  simp only [Bool.and_eq_true, decide_eq_true_eq] at h
  omega
theorem okL_all {l : List St} (h : okL l = true) : l.length ≤ 64 ∧ ∀ s ∈ l, okS s = true := by
  unfold okL at h
  simp only [Bool.and_eq_true, decide_eq_true_eq] at h
  exact ⟨h.1, rise_ok l none h.2⟩
theorem seat_bd {l : List St} (h : okL l = true) (r : Int) : (0 : Int) ≤ ((seatOf l r).seq : Int) ∧ ((seatOf l r).seq : Int) ≤ 1099511627776 := by
  refine ⟨by omega, ?_⟩
  unfold seatOf
  cases hf : findL l r with
  | none => show ((0 : Nat) : Int) ≤ _; decide
  | some s =>
    have hm : s ∈ l := List.mem_of_find?_eq_some hf
    have := (okS_bd ((okL_all h).2 s hm)).2.1.2
    show (s.seq : Int) ≤ _
    omega
theorem mis_any (l : List St) (v : Value) (e : Ev) (h : Int) (w : World) (hl : HasSts w v l) (hok : okL l = true) :
    Calls Try.prog 32 #[v, evV e, .int .i64 h] w fun r w' => r = .returned (.int .i64 (misL l e h)) ∧ Below w.heap.size w w' := by
  obtain ⟨o, c, rfl, hc1, hc2⟩ := HasRow.slice hl
  have hn := (okL_all hok).1
  refine mis_walk o l.length c _ _ _ _ _ _ _ _ _ _ _ _ h w (seatOf l e.router).router ((seatOf l e.router).seq : Int) (seatOf l e.router).time (seatOf l e.router).up (isIn l e.router) _ (fun W hb => find_any l _ e.router W (hl.keep hb)) (seat_bd hok e.router) (by omega) ?_ ?_ ?_ ?_ ?_ ?_
  all_goals unfold misL
  all_goals (generalize isIn l e.router = is; generalize seatOf l e.router = s)
  · rintro ⟨h1, h2⟩
    show _ = _
    rw [if_pos ⟨h1, by omega⟩]
  · intro h1 h2
    show _ = _
    rw [if_neg (fun c => h1 ⟨c.1, by omega⟩), if_pos (by omega)]
  · intro h1 h2 h3
    show _ = _
    rw [if_neg (fun c => h1 ⟨c.1, by omega⟩), if_neg (by omega), if_pos h3]
  · intro h1 h2 h3 h4
    have h4' : decide (e.kind = 1) = s.up := by rw [← h4]; exact decide_eq_decide.2 (by omega)
    show _ = _
    rw [if_neg (fun c => h1 ⟨c.1, by omega⟩), if_neg (by omega), if_neg h3, if_pos h4']
  · intro h1 h2 h3 h4 h5
    have h4' : ¬ decide (e.kind = 1) = s.up := by intro c; apply h4; rw [← c]; exact decide_eq_decide.2 (by omega)
    show _ = _
    rw [if_neg (fun c => h1 ⟨c.1, by omega⟩), if_neg (by omega), if_neg h3, if_neg h4', if_pos ⟨h5.1, by omega⟩]
  · intro h1 h2 h3 h4 h5
    have h4' : ¬ decide (e.kind = 1) = s.up := by intro c; apply h4; rw [← c]; exact decide_eq_decide.2 (by omega)
    show _ = _
    rw [if_neg (fun c => h1 ⟨c.1, by omega⟩), if_neg (by omega), if_neg h3, if_neg h4', if_neg (fun c => h5 ⟨c.1, by omega⟩)]
set_option maxHeartbeats 4000000 in
set_option maxRecDepth 20000 in
theorem may_walk (v : Value) (c0 c1 c2 c3 c5 c6 c7 c8 c9 c10 c11 : Int) (cs : Bool) (h : Int) (w : World) (E1 E2 R : Int)
    (k1 : ∀ W : World, Below w.heap.size w W → Calls Try.prog 31 #[v, .agg #[.int .u8 c0, .int .i64 c1, .int .u64 c2, .int .i64 c3, .bool cs, .int .u64 c5, .int .u64 c6, .int .i64 c7, .int .u8 c8, .int .i64 c9, .int .i64 c10, .int .i64 c11], .int .i64 h] W fun e w' => e = .returned (.int .i64 E1) ∧ Below W.heap.size W w')
    (k2 : E1 = 0 → ∀ W : World, Below w.heap.size w W → Calls Try.prog 32 #[v, .agg #[.int .u8 c0, .int .i64 c1, .int .u64 c2, .int .i64 c3, .bool cs, .int .u64 c5, .int .u64 c6, .int .i64 c7, .int .u8 c8, .int .i64 c9, .int .i64 c10, .int .i64 c11], .int .i64 h] W fun e w' => e = .returned (.int .i64 E2) ∧ Below W.heap.size W w')
    (H1 : E1 ≠ 0 → Hid (R = E1)) (H2 : E1 = 0 → Hid (R = E2)) :
    Calls Try.prog 19 #[v, .agg #[.int .u8 c0, .int .i64 c1, .int .u64 c2, .int .i64 c3, .bool cs, .int .u64 c5, .int .u64 c6, .int .i64 c7, .int .u8 c8, .int .i64 c9, .int .i64 c10, .int .i64 c11], .int .i64 h] w fun e w' => e = .returned (.int .i64 R) ∧ Below w.heap.size w w' := by
  obtain ⟨X, hX⟩ : ∃ X, X = w.alloc (.cells #[.int .u8 c0, .int .i64 c1, .int .u64 c2, .int .i64 c3, .bool cs, .int .u64 c5, .int .u64 c6, .int .i64 c7, .int .u8 c8, .int .i64 c9, .int .i64 c10, .int .i64 c11] 39) := ⟨_, rfl⟩
  have hB : Below w.heap.size w X := by rw [hX]; exact below_new (Below.refl _ _) _
  have r0 : RowAt X w.heap.size [.int .u8 c0, .int .i64 c1, .int .u64 c2, .int .i64 c3, .bool cs, .int .u64 c5, .int .u64 c6, .int .i64 c7, .int .u8 c8, .int .i64 c9, .int .i64 c10, .int .i64 c11] 39 := by rw [hX]; exact RowAt.new _ _ _
  go_enter Try.func19, Try.ntmps19
  go_upto_region 1 with fail
  rw [← hX]
  clear hX
  obtain ⟨⟨y0, y1, y2, y3, y4, y5⟩, ⟨y6, y7, y8, y9, y10, y11⟩, yf, hly⟩ := cells12' r0
  by_cases h1 : E1 = 0
  · have k3 := k2 h1
    have HV := H2 h1
    subst h1
    clear H1 H2 k2
    go_wp2_with fail
    go_at_call 31; refine (k1 _ hB).mono ?_; rintro e w1 ⟨rfl, hb1⟩
    replace hB := below2 hB hb1
    replace r0 := RowAt.below r0 hb1
    clear hb1 k1 y0 y1 y2 y3 y4 y5 y6 y7 y8 y9 y10 y11 yf hly
    obtain ⟨⟨y0, y1, y2, y3, y4, y5⟩, ⟨y6, y7, y8, y9, y10, y11⟩, yf, hly⟩ := cells12' r0
    go_wp2_with fail
    go_at_call 32; refine (k3 _ hB).mono ?_; rintro e w2 ⟨rfl, hb2⟩
    replace hB := below2 hB hb2
    go_wp2_with fail
    go_ret
    exact ⟨by rw [HV.out]; rfl, hB⟩
  · have HV := H1 h1
    have q1 : (E1 == 0) = false := beq_eq_false_iff_ne.2 h1
    have q2 : (E1 != 0) = true := bne_iff_ne.2 h1
    clear H1 H2 h1 k2
    go_wp2_with fail
    go_at_call 31; refine (k1 _ hB).mono ?_; rintro e w1 ⟨rfl, hb1⟩
    replace hB := below2 hB hb1
    clear hb1 k1 y0 y1 y2 y3 y4 y5 y6 y7 y8 y9 y10 y11 yf hly
    go_wp2_with fail
    go_ret
    exact ⟨by rw [HV.out]; rfl, hB⟩
theorem ask_ok {l : List St} {e : Ev} {h : Int} (ha : askL l e h = 0) : okL l = true ∧ okE e = true ∧ -1 ≤ h ∧ h ≤ 1099511627776 := by
  unfold askL at ha
  cases hk : okL l with
  | false => rw [hk] at ha; exact absurd (show (2 : Int) = 0 from ha) (by decide)
  | true =>
    cases hk2 : okE e with
    | false => rw [hk, hk2] at ha; exact absurd (show (2 : Int) = 0 from ha) (by decide)
    | true =>
      rw [hk, hk2] at ha
      replace ha : (if h < -1 ∨ 1099511627776 < h then (1 : Int) else 0) = 0 := ha
      split at ha
      · exact absurd ha (by decide)
      · exact ⟨rfl, rfl, by omega, by omega⟩
theorem may_any (l : List St) (v : Value) (e : Ev) (h : Int) (w : World) (hl : HasSts w v l) (hf : FitE e) :
    Calls Try.prog 19 #[v, evV e, .int .i64 h] w fun r w' => r = .returned (.int .i64 (mayL l e h)) ∧ Below w.heap.size w w' := by
  refine may_walk v _ _ _ _ _ _ _ _ _ _ _ _ h w (askL l e h) (misL l e h) _ (fun W hb => ask_any l v e h W (hl.keep hb) hf) (fun h1 W hb => mis_any l v e h W (hl.keep hb) (ask_ok h1).1) ?_ ?_
  · intro h1
    show _ = _
    unfold mayL
    rw [if_neg h1]
  · intro h1
    show _ = _
    unfold mayL
    rw [if_pos h1]
end Go.Proofs.Ytckaajadajjijab.Ord
