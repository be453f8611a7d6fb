/- What the document's Right, Cmp, turned, Next and Prev return. -/
import Derived.Test.YtengicljipfckaaAddrRef
set_option linter.unusedVariables false
namespace Go.Proofs.Ytengicljipfckaa.Addr
open Go.RowKit

theorem rof_row (W m g : Nat) (w : World) (hW : W ≤ 128) (hr : RowAt w g (celN (bitL W m)) 3) : Calls Try.prog 35 #[.slice (some ⟨g, 0, none⟩) W W] w fun e w' => e = .returned (adV (m % 2 ^ W)) ∧ Below w.heap.size w w' := by
  have h := rof_any (bitL W m) g 0 W w (by rw [bitL_len]; omega) (bitL_le W m) (fun j hj => by rw [Nat.zero_add, hr.cell, celN_get]) (fun _ => hr.lt)
  rw [bitL_len, ofL_bits W m hW] at h
  exact h
theorem right_four (n : Nat) : rightB false n = (decide (hiN n = 0) && decide (loN n < 4294967296)) := by
  unfold rightB hiN loN
  rw [← Bool.decide_and]
  exact decide_eq_decide.2 (by show n < 2 ^ 32 ↔ _; omega)
theorem right_six (n : Nat) (h : n < 2 ^ 128) : rightB true n = true := decide_eq_true h
set_option maxHeartbeats 1000000 in
theorem rright_any (six : Bool) (n : Nat) (w : World) (hn : n < 2 ^ 128) : Calls Try.prog 13 #[.bool six, adV n] w fun e w' => e = .returned (.bool (rightB six n)) ∧ Below w.heap.size w w' := by
  obtain ⟨X, hX⟩ : ∃ X, X = w.alloc (.cells #[.int .u64 (hiN n : Int), .int .u64 (loN n : Int)] 24) := ⟨_, rfl⟩
  have hB0 : Below w.heap.size w X := by rw [hX]; exact below_new (Below.refl _ _) _
  have r0 : RowAt X w.heap.size [.int .u64 (hiN n : Int), .int .u64 (loN n : Int)] 24 := by rw [hX]; exact RowAt.new _ _ _
  cases six
  · rw [right_four]
    unfold adV
    have hlt := loN_lt n
    generalize hiN n = h at *
    generalize loN n = l at *
    have hli : (l : Int) ≤ 18446744073709551615 := by omega
    obtain ⟨q0, q1, qf⟩ := cells2 r0
    clear hn r0 hlt
    by_cases h0 : h = 0
    · have h0' : ((h : Int) == 0) = true := by simpa using h0
      have HV : Hid ((decide (h = 0) && decide (l < 4294967296)) = decide ((l : Int) < 4294967296)) := by
        show _ = _
        rw [decide_eq_true h0, Bool.true_and]
        exact decide_eq_decide.2 (by omega)
      generalize (decide (h = 0) && decide (l < 4294967296)) = R at HV ⊢
      clear h0
      go_enter Try.func13, Try.ntmps13
      go_upto_region 1 with fail
      rw [← hX]
      clear hX
      go_wp2_with fail
      go_ret
      exact ⟨by rw [HV.out]; rfl, hB0⟩
    · have HV : Hid ((decide (h = 0) && decide (l < 4294967296)) = false) := by show _ = _; rw [decide_eq_false h0]; rfl
      generalize (decide (h = 0) && decide (l < 4294967296)) = R at HV ⊢
      have h0' : ((h : Int) == 0) = false := by simpa using h0
      go_enter Try.func13, Try.ntmps13
      go_upto_region 1 with fail
      rw [← hX]
      clear hX
      go_wp2_with fail
      go_ret
      exact ⟨by rw [HV.out]; rfl, hB0⟩
  · rw [right_six n hn]
    unfold adV
    clear hn r0
    go_enter Try.func13, Try.ntmps13
    go_upto_region 1 with fail
    rw [← hX]
    clear hX
    go_wp2_with fail
    go_ret
    exact ⟨rfl, hB0⟩
set_option maxHeartbeats 2000000 in
theorem rcmp_any (n m : Nat) (w : World) (hn : n < 2 ^ 128) (hm : m < 2 ^ 128) : Calls Try.prog 15 #[adV n, adV m] w fun e w' => e = .returned (.int .i64 (cmpN n m)) ∧ Below w.heap.size w w' := by
  have heq := fun w => ad_eql n m w
  have hgd := ad_guard
  obtain ⟨X, hX⟩ : ∃ X, X = (w.alloc (.cells #[.int .u64 (hiN n : Int), .int .u64 (loN n : Int)] 24)).alloc (.cells #[.int .u64 (hiN m : Int), .int .u64 (loN m : Int)] 24) := ⟨_, rfl⟩
  have hB0 : Below w.heap.size w X := by rw [hX]; exact below_new (below_new (Below.refl _ _) _) _
  have r0 : RowAt X w.heap.size [.int .u64 (hiN n : Int), .int .u64 (loN n : Int)] 24 := by rw [hX]; exact (RowAt.new _ _ _).alloc _
  have r1 : RowAt X (w.heap.size + 1) [.int .u64 (hiN m : Int), .int .u64 (loN m : Int)] 24 := by rw [hX, ← World.size_alloc w (.cells #[.int .u64 (hiN n : Int), .int .u64 (loN n : Int)] 24)]; exact RowAt.new _ _ _
  have e1 := hilo n
  have e2 := hilo m
  have l1 := loN_lt n
  have l2 := loN_lt m
  have u1 := hiN_lt hn
  have u2 := hiN_lt hm
  unfold adV at *
  generalize hiN n = a at *
  generalize loN n = c at *
  generalize hiN m = b at *
  generalize loN m = d at *
  have ai : (a : Int) ≤ 18446744073709551615 := by omega
  have bi : (b : Int) ≤ 18446744073709551615 := by omega
  have ci : (c : Int) ≤ 18446744073709551615 := by omega
  have di : (d : Int) ≤ 18446744073709551615 := by omega
  obtain ⟨q0, q1, qf⟩ := cells2 r0
  obtain ⟨p0, p1, pf⟩ := cells2 r1
  have HL : Hid (n < m ↔ a < b ∨ (a = b ∧ c < d)) := by show _ ↔ _; omega
  have HE : Hid (n = m ↔ (a = b ∧ c = d)) := by show _ ↔ _; omega
  have HC : Hid ((n < m → cmpN n m = -1) ∧ (n = m → cmpN n m = 0) ∧ (m < n → cmpN n m = 1)) := ⟨cmp_lt, fun h => by rw [h]; exact cmp_eq _, cmp_gt⟩
  clear hn hm e1 e2 l1 l2 u1 u2 r0 r1
  generalize hR : cmpN n m = R at *
  clear hR
  by_cases h1 : a < b
  · have d1 : decide ((a : Int) < (b : Int)) = true := decide_eq_true (by omega)
    have d1' : decide (a < b) = true := decide_eq_true h1
    have HV : Hid (R = -1) := HC.out.1 (HL.out.2 (.inl h1))
    rw [decide_eq_false (fun e => by have := HE.out.1 e; omega)] at heq
    clear HL HE HC
    (try clear he)
    go_enter Try.func15, Try.ntmps15
    go_upto_region 1 with fail
    rw [← hX]
    clear hX
    go_wp2_with fail
    go_ret
    exact ⟨by rw [HV.out]; rfl, hB0⟩
  have d1 : decide ((a : Int) < (b : Int)) = false := decide_eq_false (by omega)
  have d1' : decide (a < b) = false := decide_eq_false h1
  by_cases h2 : a = b
  · subst h2
    by_cases h3 : c < d
    · have d3 : decide ((c : Int) < (d : Int)) = true := decide_eq_true (by omega)
      have d3' : decide (c < d) = true := decide_eq_true h3
      have HV : Hid (R = -1) := HC.out.1 (HL.out.2 (.inr ⟨rfl, h3⟩))
      rw [decide_eq_false (fun e => by have := HE.out.1 e; omega)] at heq
      clear HL HE HC
      (try clear he)
      go_enter Try.func15, Try.ntmps15
      go_upto_region 1 with fail
      rw [← hX]
      clear hX
      go_wp2_with fail
      go_ret
      exact ⟨by rw [HV.out]; rfl, hB0⟩
    · have d3 : decide ((c : Int) < (d : Int)) = false := decide_eq_false (by omega)
      have d3' : decide (c < d) = false := decide_eq_false h3
      by_cases h4 : c = d
      · have he := HE.out.2 ⟨rfl, h4⟩
        clear h4
        have HV : Hid (R = 0) := HC.out.2.1 (he)
        rw [decide_eq_true he] at heq
        clear HL HE HC
        (try clear he)
        go_enter Try.func15, Try.ntmps15
        go_upto_region 1 with fail
        rw [← hX]
        clear hX
        go_wp2_with fail
        go_ret
        exact ⟨by rw [HV.out]; rfl, hB0⟩
      · have he : ¬ n = m := fun e => h4 (HE.out.1 e).2
        have hgt : m < n := by have := HL.out; omega
        have HV : Hid (R = 1) := HC.out.2.2 (hgt)
        rw [decide_eq_false he] at heq
        clear HL HE HC
        (try clear he)
        go_enter Try.func15, Try.ntmps15
        go_upto_region 1 with fail
        rw [← hX]
        clear hX
        go_wp2_with fail
        go_ret
        exact ⟨by rw [HV.out]; rfl, hB0⟩
  · have d2 : ((a : Int) == (b : Int)) = false := by rw [beq_eq_false_iff_ne]; omega
    have d2' : (a == b) = false := by rw [beq_eq_false_iff_ne]; exact h2
    have he : ¬ n = m := fun e => h2 (HE.out.1 e).1
    have hgt : m < n := by have := HL.out; omega
    have HV : Hid (R = 1) := HC.out.2.2 (hgt)
    rw [decide_eq_false he] at heq
    clear HL HE HC
    (try clear he)
    go_enter Try.func15, Try.ntmps15
    go_upto_region 1 with fail
    rw [← hX]
    clear hX
    go_wp2_with fail
    go_ret
    exact ⟨by rw [HV.out]; rfl, hB0⟩
def turn1E (six : Bool) (n : Nat) : Nat × Bool := if n = 2 ^ wideN six - 1 then (0, false) else (n + 1, true)
set_option maxHeartbeats 2000000 in
set_option maxRecDepth 20000 in
theorem turn1_any (six : Bool) (n : Nat) (w : World) (hn : n < 2 ^ wideN six) : Calls Try.prog 29 #[.bool six, adV n, .int .i64 1] w fun e w' => e = .returned (.tuple #[adV (turn1E six n).1, .bool (turn1E six n).2]) ∧ Below w.heap.size w w' := by
  have hWl := wideN_le six
  have hWg := wideN_ge six
  have h128 : (2 : Nat) ^ wideN six ≤ 2 ^ 128 := Nat.pow_le_pow_right (by decide) hWl
  have cb := fun w => rbits_any six n w (by omega)
  have HE : Hid (turn1E six n = if n = 2 ^ wideN six - 1 then (0, false) else (n + 1, true)) := rfl
  generalize turn1E six n = R at HE ⊢
  obtain ⟨W, hWd⟩ : ∃ W, W = wideN six := ⟨_, rfl⟩
  rw [← hWd] at cb hWl hWg HE hn h128
  clear hWd
  have HNW : Hid (n < 2 ^ W) := hn
  have HOF : Hid (∀ m g w, RowAt w g (celN (bitL W m)) 3 → Calls Try.prog 35 #[.slice (some ⟨g, 0, none⟩) W W] w fun e w' => e = .returned (adV (m % 2 ^ W)) ∧ Below w.heap.size w w') := fun m g w h => rof_row W m g w hWl h
  unfold BitsIs at cb
  rw [bitL_len] at cb
  obtain ⟨X, hX⟩ : ∃ X, X = (w.alloc (.cells #[.int .u64 (hiN n : Int), .int .u64 (loN n : Int)] 24)).alloc (.cells #[.int .u64 0, .int .u64 0] 24) := ⟨_, rfl⟩
  have hB0 : Below w.heap.size w X := by rw [hX]; exact below_new (below_new (Below.refl _ _) _) _
  have r1 : RowAt X (w.heap.size + 1) [.int .u64 0, .int .u64 0] 24 := by rw [hX, ← World.size_alloc w (.cells #[.int .u64 (hiN n : Int), .int .u64 (loN n : Int)] 24)]; exact RowAt.new _ _ _
  have hWi : (W : Int) ≤ 128 := by omega
  have hWi2 : (32 : Int) ≤ (W : Int) := by omega
  unfold adV at cb ⊢
  clear hn h128 hWg hWl
  go_enter Try.func29, Try.ntmps29
  go_wp2_with fail
  go_at_call 34; refine (cb _).mono ?_; rintro e w2 ⟨g, rfl, hgX, hrow, hb2⟩
  rw [← hX] at hb2 hgX
  have hlt0 := r1.lt
  have hgw : w.heap.size + 2 ≤ g := by
    have : X.heap.size = w.heap.size + 2 := by rw [hX]; simp
    omega
  have hB2 := below2 hB0 hb2
  have r1 := r1.below hb2
  clear hX cb hB0 hb2 hgX
  go_wp2_with fail
  go_loopw [9, 10] (fun i was wr => ∃ (t m : Nat) (x : Int), t ≤ W ∧ i = .int .i64 x ∧ Hid (x = (W : Int) - 1 - (t : Int)) ∧ Hid (∀ j, j < t → n.testBit j = true) ∧ Hid (∀ j, j < W → m.testBit j = if j < t then false else n.testBit j) ∧ RowAt wr g (celN (bitL W m)) 3 ∧ RowAt wr (w.heap.size + 1) [.int .u64 0, .int .u64 0] 24 ∧ Below w.heap.size w wr) (fun i _ _ => (intOf i + 1).toNat)
  case atStart => exact ⟨0, n, (W : Int) - 1, by omega, rfl, (by show _ = _; omega), (fun j hj => by omega), (fun j hj => by rw [if_neg (by omega)]), hrow, r1, hB2⟩
  case round =>
    obtain ⟨t, m, x, ht, rfl, HX, HT, HM, hr, ra, hb⟩ := hrel
    clear hrow r1 hB2
    by_cases hlt : t < W
    · obtain ⟨i, hi⟩ : ∃ i : Nat, i = W - 1 - t := ⟨_, rfl⟩
      obtain rfl : x = (i : Int) := by have := HX.out; omega
      have hxi : (i : Int) < (W : Int) := by omega
      have d0 : decide ((0 : Int) ≤ (i : Int)) = true := decide_eq_true (by omega)
      have hmt : m.testBit t = n.testBit t := by rw [HM.out t hlt, if_neg (by omega)]
      have hcell : wr.cell? ⟨g, i, none⟩ = some (.int .i64 ((n.testBit t).toNat : Int)) := by
        rw [hr.cell, celN_get _ _ (by rw [bitL_len]; omega), bitL_get W m i (by omega), show W - 1 - i = t by omega, hmt]
      have hfz : ∀ k, wr.frozen? ⟨g, k, none⟩ = false := hr.frozen
      cases hbt : n.testBit t with
      | true =>
        rw [hbt] at hcell
        simp only [Bool.toNat_true, Int.natCast_one] at hcell
        obtain ⟨m2, hm2, hm3⟩ := bitL_set W m t false hlt
        have hr2 := hr.set1 i (.int .i64 ((false.toNat : Nat) : Int))
        rw [celN_set, hi, hm2] at hr2
        have HR : Hid (RowAt (wr.setCell ⟨g, i, none⟩ (.int .i64 0)) g (celN (bitL W m2)) 3) := by rw [hi]; exact hr2
        have HA : Hid (RowAt (wr.setCell ⟨g, i, none⟩ (.int .i64 0)) (w.heap.size + 1) [.int .u64 0, .int .u64 0] 24) := ra.far1 (by omega) _ _
        have HT2 : Hid (∀ j, j < t + 1 → n.testBit j = true) := fun j hj => by
          by_cases hjt : j < t
          · exact HT.out j hjt
          · rw [show j = t by omega, hbt]
        have HM2 : Hid (∀ j, j < W → m2.testBit j = if j < t + 1 then false else n.testBit j) := fun j hj => by
          rw [hm3 j]
          by_cases hjt : j = t
          · rw [if_pos hjt, if_pos (by omega)]
          · rw [if_neg hjt, HM.out j hj]
            by_cases hj2 : j < t
            · rw [if_pos hj2, if_pos (by omega)]
            · rw [if_neg hj2, if_neg (by omega)]
        have HI : Hid (i = W - 1 - t) := hi
        clear hr hr2 hm2 hm3 ra hi hmt hbt HX HT HM
        go_wp2_with fail
        go_roundw
        case rel => exact ⟨t + 1, m2, (i : Int) - 1, by omega, rfl, (by show _ = _; have := HI.out; omega), HT2, HM2, HR.out, HA.out, bset hb (by omega)⟩
        case measure => simp [intOf]
      | false =>
        rw [hbt] at hcell
        simp only [Bool.toNat_false, Int.natCast_zero] at hcell
        obtain ⟨m2, hm2, hm3⟩ := bitL_set W m t true hlt
        have hr2 := hr.set1 i (.int .i64 ((true.toNat : Nat) : Int))
        rw [celN_set, hi, hm2] at hr2
        have hR : RowAt (wr.setCell ⟨g, i, none⟩ (.int .i64 1)) g (celN (bitL W m2)) 3 := by rw [hi]; exact hr2
        have HA : Hid (RowAt (wr.setCell ⟨g, i, none⟩ (.int .i64 1)) (w.heap.size + 1) [.int .u64 0, .int .u64 0] 24) := ra.far1 (by omega) _ _
        have hm3 : ∀ j, j < W → m2.testBit j = if j < t then false else if j = t then true else n.testBit j := fun j hj => by
          rw [hm3 j]
          by_cases hjt : j = t
          · rw [if_pos hjt, if_neg (by omega), if_pos hjt]
          · rw [if_neg hjt, HM.out j hj]
            by_cases hj2 : j < t
            · rw [if_pos hj2, if_pos hj2]
            · rw [if_neg hj2, if_neg hj2, if_neg hjt]
        have hnb := next_bits hlt HNW.out HT.out hbt hm3
        have HV : Hid (R = (m2 % 2 ^ W, true)) := by show _ = _; rw [HE.out, if_neg hnb.2, hnb.1]
        have cof := HOF.out m2 g _ hR
        have hbn : Below w.heap.size w (wr.setCell ⟨g, i, none⟩ (.int .i64 1)) := bset hb (by omega)
        unfold adV at cof
        have HF1 : Hid (hiN R.1 = hiN (m2 % 2 ^ W)) := by show _ = _; rw [HV.out]
        have HF2 : Hid (loN R.1 = loN (m2 % 2 ^ W)) := by show _ = _; rw [HV.out]
        have HF3 : Hid (R.2 = true) := by show _ = _; rw [HV.out]
        clear HV
        generalize hF : m2 % 2 ^ W = F at *
        generalize hiN F = Fh at *
        generalize loN F = Fl at *
        clear hr hr2 hm2 hm3 ra hi hmt hbt HX HT HM hnb hR hF
        obtain ⟨V, hV⟩ : ∃ V, V = wr.setCell ⟨g, i, none⟩ (.int .i64 1) := ⟨_, rfl⟩
        rw [← hV] at cof hbn HA
        go_wp2_with fail
        rw [← hV]
        clear hV
        go_at_call 35; refine cof.mono ?_; rintro e w4 ⟨rfl, hb4⟩
        have hW4 := below2 hbn hb4
        obtain ⟨q0, q1, qf⟩ := cells2 (HA.out.below hb4)
        clear cof HA hb4 hcell
        go_wp2_with fail
        (try simp only [Exit.inBlock, Exit.then])
        refine bodyPost_ret (v := .tuple #[.agg #[.int .u64 (Fh : Int), .int .u64 (Fl : Int)], .bool true]) ?_ rfl ⟨?_, ?_⟩
        · rw [results_cell_tmp rfl]
          go_simp
        · rw [HF1.out, HF2.out, HF3.out]
        · repeat' (first | with_reducible exact hW4 | with_reducible apply below_new | with_reducible refine bset ?_ (by omega))
    · obtain rfl : t = W := by omega
      obtain rfl : x = -1 := by have := HX.out; omega
      have HV : Hid (R = (0, false)) := by show _ = _; rw [HE.out, if_pos (ones_bits HNW.out HT.out)]
      obtain ⟨q0, q1, qf⟩ := cells2 ra
      clear hr ra HX HT HM
      go_wp2_with fail
      (try simp only [Exit.inBlock, Exit.then])
      refine bodyPost_ret (v := .tuple #[.agg #[.int .u64 0, .int .u64 0], .bool false]) ?_ rfl ⟨by rw [HV.out]; rfl, ?_⟩
      · rw [results_cell_tmp rfl]
        go_simp
      · repeat' (first | with_reducible exact hb | with_reducible apply below_new | with_reducible refine bset ?_ (by omega))
def turn0E (six : Bool) (n : Nat) : Nat × Bool := if n = 0 then (0, false) else (n - 1, true)
set_option maxHeartbeats 2000000 in
set_option maxRecDepth 20000 in
theorem turn0_any (six : Bool) (n : Nat) (w : World) (hn : n < 2 ^ wideN six) : Calls Try.prog 29 #[.bool six, adV n, .int .i64 0] w fun e w' => e = .returned (.tuple #[adV (turn0E six n).1, .bool (turn0E six n).2]) ∧ Below w.heap.size w w' := by
  have hWl := wideN_le six
  have hWg := wideN_ge six
  have h128 : (2 : Nat) ^ wideN six ≤ 2 ^ 128 := Nat.pow_le_pow_right (by decide) hWl
  have cb := fun w => rbits_any six n w (by omega)
  have HE : Hid (turn0E six n = if n = 0 then (0, false) else (n - 1, true)) := rfl
  generalize turn0E six n = R at HE ⊢
  obtain ⟨W, hWd⟩ : ∃ W, W = wideN six := ⟨_, rfl⟩
  rw [← hWd] at cb hWl hWg hn h128
  clear hWd
  have HNW : Hid (n < 2 ^ W) := hn
  have HOF : Hid (∀ m g w, RowAt w g (celN (bitL W m)) 3 → Calls Try.prog 35 #[.slice (some ⟨g, 0, none⟩) W W] w fun e w' => e = .returned (adV (m % 2 ^ W)) ∧ Below w.heap.size w w') := fun m g w h => rof_row W m g w hWl h
  unfold BitsIs at cb
  rw [bitL_len] at cb
  obtain ⟨X, hX⟩ : ∃ X, X = (w.alloc (.cells #[.int .u64 (hiN n : Int), .int .u64 (loN n : Int)] 24)).alloc (.cells #[.int .u64 0, .int .u64 0] 24) := ⟨_, rfl⟩
  have hB0 : Below w.heap.size w X := by rw [hX]; exact below_new (below_new (Below.refl _ _) _) _
  have r1 : RowAt X (w.heap.size + 1) [.int .u64 0, .int .u64 0] 24 := by rw [hX, ← World.size_alloc w (.cells #[.int .u64 (hiN n : Int), .int .u64 (loN n : Int)] 24)]; exact RowAt.new _ _ _
  have hWi : (W : Int) ≤ 128 := by omega
  have hWi2 : (32 : Int) ≤ (W : Int) := by omega
  unfold adV at cb ⊢
  clear hn h128 hWg hWl
  go_enter Try.func29, Try.ntmps29
  go_wp2_with fail
  go_at_call 34; refine (cb _).mono ?_; rintro e w2 ⟨g, rfl, hgX, hrow, hb2⟩
  rw [← hX] at hb2 hgX
  have hlt0 := r1.lt
  have hgw : w.heap.size + 2 ≤ g := by
    have : X.heap.size = w.heap.size + 2 := by rw [hX]; simp
    omega
  have hB2 := below2 hB0 hb2
  have r1 := r1.below hb2
  clear hX cb hB0 hb2 hgX
  go_wp2_with fail
  go_loopw [9, 10] (fun i was wr => ∃ (t m : Nat) (x : Int), t ≤ W ∧ i = .int .i64 x ∧ Hid (x = (W : Int) - 1 - (t : Int)) ∧ Hid (∀ j, j < t → n.testBit j = false) ∧ Hid (∀ j, j < W → m.testBit j = if j < t then true else n.testBit j) ∧ RowAt wr g (celN (bitL W m)) 3 ∧ RowAt wr (w.heap.size + 1) [.int .u64 0, .int .u64 0] 24 ∧ Below w.heap.size w wr) (fun i _ _ => (intOf i + 1).toNat)
  case atStart => exact ⟨0, n, (W : Int) - 1, by omega, rfl, (by show _ = _; omega), (fun j hj => by omega), (fun j hj => by rw [if_neg (by omega)]), hrow, r1, hB2⟩
  case round =>
    obtain ⟨t, m, x, ht, rfl, HX, HT, HM, hr, ra, hb⟩ := hrel
    clear hrow r1 hB2
    by_cases hlt : t < W
    · obtain ⟨i, hi⟩ : ∃ i : Nat, i = W - 1 - t := ⟨_, rfl⟩
      obtain rfl : x = (i : Int) := by have := HX.out; omega
      have hxi : (i : Int) < (W : Int) := by omega
      have d0 : decide ((0 : Int) ≤ (i : Int)) = true := decide_eq_true (by omega)
      have hmt : m.testBit t = n.testBit t := by rw [HM.out t hlt, if_neg (by omega)]
      have hcell : wr.cell? ⟨g, i, none⟩ = some (.int .i64 ((n.testBit t).toNat : Int)) := by
        rw [hr.cell, celN_get _ _ (by rw [bitL_len]; omega), bitL_get W m i (by omega), show W - 1 - i = t by omega, hmt]
      have hfz : ∀ k, wr.frozen? ⟨g, k, none⟩ = false := hr.frozen
      cases hbt : n.testBit t with
      | false =>
        rw [hbt] at hcell
        simp only [Bool.toNat_false, Int.natCast_zero] at hcell
        obtain ⟨m2, hm2, hm3⟩ := bitL_set W m t true hlt
        have hr2 := hr.set1 i (.int .i64 ((true.toNat : Nat) : Int))
        rw [celN_set, hi, hm2] at hr2
        have HR : Hid (RowAt (wr.setCell ⟨g, i, none⟩ (.int .i64 1)) g (celN (bitL W m2)) 3) := by rw [hi]; exact hr2
        have HA : Hid (RowAt (wr.setCell ⟨g, i, none⟩ (.int .i64 1)) (w.heap.size + 1) [.int .u64 0, .int .u64 0] 24) := ra.far1 (by omega) _ _
        have HT2 : Hid (∀ j, j < t + 1 → n.testBit j = false) := fun j hj => by
          by_cases hjt : j < t
          · exact HT.out j hjt
          · rw [show j = t by omega, hbt]
        have HM2 : Hid (∀ j, j < W → m2.testBit j = if j < t + 1 then true else n.testBit j) := fun j hj => by
          rw [hm3 j]
          by_cases hjt : j = t
          · rw [if_pos hjt, if_pos (by omega)]
          · rw [if_neg hjt, HM.out j hj]
            by_cases hj2 : j < t
            · rw [if_pos hj2, if_pos (by omega)]
            · rw [if_neg hj2, if_neg (by omega)]
        have HI : Hid (i = W - 1 - t) := hi
        clear hr hr2 hm2 hm3 ra hi hmt hbt HX HT HM
        go_wp2_with fail
        go_roundw
        case rel => exact ⟨t + 1, m2, (i : Int) - 1, by omega, rfl, (by show _ = _; have := HI.out; omega), HT2, HM2, HR.out, HA.out, bset hb (by omega)⟩
        case measure => simp [intOf]
      | true =>
        rw [hbt] at hcell
        simp only [Bool.toNat_true, Int.natCast_one] at hcell
        obtain ⟨m2, hm2, hm3⟩ := bitL_set W m t false hlt
        have hr2 := hr.set1 i (.int .i64 ((false.toNat : Nat) : Int))
        rw [celN_set, hi, hm2] at hr2
        have hR : RowAt (wr.setCell ⟨g, i, none⟩ (.int .i64 0)) g (celN (bitL W m2)) 3 := by rw [hi]; exact hr2
        have HA : Hid (RowAt (wr.setCell ⟨g, i, none⟩ (.int .i64 0)) (w.heap.size + 1) [.int .u64 0, .int .u64 0] 24) := ra.far1 (by omega) _ _
        have hm3 : ∀ j, j < W → m2.testBit j = if j < t then true else if j = t then false else n.testBit j := fun j hj => by
          rw [hm3 j]
          by_cases hjt : j = t
          · rw [if_pos hjt, if_neg (by omega), if_pos hjt]
          · rw [if_neg hjt, HM.out j hj]
            by_cases hj2 : j < t
            · rw [if_pos hj2, if_pos hj2]
            · rw [if_neg hj2, if_neg hj2, if_neg hjt]
        have hnb := prev_bits hlt HNW.out HT.out hbt hm3
        have HV : Hid (R = (m2 % 2 ^ W, true)) := by show _ = _; rw [HE.out, if_neg (by omega), show n - 1 = m2 % 2 ^ W by omega]
        have cof := HOF.out m2 g _ hR
        have hbn : Below w.heap.size w (wr.setCell ⟨g, i, none⟩ (.int .i64 0)) := bset hb (by omega)
        unfold adV at cof
        have HF1 : Hid (hiN R.1 = hiN (m2 % 2 ^ W)) := by show _ = _; rw [HV.out]
        have HF2 : Hid (loN R.1 = loN (m2 % 2 ^ W)) := by show _ = _; rw [HV.out]
        have HF3 : Hid (R.2 = true) := by show _ = _; rw [HV.out]
        clear HV
        generalize hF : m2 % 2 ^ W = F at *
        generalize hiN F = Fh at *
        generalize loN F = Fl at *
        clear hr hr2 hm2 hm3 ra hi hmt hbt HX HT HM hnb hR hF
        obtain ⟨V, hV⟩ : ∃ V, V = wr.setCell ⟨g, i, none⟩ (.int .i64 0) := ⟨_, rfl⟩
        rw [← hV] at cof hbn HA
        go_wp2_with fail
        rw [← hV]
        clear hV
        go_at_call 35; refine cof.mono ?_; rintro e w4 ⟨rfl, hb4⟩
        have hW4 := below2 hbn hb4
        obtain ⟨q0, q1, qf⟩ := cells2 (HA.out.below hb4)
        clear cof HA hb4 hcell
        go_wp2_with fail
        (try simp only [Exit.inBlock, Exit.then])
        refine bodyPost_ret (v := .tuple #[.agg #[.int .u64 (Fh : Int), .int .u64 (Fl : Int)], .bool true]) ?_ rfl ⟨?_, ?_⟩
        · rw [results_cell_tmp rfl]
          go_simp
        · rw [HF1.out, HF2.out, HF3.out]
        · repeat' (first | with_reducible exact hW4 | with_reducible apply below_new | with_reducible refine bset ?_ (by omega))
    · obtain rfl : t = W := by omega
      obtain rfl : x = -1 := by have := HX.out; omega
      have HV : Hid (R = (0, false)) := by show _ = _; rw [HE.out, if_pos (zero_bits HNW.out HT.out)]
      obtain ⟨q0, q1, qf⟩ := cells2 ra
      clear hr ra HX HT HM
      go_wp2_with fail
      (try simp only [Exit.inBlock, Exit.then])
      refine bodyPost_ret (v := .tuple #[.agg #[.int .u64 0, .int .u64 0], .bool false]) ?_ rfl ⟨by rw [HV.out]; rfl, ?_⟩
      · rw [results_cell_tmp rfl]
        go_simp
      · repeat' (first | with_reducible exact hb | with_reducible apply below_new | with_reducible refine bset ?_ (by omega))
set_option maxHeartbeats 2000000 in
theorem rnext_any (six : Bool) (n : Nat) (w : World) (hn : n < 2 ^ 128) : Calls Try.prog 8 #[.bool six, adV n] w fun e w' => e = .returned (.tuple #[adV (nextE six n).1, .int .i64 (nextE six n).2]) ∧ Below w.heap.size w w' := by
  have cr := fun w => rright_any six n w hn
  have hz : adV 0 = .agg #[.int .u64 0, .int .u64 0] := rfl
  obtain ⟨X, hX⟩ : ∃ X, X = (w.alloc (.cells #[.int .u64 (hiN n : Int), .int .u64 (loN n : Int)] 24)).alloc (.cells #[.int .u64 0, .int .u64 0] 24) := ⟨_, rfl⟩
  have hB0 : Below w.heap.size w X := by rw [hX]; exact below_new (below_new (Below.refl _ _) _) _
  have r0 : RowAt X w.heap.size [.int .u64 (hiN n : Int), .int .u64 (loN n : Int)] 24 := by rw [hX]; exact (RowAt.new _ _ _).alloc _
  have r1 : RowAt X (w.heap.size + 1) [.int .u64 0, .int .u64 0] 24 := by rw [hX, ← World.size_alloc w (.cells #[.int .u64 (hiN n : Int), .int .u64 (loN n : Int)] 24)]; exact RowAt.new _ _ _
  cases hr : rightB six n
  · rw [hr] at cr
    have e1 : nextE six n = (0, 2) := by unfold nextE; rw [hr]; rfl
    rw [e1]
    simp only [hz]
    unfold adV at *
    generalize hiN n = h at *
    generalize loN n = l at *
    clear hr e1 hn hz
    go_enter Try.func8, Try.ntmps8
    go_wp2_with fail
    go_at_call 13; refine (cr _).mono ?_; rintro e w2 ⟨rfl, hb2⟩
    rw [← hX] at hb2
    have hW := below2 hB0 hb2
    obtain ⟨q0, q1, qf⟩ := cells2 (r1.below hb2)
    clear hX cr r1 hB0 hb2
    go_wp2_with fail
    (try simp only [Exit.inBlock, Exit.then])
    refine bodyPost_ret (v := .tuple #[.agg #[.int .u64 0, .int .u64 0], .int .i64 2]) ?_ rfl ⟨rfl, ?_⟩
    · rw [results_cell_tmp rfl]
      go_simp
    · repeat' (first | with_reducible exact hW | with_reducible apply below_new | with_reducible refine bset ?_ (by omega))
  · rw [hr] at cr
    have ct := fun w => turn1_any six n w (of_decide_eq_true hr)
    by_cases hm : n = 2 ^ wideN six - 1
    · have e1 : nextE six n = (0, 3) := by unfold nextE; rw [hr, if_pos rfl, if_pos hm]
      have e2 : turn1E six n = (0, false) := by unfold turn1E; rw [if_pos hm]
      rw [e1]
      rw [e2] at ct
      simp only [hz] at ct ⊢
      unfold adV at *
      generalize hiN n = h at *
      generalize loN n = l at *
      clear hr e1 e2 hn hz hm
      go_enter Try.func8, Try.ntmps8
      go_wp2_with fail
      go_at_call 13; refine (cr _).mono ?_; rintro e w2 ⟨rfl, hb2⟩
      rw [← hX] at hb2
      have hW := below2 hB0 hb2
      have r0 := r0.below hb2
      have r1 := r1.below hb2
      obtain ⟨q0, q1, qf⟩ := cells2 r0
      clear hX cr hB0 hb2
      go_wp2_with fail
      go_at_call 29; refine (ct _).mono ?_; rintro e w3 ⟨rfl, hb3⟩
      clear q0 q1 qf
      obtain ⟨q0, q1, qf⟩ := cells2 (r1.below hb3)
      have l1 := (r1.below hb3).lt
      have hW := below2 hW hb3
      clear ct r0 r1 hb3
      go_wp2_with fail
      (try simp only [Exit.inBlock, Exit.then])
      refine bodyPost_ret (v := .tuple #[.agg #[.int .u64 0, .int .u64 0], .int .i64 3]) ?_ rfl ⟨rfl, ?_⟩
      · rw [results_cell_tmp rfl]
        go_simp
      · repeat' (first | with_reducible exact hW | with_reducible apply below_new | with_reducible refine bset ?_ (by omega))
    · have e1 : nextE six n = (n + 1, 0) := by unfold nextE; rw [hr, if_pos rfl, if_neg hm]
      have e2 : turn1E six n = (n + 1, true) := by unfold turn1E; rw [if_neg hm]
      rw [e1]
      rw [e2] at ct
      simp only at ct ⊢
      unfold adV at *
      generalize hiN (n + 1) = rh at *
      generalize loN (n + 1) = rl at *
      generalize hiN n = h at *
      generalize loN n = l at *
      clear hr e1 e2 hn hz hm
      go_enter Try.func8, Try.ntmps8
      go_wp2_with fail
      go_at_call 13; refine (cr _).mono ?_; rintro e w2 ⟨rfl, hb2⟩
      rw [← hX] at hb2
      have hW := below2 hB0 hb2
      have r0 := r0.below hb2
      have r1 := r1.below hb2
      obtain ⟨q0, q1, qf⟩ := cells2 r0
      clear hX cr hB0 hb2
      go_wp2_with fail
      go_at_call 29; refine (ct _).mono ?_; rintro e w3 ⟨rfl, hb3⟩
      clear q0 q1 qf
      obtain ⟨q0, q1, qf⟩ := cells2 (r1.below hb3)
      have l1 := (r1.below hb3).lt
      have hW := below2 hW hb3
      clear ct r0 r1 hb3
      go_wp2_with fail
      (try simp only [Exit.inBlock, Exit.then])
      refine bodyPost_ret (v := .tuple #[.agg #[.int .u64 (rh : Int), .int .u64 (rl : Int)], .int .i64 0]) ?_ rfl ⟨rfl, ?_⟩
      · rw [results_cell_tmp rfl]
        go_simp
      · repeat' (first | with_reducible exact hW | with_reducible apply below_new | with_reducible refine bset ?_ (by omega))
set_option maxHeartbeats 2000000 in
theorem rprev_any (six : Bool) (n : Nat) (w : World) (hn : n < 2 ^ 128) : Calls Try.prog 10 #[.bool six, adV n] w fun e w' => e = .returned (.tuple #[adV (prevE six n).1, .int .i64 (prevE six n).2]) ∧ Below w.heap.size w w' := by
  have cr := fun w => rright_any six n w hn
  have hz : adV 0 = .agg #[.int .u64 0, .int .u64 0] := rfl
  obtain ⟨X, hX⟩ : ∃ X, X = (w.alloc (.cells #[.int .u64 (hiN n : Int), .int .u64 (loN n : Int)] 24)).alloc (.cells #[.int .u64 0, .int .u64 0] 24) := ⟨_, rfl⟩
  have hB0 : Below w.heap.size w X := by rw [hX]; exact below_new (below_new (Below.refl _ _) _) _
  have r0 : RowAt X w.heap.size [.int .u64 (hiN n : Int), .int .u64 (loN n : Int)] 24 := by rw [hX]; exact (RowAt.new _ _ _).alloc _
  have r1 : RowAt X (w.heap.size + 1) [.int .u64 0, .int .u64 0] 24 := by rw [hX, ← World.size_alloc w (.cells #[.int .u64 (hiN n : Int), .int .u64 (loN n : Int)] 24)]; exact RowAt.new _ _ _
  cases hr : rightB six n
  · rw [hr] at cr
    have e1 : prevE six n = (0, 2) := by unfold prevE; rw [hr]; rfl
    rw [e1]
    simp only [hz]
    unfold adV at *
    generalize hiN n = h at *
    generalize loN n = l at *
    clear hr e1 hn hz
    go_enter Try.func10, Try.ntmps10
    go_wp2_with fail
    go_at_call 13; refine (cr _).mono ?_; rintro e w2 ⟨rfl, hb2⟩
    rw [← hX] at hb2
    have hW := below2 hB0 hb2
    obtain ⟨q0, q1, qf⟩ := cells2 (r1.below hb2)
    clear hX cr r1 hB0 hb2
    go_wp2_with fail
    (try simp only [Exit.inBlock, Exit.then])
    refine bodyPost_ret (v := .tuple #[.agg #[.int .u64 0, .int .u64 0], .int .i64 2]) ?_ rfl ⟨rfl, ?_⟩
    · rw [results_cell_tmp rfl]
      go_simp
    · repeat' (first | with_reducible exact hW | with_reducible apply below_new | with_reducible refine bset ?_ (by omega))
  · rw [hr] at cr
    have ct := fun w => turn0_any six n w (of_decide_eq_true hr)
    by_cases hm : n = 0
    · have e1 : prevE six n = (0, 3) := by unfold prevE; rw [hr, if_pos rfl, if_pos hm]
      have e2 : turn0E six n = (0, false) := by unfold turn0E; rw [if_pos hm]
      rw [e1]
      rw [e2] at ct
      simp only [hz] at ct ⊢
      unfold adV at *
      generalize hiN n = h at *
      generalize loN n = l at *
      clear hr e1 e2 hn hz hm
      go_enter Try.func10, Try.ntmps10
      go_wp2_with fail
      go_at_call 13; refine (cr _).mono ?_; rintro e w2 ⟨rfl, hb2⟩
      rw [← hX] at hb2
      have hW := below2 hB0 hb2
      have r0 := r0.below hb2
      have r1 := r1.below hb2
      obtain ⟨q0, q1, qf⟩ := cells2 r0
      clear hX cr hB0 hb2
      go_wp2_with fail
      go_at_call 29; refine (ct _).mono ?_; rintro e w3 ⟨rfl, hb3⟩
      clear q0 q1 qf
      obtain ⟨q0, q1, qf⟩ := cells2 (r1.below hb3)
      have l1 := (r1.below hb3).lt
      have hW := below2 hW hb3
      clear ct r0 r1 hb3
      go_wp2_with fail
      (try simp only [Exit.inBlock, Exit.then])
      refine bodyPost_ret (v := .tuple #[.agg #[.int .u64 0, .int .u64 0], .int .i64 3]) ?_ rfl ⟨rfl, ?_⟩
      · rw [results_cell_tmp rfl]
        go_simp
      · repeat' (first | with_reducible exact hW | with_reducible apply below_new | with_reducible refine bset ?_ (by omega))
    · have e1 : prevE six n = (n - 1, 0) := by unfold prevE; rw [hr, if_pos rfl, if_neg hm]
      have e2 : turn0E six n = (n - 1, true) := by unfold turn0E; rw [if_neg hm]
      rw [e1]
      rw [e2] at ct
      simp only at ct ⊢
      unfold adV at *
      generalize hiN (n - 1) = rh at *
      generalize loN (n - 1) = rl at *
      generalize hiN n = h at *
      generalize loN n = l at *
      clear hr e1 e2 hn hz hm
      go_enter Try.func10, Try.ntmps10
      go_wp2_with fail
      go_at_call 13; refine (cr _).mono ?_; rintro e w2 ⟨rfl, hb2⟩
      rw [← hX] at hb2
      have hW := below2 hB0 hb2
      have r0 := r0.below hb2
      have r1 := r1.below hb2
      obtain ⟨q0, q1, qf⟩ := cells2 r0
      clear hX cr hB0 hb2
      go_wp2_with fail
      go_at_call 29; refine (ct _).mono ?_; rintro e w3 ⟨rfl, hb3⟩
      clear q0 q1 qf
      obtain ⟨q0, q1, qf⟩ := cells2 (r1.below hb3)
      have l1 := (r1.below hb3).lt
      have hW := below2 hW hb3
      clear ct r0 r1 hb3
      go_wp2_with fail
      (try simp only [Exit.inBlock, Exit.then])
      refine bodyPost_ret (v := .tuple #[.agg #[.int .u64 (rh : Int), .int .u64 (rl : Int)], .int .i64 0]) ?_ rfl ⟨rfl, ?_⟩
      · rw [results_cell_tmp rfl]
        go_simp
      · repeat' (first | with_reducible exact hW | with_reducible apply below_new | with_reducible refine bset ?_ (by omega))
end Go.Proofs.Ytengicljipfckaa.Addr
