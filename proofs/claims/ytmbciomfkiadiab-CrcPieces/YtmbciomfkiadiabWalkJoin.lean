/- What crc.Zeros, Join and the document's return, for every sum and count. -/
import Derived.Test.YtmbciomfkiadiabWalkCrc
set_option linter.unusedVariables false
namespace Go.Proofs.Ytmbciomfkiadiab.Crc
open Go.RowKit

/- ### the product, as the program reckons it -/
def prodGo (a : Nat) : Nat → Nat → Nat → Nat
  | 0, p, b => p
  | k + 1, p, b => prodGo a k (if a.testBit k then p ^^^ b else p) (hv b)
theorem prodGo_hv (a k : Nat) : ∀ p b, prodGo a k (hv p) (hv b) = hv (prodGo a k p b) := by
  induction k with
  | zero => intro p b; rfl
  | succ k ih =>
    intro p b
    rw [prodGo, prodGo, ← ih]
    congr 1
    split
    · rw [hv_xor]
    · rfl
def prodR (a b : Nat) : Nat := prodGo a 32 0 b
theorem prodR_hvN (a m b : Nat) : prodR a (hvN m b) = hvN m (prodR a b) := by
  induction m with
  | zero => rfl
  | succ m ih =>
    rw [hvN_succ, hvN_succ, ← ih]
    have := prodGo_hv a 32 0 (hvN m b)
    exact this
theorem hv_pow (k : Nat) : hv (2 ^ (k + 1)) = 2 ^ k := by
  unfold hv
  have h1 : 2 ^ (k + 1) / 2 = 2 ^ k := by rw [Nat.pow_succ]; omega
  have h2 : 2 ^ (k + 1) % 2 = 0 := by rw [Nat.pow_succ]; omega
  rw [h1, h2]
  simp
theorem prodGo_one (a : Nat) (k : Nat) : ∀ p, (∀ j, p.testBit j = (a.testBit j && decide (k + 1 ≤ j))) → prodGo a (k + 1) p (2 ^ k) = a := by
  induction k with
  | zero =>
    intro p hp
    rw [prodGo, prodGo]
    apply Nat.eq_of_testBit_eq
    intro j
    have h1 := hp j
    by_cases hb : a.testBit 0 = true
    · rw [if_pos hb, Nat.testBit_xor, h1]
      by_cases hj : j = 0
      · subst hj; simp [hb]
      · have e1 : decide (0 + 1 ≤ j) = true := by simp; omega
        have e2 : (2 ^ 0).testBit j = false := by rw [Nat.testBit_two_pow]; simp; omega
        rw [e1, e2]; simp
    · rw [if_neg hb, h1]
      by_cases hj : j = 0
      · subst hj; simp at hb ⊢; exact hb
      · have e1 : decide (0 + 1 ≤ j) = true := by simp; omega
        rw [e1]; simp
  | succ k ih =>
    intro p hp
    rw [prodGo, hv_pow]
    apply ih
    intro j
    have h1 := hp j
    by_cases hb : a.testBit (k + 1) = true
    · rw [if_pos hb, Nat.testBit_xor, h1, Nat.testBit_two_pow]
      by_cases hj : j = k + 1
      · subst hj; simp [hb]
      · have e2 : decide (k + 1 = j) = false := by simp; omega
        rw [e2]
        by_cases hj2 : k + 1 ≤ j
        · have e3 : decide (k + 1 + 1 ≤ j) = true := by simp; omega
          have e4 : decide (k + 1 ≤ j) = true := by simp; omega
          rw [e3, e4]; simp
        · have e3 : decide (k + 1 + 1 ≤ j) = false := by simp; omega
          have e4 : decide (k + 1 ≤ j) = false := by simp; omega
          rw [e3, e4]; simp
    · rw [if_neg hb, h1]
      by_cases hj : j = k + 1
      · subst hj
        have hb' : a.testBit (k + 1) = false := by simpa using hb
        rw [hb']; simp
      · by_cases hj2 : k + 1 ≤ j
        · have e3 : decide (k + 1 + 1 ≤ j) = true := by simp; omega
          have e4 : decide (k + 1 ≤ j) = true := by simp; omega
          rw [e3, e4]
        · have e3 : decide (k + 1 + 1 ≤ j) = false := by simp; omega
          have e4 : decide (k + 1 ≤ j) = false := by simp; omega
          rw [e3, e4]
def ONE : Nat := 2147483648
theorem prodR_one (a : Nat) (h : a < 4294967296) : prodR a ONE = a := by
  have := prodGo_one a 31 0 (fun j => by
    by_cases hj : 31 + 1 ≤ j
    · have : a.testBit j = false := Nat.testBit_lt_two_pow (Nat.lt_of_lt_of_le h (Nat.pow_le_pow_right (n := 2) (by decide) hj))
      rw [this]; simp
    · have : decide (31 + 1 ≤ j) = false := by simp; omega
      rw [this]; simp)
  exact this
theorem prodR_step (a e : Nat) (h : a < 4294967296) : prodR a (hvN e ONE) = hvN e a := by rw [prodR_hvN, prodR_one a h]
theorem prodGo_lt (a k : Nat) : ∀ p b, p < 4294967296 → b < 4294967296 → prodGo a k p b < 4294967296 := by
  induction k with
  | zero => intro p b hp _; exact hp
  | succ k ih =>
    intro p b hp hb
    rw [prodGo]
    refine ih _ _ ?_ (hv_lt b hb)
    split
    · exact Nat.xor_lt_two_pow (n := 32) hp hb
    · exact hp
theorem and_pow (a k : Nat) : a &&& 2 ^ k = if a.testBit k then 2 ^ k else 0 := by
  apply Nat.eq_of_testBit_eq
  intro j
  rw [Nat.testBit_and, Nat.testBit_two_pow]
  by_cases hj : k = j
  · subst hj
    cases h : a.testBit k <;> simp
  · have e : decide (k = j) = false := by simpa using hj
    rw [e]
    split
    · rw [Nat.testBit_two_pow, e]; simp
    · simp
theorem test_bit (a i : Nat) (ha : a < 4294967296) (hi : i < 32) : (bits BinOp.and IntKind.u32 (a : Int) (2147483648 / 2 ^ i) != 0) = a.testBit (31 - i) := by
  have e : (2147483648 : Int) / 2 ^ i = ((2 ^ (31 - i) : Nat) : Int) := by
    have h1 : (2147483648 : Int) = 2 ^ (31 - i) * 2 ^ i := by rw [← Int.pow_add, show 31 - i + i = 31 by omega]; rfl
    rw [h1, Int.mul_ediv_cancel _ (Int.pow_ne_zero (by decide))]
    simp
  rw [e, and_u32 _ _ ha (by have : 2 ^ (31 - i) ≤ 2 ^ 31 := Nat.pow_le_pow_right (by decide) (by omega); omega), and_pow]
  cases h : a.testBit (31 - i)
  · simp
  · simp
    exact Int.pow_ne_zero (by decide)

set_option maxRecDepth 20000 in
theorem product_any (a b : Nat) (w : World) (ha : a < 4294967296) (hb : b < 4294967296) :
    Calls Try.prog 31 #[.int .u32 (a : Int), .int .u32 (b : Int)] w fun e w' => e = .returned (.int .u32 (prodR a b : Int)) ∧ w' = w := by
  have HA : Hid (a < 4294967296) := ha
  have HB : Hid (b < 4294967296) := hb
  have hai : (a : Int) ≤ 4294967295 := by omega
  clear ha hb
  go_enter Try.func31, Try.ntmps31
  go_wp2
  go_loop [1, 5, 7] (fun t u i => ∃ j P Q : Nat, j ≤ 32 ∧ Hid (P < 4294967296 ∧ Q < 4294967296) ∧ i = .int .i64 j ∧ u = .int .u32 (P : Int) ∧ t = .int .u32 (Q : Int) ∧ Hid (prodR a b = prodGo a (32 - j) P Q)) (fun _ _ i => 32 - (intOf i).toNat)
  case atStart => exact ⟨0, 0, b, by omega, ⟨by decide, HB.out⟩, rfl, rfl, rfl, (rfl : prodR a b = _)⟩
  case round =>
    obtain ⟨j, P, Q, hj, HP, rfl, rfl, rfl, HE⟩ := hrel
    have hPi : (P : Int) ≤ 4294967295 := by have := HP.out.1; omega
    have hQi : (Q : Int) ≤ 4294967295 := by have := HP.out.2; omega
    by_cases hlt : j < 32
    · have hc := fun w => halved_any Q w HP.out.2
      have ht := test_bit a j HA.out hlt
      have ex := xor_u32 P Q HP.out.1 HP.out.2
      obtain ⟨X, hX⟩ : ∃ X, X = P ^^^ Q := ⟨_, rfl⟩
      rw [← hX] at ex
      have HX : Hid (X = P ^^^ Q) := hX
      clear hX
      by_cases hbit : a.testBit (31 - j) = true
      · have HE' : Hid (prodR a b = prodGo a (32 - (j + 1)) X (hv Q)) := by
          show _ = _
          rw [HE.out, show 32 - j = (31 - j) + 1 by omega, prodGo, if_pos hbit, HX.out, show 32 - (j + 1) = 31 - j by omega]
        rw [hbit] at ht
        clear hbit
        go_wp2_with (go_at_call 26; refine (hc _).mono ?_; rintro e w' ⟨rfl, rfl⟩)
        go_round
        case rel => exact ⟨j + 1, X, hv Q, by omega, ⟨by rw [HX.out]; exact Nat.xor_lt_two_pow (n := 32) HP.out.1 HP.out.2, hv_lt Q HP.out.2⟩, by go_num, rfl, rfl, HE'⟩
        case measure => simp [intOf]; omega
      · have HE' : Hid (prodR a b = prodGo a (32 - (j + 1)) P (hv Q)) := by
          show _ = _
          rw [HE.out, show 32 - j = (31 - j) + 1 by omega, prodGo, if_neg hbit, show 32 - (j + 1) = 31 - j by omega]
        have hbf : a.testBit (31 - j) = false := by simpa using hbit
        rw [hbf] at ht
        clear hbit hbf
        go_wp2_with (go_at_call 26; refine (hc _).mono ?_; rintro e w' ⟨rfl, rfl⟩)
        go_round
        case rel => exact ⟨j + 1, P, hv Q, by omega, ⟨HP.out.1, hv_lt Q HP.out.2⟩, by go_num, rfl, rfl, HE'⟩
        case measure => simp [intOf]; omega
    · obtain rfl : j = 32 := by omega
      go_wp2
      go_ret
      exact ⟨ret_int (by rw [HE.out]; rfl), rfl⟩

theorem step_one : 8388608 = hvN 8 ONE := by decide
theorem and_one_i64 (m : Nat) (h : (m : Int) ≤ 9223372036854775807) : bits BinOp.and IntKind.i64 (m : Int) 1 = ((m % 2 : Nat) : Int) := by
  have hk : ∀ n : Int, 0 ≤ n → n < 2 ^ 63 → IntKind.i64.wrap n = n := fun n h0 h1 => by rw [IntKind.wrap_i64]; omega
  have := (bits_nat .i64 63 (by decide) hk m 1 (by omega) (by decide)).1
  rw [Nat.and_one_is_mod] at this
  exact this
theorem ONE_lt : ONE < 4294967296 := by decide

set_option maxRecDepth 20000 in
theorem behind_any (r many : Nat) (w : World) (hr : r < 4294967296) (hm : (many : Int) ≤ 1073741824) :
    Calls Try.prog 29 #[.int .u32 (r : Int), .int .i64 (many : Int)] w fun e w' => e = .returned (.int .u32 (hvN (8 * many) r : Int)) ∧ w' = w := by
  have HR : Hid (r < 4294967296) := hr
  clear hr
  go_enter Try.func29, Try.ntmps29
  go_wp2
  go_loop [0, 1, 5] (fun t u i => ∃ R m S E : Nat, m ≤ many ∧ Hid (R < 4294967296 ∧ S < 4294967296 ∧ S = hvN E ONE) ∧ t = .int .u32 (R : Int) ∧ u = .int .i64 (m : Int) ∧ i = .int .u32 (S : Int) ∧ Hid (hvN (8 * many) r = hvN (E * m) R)) (fun _ u _ => (intOf u).toNat)
  case atStart => exact ⟨r, many, 8388608, 8, by omega, ⟨HR.out, by decide, step_one⟩, rfl, rfl, rfl, (rfl : hvN (8 * many) r = _)⟩
  case round =>
    obtain ⟨R, m, S, E, hmm, HS, rfl, rfl, rfl, HE⟩ := hrel
    have hmi : (m : Int) ≤ 1073741824 := by omega
    by_cases hpos : 0 < m
    · have hc1 : ∀ w, Calls Try.prog 31 #[.int .u32 (R : Int), .int .u32 (S : Int)] w fun e w' => e = .returned (.int .u32 (hvN E R : Int)) ∧ w' = w := fun w => by
        have := product_any R S w HS.out.1 HS.out.2.1
        rw [HS.out.2.2, prodR_step R E HS.out.1, ← HS.out.2.2] at this
        exact this
      have hc2 : ∀ w, Calls Try.prog 31 #[.int .u32 (S : Int), .int .u32 (S : Int)] w fun e w' => e = .returned (.int .u32 (hvN (2 * E) ONE : Int)) ∧ w' = w := fun w => by
        have := product_any S S w HS.out.2.1 HS.out.2.1
        have e : prodR S S = hvN (2 * E) ONE := by
          have h1 := prodR_step S E HS.out.2.1
          rw [← HS.out.2.2] at h1
          rw [h1, HS.out.2.2, ← hvN_add]
          congr 1
          omega
        rw [e] at this
        exact this
      obtain ⟨R', hR'⟩ : ∃ R', R' = hvN E R := ⟨_, rfl⟩
      obtain ⟨S', hS'⟩ : ∃ S', S' = hvN (2 * E) ONE := ⟨_, rfl⟩
      rw [← hR'] at hc1
      rw [← hS'] at hc2
      have HR' : Hid (R' = hvN E R) := hR'
      have HS' : Hid (S' = hvN (2 * E) ONE) := hS'
      clear hR' hS'
      have ha := and_one_i64 m (by omega)
      have hS2 : S' < 4294967296 := by rw [HS'.out]; exact hvN_lt _ _ ONE_lt
      have HS2 : Hid (S' < 4294967296) := hS2
      clear hS2
      by_cases hodd : m % 2 = 1
      · rw [hodd] at ha
        go_wp2_with fail
        go_at_call 31; refine (hc1 _).mono ?_; rintro e w' ⟨rfl, rfl⟩
        go_wp2_with fail
        go_at_call 31; refine (hc2 _).mono ?_; rintro e w' ⟨rfl, rfl⟩
        go_wp2
        go_round
        case rel =>
          refine ⟨R', m / 2, S', 2 * E, by omega, ⟨?_, HS2.out, HS'.out⟩, rfl, by go_num, rfl, ?_⟩
          · rw [HR'.out]; exact hvN_lt _ _ HS.out.1
          · show _ = _
            rw [HE.out, HR'.out, ← hvN_add]
            congr 1
            have h2 : m = 2 * (m / 2) + 1 := by omega
            have h3 : E * m = E * (2 * (m / 2) + 1) := by rw [← h2]
            rw [h3, Nat.mul_add, Nat.mul_one, ← Nat.mul_assoc, Nat.mul_comm E 2]
        case measure => simp [intOf]; omega
      · have he : m % 2 = 0 := by omega
        rw [he] at ha
        go_wp2_with fail
        go_at_call 31; refine (hc2 _).mono ?_; rintro e w' ⟨rfl, rfl⟩
        go_wp2
        go_round
        case rel =>
          refine ⟨R, m / 2, S', 2 * E, by omega, ⟨HS.out.1, HS2.out, HS'.out⟩, rfl, by go_num, rfl, ?_⟩
          show _ = _
          rw [HE.out]
          congr 1
          have h2 : m = 2 * (m / 2) := by omega
          have h3 : E * m = E * (2 * (m / 2)) := by rw [← h2]
          rw [h3, ← Nat.mul_assoc, Nat.mul_comm E 2]
        case measure => simp [intOf]; omega
    · obtain rfl : m = 0 := by omega
      go_wp2
      go_ret
      exact ⟨ret_int (by rw [HE.out, Nat.mul_zero]; rfl), rfl⟩

def zerosR (sum m : Nat) : Nat := notR (hvN (8 * m) (notR sum))
def joinR (a b m : Nat) : Nat := hvN (8 * m) a ^^^ b
theorem zerosR_lt (sum m : Nat) (h : sum < 4294967296) : zerosR sum m < 4294967296 := notR_lt _ (hvN_lt _ _ (notR_lt _ h))
theorem joinR_lt (a b m : Nat) (ha : a < 4294967296) (hb : b < 4294967296) : joinR a b m < 4294967296 := Nat.xor_lt_two_pow (n := 32) (hvN_lt _ _ ha) hb
theorem join_ref (a b m : Nat) : (zerosR a m ^^^ zerosR 0 m) ^^^ b = joinR a b m := by
  have h1 : zerosR a m ^^^ zerosR 0 m = hvN (8 * m) (notR a) ^^^ hvN (8 * m) (notR 0) := by
    unfold zerosR
    rw [notR.eq_1 (hvN _ (notR a)), notR.eq_1 (hvN _ (notR 0)), xor4, Nat.xor_self, Nat.xor_zero]
  have h2 : notR a ^^^ notR 0 = a := by
    unfold notR
    rw [xor4, Nat.xor_self, Nat.xor_zero, Nat.xor_zero]
  rw [h1, ← hvN_xor, h2]
  rfl

theorem may_any (m : Int) (w : World) (h0 : -9223372036854775808 ≤ m) (h1 : m ≤ 9223372036854775807) :
    Calls Try.prog 28 #[.int .i64 m] w fun e w' => e = .returned (.bool (decide (0 ≤ m ∧ m ≤ 1073741824))) ∧ w' = w := by
  by_cases c0 : 0 ≤ m
  · by_cases c1 : m ≤ 1073741824
    · go_enter Try.func28, Try.ntmps28
      go_wp2
      go_ret
      exact ⟨ret_bool (by simp; omega), rfl⟩
    · go_enter Try.func28, Try.ntmps28
      go_wp2
      go_ret
      exact ⟨ret_bool (by simp; omega), rfl⟩
  · go_enter Try.func28, Try.ntmps28
    go_wp2
    go_ret
    exact ⟨ret_bool (by simp; omega), rfl⟩
theorem may_yes (m : Int) (w : World) (h0 : 0 ≤ m) (h1 : m ≤ 1073741824) :
    Calls Try.prog 28 #[.int .i64 m] w fun e w' => e = .returned (.bool true) ∧ w' = w := by
  have := may_any m w (by omega) (by omega)
  rw [show decide (0 ≤ m ∧ m ≤ 1073741824) = true by simp; omega] at this
  exact this
theorem may_no (m : Int) (w : World) (h0 : -9223372036854775808 ≤ m) (h1 : m ≤ 9223372036854775807) (h : ¬ (0 ≤ m ∧ m ≤ 1073741824)) :
    Calls Try.prog 28 #[.int .i64 m] w fun e w' => e = .returned (.bool false) ∧ w' = w := by
  have := may_any m w (by omega) (by omega)
  rw [show decide (0 ≤ m ∧ m ≤ 1073741824) = false by simp; omega] at this
  exact this
theorem zeros_no (a m : Int) (w : World) (h0 : -9223372036854775808 ≤ m) (h1 : m ≤ 9223372036854775807) (h : ¬ (0 ≤ m ∧ m ≤ 1073741824)) :
    Calls Try.prog 14 #[.int .u32 a, .int .i64 m] w fun e w' => e = .returned (.tuple #[.int .u32 0, .int .i64 1]) ∧ w' = w := by
  have hc := fun w => may_no m w h0 h1 h
  go_enter Try.func14, Try.ntmps14
  go_wp2_with fail
  go_at_call 28; refine (hc _).mono ?_; rintro e w' ⟨rfl, rfl⟩
  go_wp2
  go_ret2
  exact ⟨rfl, rfl⟩
theorem join_no (a b m : Int) (w : World) (h0 : -9223372036854775808 ≤ m) (h1 : m ≤ 9223372036854775807) (h : ¬ (0 ≤ m ∧ m ≤ 1073741824)) :
    Calls Try.prog 16 #[.int .u32 a, .int .u32 b, .int .i64 m] w fun e w' => e = .returned (.tuple #[.int .u32 0, .int .i64 1]) ∧ w' = w := by
  have hc := fun w => may_no m w h0 h1 h
  go_enter Try.func16, Try.ntmps16
  go_wp2_with fail
  go_at_call 28; refine (hc _).mono ?_; rintro e w' ⟨rfl, rfl⟩
  go_wp2
  go_ret2
  exact ⟨rfl, rfl⟩
theorem ret_sum {a b e : Int} (h : a = b) : Ending.returned (.tuple #[.int .u32 a, .int .i64 e]) = .returned (.tuple #[.int .u32 b, .int .i64 e]) := by rw [h]
set_option maxRecDepth 20000 in
theorem zeros_any (a m : Nat) (w : World) (ha : a < 4294967296) (hm : (m : Int) ≤ 1073741824) :
    Calls Try.prog 14 #[.int .u32 (a : Int), .int .i64 (m : Int)] w fun e w' => e = .returned (.tuple #[.int .u32 (zerosR a m : Int), .int .i64 0]) ∧ w' = w := by
  have hc := fun w => may_yes m w (by omega) hm
  have hb := fun w => behind_any (notR a) m w (notR_lt _ ha) hm
  have e1 := not_u32 a ha
  have e2 := not_u32 (hvN (8 * m) (notR a)) (hvN_lt _ _ (notR_lt _ ha))
  obtain ⟨N, hN⟩ : ∃ N, N = notR a := ⟨_, rfl⟩
  have HZ : Hid (zerosR a m = notR (hvN (8 * m) N)) := by show _ = _; rw [hN]; rfl
  rw [← hN] at hb e1 e2
  obtain ⟨Z, hZ⟩ : ∃ Z, Z = hvN (8 * m) N := ⟨_, rfl⟩
  rw [← hZ] at hb e2
  have HZ2 : Hid (zerosR a m = notR Z) := by show _ = _; rw [HZ.out, hZ]
  have hai : (a : Int) ≤ 4294967295 := by omega
  clear hN hZ ha HZ
  go_enter Try.func14, Try.ntmps14
  go_wp2_with fail
  go_at_call 28; refine (hc _).mono ?_; rintro e w' ⟨rfl, rfl⟩
  go_wp2_with fail
  go_at_call 29; refine (hb _).mono ?_; rintro e w' ⟨rfl, rfl⟩
  go_wp2
  go_ret2
  exact ⟨ret_sum (by rw [HZ2.out]), rfl⟩
set_option maxRecDepth 20000 in
theorem join_any (a b m : Nat) (w : World) (ha : a < 4294967296) (hb : b < 4294967296) (hm : (m : Int) ≤ 1073741824) :
    Calls Try.prog 16 #[.int .u32 (a : Int), .int .u32 (b : Int), .int .i64 (m : Int)] w fun e w' => e = .returned (.tuple #[.int .u32 (joinR a b m : Int), .int .i64 0]) ∧ w' = w := by
  have hc := fun w => may_yes m w (by omega) hm
  have hbh := fun w => behind_any a m w ha hm
  have e1 := xor_u32 (hvN (8 * m) a) b (hvN_lt _ _ ha) hb
  obtain ⟨Z, hZ⟩ : ∃ Z, Z = hvN (8 * m) a := ⟨_, rfl⟩
  rw [← hZ] at hbh e1
  have HZ : Hid (joinR a b m = Z ^^^ b) := by show _ = _; rw [hZ]; rfl
  clear hZ ha hb
  go_enter Try.func16, Try.ntmps16
  go_wp2_with fail
  go_at_call 28; refine (hc _).mono ?_; rintro e w' ⟨rfl, rfl⟩
  go_wp2_with fail
  go_at_call 29; refine (hbh _).mono ?_; rintro e w' ⟨rfl, rfl⟩
  go_wp2
  go_ret2
  exact ⟨ret_sum (by rw [HZ.out]), rfl⟩

set_option maxRecDepth 20000 in
theorem rzeros_any (a m : Nat) (w : World) (ha : a < 4294967296) (hm : (m : Int) ≤ 1073741824) :
    Calls Try.prog 15 #[.int .u32 (a : Int), .int .i64 (m : Int)] w fun e w' => e = .returned (.tuple #[.int .u32 (zerosR a m : Int), .int .i64 0]) ∧ w' = w := by
  have e1 := xor_u32_ones a ha
  obtain ⟨N, hN⟩ : ∃ N, N = notR a := ⟨_, rfl⟩
  have HZ : Hid (zerosR a m = notR (hvN (8 * m) N) ∧ N < 4294967296) := ⟨by rw [hN]; rfl, by rw [hN]; exact notR_lt _ ha⟩
  rw [← hN] at e1
  have hai : (a : Int) ≤ 4294967295 := by omega
  clear hN ha
  go_enter Try.func15, Try.ntmps15
  go_wp2
  go_loop [6, 7] (fun t i => ∃ k R : Nat, k ≤ m ∧ Hid (R < 4294967296) ∧ i = .int .i64 (k : Int) ∧ t = .int .u32 (R : Int) ∧ Hid (hvN (8 * m) N = hvN (8 * (m - k)) R)) (fun _ i => m - (intOf i).toNat)
  case atStart => exact ⟨0, N, by omega, HZ.out.2, rfl, rfl, (rfl : hvN (8 * m) N = _)⟩
  case round =>
    obtain ⟨k, R, hk, HR, rfl, rfl, HE⟩ := hrel
    have hRi : (R : Int) ≤ 4294967295 := by have := HR.out; omega
    by_cases hlt : k < m
    · have hc : ∀ w, Calls Try.prog 27 #[.int .u32 (R : Int), .int .u8 0] w fun e w' => e = .returned (.int .u32 (hvN 8 R : Int)) ∧ w' = w := fun w => by
        have := step_any R 0 w HR.out
        rw [show (0 : UInt8).toNat = 0 from rfl, Nat.xor_zero] at this
        exact this
      obtain ⟨Q, hQ⟩ : ∃ Q, Q = hvN 8 R := ⟨_, rfl⟩
      rw [← hQ] at hc
      have HQ : Hid (Q = hvN 8 R) := hQ
      clear hQ
      go_wp2_with fail
      go_at_call 27; refine (hc _).mono ?_; rintro e w' ⟨rfl, rfl⟩
      go_wp2
      go_round
      case rel =>
        refine ⟨k + 1, Q, by omega, ?_, by go_num, rfl, ?_⟩
        · show _ < _
          rw [HQ.out]; exact hvN_lt _ _ HR.out
        · show _ = _
          rw [HE.out, HQ.out, ← hvN_add]
          congr 1
          omega
      case measure => simp [intOf]; omega
    · have e2 := xor_u32_ones R HR.out
      have HZ2 : Hid (zerosR a m = notR R) := by
        show _ = _
        have hE := HE.out
        rw [show m - k = 0 by omega] at hE
        rw [HZ.out.1, hE]; rfl
      go_wp2
      go_ret2
      exact ⟨ret_sum (by rw [HZ2.out]), rfl⟩
theorem rzeros_no (a m : Int) (w : World) (h0 : -9223372036854775808 ≤ m) (h1 : m ≤ 9223372036854775807) (h : ¬ (0 ≤ m ∧ m ≤ 1073741824)) :
    Calls Try.prog 15 #[.int .u32 a, .int .i64 m] w fun e w' => e = .returned (.tuple #[.int .u32 0, .int .i64 1]) ∧ w' = w := by
  by_cases c0 : m < 0
  · go_enter Try.func15, Try.ntmps15
    go_wp2
    go_ret2
    exact ⟨rfl, rfl⟩
  · have c1 : 1073741824 < m := by omega
    go_enter Try.func15, Try.ntmps15
    go_wp2
    go_ret2
    exact ⟨rfl, rfl⟩
theorem rjoin_no (a b m : Int) (w : World) (h0 : -9223372036854775808 ≤ m) (h1 : m ≤ 9223372036854775807) (h : ¬ (0 ≤ m ∧ m ≤ 1073741824)) :
    Calls Try.prog 17 #[.int .u32 a, .int .u32 b, .int .i64 m] w fun e w' => e = .returned (.tuple #[.int .u32 0, .int .i64 1]) ∧ w' = w := by
  have c1 := fun w => rzeros_no a m w h0 h1 h
  have c2 := fun w => rzeros_no 0 m w h0 h1 h
  go_enter Try.func17, Try.ntmps17
  go_wp2_with fail
  go_at_call 15; refine (c1 _).mono ?_; rintro e w' ⟨rfl, rfl⟩
  go_wp2_with fail
  go_at_call 15; refine (c2 _).mono ?_; rintro e w' ⟨rfl, rfl⟩
  go_wp2
  go_ret2
  exact ⟨rfl, rfl⟩
set_option maxRecDepth 20000 in
theorem rjoin_any (a b m : Nat) (w : World) (ha : a < 4294967296) (hb : b < 4294967296) (hm : (m : Int) ≤ 1073741824) :
    Calls Try.prog 17 #[.int .u32 (a : Int), .int .u32 (b : Int), .int .i64 (m : Int)] w fun e w' => e = .returned (.tuple #[.int .u32 (joinR a b m : Int), .int .i64 0]) ∧ w' = w := by
  have c1 := fun w => rzeros_any a m w ha hm
  have c2 : ∀ w, Calls Try.prog 15 #[.int .u32 0, .int .i64 (m : Int)] w fun e w' => e = .returned (.tuple #[.int .u32 (zerosR 0 m : Int), .int .i64 0]) ∧ w' = w := fun w => rzeros_any 0 m w (by decide) hm
  have e1 := xor_u32 (zerosR a m) (zerosR 0 m) (zerosR_lt _ _ ha) (zerosR_lt _ _ (by decide))
  have e2 := xor_u32 (zerosR a m ^^^ zerosR 0 m) b (Nat.xor_lt_two_pow (n := 32) (zerosR_lt _ _ ha) (zerosR_lt _ _ (by decide))) hb
  rw [join_ref] at e2
  obtain ⟨X, hX⟩ : ∃ X, X = zerosR a m := ⟨_, rfl⟩
  obtain ⟨Y, hY⟩ : ∃ Y, Y = zerosR 0 m := ⟨_, rfl⟩
  obtain ⟨J, hJ⟩ : ∃ J, J = joinR a b m := ⟨_, rfl⟩
  rw [← hX] at c1 e1 e2
  rw [← hY] at c2 e1 e2
  rw [← hJ] at e2 ⊢
  obtain ⟨V, hV⟩ : ∃ V, V = X ^^^ Y := ⟨_, rfl⟩
  rw [← hV] at e1 e2
  clear hX hY hJ hV ha hb
  go_enter Try.func17, Try.ntmps17
  go_wp2_with fail
  go_at_call 15; refine (c1 _).mono ?_; rintro e w' ⟨rfl, rfl⟩
  go_wp2_with fail
  go_at_call 15; refine (c2 _).mono ?_; rintro e w' ⟨rfl, rfl⟩
  go_wp2
  go_ret2
  exact ⟨rfl, rfl⟩
end Go.Proofs.Ytmbciomfkiadiab.Crc
