/- Plain mathematics of rows of bits: the document's way of an address. -/
import Derived.Test.YtengicljipfckaaAddrMath2
set_option linter.unusedVariables false
namespace Go.Proofs.Ytengicljipfckaa.Addr

/-- a number's last W bits, the highest first -/
def bitL (W n : Nat) : List Nat := (List.range W).map fun i => (n.testBit (W - 1 - i)).toNat
theorem bitL_len (W n : Nat) : (bitL W n).length = W := by simp [bitL]
theorem bitL_get (W n i : Nat) (h : i < W) : (bitL W n)[i]'(by rw [bitL_len]; exact h) = (n.testBit (W - 1 - i)).toNat := by simp [bitL]
theorem bitL_get? (W n i : Nat) (h : i < W) : (bitL W n)[i]? = some (n.testBit (W - 1 - i)).toNat := by simp [bitL, h]
theorem bitL_le (W n : Nat) : ∀ b ∈ bitL W n, b ≤ 1 := by
  intro b hb
  obtain ⟨i, _, rfl⟩ := List.mem_map.1 hb
  cases n.testBit (W - 1 - i) <;> decide
/-- the number of bits -/
def ofL (l : List Nat) : Nat := l.foldl (fun a b => (2 * a + b) % 2 ^ 128) 0
theorem ofL_snoc (l : List Nat) (b : Nat) : ofL (l ++ [b]) = (2 * ofL l + b) % 2 ^ 128 := by unfold ofL; rw [List.foldl_append]; rfl
theorem ofL_lt (l : List Nat) : ofL l < 2 ^ 128 := by
  rcases List.eq_nil_or_concat l with rfl | ⟨l2, b, rfl⟩
  · decide
  · rw [List.concat_eq_append, ofL_snoc]; exact Nat.mod_lt _ (by decide)
theorem ofL_take (l : List Nat) (k : Nat) (h : k < l.length) : ofL (l.take (k + 1)) = (2 * ofL (l.take k) + l[k]) % 2 ^ 128 := by
  rw [List.take_succ_eq_append_getElem h, ofL_snoc]
theorem bitL_succ (W n : Nat) : bitL (W + 1) n = bitL W (n / 2) ++ [n % 2] := by
  unfold bitL
  rw [List.range_succ, List.map_append]
  congr 1
  · apply List.map_congr_left
    intro i hi
    have hi2 : i < W := List.mem_range.1 hi
    rw [show W + 1 - 1 - i = (W - 1 - i) + 1 by omega, Nat.testBit_succ]
  · simp only [List.map_cons, List.map_nil]
    congr 1
    rw [show W + 1 - 1 - W = 0 by omega, Nat.toNat_testBit]
    simp
theorem ofL_bits (W n : Nat) (h : W ≤ 128) : ofL (bitL W n) = n % 2 ^ W := by
  induction W generalizing n with
  | zero => simp [bitL, ofL, Nat.mod_one]
  | succ W ih =>
    rw [bitL_succ, ofL_snoc, ih _ (by omega)]
    have hp := Nat.two_pow_pos W
    have hle : (2 : Nat) ^ (W + 1) ≤ 2 ^ 128 := Nat.pow_le_pow_right (by decide) h
    have e : (2 : Nat) ^ (W + 1) = 2 * 2 ^ W := by rw [Nat.pow_succ, Nat.mul_comm]
    rw [e] at *
    have hm := Nat.mod_mul (x := n) (a := 2) (b := 2 ^ W)
    have hlt := Nat.mod_lt (n / 2) hp
    rw [hm]
    rw [Nat.mod_eq_of_lt (by omega)]
    omega
/-- a row in which one bit is another one is the row of another number -/
theorem bitL_set (W n t : Nat) (b : Bool) (h : t < W) : ∃ m, (bitL W n).set (W - 1 - t) b.toNat = bitL W m ∧ ∀ j, m.testBit j = if j = t then b else n.testBit j := by
  have hB : n % 2 ^ t < 2 ^ t := Nat.mod_lt _ (Nat.two_pow_pos t)
  have key : ∀ j, (2 ^ t * (2 * (n / 2 ^ (t + 1)) + b.toNat) + n % 2 ^ t).testBit j = if j = t then b else n.testBit j := by
    intro j
    rw [Nat.testBit_two_pow_mul_add _ hB]
    by_cases hj : j < t
    · rw [if_pos hj, if_neg (by omega), Nat.testBit_mod_two_pow]
      simp [hj]
    · rw [if_neg hj]
      by_cases he : j = t
      · subst he
        rw [if_pos rfl, Nat.sub_self, Nat.testBit_zero]
        cases b <;> simp <;> omega
      · rw [if_neg he]
        obtain ⟨m, rfl⟩ : ∃ m, j = t + 1 + m := ⟨j - t - 1, by omega⟩
        rw [show t + 1 + m - t = m + 1 by omega, Nat.testBit_succ]
        have : (2 * (n / 2 ^ (t + 1)) + b.toNat) / 2 = n / 2 ^ (t + 1) := by cases b <;> simp <;> omega
        rw [this, Nat.testBit_div_two_pow]
        congr 1; omega
  refine ⟨_, ?_, key⟩
  apply List.ext_getElem
  · simp [bitL_len]
  · intro i h1 h2
    rw [bitL_len] at h2
    rw [List.getElem_set, bitL_get W n i h2, bitL_get W _ i h2, key]
    by_cases hi : W - 1 - t = i
    · rw [if_pos hi, if_pos (by omega)]
    · rw [if_neg hi, if_neg (by omega)]
theorem eq_of_bits {x y W : Nat} (hx : x < 2 ^ W) (hy : y < 2 ^ W) (h : ∀ j, j < W → x.testBit j = y.testBit j) : x = y := by
  apply Nat.eq_of_testBit_eq
  intro j
  by_cases hj : j < W
  · exact h j hj
  · have hle : (2 : Nat) ^ W ≤ 2 ^ j := Nat.pow_le_pow_right (by decide) (by omega)
    rw [Nat.testBit_lt_two_pow (by omega), Nat.testBit_lt_two_pow (by omega)]
theorem mod_zero_bits (n k : Nat) : n % 2 ^ k = 0 ↔ ∀ j, j < k → n.testBit j = false := by
  constructor
  · intro h j hj
    have := Nat.testBit_mod_two_pow n k j
    rw [h, Nat.zero_testBit] at this
    simpa [hj] using this.symm
  · intro h
    apply Nat.eq_of_testBit_eq
    intro j
    rw [Nat.testBit_mod_two_pow, Nat.zero_testBit]
    by_cases hj : j < k
    · simp [h j hj]
    · simp [hj]
theorem div_eq_bits {n m k W : Nat} (hn : n < 2 ^ W) (hm : m < 2 ^ W) : n / 2 ^ k = m / 2 ^ k ↔ ∀ j, k ≤ j → j < W → n.testBit j = m.testBit j := by
  constructor
  · intro h j h1 h2
    have e1 : (n / 2 ^ k).testBit (j - k) = n.testBit (j - k + k) := Nat.testBit_div_two_pow n (j - k)
    have e2 : (m / 2 ^ k).testBit (j - k) = m.testBit (j - k + k) := Nat.testBit_div_two_pow m (j - k)
    rw [show j - k + k = j by omega] at e1 e2
    rw [← e1, ← e2, h]
  · intro h
    apply Nat.eq_of_testBit_eq
    intro j
    rw [Nat.testBit_div_two_pow, Nat.testBit_div_two_pow]
    by_cases hj : j + k < W
    · exact h _ (by omega) hj
    · have hle : (2 : Nat) ^ W ≤ 2 ^ (j + k) := Nat.pow_le_pow_right (by decide) (by omega)
      rw [Nat.testBit_lt_two_pow (by omega), Nat.testBit_lt_two_pow (by omega)]
/-- the last bits are ones -/
theorem last_bits {n m k W : Nat} (hk : k ≤ W) (hn : n < 2 ^ W) (h0 : n % 2 ^ k = 0) (h : ∀ j, j < W → m.testBit j = if j < k then true else n.testBit j) : m % 2 ^ W = n + freeN k := by
  have hp := Nat.two_pow_pos k
  have hlast : n + 2 ^ k ≤ 2 ^ W := mult_room h0 (pow_mod _ _ hk) hp hn
  apply eq_of_bits (W := W) (Nat.mod_lt _ (Nat.two_pow_pos W)) (by unfold freeN; omega)
  intro j hj
  rw [Nat.testBit_mod_two_pow]
  have e : n + freeN k = 2 ^ k * (n / 2 ^ k) + (2 ^ k - 1) := by have := Nat.div_add_mod n (2 ^ k); unfold freeN; omega
  rw [e, Nat.testBit_two_pow_mul_add _ (by omega), Nat.testBit_two_pow_sub_one, h j hj]
  simp only [hj, decide_true, Bool.true_and]
  by_cases hjk : j < k
  · simp [hjk]
  · simp only [hjk, if_false]
    rw [Nat.testBit_div_two_pow, show j - k + k = j by omega]
/-- the bit at t is one more -/
theorem half_bits {n m t W : Nat} (ht : t < W) (hn : n < 2 ^ W) (h0 : n % 2 ^ (t + 1) = 0) (h : ∀ j, m.testBit j = if j = t then true else n.testBit j) : m % 2 ^ W = n + 2 ^ t := by
  have hp := Nat.two_pow_pos t
  have e2 : (2 : Nat) ^ (t + 1) = 2 ^ t + 2 ^ t := by rw [Nat.pow_succ]; omega
  have hlast : n + 2 ^ (t + 1) ≤ 2 ^ W := mult_room h0 (pow_mod _ _ ht) (Nat.two_pow_pos _) hn
  apply eq_of_bits (W := W) (Nat.mod_lt _ (Nat.two_pow_pos W)) (by omega)
  intro j hj
  rw [Nat.testBit_mod_two_pow, h j]
  have e : n + 2 ^ t = 2 ^ (t + 1) * (n / 2 ^ (t + 1)) + 2 ^ t := by have := Nat.div_add_mod n (2 ^ (t + 1)); omega
  rw [e, Nat.testBit_two_pow_mul_add _ (by omega), Nat.testBit_two_pow]
  simp only [hj, decide_true, Bool.true_and]
  by_cases hjt : j = t
  · subst hjt; simp
  · rw [if_neg hjt]
    by_cases hj1 : j < t + 1
    · rw [if_pos hj1, decide_eq_false (fun hc => hjt hc.symm)]
      exact (mod_zero_bits _ _).1 h0 j hj1
    · rw [if_neg hj1, Nat.testBit_div_two_pow, show j - (t + 1) + (t + 1) = j by omega]
/-- last bits that are ones, and the nought ahead of them, turned: one more -/
theorem next_bits {n m t W : Nat} (ht : t < W) (hn : n < 2 ^ W) (hl : ∀ j, j < t → n.testBit j = true) (h1 : n.testBit t = false) (h : ∀ j, j < W → m.testBit j = if j < t then false else if j = t then true else n.testBit j) : m % 2 ^ W = n + 1 ∧ n ≠ 2 ^ W - 1 := by
  have hp := Nat.two_pow_pos t
  have e2 : (2 : Nat) ^ (t + 1) = 2 ^ t + 2 ^ t := by rw [Nat.pow_succ]; omega
  have en : n = 2 ^ (t + 1) * (n / 2 ^ (t + 1)) + (2 ^ t - 1) := by
    have hd := Nat.div_add_mod n (2 ^ (t + 1))
    have hm : n % 2 ^ (t + 1) = 2 ^ t - 1 := by
      apply eq_of_bits (W := t + 1) (Nat.mod_lt _ (Nat.two_pow_pos _)) (by omega)
      intro j hj
      rw [Nat.testBit_mod_two_pow, Nat.testBit_two_pow_sub_one]
      simp only [hj, decide_true, Bool.true_and]
      by_cases hjt : j < t
      · rw [hl j hjt, decide_eq_true hjt]
      · rw [show j = t by omega, h1]; simp
    omega
  have hroom : 2 ^ (t + 1) * (n / 2 ^ (t + 1)) + 2 ^ (t + 1) ≤ 2 ^ W := by
    apply mult_room (q := 2 ^ (t + 1)) (Nat.mul_mod_right _ _) (pow_mod (t + 1) W ht) (Nat.two_pow_pos _)
    have := Nat.div_mul_le_self n (2 ^ (t + 1))
    rw [Nat.mul_comm] at this; omega
  constructor
  · have : m % 2 ^ W = 2 ^ (t + 1) * (n / 2 ^ (t + 1)) + 2 ^ t := by
      apply eq_of_bits (W := W) (Nat.mod_lt _ (Nat.two_pow_pos W)) (by omega)
      intro j hj
      rw [Nat.testBit_mod_two_pow, h j hj, Nat.testBit_two_pow_mul_add _ (by omega), Nat.testBit_two_pow]
      simp only [hj, decide_true, Bool.true_and]
      by_cases hjt : j < t
      · rw [if_pos hjt, if_pos (by omega), decide_eq_false (by omega)]
      · rw [if_neg hjt]
        by_cases he : j = t
        · rw [if_pos he, if_pos (by omega), decide_eq_true he.symm]
        · rw [if_neg he, if_neg (by omega), Nat.testBit_div_two_pow, show j - (t + 1) + (t + 1) = j by omega]
    omega
  · omega
theorem ones_bits {n W : Nat} (hn : n < 2 ^ W) (hl : ∀ j, j < W → n.testBit j = true) : n = 2 ^ W - 1 := by
  have hp := Nat.two_pow_pos W
  apply eq_of_bits hn (by omega)
  intro j hj
  rw [hl j hj, Nat.testBit_two_pow_sub_one, decide_eq_true hj]
/-- last bits that are noughts, and the one ahead of them, turned: one less -/
theorem prev_bits {n m t W : Nat} (ht : t < W) (hn : n < 2 ^ W) (hl : ∀ j, j < t → n.testBit j = false) (h1 : n.testBit t = true) (h : ∀ j, j < W → m.testBit j = if j < t then true else if j = t then false else n.testBit j) : m % 2 ^ W + 1 = n := by
  have hm : m % 2 ^ W < 2 ^ W := Nat.mod_lt _ (Nat.two_pow_pos W)
  have hb : ∀ j, j < W → (m % 2 ^ W).testBit j = if j < t then true else if j = t then false else n.testBit j := fun j hj => by
    rw [Nat.testBit_mod_two_pow, h j hj]; simp [hj]
  have := next_bits (n := m % 2 ^ W) (m := n) ht hm (fun j hj => by rw [hb j (by omega), if_pos hj]) (by rw [hb t ht, if_neg (by omega), if_pos rfl]) (fun j hj => by
    by_cases hjt : j < t
    · rw [if_pos hjt, hl j hjt]
    · rw [if_neg hjt]
      by_cases he : j = t
      · rw [if_pos he, he, h1]
      · rw [if_neg he, hb j hj, if_neg hjt, if_neg he])
  have e := this.1
  rw [Nat.mod_eq_of_lt hn] at e
  exact e.symm
theorem zero_bits {n W : Nat} (hn : n < 2 ^ W) (hl : ∀ j, j < W → n.testBit j = false) : n = 0 := by
  apply eq_of_bits hn (Nat.two_pow_pos W)
  intro j hj
  rw [hl j hj, Nat.zero_testBit]
end Go.Proofs.Ytengicljipfckaa.Addr
