/- Plain mathematics of addresses and prefixes: an address is a number below 2^128. -/
import Derived.WalkKit
set_option linter.unusedVariables false
namespace Go.Proofs.Ytmkbijnndbgjgaa.Addr

def hiN (n : Nat) : Nat := n / 18446744073709551616
def loN (n : Nat) : Nat := n % 18446744073709551616
theorem hilo (n : Nat) : n = 18446744073709551616 * hiN n + loN n := by unfold hiN loN; omega
theorem loN_lt (n : Nat) : loN n < 18446744073709551616 := by unfold loN; omega
theorem hiN_lt {n : Nat} (h : n < 2 ^ 128) : hiN n < 18446744073709551616 := by unfold hiN; omega
theorem of_hilo (h l : Nat) (hl : l < 18446744073709551616) : hiN (18446744073709551616 * h + l) = h ∧ loN (18446744073709551616 * h + l) = l := by unfold hiN loN; omega
theorem eq_hilo {n m : Nat} (h1 : hiN n = hiN m) (h2 : loN n = loN m) : n = m := by rw [hilo n, hilo m, h1, h2]
def wideN (six : Bool) : Nat := if six then 128 else 32
theorem wideN_le (six : Bool) : wideN six ≤ 128 := by cases six <;> decide
theorem wideN_ge (six : Bool) : 32 ≤ wideN six := by cases six <;> decide

/- ### bits -/
theorem andNot_pow (a k : Nat) (hk : k ≤ 64) (ha : a < 18446744073709551616) : a &&& (18446744073709551615 - (2 ^ k - 1)) = a - a % 2 ^ k := by
  have hp : 0 < 2 ^ k := Nat.two_pow_pos k
  have hle : 2 ^ k ≤ 2 ^ 64 := Nat.pow_le_pow_right (by decide) hk
  have h1 : 18446744073709551615 - (2 ^ k - 1) = 2 ^ 64 - ((2 ^ k - 1) + 1) := by omega
  have h2 : a - a % 2 ^ k = 2 ^ k * (a / 2 ^ k) := by have := Nat.div_add_mod a (2 ^ k); omega
  rw [h1, h2]
  apply Nat.eq_of_testBit_eq
  intro i
  rw [Nat.testBit_and, Nat.testBit_two_pow_sub_succ (by omega), Nat.testBit_two_pow_sub_one, Nat.testBit_two_pow_mul, Nat.testBit_div_two_pow]
  by_cases hi : i < k
  · simp [hi]; omega
  · have hik : k ≤ i := by omega
    simp [hi, hik]
    intro hb
    by_cases h64 : i < 64
    · exact h64
    · have hlt : a < 2 ^ i := Nat.lt_of_lt_of_le ha (Nat.pow_le_pow_right (n := 2) (by decide) (by omega : 64 ≤ i))
      rw [Nat.testBit_lt_two_pow hlt] at hb
      simp at hb
theorem or_pow (a k : Nat) (h : a % 2 ^ k = 0) : a ||| (2 ^ k - 1) = a + (2 ^ k - 1) := by
  have hp : 0 < 2 ^ k := Nat.two_pow_pos k
  have h2 : a = 2 ^ k * (a / 2 ^ k) := by have := Nat.div_add_mod a (2 ^ k); omega
  have h3 := Nat.two_pow_add_eq_or_of_lt (i := k) (b := 2 ^ k - 1) (by omega) (a / 2 ^ k)
  rw [← h2] at h3
  exact h3.symm

/- ### the last bits -/
def freeN (k : Nat) : Nat := 2 ^ k - 1
def firstN (k n : Nat) : Nat := n - n % 2 ^ k
theorem pow64 (k : Nat) (h : 64 < k) : (2 : Nat) ^ k = 18446744073709551616 * 2 ^ (k - 64) := by
  rw [show (18446744073709551616 : Nat) = 2 ^ 64 by decide, ← Nat.pow_add]; congr 1; omega
theorem free_hi (k : Nat) : hiN (freeN k) = 2 ^ (k - 64) - 1 := by
  unfold hiN freeN
  by_cases h : 64 < k
  · rw [pow64 k h]
    have hp := Nat.two_pow_pos (k - 64)
    omega
  · have hle : 2 ^ k ≤ 2 ^ 64 := Nat.pow_le_pow_right (by decide) (by omega)
    rw [show k - 64 = 0 by omega]
    omega
theorem free_lo (k : Nat) : loN (freeN k) = 2 ^ (min k 64) - 1 := by
  unfold loN freeN
  have hp := Nat.two_pow_pos (k - 64)
  by_cases h : 64 < k
  · rw [pow64 k h, show min k 64 = 64 by omega]
    omega
  · have hle : 2 ^ k ≤ 2 ^ 64 := Nat.pow_le_pow_right (by decide) (by omega)
    have hp := Nat.two_pow_pos k
    rw [show min k 64 = k by omega]
    omega
theorem mod_le64 (n k : Nat) (h : ¬ 64 < k) : n % 2 ^ k = loN n % 2 ^ k := by
  unfold loN
  rw [show (18446744073709551616 : Nat) = 2 ^ 64 by decide, Nat.mod_mod_of_dvd _ (Nat.pow_dvd_pow 2 (by omega))]
theorem mod_gt64 (n k : Nat) (h : 64 < k) : n % 2 ^ k = loN n + 18446744073709551616 * (hiN n % 2 ^ (k - 64)) := by
  unfold loN hiN
  rw [pow64 k h, Nat.mod_mul]
theorem first_hi (k n : Nat) : hiN (firstN k n) = hiN n - hiN n % 2 ^ (k - 64) := by
  have hn := hilo n
  have hl := loN_lt n
  unfold firstN
  by_cases h : 64 < k
  · rw [mod_gt64 n k h]
    have := Nat.mod_le (hiN n) (2 ^ (k - 64))
    generalize hiN n % 2 ^ (k - 64) = m at *
    generalize hiN n = H at *
    generalize loN n = L at *
    subst hn
    unfold hiN; omega
  · rw [mod_le64 n k h, show k - 64 = 0 by omega, Nat.pow_zero, Nat.mod_one]
    have := Nat.mod_le (loN n) (2 ^ k)
    generalize loN n % 2 ^ k = m at *
    generalize hiN n = H at *
    generalize loN n = L at *
    subst hn
    unfold hiN; omega
theorem first_lo (k n : Nat) : loN (firstN k n) = loN n - loN n % 2 ^ (min k 64) := by
  have hn := hilo n
  have hl := loN_lt n
  unfold firstN
  by_cases h : 64 < k
  · rw [mod_gt64 n k h, show min k 64 = 64 by omega]
    have := Nat.mod_le (hiN n) (2 ^ (k - 64))
    generalize hiN n % 2 ^ (k - 64) = m at *
    generalize hiN n = H at *
    generalize loN n = L at *
    subst hn
    unfold loN; omega
  · rw [mod_le64 n k h, show min k 64 = k by omega]
    have := Nat.mod_le (loN n) (2 ^ k)
    generalize loN n % 2 ^ k = m at *
    generalize hiN n = H at *
    generalize loN n = L at *
    subst hn
    unfold loN; omega
theorem first_eq (k n : Nat) : firstN k n = n ↔ n % 2 ^ k = 0 := by
  unfold firstN; have := Nat.mod_le n (2 ^ k); omega
theorem first_zero (k n : Nat) : firstN k n % 2 ^ k = 0 := by
  unfold firstN
  rw [show n - n % 2 ^ k = 2 ^ k * (n / 2 ^ k) by have := Nat.div_add_mod n (2 ^ k); omega, Nat.mul_mod_right]
theorem zero_parts {n k : Nat} (h : n % 2 ^ k = 0) : hiN n % 2 ^ (k - 64) = 0 ∧ loN n % 2 ^ (min k 64) = 0 := by
  by_cases hk : 64 < k
  · rw [mod_gt64 n k hk] at h
    rw [show min k 64 = 64 by omega]
    have : loN n < 2 ^ 64 := loN_lt n
    constructor
    · omega
    · rw [show loN n = 0 by omega]
  · rw [mod_le64 n k hk] at h
    rw [show k - 64 = 0 by omega, show min k 64 = k by omega]
    exact ⟨Nat.mod_one _, h⟩
theorem add_free {n k : Nat} (h : n % 2 ^ k = 0) : hiN (n + freeN k) = hiN n + (2 ^ (k - 64) - 1) ∧ loN (n + freeN k) = loN n + (2 ^ (min k 64) - 1) := by
  have h1 := free_hi k
  have h2 := free_lo k
  have hz := zero_parts h
  rw [← h1, ← h2]
  have hn := hilo n
  have hf := hilo (freeN k)
  have hl := loN_lt n
  have hl2 := loN_lt (freeN k)
  have key : loN n + loN (freeN k) < 18446744073709551616 := by
    rw [h2]
    have hm : min k 64 ≤ 64 := by omega
    have e1 : (18446744073709551616 : Nat) = 2 ^ (min k 64) * 2 ^ (64 - min k 64) := by rw [← Nat.pow_add, show min k 64 + (64 - min k 64) = 64 by omega]
    have hz2 := hz.2
    have hp := Nat.two_pow_pos (min k 64)
    rw [e1] at hl ⊢
    generalize 2 ^ (min k 64) = q at *
    generalize 2 ^ (64 - min k 64) = r at *
    generalize loN n = L at *
    have e2 : L = q * (L / q) := by have := Nat.div_add_mod L q; omega
    have e3 : L / q < r := Nat.div_lt_of_lt_mul hl
    have e4 : q * (L / q + 1) ≤ q * r := Nat.mul_le_mul_left q e3
    rw [Nat.mul_add, ← e2] at e4
    omega
  generalize hiN n = H at *
  generalize loN n = L at *
  generalize hHf : hiN (freeN k) = Hf at *
  generalize hLf : loN (freeN k) = Lf at *
  generalize freeN k = f at *
  have := of_hilo (H + Hf) (L + Lf) key
  rw [show n + f = 18446744073709551616 * (H + Hf) + (L + Lf) by omega]
  exact this

/- ### what is asked -/
def rightB (six : Bool) (n : Nat) : Bool := decide (n < 2 ^ wideN six)
def cmpN (n m : Nat) : Int := if n < m then -1 else if n = m then 0 else 1
structure Pf where
  six : Bool
  n : Nat
  len : Int
def okP (p : Pf) : Bool := decide (0 ≤ p.len ∧ p.len ≤ (wideN p.six : Int)) && (rightB p.six p.n && decide (p.n % 2 ^ (wideN p.six - p.len.toNat) = 0))
theorem okP_iff {p : Pf} : okP p = true ↔ (0 ≤ p.len ∧ p.len ≤ (wideN p.six : Int)) ∧ p.n < 2 ^ wideN p.six ∧ p.n % 2 ^ (wideN p.six - p.len.toNat) = 0 := by
  unfold okP rightB
  simp only [Bool.and_eq_true, decide_eq_true_eq]
def checkP (p : Pf) : Int := if okP p = true then 0 else 2
def kP (p : Pf) : Nat := wideN p.six - p.len.toNat
def lastN (p : Pf) : Nat := p.n + freeN (kP p)
def lastE (p : Pf) : Nat × Int := if okP p = true then (lastN p, 0) else (0, 2)
def hasB (p : Pf) (six : Bool) (a : Nat) : Bool := okP p && (decide (p.six = six) && (rightB six a && decide (firstN (kP p) a = p.n)))
def coversB (p q : Pf) : Bool := okP q && (decide (p.len ≤ q.len) && hasB p q.six q.n)
def nextE (six : Bool) (n : Nat) : Nat × Int := if rightB six n = true then (if n = 2 ^ wideN six - 1 then (0, 3) else (n + 1, 0)) else (0, 2)
def prevE (six : Bool) (n : Nat) : Nat × Int := if rightB six n = true then (if n = 0 then (0, 3) else (n - 1, 0)) else (0, 2)
def halvesE (p : Pf) : Pf × Pf × Int := if okP p = true then (if p.len = (wideN p.six : Int) then (⟨false, 0, 0⟩, ⟨false, 0, 0⟩, 3) else (⟨p.six, p.n, p.len + 1⟩, ⟨p.six, p.n + 2 ^ (kP p - 1), p.len + 1⟩, 0)) else (⟨false, 0, 0⟩, ⟨false, 0, 0⟩, 2)
end Go.Proofs.Ytmkbijnndbgjgaa.Addr
