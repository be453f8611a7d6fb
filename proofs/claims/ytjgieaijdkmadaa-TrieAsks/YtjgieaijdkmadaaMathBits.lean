/- Plain mathematics of bits, and of a number's bytes in groups of seven bits: no program in sight. -/
import Derived.WalkKit
import Derived.WalkSmall
import Derived.Laws.BitsLemmas
import Derived.Lib.BitFns
namespace Go.Proofs.Ytjgieaijdkmadaa
open Go.RowKit

/- ### bits of one byte -/
theorem or128_all : ∀ n : Fin 256, bits BinOp.or IntKind.u8 (n.val : Int) 128 = (n.val : Int) % 128 + 128 := by decide +kernel
theorem andNot128_all : ∀ n : Fin 256, bits BinOp.andNot IntKind.u8 (n.val : Int) 128 = (n.val : Int) % 128 := by decide +kernel
theorem or128 (x : Int) (h0 : 0 ≤ x) (h1 : x ≤ 255) : bits BinOp.or IntKind.u8 x 128 = x % 128 + 128 := by
  have e := or128_all ⟨x.toNat, by omega⟩
  simpa only [Int.toNat_of_nonneg h0] using e
theorem andNot128 (x : Int) (h0 : 0 ≤ x) (h1 : x ≤ 255) : bits BinOp.andNot IntKind.u8 x 128 = x % 128 := by
  have e := andNot128_all ⟨x.toNat, by omega⟩
  simpa only [Int.toNat_of_nonneg h0] using e

/- ### turning the sign -/
theorem xor_u64_zero (x : Int) (h0 : 0 ≤ x) (h1 : x ≤ 18446744073709551615) : bits BinOp.xor IntKind.u64 x 0 = x := by
  obtain ⟨a, rfl⟩ := Int.eq_ofNat_of_zero_le h0
  simp only [bits]
  rw [IntKind.wrap_u64]
  have e : BitVec.ofInt IntKind.u64.bits 0 = 0#_ := by decide +kernel
  rw [e, BitVec.xor_zero, BitVec.toNat_ofInt]
  simp only [IntKind.bits]
  omega
theorem xor_u64_ones (x : Int) (h0 : 0 ≤ x) (h1 : x ≤ 18446744073709551615) : bits BinOp.xor IntKind.u64 x 18446744073709551615 = 18446744073709551615 - x := by
  obtain ⟨a, rfl⟩ := Int.eq_ofNat_of_zero_le h0
  simp only [bits]
  rw [IntKind.wrap_u64]
  have e : BitVec.ofInt IntKind.u64.bits 18446744073709551615 = BitVec.allOnes _ := by decide +kernel
  rw [e, BitVec.xor_allOnes, BitVec.toNat_not, BitVec.toNat_ofInt]
  simp only [IntKind.bits]
  omega
theorem xor_i64_zero (x : Int) (h0 : -9223372036854775808 ≤ x) (h1 : x ≤ 9223372036854775807) : bits BinOp.xor IntKind.i64 x 0 = x := by
  simp only [bits]
  rw [IntKind.wrap_i64]
  have e : BitVec.ofInt IntKind.i64.bits 0 = 0#_ := by decide +kernel
  rw [e, BitVec.xor_zero, BitVec.toNat_ofInt]
  simp only [IntKind.bits]
  omega
theorem xor_i64_ones (x : Int) (h0 : -9223372036854775808 ≤ x) (h1 : x ≤ 9223372036854775807) : bits BinOp.xor IntKind.i64 x (-1) = -x - 1 := by
  simp only [bits]
  rw [IntKind.wrap_i64]
  have e : BitVec.ofInt IntKind.i64.bits (-1) = BitVec.allOnes _ := by decide +kernel
  rw [e, BitVec.xor_allOnes, BitVec.toNat_not, BitVec.toNat_ofInt]
  simp only [IntKind.bits]
  omega

/-- 2n, or -2n - 1 -/
def zigZ (n : Int) : Int := if 0 ≤ n then 2 * n else -2 * n - 1
def zagZ (u : Int) : Int := if u % 2 = 0 then u / 2 else -(u / 2) - 1
theorem zig_bits (n : Int) (h0 : -9223372036854775808 ≤ n) (h1 : n ≤ 9223372036854775807) :
    bits BinOp.xor IntKind.u64 (IntKind.u64.wrap (wrap64 (n * 2))) (IntKind.u64.wrap (n / 9223372036854775808)) = zigZ n := by
  unfold zigZ wrap64
  rw [IntKind.wrap_u64, IntKind.wrap_u64]
  by_cases h : 0 ≤ n
  · rw [if_pos h, show n / 9223372036854775808 % 18446744073709551616 = 0 by omega, xor_u64_zero _ (by omega) (by omega)]
    omega
  · rw [if_neg h, show n / 9223372036854775808 % 18446744073709551616 = 18446744073709551615 by omega, xor_u64_ones _ (by omega) (by omega)]
    omega
theorem zag_bits (n : Int) (h0 : 0 ≤ n) (h1 : n ≤ 18446744073709551615) :
    bits BinOp.xor IntKind.i64 (n / 2) (wrap64 (-wrap64 (bits BinOp.and IntKind.u64 n 1))) = zagZ n := by
  rw [and_one_u64 n h0 h1]
  unfold zagZ wrap64
  by_cases h : n % 2 = 0
  · rw [if_pos h, h]
    exact xor_i64_zero _ (by omega) (by omega)
  · rw [if_neg h, show n % 2 = 1 by omega]
    exact xor_i64_ones _ (by omega) (by omega)

/- ### the bytes of a number -/
def putF : Nat → Nat → List UInt8
  | 0, n => [UInt8.ofNat n]
  | f + 1, n => if n < 128 then [UInt8.ofNat n] else UInt8.ofNat (n % 128 + 128) :: putF f (n / 128)
theorem putF_fuel (f : Nat) : ∀ g n, n ≤ f → n ≤ g → putF f n = putF g n := by
  induction f with
  | zero =>
    intro g n h1 h2
    obtain rfl : n = 0 := by omega
    cases g with
    | zero => rfl
    | succ g => rw [putF, putF, if_pos (by decide)]
  | succ f ih =>
    intro g n h1 h2
    cases g with
    | zero =>
      obtain rfl : n = 0 := by omega
      rw [putF, putF, if_pos (by decide)]
    | succ g =>
      rw [putF, putF]
      by_cases h : n < 128
      · rw [if_pos h, if_pos h]
      · rw [if_neg h, if_neg h, ih g (n / 128) (by omega) (by omega)]
def putL (n : Nat) : List UInt8 := putF n n

theorem putL_small (n : Nat) (h : n < 128) : putL n = [UInt8.ofNat n] := by
  rw [putL]
  cases n with
  | zero => rfl
  | succ n => rw [putF, if_pos h]
theorem putL_big (n : Nat) (h : ¬ n < 128) : putL n = UInt8.ofNat (n % 128 + 128) :: putL (n / 128) := by
  rw [putL, putL, putF_fuel n (n + 1) n (by omega) (by omega), putF, if_neg h, putF_fuel n (n / 128) (n / 128) (by omega) (by omega)]

theorem putL_len (k : Nat) : ∀ n, n < 128 ^ (k + 1) → (k = 0 ∨ 128 ^ k ≤ n) → (putL n).length = k + 1 := by
  induction k with
  | zero => intro n h _; rw [putL_small n (by omega)]; rfl
  | succ k ih =>
    intro n h h2
    have hp : 128 ^ (k + 1) = 128 * 128 ^ k := by rw [Nat.pow_succ]; omega
    have hq : 0 < 128 ^ k := Nat.pow_pos (by decide)
    have h3 : 128 ^ (k + 1) ≤ n := by omega
    rw [putL_big n (by omega)]
    have h4 : n / 128 < 128 ^ (k + 1) := by rw [Nat.div_lt_iff_lt_mul (by decide)]; rw [Nat.pow_succ] at h; omega
    have h5 : 128 ^ k ≤ n / 128 := by rw [Nat.le_div_iff_mul_le (by decide)]; omega
    simp [ih (n / 128) h4 (.inr h5)]

/-- the byte at place i of k + 1 -/
theorem putL_at (k : Nat) : ∀ n i, n < 128 ^ (k + 1) → (k = 0 ∨ 128 ^ k ≤ n) → i ≤ k →
    (putL n)[i]? = some (UInt8.ofNat (if i = k then n / 128 ^ i else n / 128 ^ i % 128 + 128)) := by
  induction k with
  | zero => intro n i h _ hi; obtain rfl : i = 0 := by omega
            rw [putL_small n (by omega)]; simp
  | succ k ih =>
    intro n i h h2 hi
    have hp : 128 ^ (k + 1) = 128 * 128 ^ k := by rw [Nat.pow_succ]; omega
    have hq : 0 < 128 ^ k := Nat.pow_pos (by decide)
    have h3 : 128 ^ (k + 1) ≤ n := by omega
    rw [putL_big n (by omega)]
    cases i with
    | zero => simp
    | succ i =>
      have h4 : n / 128 < 128 ^ (k + 1) := by rw [Nat.div_lt_iff_lt_mul (by decide)]; rw [Nat.pow_succ] at h; omega
      have h5 : 128 ^ k ≤ n / 128 := by rw [Nat.le_div_iff_mul_le (by decide)]; omega
      have := ih (n / 128) i h4 (.inr h5) (by omega)
      have e : n / 128 / 128 ^ i = n / 128 ^ (i + 1) := by rw [Nat.div_div_eq_div_mul, Nat.pow_succ, Nat.mul_comm]
      rw [e] at this
      simpa using this

theorem putL_ne (n : Nat) : putL n ≠ [] := by
  by_cases h : n < 128
  · rw [putL_small n h]; simp
  · rw [putL_big n h]; simp

/- ### how many bytes -/
theorem bitLenAux_spec (f : Nat) : ∀ x, x < 2 ^ f → x ≠ 0 → ∃ L, Lib.bitLenAux f x = L + 1 ∧ 2 ^ L ≤ x ∧ x < 2 ^ (L + 1) := by
  induction f with
  | zero => intro x h h2; omega
  | succ f ih =>
    intro x h h2
    by_cases h1 : x / 2 = 0
    · refine ⟨0, ?_, by omega, by omega⟩
      rw [Lib.bitLenAux, if_neg h2, h1]
      cases f <;> simp [Lib.bitLenAux]
    · obtain ⟨L, e, a, b⟩ := ih (x / 2) (by rw [Nat.pow_succ] at h; omega) h1
      refine ⟨L + 1, ?_, ?_, ?_⟩
      · rw [Lib.bitLenAux, if_neg h2, e]; omega
      · rw [Nat.pow_succ]; omega
      · rw [Nat.pow_succ]; omega

theorem or_one (n : Nat) : n ||| 1 = n + (1 - n % 2) := by
  have h1 : (n ||| 1) % 2 = 1 := by
    have : (n ||| 1) % 2 ^ 1 = (n % 2 ^ 1) ||| (1 % 2 ^ 1) := Nat.or_mod_two_pow
    simp at this
    rw [this]
    have : n % 2 = 0 ∨ n % 2 = 1 := by omega
    rcases this with h | h <;> rw [h] <;> rfl
  have h2 : (n ||| 1) / 2 = n / 2 := by
    have := @Nat.or_div_two_pow n 1 1
    simpa using this
  omega

/-- the count of bytes that the program reckons: at most 10, and it fits -/
theorem many_spec (n : Nat) (h : n < 18446744073709551616) : ∃ k, (Lib.bitLen (n ||| 1) + 6) / 7 = k + 1 ∧ k ≤ 9 ∧ n < 128 ^ (k + 1) ∧ (k = 0 ∨ 128 ^ k ≤ n) := by
  have e := or_one n
  obtain ⟨L, hL, h1, h2⟩ := bitLenAux_spec 64 (n ||| 1) (by omega) (by omega)
  have hL64 : L < 64 := by
    apply Nat.lt_of_not_le
    intro hc
    have : 2 ^ 64 ≤ 2 ^ L := Nat.pow_le_pow_right (by decide) hc
    omega
  have p : ∀ k, 128 ^ k = 2 ^ (7 * k) := fun k => by rw [show 128 = 2 ^ 7 by rfl, ← Nat.pow_mul]
  refine ⟨L / 7, ?_, by omega, ?_, ?_⟩
  · rw [Lib.bitLen, hL]; omega
  · have : 2 ^ (L + 1) ≤ 2 ^ (7 * (L / 7 + 1)) := Nat.pow_le_pow_right (by decide) (by omega)
    rw [p]; omega
  · by_cases h7 : L / 7 = 0
    · exact .inl h7
    · refine .inr ?_
      have h3 : 2 ^ (7 * (L / 7)) ≤ 2 ^ L := Nat.pow_le_pow_right (by decide) (by omega)
      have h4 : 2 ^ (7 * (L / 7)) % 2 = 0 := by
        obtain ⟨m, hm⟩ : ∃ m, 7 * (L / 7) = m + 1 := ⟨7 * (L / 7) - 1, by omega⟩
        rw [hm, Nat.pow_succ]; omega
      rw [p]; omega
theorem or_one_u64 (n : Int) (h0 : 0 ≤ n) (h1 : n ≤ 18446744073709551615) : bits BinOp.or IntKind.u64 n 1 = ((n.toNat ||| 1 : Nat) : Int) := by
  have h := bits_or_u64_nat n.toNat 1 (by omega) (by omega)
  rw [Int.toNat_of_nonneg h0] at h
  exact h
theorem or_one_le (n : Nat) (h : n < 18446744073709551616) : (n ||| 1) < 18446744073709551616 := by have := or_one n; omega
end Go.Proofs.Ytjgieaijdkmadaa
