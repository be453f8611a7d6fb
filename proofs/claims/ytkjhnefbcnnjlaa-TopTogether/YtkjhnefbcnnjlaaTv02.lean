/- The library's contract of (*strings.Builder).WriteString, laid at this program by hand (its tool does not find two of the types, which no body names). -/
import Derived.WalkKit
import Derived.WalkSmall
import Derived.Laws.BitsLemmas
import Derived.Lib.BitFns
import Derived.Test.YtkjhnefbcnnjlaaShelf
import Derived.Laws.IdiomStrings
import Derived.RegionTactic
import Derived.Deep.RegionWith
import Derived.BigRegion
import Derived.ChangeAlike
import Derived.Lib.EndianBits
import Derived.BigQuiet
import Derived.Deep.QuietTactic
import Derived.Shelf.Strings.Builder1
set_option linter.unusedVariables false
namespace Go.Proofs.Ytkjhnefbcnnjlaa
open Go.RowKit

/- ### bits of one byte -/
theorem or128_all : ∀ n : Fin 256, bits BinOp.or IntKind.u8 (n.val : Int) 128 = (n.val : Int) % 128 + 128 := by decide +kernel
theorem andNot128_all : ∀ n : Fin 256, bits BinOp.andNot IntKind.u8 (n.val : Int) 128 = (n.val : Int) % 128 := by decide +kernel
theorem or128 (x : Int) (h0 : 0 ≤ x) (h1 : x ≤ 255) : bits BinOp.or IntKind.u8 x 128 = x % 128 + 128 := by
  have e := or128_all ⟨x.toNat, by omega⟩
  simpa only [Int.toNat_of_nonneg h0] using e
theorem andNot128 (x : Int) (h0 : 0 ≤ x) (h1 : x ≤ 255) : bits BinOp.andNot IntKind.u8 x 128 = x % 128 := by
  have e := andNot128_all ⟨x.toNat, by omega⟩
  simpa only [Int.toNat_of_nonneg h0] using e

/- ### turning the sign -/
theorem xor_u64_zero (x : Int) (h0 : 0 ≤ x) (h1 : x ≤ 18446744073709551615) : bits BinOp.xor IntKind.u64 x 0 = x := by
  obtain ⟨a, rfl⟩ := Int.eq_ofNat_of_zero_le h0
  simp only [bits]
  rw [IntKind.wrap_u64]
  have e : BitVec.ofInt IntKind.u64.bits 0 = 0#_ := by decide +kernel
  rw [e, BitVec.xor_zero, BitVec.toNat_ofInt]
  simp only [IntKind.bits]
  omega
theorem xor_u64_ones (x : Int) (h0 : 0 ≤ x) (h1 : x ≤ 18446744073709551615) : bits BinOp.xor IntKind.u64 x 18446744073709551615 = 18446744073709551615 - x := by
  obtain ⟨a, rfl⟩ := Int.eq_ofNat_of_zero_le h0
  simp only [bits]
  rw [IntKind.wrap_u64]
  have e : BitVec.ofInt IntKind.u64.bits 18446744073709551615 = BitVec.allOnes _ := by decide +kernel
  rw [e, BitVec.xor_allOnes, BitVec.toNat_not, BitVec.toNat_ofInt]
  simp only [IntKind.bits]
  omega
theorem xor_i64_zero (x : Int) (h0 : -9223372036854775808 ≤ x) (h1 : x ≤ 9223372036854775807) : bits BinOp.xor IntKind.i64 x 0 = x := by
  simp only [bits]
  rw [IntKind.wrap_i64]
  have e : BitVec.ofInt IntKind.i64.bits 0 = 0#_ := by decide +kernel
  rw [e, BitVec.xor_zero, BitVec.toNat_ofInt]
  simp only [IntKind.bits]
  omega
theorem xor_i64_ones (x : Int) (h0 : -9223372036854775808 ≤ x) (h1 : x ≤ 9223372036854775807) : bits BinOp.xor IntKind.i64 x (-1) = -x - 1 := by
  simp only [bits]
  rw [IntKind.wrap_i64]
  have e : BitVec.ofInt IntKind.i64.bits (-1) = BitVec.allOnes _ := by decide +kernel
  rw [e, BitVec.xor_allOnes, BitVec.toNat_not, BitVec.toNat_ofInt]
  simp only [IntKind.bits]
  omega

/-- 2n, or -2n - 1 -/
def zigZ (n : Int) : Int := if 0 ≤ n then 2 * n else -2 * n - 1
def zagZ (u : Int) : Int := if u % 2 = 0 then u / 2 else -(u / 2) - 1
theorem zig_bits (n : Int) (h0 : -9223372036854775808 ≤ n) (h1 : n ≤ 9223372036854775807) :
    bits BinOp.xor IntKind.u64 (IntKind.u64.wrap (wrap64 (n * 2))) (IntKind.u64.wrap (n / 9223372036854775808)) = zigZ n := by
  unfold zigZ wrap64
  rw [IntKind.wrap_u64, IntKind.wrap_u64]
  by_cases h : 0 ≤ n
  · rw [if_pos h, show n / 9223372036854775808 % 18446744073709551616 = 0 by omega, xor_u64_zero _ (by omega) (by omega)]
    omega
  · rw [if_neg h, show n / 9223372036854775808 % 18446744073709551616 = 18446744073709551615 by omega, xor_u64_ones _ (by omega) (by omega)]
    omega
theorem zag_bits (n : Int) (h0 : 0 ≤ n) (h1 : n ≤ 18446744073709551615) :
    bits BinOp.xor IntKind.i64 (n / 2) (wrap64 (-wrap64 (bits BinOp.and IntKind.u64 n 1))) = zagZ n := by
  rw [and_one_u64 n h0 h1]
  unfold zagZ wrap64
  by_cases h : n % 2 = 0
  · rw [if_pos h, h]
    exact xor_i64_zero _ (by omega) (by omega)
  · rw [if_neg h, show n % 2 = 1 by omega]
    exact xor_i64_ones _ (by omega) (by omega)

/- ### the bytes of a number -/
def putF : Nat → Nat → List UInt8
  | 0, n => [UInt8.ofNat n]
  | f + 1, n => if n < 128 then [UInt8.ofNat n] else UInt8.ofNat (n % 128 + 128) :: putF f (n / 128)
theorem putF_fuel (f : Nat) : ∀ g n, n ≤ f → n ≤ g → putF f n = putF g n := by
  induction f with
  | zero =>
    intro g n h1 h2
    obtain rfl : n = 0 := by omega
    cases g with
    | zero => rfl
    | succ g => rw [putF, putF, if_pos (by decide)]
  | succ f ih =>
    intro g n h1 h2
    cases g with
    | zero =>
      obtain rfl : n = 0 := by omega
      rw [putF, putF, if_pos (by decide)]
    | succ g =>
      rw [putF, putF]
      by_cases h : n < 128
      · rw [if_pos h, if_pos h]
      · rw [if_neg h, if_neg h, ih g (n / 128) (by omega) (by omega)]
def putL (n : Nat) : List UInt8 := putF n n

theorem putL_small (n : Nat) (h : n < 128) : putL n = [UInt8.ofNat n] := by
  rw [putL]
  cases n with
  | zero => rfl
  | succ n => rw [putF, if_pos h]
theorem putL_big (n : Nat) (h : ¬ n < 128) : putL n = UInt8.ofNat (n % 128 + 128) :: putL (n / 128) := by
  rw [putL, putL, putF_fuel n (n + 1) n (by omega) (by omega), putF, if_neg h, putF_fuel n (n / 128) (n / 128) (by omega) (by omega)]

theorem putL_len (k : Nat) : ∀ n, n < 128 ^ (k + 1) → (k = 0 ∨ 128 ^ k ≤ n) → (putL n).length = k + 1 := by
  induction k with
  | zero => intro n h _; rw [putL_small n (by omega)]; rfl
  | succ k ih =>
    intro n h h2
    have hp : 128 ^ (k + 1) = 128 * 128 ^ k := by rw [Nat.pow_succ]; omega
    have hq : 0 < 128 ^ k := Nat.pow_pos (by decide)
    have h3 : 128 ^ (k + 1) ≤ n := by omega
    rw [putL_big n (by omega)]
    have h4 : n / 128 < 128 ^ (k + 1) := by rw [Nat.div_lt_iff_lt_mul (by decide)]; rw [Nat.pow_succ] at h; omega
    have h5 : 128 ^ k ≤ n / 128 := by rw [Nat.le_div_iff_mul_le (by decide)]; omega
    simp [ih (n / 128) h4 (.inr h5)]

/-- the byte at place i of k + 1 -/
theorem putL_at (k : Nat) : ∀ n i, n < 128 ^ (k + 1) → (k = 0 ∨ 128 ^ k ≤ n) → i ≤ k →
    (putL n)[i]? = some (UInt8.ofNat (if i = k then n / 128 ^ i else n / 128 ^ i % 128 + 128)) := by
  induction k with
  | zero => intro n i h _ hi; obtain rfl : i = 0 := by omega
            rw [putL_small n (by omega)]; simp
  | succ k ih =>
    intro n i h h2 hi
    have hp : 128 ^ (k + 1) = 128 * 128 ^ k := by rw [Nat.pow_succ]; omega
    have hq : 0 < 128 ^ k := Nat.pow_pos (by decide)
    have h3 : 128 ^ (k + 1) ≤ n := by omega
    rw [putL_big n (by omega)]
    cases i with
    | zero => simp
    | succ i =>
      have h4 : n / 128 < 128 ^ (k + 1) := by rw [Nat.div_lt_iff_lt_mul (by decide)]; rw [Nat.pow_succ] at h; omega
      have h5 : 128 ^ k ≤ n / 128 := by rw [Nat.le_div_iff_mul_le (by decide)]; omega
      have := ih (n / 128) i h4 (.inr h5) (by omega)
      have e : n / 128 / 128 ^ i = n / 128 ^ (i + 1) := by rw [Nat.div_div_eq_div_mul, Nat.pow_succ, Nat.mul_comm]
      rw [e] at this
      simpa using this

/- ### how many bytes -/
theorem bitLenAux_spec (f : Nat) : ∀ x, x < 2 ^ f → x ≠ 0 → ∃ L, Lib.bitLenAux f x = L + 1 ∧ 2 ^ L ≤ x ∧ x < 2 ^ (L + 1) := by
  induction f with
  | zero => intro x h h2; omega
  | succ f ih =>
    intro x h h2
    by_cases h1 : x / 2 = 0
    · refine ⟨0, ?_, by omega, by omega⟩
      rw [Lib.bitLenAux, if_neg h2, h1]
      cases f <;> simp [Lib.bitLenAux]
    · obtain ⟨L, e, a, b⟩ := ih (x / 2) (by rw [Nat.pow_succ] at h; omega) h1
      refine ⟨L + 1, ?_, ?_, ?_⟩
      · rw [Lib.bitLenAux, if_neg h2, e]; omega
      · rw [Nat.pow_succ]; omega
      · rw [Nat.pow_succ]; omega

theorem or_one (n : Nat) : n ||| 1 = n + (1 - n % 2) := by
  have h1 : (n ||| 1) % 2 = 1 := by
    have : (n ||| 1) % 2 ^ 1 = (n % 2 ^ 1) ||| (1 % 2 ^ 1) := Nat.or_mod_two_pow
    simp at this
    rw [this]
    have : n % 2 = 0 ∨ n % 2 = 1 := by omega
    rcases this with h | h <;> rw [h] <;> rfl
  have h2 : (n ||| 1) / 2 = n / 2 := by
    have := @Nat.or_div_two_pow n 1 1
    simpa using this
  omega

/-- the count of bytes that the program reckons: at most 10, and it fits -/
theorem many_spec (n : Nat) (h : n < 18446744073709551616) : ∃ k, (Lib.bitLen (n ||| 1) + 6) / 7 = k + 1 ∧ k ≤ 9 ∧ n < 128 ^ (k + 1) ∧ (k = 0 ∨ 128 ^ k ≤ n) := by
  have e := or_one n
  obtain ⟨L, hL, h1, h2⟩ := bitLenAux_spec 64 (n ||| 1) (by omega) (by omega)
  have hL64 : L < 64 := by
    apply Nat.lt_of_not_le
    intro hc
    have : 2 ^ 64 ≤ 2 ^ L := Nat.pow_le_pow_right (by decide) hc
    omega
  have p : ∀ k, 128 ^ k = 2 ^ (7 * k) := fun k => by rw [show 128 = 2 ^ 7 by rfl, ← Nat.pow_mul]
  refine ⟨L / 7, ?_, by omega, ?_, ?_⟩
  · rw [Lib.bitLen, hL]; omega
  · have : 2 ^ (L + 1) ≤ 2 ^ (7 * (L / 7 + 1)) := Nat.pow_le_pow_right (by decide) (by omega)
    rw [p]; omega
  · by_cases h7 : L / 7 = 0
    · exact .inl h7
    · refine .inr ?_
      have h3 : 2 ^ (7 * (L / 7)) ≤ 2 ^ L := Nat.pow_le_pow_right (by decide) (by omega)
      have h4 : 2 ^ (7 * (L / 7)) % 2 = 0 := by
        obtain ⟨m, hm⟩ : ∃ m, 7 * (L / 7) = m + 1 := ⟨7 * (L / 7) - 1, by omega⟩
        rw [hm, Nat.pow_succ]; omega
      rw [p]; omega
theorem or_one_u64 (n : Int) (h0 : 0 ≤ n) (h1 : n ≤ 18446744073709551615) : bits BinOp.or IntKind.u64 n 1 = ((n.toNat ||| 1 : Nat) : Int) := by
  have h := bits_or_u64_nat n.toNat 1 (by omega) (by omega)
  rw [Int.toNat_of_nonneg h0] at h
  exact h
theorem or_one_le (n : Nat) (h : n < 18446744073709551616) : (n ||| 1) < 18446744073709551616 := by have := or_one n; omega
end Go.Proofs.Ytkjhnefbcnnjlaa
namespace Go.Proofs.Ytkjhnefbcnnjlaa
open Go.RowKit
theorem ret_int {k : IntKind} {a b : Int} (h : a = b) : Ending.returned (.int k a) = .returned (.int k b) := by rw [h]
theorem bytesOf_any (n : Int) (w : World) (h0 : 0 ≤ n) (h1 : n ≤ 18446744073709551615) (k : Nat) (hk : (Lib.bitLen (n.toNat ||| 1) + 6) / 7 = k + 1) (hk9 : k ≤ 9) :
    Calls Try.prog 26 #[.int .u64 n] w fun e w' => e = .returned (.int .i64 (k + 1)) ∧ w' = w := by
  have e1 := or_one_u64 n h0 h1
  have e2 := or_one_le n.toNat (by omega)
  go_enter Try.func26, Try.ntmps26
  go_wp2_with (go_at_call 50; refine (Try.bits_Len64 _ _ (by omega) (by omega)).mono ?_; rintro e w' ⟨rfl, rfl⟩)
  go_ret
  exact ⟨ret_int (by omega), rfl⟩
theorem addr_add (b o j : Nat) : (⟨b, o, none⟩ : Addr).add j = ⟨b, o + j, none⟩ := by unfold Addr.add; split <;> simp_all
/-- the bytes that the loop and the last store leave -/
theorem put_cells (n : Int) (h0 : 0 ≤ n) (k : Nat) (hlt : n.toNat < 128 ^ (k + 1)) (hge : k = 0 ∨ 128 ^ k ≤ n.toNat) (hk9 : k ≤ 9) (C : Array Value) (hC : C.size = 10)
    (hm : ∀ m, m < k + 1 → C[m]? = some (.int .u8 (n / 2 ^ (7 * m) % 128 + 128))) (j : Nat) (hj : j < (putL n.toNat).length) :
    (C.setIfInBounds k (.int .u8 (bits BinOp.andNot IntKind.u8 (n / 2 ^ (7 * k) % 128 + 128) 128)))[j]? = some (.int .u8 ((putL n.toNat)[j].toNat : Int)) := by
  have hl := putL_len k n.toNat hlt hge
  have hat := putL_at k n.toNat j hlt hge (by omega)
  have p : ∀ m, (128 : Nat) ^ m = 2 ^ (7 * m) := fun m => by rw [show 128 = 2 ^ 7 by rfl, ← Nat.pow_mul]
  have hd : ∀ m, n / 2 ^ (7 * m) = ((n.toNat / 128 ^ m : Nat) : Int) := fun m => by
    rw [p]
    obtain ⟨a, rfl⟩ := Int.eq_ofNat_of_zero_le h0
    simp
  rw [List.getElem?_eq_getElem hj] at hat
  have hat' : (putL n.toNat)[j] = UInt8.ofNat (if j = k then n.toNat / 128 ^ j else n.toNat / 128 ^ j % 128 + 128) := Option.some.inj hat
  rw [hat']
  by_cases hjk : j = k
  · subst hjk
    rw [Array.getElem?_setIfInBounds_self_of_lt (by omega), if_pos rfl, andNot128 _ (by omega) (by omega), hd]
    have hb : n.toNat / 128 ^ j < 128 := by
      rw [Nat.div_lt_iff_lt_mul (Nat.pow_pos (by decide))]
      rw [Nat.pow_succ] at hlt; omega
    have : (UInt8.ofNat (n.toNat / 128 ^ j)).toNat = n.toNat / 128 ^ j := by simp; omega
    rw [this]
    congr 2
    omega
  · rw [Array.getElem?_setIfInBounds_ne (by omega), hm j (by omega), if_neg hjk, hd]
    have : (UInt8.ofNat (n.toNat / 128 ^ j % 128 + 128)).toNat = n.toNat / 128 ^ j % 128 + 128 := by simp; omega
    rw [this]
    simp
theorem put_any (n : Int) (w : World) (h0 : 0 ≤ n) (h1 : n ≤ 18446744073709551615) :
    Calls Try.prog 12 #[.int .u64 n] w fun e w' => e = .returned (.string ⟨(putL n.toNat).toArray⟩) ∧ Below w.heap.size w w' := by
  obtain ⟨k, hk, hk9, hlt, hge⟩ := many_spec n.toNat (by omega)
  have HL : Hid (n.toNat < 128 ^ (k + 1) ∧ (k = 0 ∨ 128 ^ k ≤ n.toNat)) := ⟨hlt, hge⟩
  clear hlt hge
  go_enter Try.func12, Try.ntmps12
  go_wp2_with (go_at_call 26; refine (bytesOf_any _ _ h0 h1 k hk hk9).mono ?_; rintro e w' ⟨rfl, rfl⟩)
  go_loopw [9] (fun i wr => ∃ (j : Nat) (C : Array Value), j ≤ k + 1 ∧ i = .int .i64 j ∧ wr = w.alloc (.cells C 78) ∧ C.size = 10 ∧ ∀ m, m < j → C[m]? = some (.int .u8 (n / 2 ^ (7 * m) % 128 + 128))) (fun i _ => k + 1 - (intOf i).toNat)
  case atStart => exact ⟨0, _, by omega, rfl, rfl, rfl, fun m hm => by omega⟩
  case round =>
    obtain ⟨j, C, hj, rfl, rfl, hC, hm⟩ := hrel
    by_cases hlt : j < k + 1
    · have HM : Hid (∀ m, m < j → C[m]? = some (.int .u8 (n / 2 ^ (7 * m) % 128 + 128))) := hm
      clear hm
      obtain ⟨v0, hv0⟩ : ∃ v, C[j]? = some v := ⟨_, Array.getElem?_eq_getElem (by omega)⟩
      go_wp2
      go_roundw
      case rel =>
        refine ⟨j + 1, _, by omega, by go_num, rfl, by simp [hC], ?_⟩
        intro m hm
        by_cases hmj : m = j
        · subst hmj
          rw [Array.getElem?_setIfInBounds_self_of_lt (by omega), or128 _ (by omega) (by omega)]
          congr 2
          omega
        · rw [Array.getElem?_setIfInBounds_ne (by omega), HM.out m (by omega)]
      case measure => simp [intOf]; omega
    · obtain rfl : j = k + 1 := by omega
      have hk1 := hm k (by omega)
      have hslc : ∀ W : World, (Instr.sliceAt 78 (.pointer (some ⟨w.heap.size, 0, none⟩)) none (some (.int .i64 ((k : Int) + 1))) none).run Try.prog W = .ok (.slice (some ⟨w.heap.size, 0, none⟩) (k + 1) 10) W := fun W => by
        have hal : Try.prog.arrayLen 78 = 10 := by simp [Program.arrayLen, Try.underlying78]
        rw [run_sliceAt_array_h W 78 ⟨w.heap.size, 0, none⟩ (by simp [Program.arrayLen, Program.elem, Try.underlying78]) .i64 ((k : Int) + 1) (by omega) (by rw [hal]; omega)]
        go_simp
      have hcv := run_convert_bytes_back (P := Try.prog) (w.alloc (.cells (C.setIfInBounds k (.int .u8 (bits BinOp.andNot IntKind.u8 (n / 2 ^ (7 * k) % 128 + 128) 128))) 78)) 80 9 5 ⟨w.heap.size, 0, none⟩ 10 (putL n.toNat) Try.underlying80 Try.underlying5 Try.underlying9
        (fun j hj => by
          have e : (⟨w.heap.size, 0, none⟩ : Addr).add j = ⟨w.heap.size, j, none⟩ := by rw [addr_add]; simp
          rw [e, World.cell?_alloc_at _ _ _ _ rfl]
          exact put_cells n h0 k HL.out.1 HL.out.2 hk9 C hC hm j hj)
      rw [putL_len k n.toNat HL.out.1 HL.out.2] at hcv
      clear hm
      go_wp2
      go_ret
      exact ⟨rfl, (Below.refl _ _).alloc (Nat.le_refl _) _⟩

end Go.Proofs.Ytkjhnefbcnnjlaa
namespace Go.Proofs.Ytkjhnefbcnnjlaa
open Go.RowKit

/-- the number that bytes begin with: it, what is behind, the error -/
def getGo (i acc : Nat) : List UInt8 → Nat × List UInt8 × Int
  | [] => (0, [], 5)
  | b :: l => if i = 9 ∧ 1 < b.toNat then (0, [], 7)
    else if 128 ≤ b.toNat then getGo (i + 1) (acc + b.toNat % 128 * 128 ^ i) l
    else if b.toNat = 0 ∧ 0 < i then (0, [], 7)
    else (acc + b.toNat * 128 ^ i, l, 0)
def getS (s : ByteArray) : Nat × List UInt8 × Int := getGo 0 0 s.data.toList

theorem or_high (acc : Nat) (b : UInt8) (i : Nat) (hi : i ≤ 9) (ha : acc < 128 ^ i) (h9 : i = 9 → b.toNat ≤ 1) :
    bits BinOp.or IntKind.u64 (acc : Int) (IntKind.u64.wrap (IntKind.u64.wrap (bits BinOp.andNot IntKind.u8 (b.toNat : Int) 128) * 2 ^ (7 * i))) = ((acc + b.toNat % 128 * 128 ^ i : Nat) : Int) := by
  have hb := b.toNat_lt
  rw [andNot128 _ (by omega) (by omega), wraps_u64 (_ % 128) (by omega) (by omega)]
  have p : (2 : Int) ^ (7 * i) = ((128 ^ i : Nat) : Int) := by
    rw [show 128 = 2 ^ 7 by rfl, ← Nat.pow_mul]; simp
  have hm : b.toNat % 128 * 128 ^ i < 2 ^ 64 := by
    by_cases h : i = 9
    · subst h
      have := h9 rfl
      have : b.toNat % 128 ≤ 1 := by omega
      omega
    · have : 128 ^ i ≤ 128 ^ 8 := Nat.pow_le_pow_right (by decide) (by omega)
      have h2 : b.toNat % 128 ≤ 127 := by omega
      have := Nat.mul_le_mul h2 this
      omega
  have hi2 : 128 ^ i ≤ 128 ^ 9 := Nat.pow_le_pow_right (by decide) hi
  have hc : ((b.toNat : Int) % 128) * 2 ^ (7 * i) = ((b.toNat % 128 * 128 ^ i : Nat) : Int) := by rw [p]; simp
  rw [hc, wraps_u64 _ (by omega) (by exact_mod_cast hm)]
  rw [bits_join_low .u64 64 (by decide) wraps_u64 (7 * i) _ _ (by omega) (by rw [p]; exact_mod_cast ha) (by omega) (by omega) (by rw [p]; simp [Int.mul_emod_left]) (by exact_mod_cast hm)]
  simp

theorem drop_cons (s : ByteArray) (k : Nat) (h : k < s.size) : s.data.toList.drop k = s[k] :: s.data.toList.drop (k + 1) := by
  rw [List.drop_eq_getElem_cons (by simpa using h)]; rfl
theorem getGo_err9 (acc : Nat) (b : UInt8) (l : List UInt8) {i : Nat} (hi : i = 9) (hb : 1 < b.toNat) : getGo i acc (b :: l) = (0, [], 7) := by
  rw [getGo, if_pos ⟨hi, hb⟩]
theorem getGo_zero (acc : Nat) (b : UInt8) (l : List UInt8) {i : Nat} (hi : 0 < i) (hb : b.toNat = 0) : getGo i acc (b :: l) = (0, [], 7) := by
  rw [getGo, if_neg (by omega), if_neg (by omega), if_pos ⟨hb, hi⟩]
theorem getGo_last (acc : Nat) (b : UInt8) (l : List UInt8) {i : Nat} (h9 : i = 9 → b.toNat ≤ 1) (hb : b.toNat < 128) (h0 : ¬ (b.toNat = 0 ∧ 0 < i)) : getGo i acc (b :: l) = (acc + b.toNat * 128 ^ i, l, 0) := by
  rw [getGo, if_neg (by omega), if_neg (by omega), if_neg h0]
theorem getGo_more (acc : Nat) (b : UInt8) (l : List UInt8) {i : Nat} (h9 : i ≠ 9) (hb : 128 ≤ b.toNat) : getGo i acc (b :: l) = getGo (i + 1) (acc + b.toNat % 128 * 128 ^ i) l := by
  rw [getGo, if_neg (by omega), if_pos hb]
theorem ret_get (r : Nat × List UInt8 × Int) {n : Int} {a : ByteArray} {e : Int} (hn : 0 ≤ n) (h : r = (n.toNat, a.data.toList, e)) :
    Ending.returned (.tuple #[.int .u64 n, .string a, .int .i64 e]) = .returned (.tuple #[.int .u64 r.1, .string ⟨r.2.1.toArray⟩, .int .i64 r.2.2]) := by
  subst h
  simp [Int.toNat_of_nonneg hn]
theorem ret_get' (r : Nat × List UInt8 × Int) {n : Int} {a : ByteArray} {e : Int} {N : Nat} {l : List UInt8} (h : r = (N, l, e)) (hn : n = (N : Int)) (ha : a = ⟨l.toArray⟩) :
    Ending.returned (.tuple #[.int .u64 n, .string a, .int .i64 e]) = .returned (.tuple #[.int .u64 r.1, .string ⟨r.2.1.toArray⟩, .int .i64 r.2.2]) := by
  subst h; subst hn; subst ha; rfl
theorem extract_drop (s : ByteArray) (k : Nat) : s.extract k s.size = ⟨(s.data.toList.drop k).toArray⟩ := by
  apply ByteArray.ext
  rw [ByteArray.data_extract]
  apply Array.ext'
  simp [List.take_of_length_le]
theorem acc_next (acc : Nat) (b : UInt8) (i : Nat) (ha : acc < 128 ^ i) : acc + b.toNat % 128 * 128 ^ i < 128 ^ (i + 1) := by
  have h2 : b.toNat % 128 ≤ 127 := by omega
  have := Nat.mul_le_mul h2 (Nat.le_refl (128 ^ i))
  rw [Nat.pow_succ]
  omega
set_option maxHeartbeats 1000000 in
set_option maxRecDepth 20000 in
theorem first_any (s : ByteArray) (w : World) (hs : s.size ≤ maxLen) :
    Calls Try.prog 23 #[.string s] w fun e w' => e = .returned (.tuple #[.int .u64 (getS s).1, .string ⟨(getS s).2.1.toArray⟩, .int .i64 (getS s).2.2]) ∧ Below w.heap.size w w' := by
  unfold maxLen at hs
  go_enter Try.func23, Try.ntmps23
  go_wp2
  go_loop [5, 11] (fun n i => ∃ j acc : Nat, j ≤ s.size ∧ j ≤ 9 ∧ Hid (acc < 128 ^ j) ∧ i = .int .i64 j ∧ n = .int .u64 acc ∧ Hid (getS s = getGo j acc (s.data.toList.drop j))) (fun _ i => s.size - (intOf i).toNat)
  case atStart => exact ⟨0, 0, by omega, by omega, (by simp : 0 < 128 ^ 0), rfl, rfl, (rfl : getS s = _)⟩
  case round =>
    obtain ⟨j, acc, hj, hj9, HA, rfl, rfl, HG⟩ := hrel
    by_cases hlt : j < s.size
    · have hd := drop_cons s j hlt
      have HD : Hid (s.data.toList.drop j = s[j] :: s.data.toList.drop (j + 1)) := hd
      clear hd
      go_wp2
      · go_ret3
        exact ⟨ret_get (getS s) (by omega) (by rw [HG.out, HD.out, getGo_err9 _ _ _ (by omega) (by omega)]; rfl), Below.refl _ _⟩
      · go_ret3
        exact ⟨ret_get (getS s) (by omega) (by rw [HG.out, HD.out, getGo_zero _ _ _ (by omega) (by omega)]; rfl), Below.refl _ _⟩
      · obtain rfl : j = 9 := by omega
        go_quiet (fail)
        go_wp2
        go_ret3
        refine ⟨ret_get' (getS s) (by rw [HG.out, HD.out, getGo_last _ _ _ (by omega) (by omega) (by omega)]) ?_ (extract_drop s 10), below_drewN (Below.refl _ _) _⟩
        exact (or_high acc s[9] 9 (by omega) HA.out (by omega)).trans (by rw [Nat.mod_eq_of_lt (by omega)])
      · go_round
        case rel =>
          exact ⟨j + 1, acc + s[j].toNat % 128 * 128 ^ j, by omega, by omega, acc_next acc s[j] j HA.out, by go_num, by rw [or_high acc s[j] j (by omega) HA.out (by omega)], (by rw [HG.out, HD.out, getGo_more _ _ _ (by omega) (by omega)] : getS s = _)⟩
        case measure => simp [intOf]; omega
      · go_ret3
        exact ⟨ret_get (getS s) (by omega) (by rw [HG.out, HD.out, getGo_zero _ _ _ (by omega) (by omega)]; rfl), Below.refl _ _⟩
      · go_quiet (fail)
        go_wp2
        go_ret3
        refine ⟨ret_get' (getS s) (by rw [HG.out, HD.out, getGo_last _ _ _ (by omega) (by omega) (by omega)]) ?_ (extract_drop s _), below_drewN (Below.refl _ _) _⟩
        have hz : s[j].toNat = 0 := by assumption
        have ho := or_high acc s[j] j (by omega) HA.out (by omega)
        rw [hz] at ho
        rw [hz]
        exact ho
      · go_quiet (fail)
        go_wp2
        go_ret3
        refine ⟨ret_get' (getS s) (by rw [HG.out, HD.out, getGo_last _ _ _ (by omega) (by omega) (by omega)]) ?_ (extract_drop s _), below_drewN (Below.refl _ _) _⟩
        exact (or_high acc s[j] j (by omega) HA.out (by omega)).trans (by rw [Nat.mod_eq_of_lt (by omega)])
    · obtain rfl : j = s.size := by omega
      go_wp2
      go_ret3
      exact ⟨ret_get (getS s) (by omega) (by rw [HG.out, List.drop_of_length_le (by simp), getGo]; rfl), Below.refl _ _⟩

theorem clone_any (s : ByteArray) (w : World) (hs : s.size ≤ 281474976710656) :
    Calls Try.prog 24 #[.string s] w fun e w' => e = .returned (.string s) ∧ Below w.heap.size w w' := by
  go_enter Try.func24, Try.ntmps24
  go_wp2_with (go_at_call 48; refine (Try.stringslite_Clone s _ hs).mono ?_; rintro e w1 ⟨rfl, hb⟩)
  go_ret
  exact ⟨rfl, hb⟩

theorem getGo_len (l : List UInt8) : ∀ i acc, (getGo i acc l).2.1.length ≤ l.length := by
  induction l with
  | nil => intro i acc; simp [getGo]
  | cons b l ih =>
    intro i acc
    rw [getGo]
    split
    · simp
    · split
      · have := ih (i + 1) (acc + b.toNat % 128 * 128 ^ i); simp; omega
      · split
        · simp
        · simp
theorem getS_len (s : ByteArray) : (getS s).2.1.length ≤ s.size := by
  have := getGo_len s.data.toList 0 0
  simpa [getS] using this

theorem get_any (s : ByteArray) (w : World) (hs : s.size ≤ 281474976710656) :
    Calls Try.prog 10 #[.string s] w fun e w' => e = .returned (.tuple #[.int .u64 (getS s).1, .string ⟨(getS s).2.1.toArray⟩, .int .i64 (getS s).2.2]) ∧ Below w.heap.size w w' := by
  have hl := getS_len s
  have hf := fun w => first_any s w (by unfold maxLen; omega)
  obtain ⟨r, hr⟩ : ∃ r, r = getS s := ⟨_, rfl⟩
  rw [← hr] at hl
  simp only [← hr] at hf ⊢
  clear hr
  obtain ⟨n, l, e⟩ := r
  have hc := fun w => clone_any ⟨l.toArray⟩ w (by show l.toArray.size ≤ _; simp at hl ⊢; omega)
  go_enter Try.func10, Try.ntmps10
  go_wp2_with (first
    | (go_at_call 23; refine (hf _).mono ?_; rintro e w1 ⟨rfl, hb1⟩)
    | (go_at_call 24; refine (hc _).mono ?_; rintro e w2 ⟨rfl, hb2⟩))
  go_ret3
  exact ⟨rfl, hb1.trans (hb2.mono hb1.size)⟩

end Go.Proofs.Ytkjhnefbcnnjlaa
namespace Go.Proofs.Ytkjhnefbcnnjlaa
open Go.RowKit

theorem gs1 : getS ⟨#[172, 2, 122]⟩ = (300, [122], 0) := by decide +kernel
theorem gs2 : getS ⟨#[128, 0]⟩ = (0, [], 7) := by decide +kernel
theorem gs3 : getS ⟨#[128]⟩ = (0, [], 5) := by decide +kernel
theorem ps1 : putL 300 = [172, 2] := by rw [putL_big _ (by decide), putL_small _ (by decide)]; decide
theorem ps2 : putL 0 = [0] := by rw [putL_small _ (by decide)]; decide

theorem g1 (w : World) : Calls Try.prog 10 #[.string ⟨#[172, 2, 122]⟩] w fun e w' => e = .returned (.tuple #[.int .u64 300, .string ⟨#[122]⟩, .int .i64 0]) ∧ Below w.heap.size w w' := by
  have := get_any ⟨#[172, 2, 122]⟩ w (by decide)
  rw [gs1] at this
  exact this
theorem g2 (w : World) : Calls Try.prog 10 #[.string ⟨#[128, 0]⟩] w fun e w' => e = .returned (.tuple #[.int .u64 0, .string ⟨#[]⟩, .int .i64 7]) ∧ Below w.heap.size w w' := by
  have := get_any ⟨#[128, 0]⟩ w (by decide)
  rw [gs2] at this
  exact this
theorem g3 (w : World) : Calls Try.prog 10 #[.string ⟨#[128]⟩] w fun e w' => e = .returned (.tuple #[.int .u64 0, .string ⟨#[]⟩, .int .i64 5]) ∧ Below w.heap.size w w' := by
  have := get_any ⟨#[128]⟩ w (by decide)
  rw [gs3] at this
  exact this
theorem p1 (w : World) : Calls Try.prog 12 #[.int .u64 300] w fun e w' => e = .returned (.string ⟨#[172, 2]⟩) ∧ Below w.heap.size w w' := by
  have := put_any 300 w (by decide) (by decide)
  rw [show (300 : Int).toNat = 300 from rfl, ps1] at this
  exact this
theorem p2 (w : World) : Calls Try.prog 12 #[.int .u64 0] w fun e w' => e = .returned (.string ⟨#[0]⟩) ∧ Below w.heap.size w w' := by
  have := put_any 0 w (by decide) (by decide)
  rw [show (0 : Int).toNat = 0 from rfl, ps2] at this
  exact this
theorem below2 {a b c : World} (h1 : Below a.heap.size a b) (h2 : Below b.heap.size b c) : Below a.heap.size a c := h1.trans (h2.mono h1.size)
end Go.Proofs.Ytkjhnefbcnnjlaa
namespace Go.Proofs.Ytkjhnefbcnnjlaa
open Go.Shelf Go.RowKit

/- ### what was there stays a builder, and stays owned, where only new memory came -/
theorem grown_of {w w' : World} (h : Below w.heap.size w w') : w.grownBy w' none := ⟨h.os, h.tape, h.output, h.size, fun k hk _ => h.block k hk⟩
theorem own_below {w w' : World} {B e size n : Nat} {v : Value} {xs : List Value} (h : w.ownsRow B e size v n xs) (hb : Below w.heap.size w w') : w'.ownsRow B e size v n xs := by
  refine h.kept (grown_of hb) ?_
  cases v.ownBlock with
  | none => exact .inl rfl
  | some k => exact .inr (by simp)
theorem isb_below {T e : TypeId} {B b : Nat} {bs : List Value} {w w' : World} (h : Lib.IsBuilder T e B b bs w) (hb : Below w.heap.size w w') : Lib.IsBuilder T e B b bs w' := by
  have step : ∀ p, Lib.BuilderAt T e B b p bs w → Lib.BuilderAt T e B b p bs w' := by
    intro p hp
    have hlt := hp.lt
    obtain ⟨h1, v, h2, h3, h4⟩ := hp
    exact ⟨h1, v, by rw [hb.block b hlt]; exact h2, own_below h3 hb, h4⟩
  rcases h with h | h
  · exact .inl (step _ h)
  · exact .inr (step _ h)
end Go.Proofs.Ytkjhnefbcnnjlaa
