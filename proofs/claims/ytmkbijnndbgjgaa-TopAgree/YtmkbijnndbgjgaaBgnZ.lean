/- spoortop.begins returns true. -/
import Derived.WalkKit
import Derived.WalkSmall
import Derived.Laws.BitsLemmas
import Derived.Lib.BitFns
import Derived.Test.YtmkbijnndbgjgaaShelf
import Derived.Laws.IdiomStrings
import Derived.RegionTactic
import Derived.Deep.RegionWith
import Derived.BigRegion
import Derived.ChangeAlike
import Derived.Lib.EndianBits
import Derived.BigQuiet
import Derived.Deep.QuietTactic
import Derived.Handy
set_option linter.unusedVariables false
namespace Go.Proofs.Ytmkbijnndbgjgaa
open Go.RowKit

/- ### bits of one byte -/
theorem or128_all : ∀ n : Fin 256, bits BinOp.or IntKind.u8 (n.val : Int) 128 = (n.val : Int) % 128 + 128 := by decide +kernel
theorem andNot128_all : ∀ n : Fin 256, bits BinOp.andNot IntKind.u8 (n.val : Int) 128 = (n.val : Int) % 128 := by decide +kernel
theorem or128 (x : Int) (h0 : 0 ≤ x) (h1 : x ≤ 255) : bits BinOp.or IntKind.u8 x 128 = x % 128 + 128 := by
  have e := or128_all ⟨x.toNat, by omega⟩
  simpa only [Int.toNat_of_nonneg h0] using e
theorem andNot128 (x : Int) (h0 : 0 ≤ x) (h1 : x ≤ 255) : bits BinOp.andNot IntKind.u8 x 128 = x % 128 := by
  have e := andNot128_all ⟨x.toNat, by omega⟩
  simpa only [Int.toNat_of_nonneg h0] using e

/- ### turning the sign -/
theorem xor_u64_zero (x : Int) (h0 : 0 ≤ x) (h1 : x ≤ 18446744073709551615) : bits BinOp.xor IntKind.u64 x 0 = x := by
  obtain ⟨a, rfl⟩ := Int.eq_ofNat_of_zero_le h0
  simp only [bits]
  rw [IntKind.wrap_u64]
  have e : BitVec.ofInt IntKind.u64.bits 0 = 0#_ := by decide +kernel
  rw [e, BitVec.xor_zero, BitVec.toNat_ofInt]
  simp only [IntKind.bits]
  omega
theorem xor_u64_ones (x : Int) (h0 : 0 ≤ x) (h1 : x ≤ 18446744073709551615) : bits BinOp.xor IntKind.u64 x 18446744073709551615 = 18446744073709551615 - x := by
  obtain ⟨a, rfl⟩ := Int.eq_ofNat_of_zero_le h0
  simp only [bits]
  rw [IntKind.wrap_u64]
  have e : BitVec.ofInt IntKind.u64.bits 18446744073709551615 = BitVec.allOnes _ := by decide +kernel
  rw [e, BitVec.xor_allOnes, BitVec.toNat_not, BitVec.toNat_ofInt]
  simp only [IntKind.bits]
  omega
theorem xor_i64_zero (x : Int) (h0 : -9223372036854775808 ≤ x) (h1 : x ≤ 9223372036854775807) : bits BinOp.xor IntKind.i64 x 0 = x := by
  simp only [bits]
  rw [IntKind.wrap_i64]
  have e : BitVec.ofInt IntKind.i64.bits 0 = 0#_ := by decide +kernel
  rw [e, BitVec.xor_zero, BitVec.toNat_ofInt]
  simp only [IntKind.bits]
  omega
theorem xor_i64_ones (x : Int) (h0 : -9223372036854775808 ≤ x) (h1 : x ≤ 9223372036854775807) : bits BinOp.xor IntKind.i64 x (-1) = -x - 1 := by
  simp only [bits]
  rw [IntKind.wrap_i64]
  have e : BitVec.ofInt IntKind.i64.bits (-1) = BitVec.allOnes _ := by decide +kernel
  rw [e, BitVec.xor_allOnes, BitVec.toNat_not, BitVec.toNat_ofInt]
  simp only [IntKind.bits]
  omega

/-- 2n, or -2n - 1 -/
def zigZ (n : Int) : Int := if 0 ≤ n then 2 * n else -2 * n - 1
def zagZ (u : Int) : Int := if u % 2 = 0 then u / 2 else -(u / 2) - 1
theorem zig_bits (n : Int) (h0 : -9223372036854775808 ≤ n) (h1 : n ≤ 9223372036854775807) :
    bits BinOp.xor IntKind.u64 (IntKind.u64.wrap (wrap64 (n * 2))) (IntKind.u64.wrap (n / 9223372036854775808)) = zigZ n := by
  unfold zigZ wrap64
  rw [IntKind.wrap_u64, IntKind.wrap_u64]
  by_cases h : 0 ≤ n
  · rw [if_pos h, show n / 9223372036854775808 % 18446744073709551616 = 0 by omega, xor_u64_zero _ (by omega) (by omega)]
    omega
  · rw [if_neg h, show n / 9223372036854775808 % 18446744073709551616 = 18446744073709551615 by omega, xor_u64_ones _ (by omega) (by omega)]
    omega
theorem zag_bits (n : Int) (h0 : 0 ≤ n) (h1 : n ≤ 18446744073709551615) :
    bits BinOp.xor IntKind.i64 (n / 2) (wrap64 (-wrap64 (bits BinOp.and IntKind.u64 n 1))) = zagZ n := by
  rw [and_one_u64 n h0 h1]
  unfold zagZ wrap64
  by_cases h : n % 2 = 0
  · rw [if_pos h, h]
    exact xor_i64_zero _ (by omega) (by omega)
  · rw [if_neg h, show n % 2 = 1 by omega]
    exact xor_i64_ones _ (by omega) (by omega)

/- ### the bytes of a number -/
def putF : Nat → Nat → List UInt8
  | 0, n => [UInt8.ofNat n]
  | f + 1, n => if n < 128 then [UInt8.ofNat n] else UInt8.ofNat (n % 128 + 128) :: putF f (n / 128)
theorem putF_fuel (f : Nat) : ∀ g n, n ≤ f → n ≤ g → putF f n = putF g n := by
  induction f with
  | zero =>
    intro g n h1 h2
    obtain rfl : n = 0 := by omega
    cases g with
    | zero => rfl
    | succ g => rw [putF, putF, if_pos (by decide)]
  | succ f ih =>
    intro g n h1 h2
    cases g with
    | zero =>
      obtain rfl : n = 0 := by omega
      rw [putF, putF, if_pos (by decide)]
    | succ g =>
      rw [putF, putF]
      by_cases h : n < 128
      · rw [if_pos h, if_pos h]
      · rw [if_neg h, if_neg h, ih g (n / 128) (by omega) (by omega)]
def putL (n : Nat) : List UInt8 := putF n n

theorem putL_small (n : Nat) (h : n < 128) : putL n = [UInt8.ofNat n] := by
  rw [putL]
  cases n with
  | zero => rfl
  | succ n => rw [putF, if_pos h]
theorem putL_big (n : Nat) (h : ¬ n < 128) : putL n = UInt8.ofNat (n % 128 + 128) :: putL (n / 128) := by
  rw [putL, putL, putF_fuel n (n + 1) n (by omega) (by omega), putF, if_neg h, putF_fuel n (n / 128) (n / 128) (by omega) (by omega)]

theorem putL_len (k : Nat) : ∀ n, n < 128 ^ (k + 1) → (k = 0 ∨ 128 ^ k ≤ n) → (putL n).length = k + 1 := by
  induction k with
  | zero => intro n h _; rw [putL_small n (by omega)]; rfl
  | succ k ih =>
    intro n h h2
    have hp : 128 ^ (k + 1) = 128 * 128 ^ k := by rw [Nat.pow_succ]; omega
    have hq : 0 < 128 ^ k := Nat.pow_pos (by decide)
    have h3 : 128 ^ (k + 1) ≤ n := by omega
    rw [putL_big n (by omega)]
    have h4 : n / 128 < 128 ^ (k + 1) := by rw [Nat.div_lt_iff_lt_mul (by decide)]; rw [Nat.pow_succ] at h; omega
    have h5 : 128 ^ k ≤ n / 128 := by rw [Nat.le_div_iff_mul_le (by decide)]; omega
    simp [ih (n / 128) h4 (.inr h5)]

/-- the byte at place i of k + 1 -/
theorem putL_at (k : Nat) : ∀ n i, n < 128 ^ (k + 1) → (k = 0 ∨ 128 ^ k ≤ n) → i ≤ k →
    (putL n)[i]? = some (UInt8.ofNat (if i = k then n / 128 ^ i else n / 128 ^ i % 128 + 128)) := by
  induction k with
  | zero => intro n i h _ hi; obtain rfl : i = 0 := by omega
            rw [putL_small n (by omega)]; simp
  | succ k ih =>
    intro n i h h2 hi
    have hp : 128 ^ (k + 1) = 128 * 128 ^ k := by rw [Nat.pow_succ]; omega
    have hq : 0 < 128 ^ k := Nat.pow_pos (by decide)
    have h3 : 128 ^ (k + 1) ≤ n := by omega
    rw [putL_big n (by omega)]
    cases i with
    | zero => simp
    | succ i =>
      have h4 : n / 128 < 128 ^ (k + 1) := by rw [Nat.div_lt_iff_lt_mul (by decide)]; rw [Nat.pow_succ] at h; omega
      have h5 : 128 ^ k ≤ n / 128 := by rw [Nat.le_div_iff_mul_le (by decide)]; omega
      have := ih (n / 128) i h4 (.inr h5) (by omega)
      have e : n / 128 / 128 ^ i = n / 128 ^ (i + 1) := by rw [Nat.div_div_eq_div_mul, Nat.pow_succ, Nat.mul_comm]
      rw [e] at this
      simpa using this

theorem putL_ne (n : Nat) : putL n ≠ [] := by
  by_cases h : n < 128
  · rw [putL_small n h]; simp
  · rw [putL_big n h]; simp

/- ### how many bytes -/
theorem bitLenAux_spec (f : Nat) : ∀ x, x < 2 ^ f → x ≠ 0 → ∃ L, Lib.bitLenAux f x = L + 1 ∧ 2 ^ L ≤ x ∧ x < 2 ^ (L + 1) := by
  induction f with
  | zero => intro x h h2; omega
  | succ f ih =>
    intro x h h2
    by_cases h1 : x / 2 = 0
    · refine ⟨0, ?_, by omega, by omega⟩
      rw [Lib.bitLenAux, if_neg h2, h1]
      cases f <;> simp [Lib.bitLenAux]
    · obtain ⟨L, e, a, b⟩ := ih (x / 2) (by rw [Nat.pow_succ] at h; omega) h1
      refine ⟨L + 1, ?_, ?_, ?_⟩
      · rw [Lib.bitLenAux, if_neg h2, e]; omega
      · rw [Nat.pow_succ]; omega
      · rw [Nat.pow_succ]; omega

theorem or_one (n : Nat) : n ||| 1 = n + (1 - n % 2) := by
  have h1 : (n ||| 1) % 2 = 1 := by
    have : (n ||| 1) % 2 ^ 1 = (n % 2 ^ 1) ||| (1 % 2 ^ 1) := Nat.or_mod_two_pow
    simp at this
    rw [this]
    have : n % 2 = 0 ∨ n % 2 = 1 := by omega
    rcases this with h | h <;> rw [h] <;> rfl
  have h2 : (n ||| 1) / 2 = n / 2 := by
    have := @Nat.or_div_two_pow n 1 1
    simpa using this
  omega

/-- the count of bytes that the program reckons: at most 10, and it fits -/
theorem many_spec (n : Nat) (h : n < 18446744073709551616) : ∃ k, (Lib.bitLen (n ||| 1) + 6) / 7 = k + 1 ∧ k ≤ 9 ∧ n < 128 ^ (k + 1) ∧ (k = 0 ∨ 128 ^ k ≤ n) := by
  have e := or_one n
  obtain ⟨L, hL, h1, h2⟩ := bitLenAux_spec 64 (n ||| 1) (by omega) (by omega)
  have hL64 : L < 64 := by
    apply Nat.lt_of_not_le
    intro hc
    have : 2 ^ 64 ≤ 2 ^ L := Nat.pow_le_pow_right (by decide) hc
    omega
  have p : ∀ k, 128 ^ k = 2 ^ (7 * k) := fun k => by rw [show 128 = 2 ^ 7 by rfl, ← Nat.pow_mul]
  refine ⟨L / 7, ?_, by omega, ?_, ?_⟩
  · rw [Lib.bitLen, hL]; omega
  · have : 2 ^ (L + 1) ≤ 2 ^ (7 * (L / 7 + 1)) := Nat.pow_le_pow_right (by decide) (by omega)
    rw [p]; omega
  · by_cases h7 : L / 7 = 0
    · exact .inl h7
    · refine .inr ?_
      have h3 : 2 ^ (7 * (L / 7)) ≤ 2 ^ L := Nat.pow_le_pow_right (by decide) (by omega)
      have h4 : 2 ^ (7 * (L / 7)) % 2 = 0 := by
        obtain ⟨m, hm⟩ : ∃ m, 7 * (L / 7) = m + 1 := ⟨7 * (L / 7) - 1, by omega⟩
        rw [hm, Nat.pow_succ]; omega
      rw [p]; omega
theorem or_one_u64 (n : Int) (h0 : 0 ≤ n) (h1 : n ≤ 18446744073709551615) : bits BinOp.or IntKind.u64 n 1 = ((n.toNat ||| 1 : Nat) : Int) := by
  have h := bits_or_u64_nat n.toNat 1 (by omega) (by omega)
  rw [Int.toNat_of_nonneg h0] at h
  exact h
theorem or_one_le (n : Nat) (h : n < 18446744073709551616) : (n ||| 1) < 18446744073709551616 := by have := or_one n; omega
end Go.Proofs.Ytmkbijnndbgjgaa
namespace Go.Proofs.Ytmkbijnndbgjgaa
open Go.RowKit
theorem ret_int {k : IntKind} {a b : Int} (h : a = b) : Ending.returned (.int k a) = .returned (.int k b) := by rw [h]
theorem ret_str {a b : ByteArray} (h : a = b) : Ending.returned (.string a) = .returned (.string b) := by rw [h]

theorem bytesOf_any (n : Int) (w : World) (h0 : 0 ≤ n) (h1 : n ≤ 18446744073709551615) (k : Nat) (hk : (Lib.bitLen (n.toNat ||| 1) + 6) / 7 = k + 1) (hk9 : k ≤ 9) :
    Calls Try.prog 81 #[.int .u64 n] w fun e w' => e = .returned (.int .i64 (k + 1)) ∧ w' = w := by
  have e1 := or_one_u64 n h0 h1
  have e2 := or_one_le n.toNat (by omega)
  go_enter Try.func81, Try.ntmps81
  go_wp2_with (go_at_call 102; refine (Try.bits_Len64 _ _ (by omega) (by omega)).mono ?_; rintro e w' ⟨rfl, rfl⟩)
  go_ret
  exact ⟨ret_int (by omega), rfl⟩
theorem addr_add (b o j : Nat) : (⟨b, o, none⟩ : Addr).add j = ⟨b, o + j, none⟩ := by unfold Addr.add; split <;> simp_all
/-- the bytes that the loop and the last store leave -/
theorem put_cells (n : Int) (h0 : 0 ≤ n) (k : Nat) (hlt : n.toNat < 128 ^ (k + 1)) (hge : k = 0 ∨ 128 ^ k ≤ n.toNat) (hk9 : k ≤ 9) (C : Array Value) (hC : C.size = 10)
    (hm : ∀ m, m < k + 1 → C[m]? = some (.int .u8 (n / 2 ^ (7 * m) % 128 + 128))) (j : Nat) (hj : j < (putL n.toNat).length) :
    (C.setIfInBounds k (.int .u8 (bits BinOp.andNot IntKind.u8 (n / 2 ^ (7 * k) % 128 + 128) 128)))[j]? = some (.int .u8 ((putL n.toNat)[j].toNat : Int)) := by
  have hl := putL_len k n.toNat hlt hge
  have hat := putL_at k n.toNat j hlt hge (by omega)
  have p : ∀ m, (128 : Nat) ^ m = 2 ^ (7 * m) := fun m => by rw [show 128 = 2 ^ 7 by rfl, ← Nat.pow_mul]
  have hd : ∀ m, n / 2 ^ (7 * m) = ((n.toNat / 128 ^ m : Nat) : Int) := fun m => by
    rw [p]
    obtain ⟨a, rfl⟩ := Int.eq_ofNat_of_zero_le h0
    simp
  rw [List.getElem?_eq_getElem hj] at hat
  have hat' : (putL n.toNat)[j] = UInt8.ofNat (if j = k then n.toNat / 128 ^ j else n.toNat / 128 ^ j % 128 + 128) := Option.some.inj hat
  rw [hat']
  by_cases hjk : j = k
  · subst hjk
    rw [Array.getElem?_setIfInBounds_self_of_lt (by omega), if_pos rfl, andNot128 _ (by omega) (by omega), hd]
    have hb : n.toNat / 128 ^ j < 128 := by
      rw [Nat.div_lt_iff_lt_mul (Nat.pow_pos (by decide))]
      rw [Nat.pow_succ] at hlt; omega
    have : (UInt8.ofNat (n.toNat / 128 ^ j)).toNat = n.toNat / 128 ^ j := by simp; omega
    rw [this]
    congr 2
    omega
  · rw [Array.getElem?_setIfInBounds_ne (by omega), hm j (by omega), if_neg hjk, hd]
    have : (UInt8.ofNat (n.toNat / 128 ^ j % 128 + 128)).toNat = n.toNat / 128 ^ j % 128 + 128 := by simp; omega
    rw [this]
    simp
theorem put_any (n : Int) (w : World) (h0 : 0 ≤ n) (h1 : n ≤ 18446744073709551615) :
    Calls Try.prog 60 #[.int .u64 n] w fun e w' => e = .returned (.string ⟨(putL n.toNat).toArray⟩) ∧ Below w.heap.size w w' := by
  obtain ⟨k, hk, hk9, hlt, hge⟩ := many_spec n.toNat (by omega)
  have HL : Hid (n.toNat < 128 ^ (k + 1) ∧ (k = 0 ∨ 128 ^ k ≤ n.toNat)) := ⟨hlt, hge⟩
  clear hlt hge
  go_enter Try.func60, Try.ntmps60
  go_wp2_with (go_at_call 81; refine (bytesOf_any _ _ h0 h1 k hk hk9).mono ?_; rintro e w' ⟨rfl, rfl⟩)
  go_loopw [9] (fun i wr => ∃ (j : Nat) (C : Array Value), j ≤ k + 1 ∧ i = .int .i64 j ∧ wr = w.alloc (.cells C 135) ∧ C.size = 10 ∧ ∀ m, m < j → C[m]? = some (.int .u8 (n / 2 ^ (7 * m) % 128 + 128))) (fun i _ => k + 1 - (intOf i).toNat)
  case atStart => exact ⟨0, _, by omega, rfl, rfl, rfl, fun m hm => by omega⟩
  case round =>
    obtain ⟨j, C, hj, rfl, rfl, hC, hm⟩ := hrel
    by_cases hlt : j < k + 1
    · have HM : Hid (∀ m, m < j → C[m]? = some (.int .u8 (n / 2 ^ (7 * m) % 128 + 128))) := hm
      clear hm
      obtain ⟨v0, hv0⟩ : ∃ v, C[j]? = some v := ⟨_, Array.getElem?_eq_getElem (by omega)⟩
      go_wp2
      go_roundw
      case rel =>
        refine ⟨j + 1, _, by omega, by go_num, rfl, by simp [hC], ?_⟩
        intro m hm
        by_cases hmj : m = j
        · subst hmj
          rw [Array.getElem?_setIfInBounds_self_of_lt (by omega), or128 _ (by omega) (by omega)]
          congr 2
          omega
        · rw [Array.getElem?_setIfInBounds_ne (by omega), HM.out m (by omega)]
      case measure => simp [intOf]; omega
    · obtain rfl : j = k + 1 := by omega
      have hk1 := hm k (by omega)
      have hslc : ∀ W : World, (Instr.sliceAt 135 (.pointer (some ⟨w.heap.size, 0, none⟩)) none (some (.int .i64 ((k : Int) + 1))) none).run Try.prog W = .ok (.slice (some ⟨w.heap.size, 0, none⟩) (k + 1) 10) W := fun W => by
        have hal : Try.prog.arrayLen 135 = 10 := by simp [Program.arrayLen, Try.underlying135]
        rw [run_sliceAt_array_h W 135 ⟨w.heap.size, 0, none⟩ (by simp [Program.arrayLen, Program.elem, Try.underlying135]) .i64 ((k : Int) + 1) (by omega) (by rw [hal]; omega)]
        go_simp
      have hcv := run_convert_bytes_back (P := Try.prog) (w.alloc (.cells (C.setIfInBounds k (.int .u8 (bits BinOp.andNot IntKind.u8 (n / 2 ^ (7 * k) % 128 + 128) 128))) 135)) 137 9 5 ⟨w.heap.size, 0, none⟩ 10 (putL n.toNat) Try.underlying137 Try.underlying5 Try.underlying9
        (fun j hj => by
          have e : (⟨w.heap.size, 0, none⟩ : Addr).add j = ⟨w.heap.size, j, none⟩ := by rw [addr_add]; simp
          rw [e, World.cell?_alloc_at _ _ _ _ rfl]
          exact put_cells n h0 k HL.out.1 HL.out.2 hk9 C hC hm j hj)
      rw [putL_len k n.toNat HL.out.1 HL.out.2] at hcv
      clear hm
      go_wp2
      go_ret
      exact ⟨rfl, (Below.refl _ _).alloc (Nat.le_refl _) _⟩

/-- the document's bytes -/
theorem bcell {W w1 : World} (hb : Below W.heap.size W w1) : (∀ b o, b < W.heap.size → w1.cell? ⟨b, o, none⟩ = W.cell? ⟨b, o, none⟩) ∧ (∀ b o, b < W.heap.size → w1.frozen? ⟨b, o, none⟩ = W.frozen? ⟨b, o, none⟩) :=
  ⟨fun b o h => hb.cell (p := ⟨b, o, none⟩) h, fun b o h => hb.frozen (p := ⟨b, o, none⟩) h⟩
theorem conv_one (x : Int) (h0 : 0 ≤ x) (h1 : x ≤ 255) (W : World) (g : Nat) (hc : W.cell? ⟨g, 0, none⟩ = some (.int .u8 x)) :
    (convert 137 9 (.slice (some ⟨g, 0, none⟩) 1 1)).run Try.prog W = .ok (.string ⟨#[UInt8.ofNat x.toNat]⟩) W :=
  run_convert_bytes_back (P := Try.prog) W 137 9 5 ⟨g, 0, none⟩ 1 [UInt8.ofNat x.toNat] Try.underlying137 Try.underlying5 Try.underlying9 (fun j hj => by
    obtain rfl : j = 0 := by simpa using hj
    rw [addr_add, Nat.zero_add, hc]
    simp
    omega)
theorem rput_cons (n : Int) (h : 128 ≤ n) : (⟨#[UInt8.ofNat (n % 128 + 128).toNat]⟩ ++ ⟨(putL (n / 128).toNat).toArray⟩ : ByteArray) = ⟨(putL n.toNat).toArray⟩ := by
  apply ByteArray.ext
  rw [ByteArray.data_append, putL_big n.toNat (by omega)]
  apply Array.ext'
  have e : (n / 128).toNat = n.toNat / 128 := by omega
  have e2 : (n % 128 + 128).toNat = n.toNat % 128 + 128 := by omega
  rw [e, e2]
  simp
end Go.Proofs.Ytmkbijnndbgjgaa
namespace Go.Proofs.Ytmkbijnndbgjgaa
open Go.RowKit

/-- the number that bytes begin with: it, what is behind, the error -/
def getGo (i acc : Nat) : List UInt8 → Nat × List UInt8 × Int
  | [] => (0, [], 5)
  | b :: l => if i = 9 ∧ 1 < b.toNat then (0, [], 7)
    else if 128 ≤ b.toNat then getGo (i + 1) (acc + b.toNat % 128 * 128 ^ i) l
    else if b.toNat = 0 ∧ 0 < i then (0, [], 7)
    else (acc + b.toNat * 128 ^ i, l, 0)
def getS (s : ByteArray) : Nat × List UInt8 × Int := getGo 0 0 s.data.toList

theorem or_high (acc : Nat) (b : UInt8) (i : Nat) (hi : i ≤ 9) (ha : acc < 128 ^ i) (h9 : i = 9 → b.toNat ≤ 1) :
    bits BinOp.or IntKind.u64 (acc : Int) (IntKind.u64.wrap (IntKind.u64.wrap (bits BinOp.andNot IntKind.u8 (b.toNat : Int) 128) * 2 ^ (7 * i))) = ((acc + b.toNat % 128 * 128 ^ i : Nat) : Int) := by
  have hb := b.toNat_lt
  rw [andNot128 _ (by omega) (by omega), wraps_u64 (_ % 128) (by omega) (by omega)]
  have p : (2 : Int) ^ (7 * i) = ((128 ^ i : Nat) : Int) := by
    rw [show 128 = 2 ^ 7 by rfl, ← Nat.pow_mul]; simp
  have hm : b.toNat % 128 * 128 ^ i < 2 ^ 64 := by
    by_cases h : i = 9
    · subst h
      have := h9 rfl
      have : b.toNat % 128 ≤ 1 := by omega
      omega
    · have : 128 ^ i ≤ 128 ^ 8 := Nat.pow_le_pow_right (by decide) (by omega)
      have h2 : b.toNat % 128 ≤ 127 := by omega
      have := Nat.mul_le_mul h2 this
      omega
  have hi2 : 128 ^ i ≤ 128 ^ 9 := Nat.pow_le_pow_right (by decide) hi
  have hc : ((b.toNat : Int) % 128) * 2 ^ (7 * i) = ((b.toNat % 128 * 128 ^ i : Nat) : Int) := by rw [p]; simp
  rw [hc, wraps_u64 _ (by omega) (by exact_mod_cast hm)]
  rw [bits_join_low .u64 64 (by decide) wraps_u64 (7 * i) _ _ (by omega) (by rw [p]; exact_mod_cast ha) (by omega) (by omega) (by rw [p]; simp [Int.mul_emod_left]) (by exact_mod_cast hm)]
  simp

theorem drop_cons (s : ByteArray) (k : Nat) (h : k < s.size) : s.data.toList.drop k = s[k] :: s.data.toList.drop (k + 1) := by
  rw [List.drop_eq_getElem_cons (by simpa using h)]; rfl
theorem getGo_err9 (acc : Nat) (b : UInt8) (l : List UInt8) {i : Nat} (hi : i = 9) (hb : 1 < b.toNat) : getGo i acc (b :: l) = (0, [], 7) := by
  rw [getGo, if_pos ⟨hi, hb⟩]
theorem getGo_zero (acc : Nat) (b : UInt8) (l : List UInt8) {i : Nat} (hi : 0 < i) (hb : b.toNat = 0) : getGo i acc (b :: l) = (0, [], 7) := by
  rw [getGo, if_neg (by omega), if_neg (by omega), if_pos ⟨hb, hi⟩]
theorem getGo_last (acc : Nat) (b : UInt8) (l : List UInt8) {i : Nat} (h9 : i = 9 → b.toNat ≤ 1) (hb : b.toNat < 128) (h0 : ¬ (b.toNat = 0 ∧ 0 < i)) : getGo i acc (b :: l) = (acc + b.toNat * 128 ^ i, l, 0) := by
  rw [getGo, if_neg (by omega), if_neg (by omega), if_neg h0]
theorem getGo_more (acc : Nat) (b : UInt8) (l : List UInt8) {i : Nat} (h9 : i ≠ 9) (hb : 128 ≤ b.toNat) : getGo i acc (b :: l) = getGo (i + 1) (acc + b.toNat % 128 * 128 ^ i) l := by
  rw [getGo, if_neg (by omega), if_pos hb]
theorem ret_get (r : Nat × List UInt8 × Int) {n : Int} {a : ByteArray} {e : Int} (hn : 0 ≤ n) (h : r = (n.toNat, a.data.toList, e)) :
    Ending.returned (.tuple #[.int .u64 n, .string a, .int .i64 e]) = .returned (.tuple #[.int .u64 r.1, .string ⟨r.2.1.toArray⟩, .int .i64 r.2.2]) := by
  subst h
  simp [Int.toNat_of_nonneg hn]
theorem ret_get' (r : Nat × List UInt8 × Int) {n : Int} {a : ByteArray} {e : Int} {N : Nat} {l : List UInt8} (h : r = (N, l, e)) (hn : n = (N : Int)) (ha : a = ⟨l.toArray⟩) :
    Ending.returned (.tuple #[.int .u64 n, .string a, .int .i64 e]) = .returned (.tuple #[.int .u64 r.1, .string ⟨r.2.1.toArray⟩, .int .i64 r.2.2]) := by
  subst h; subst hn; subst ha; rfl
theorem extract_drop (s : ByteArray) (k : Nat) : s.extract k s.size = ⟨(s.data.toList.drop k).toArray⟩ := by
  apply ByteArray.ext
  rw [ByteArray.data_extract]
  apply Array.ext'
  simp [List.take_of_length_le]
theorem acc_next (acc : Nat) (b : UInt8) (i : Nat) (ha : acc < 128 ^ i) : acc + b.toNat % 128 * 128 ^ i < 128 ^ (i + 1) := by
  have h2 : b.toNat % 128 ≤ 127 := by omega
  have := Nat.mul_le_mul h2 (Nat.le_refl (128 ^ i))
  rw [Nat.pow_succ]
  omega
set_option maxHeartbeats 1000000 in
set_option maxRecDepth 20000 in
theorem first_any (s : ByteArray) (w : World) (hs : s.size ≤ maxLen) :
    Calls Try.prog 78 #[.string s] w fun e w' => e = .returned (.tuple #[.int .u64 (getS s).1, .string ⟨(getS s).2.1.toArray⟩, .int .i64 (getS s).2.2]) ∧ Below w.heap.size w w' := by
  unfold maxLen at hs
  go_enter Try.func78, Try.ntmps78
  go_wp2
  go_loop [5, 11] (fun n i => ∃ j acc : Nat, j ≤ s.size ∧ j ≤ 9 ∧ Hid (acc < 128 ^ j) ∧ i = .int .i64 j ∧ n = .int .u64 acc ∧ Hid (getS s = getGo j acc (s.data.toList.drop j))) (fun _ i => s.size - (intOf i).toNat)
  case atStart => exact ⟨0, 0, by omega, by omega, (by simp : 0 < 128 ^ 0), rfl, rfl, (rfl : getS s = _)⟩
  case round =>
    obtain ⟨j, acc, hj, hj9, HA, rfl, rfl, HG⟩ := hrel
    by_cases hlt : j < s.size
    · have hd := drop_cons s j hlt
      have HD : Hid (s.data.toList.drop j = s[j] :: s.data.toList.drop (j + 1)) := hd
      clear hd
      go_wp2
      · go_ret3
        exact ⟨ret_get (getS s) (by omega) (by rw [HG.out, HD.out, getGo_err9 _ _ _ (by omega) (by omega)]; rfl), Below.refl _ _⟩
      · go_ret3
        exact ⟨ret_get (getS s) (by omega) (by rw [HG.out, HD.out, getGo_zero _ _ _ (by omega) (by omega)]; rfl), Below.refl _ _⟩
      · obtain rfl : j = 9 := by omega
        go_quiet (fail)
        go_wp2
        go_ret3
        refine ⟨ret_get' (getS s) (by rw [HG.out, HD.out, getGo_last _ _ _ (by omega) (by omega) (by omega)]) ?_ (extract_drop s 10), below_drewN (Below.refl _ _) _⟩
        exact (or_high acc s[9] 9 (by omega) HA.out (by omega)).trans (by rw [Nat.mod_eq_of_lt (by omega)])
      · go_round
        case rel =>
          exact ⟨j + 1, acc + s[j].toNat % 128 * 128 ^ j, by omega, by omega, acc_next acc s[j] j HA.out, by go_num, by rw [or_high acc s[j] j (by omega) HA.out (by omega)], (by rw [HG.out, HD.out, getGo_more _ _ _ (by omega) (by omega)] : getS s = _)⟩
        case measure => simp [intOf]; omega
      · go_ret3
        exact ⟨ret_get (getS s) (by omega) (by rw [HG.out, HD.out, getGo_zero _ _ _ (by omega) (by omega)]; rfl), Below.refl _ _⟩
      · go_quiet (fail)
        go_wp2
        go_ret3
        refine ⟨ret_get' (getS s) (by rw [HG.out, HD.out, getGo_last _ _ _ (by omega) (by omega) (by omega)]) ?_ (extract_drop s _), below_drewN (Below.refl _ _) _⟩
        have hz : s[j].toNat = 0 := by assumption
        have ho := or_high acc s[j] j (by omega) HA.out (by omega)
        rw [hz] at ho
        rw [hz]
        exact ho
      · go_quiet (fail)
        go_wp2
        go_ret3
        refine ⟨ret_get' (getS s) (by rw [HG.out, HD.out, getGo_last _ _ _ (by omega) (by omega) (by omega)]) ?_ (extract_drop s _), below_drewN (Below.refl _ _) _⟩
        exact (or_high acc s[j] j (by omega) HA.out (by omega)).trans (by rw [Nat.mod_eq_of_lt (by omega)])
    · obtain rfl : j = s.size := by omega
      go_wp2
      go_ret3
      exact ⟨ret_get (getS s) (by omega) (by rw [HG.out, List.drop_of_length_le (by simp), getGo]; rfl), Below.refl _ _⟩

theorem clone_any (s : ByteArray) (w : World) (hs : s.size ≤ 281474976710656) :
    Calls Try.prog 79 #[.string s] w fun e w' => e = .returned (.string s) ∧ Below w.heap.size w w' := by
  go_enter Try.func79, Try.ntmps79
  go_wp2_with (go_at_call 100; refine (Try.stringslite_Clone s _ hs).mono ?_; rintro e w1 ⟨rfl, hb⟩)
  go_ret
  exact ⟨rfl, hb⟩

theorem getGo_len (l : List UInt8) : ∀ i acc, (getGo i acc l).2.1.length ≤ l.length := by
  induction l with
  | nil => intro i acc; simp [getGo]
  | cons b l ih =>
    intro i acc
    rw [getGo]
    split
    · simp
    · split
      · have := ih (i + 1) (acc + b.toNat % 128 * 128 ^ i); simp; omega
      · split
        · simp
        · simp
theorem getS_len (s : ByteArray) : (getS s).2.1.length ≤ s.size := by
  have := getGo_len s.data.toList 0 0
  simpa [getS] using this

theorem get_any (s : ByteArray) (w : World) (hs : s.size ≤ 281474976710656) :
    Calls Try.prog 58 #[.string s] w fun e w' => e = .returned (.tuple #[.int .u64 (getS s).1, .string ⟨(getS s).2.1.toArray⟩, .int .i64 (getS s).2.2]) ∧ Below w.heap.size w w' := by
  have hl := getS_len s
  have hf := fun w => first_any s w (by unfold maxLen; omega)
  obtain ⟨r, hr⟩ : ∃ r, r = getS s := ⟨_, rfl⟩
  rw [← hr] at hl
  simp only [← hr] at hf ⊢
  clear hr
  obtain ⟨n, l, e⟩ := r
  have hc := fun w => clone_any ⟨l.toArray⟩ w (by show l.toArray.size ≤ _; simp at hl ⊢; omega)
  go_enter Try.func58, Try.ntmps58
  go_wp2_with (first
    | (go_at_call 78; refine (hf _).mono ?_; rintro e w1 ⟨rfl, hb1⟩)
    | (go_at_call 79; refine (hc _).mono ?_; rintro e w2 ⟨rfl, hb2⟩))
  go_ret3
  exact ⟨rfl, hb1.trans (hb2.mono hb1.size)⟩

theorem add_high (acc : Nat) (b : UInt8) (i P : Nat) (hP : P = 128 ^ i) (hi : i ≤ 9) (ha : acc < 128 ^ i) (h9 : i = 9 → b.toNat ≤ 1) :
    IntKind.u64.wrap (↑acc + IntKind.u64.wrap (↑b.toNat % 128 * ↑P)) = ((acc + b.toNat % 128 * 128 ^ i : Nat) : Int) := by
  subst hP
  have hm : b.toNat % 128 * 128 ^ i ≤ 127 * 128 ^ 8 ∨ b.toNat % 128 * 128 ^ i ≤ 128 ^ 9 := by
    by_cases h : i = 9
    · subst h
      have := h9 rfl
      right
      have : b.toNat % 128 ≤ 1 := by omega
      omega
    · left
      have h1 : 128 ^ i ≤ 128 ^ 8 := Nat.pow_le_pow_right (by decide) (by omega)
      have h2 : b.toNat % 128 ≤ 127 := by omega
      exact Nat.mul_le_mul h2 h1
  have hi2 : 128 ^ i ≤ 128 ^ 9 := Nat.pow_le_pow_right (by decide) hi
  have hc : ((b.toNat : Int) % 128) * ((128 ^ i : Nat) : Int) = ((b.toNat % 128 * 128 ^ i : Nat) : Int) := by simp
  rw [hc, IntKind.wrap_u64, IntKind.wrap_u64]
  omega
theorem pow_next (i : Nat) (hi : i ≤ 8) : IntKind.u64.wrap (((128 ^ i : Nat) : Int) * 128) = ((128 ^ (i + 1) : Nat) : Int) := by
  have hi2 : 128 ^ i ≤ 128 ^ 8 := Nat.pow_le_pow_right (by decide) hi
  rw [IntKind.wrap_u64, Nat.pow_succ]
  omega
end Go.Proofs.Ytmkbijnndbgjgaa
namespace Go.Proofs.Ytmkbijnndbgjgaa

theorem getGo_put (l : List UInt8) (n : Nat) : ∀ i acc, n * 128 ^ i < 18446744073709551616 → (i = 0 ∨ n ≠ 0) → i ≤ 9 → getGo i acc (putL n ++ l) = (acc + n * 128 ^ i, l, 0) := by
  induction n using Nat.strongRecOn with
  | ind n ih =>
    intro i acc h h0 hi
    by_cases hn : n < 128
    · rw [putL_small n hn]
      have e : (UInt8.ofNat n).toNat = n := by simp; omega
      have h9 : i = 9 → n ≤ 1 := fun h => by subst h; omega
      rw [List.singleton_append, getGo_last acc (UInt8.ofNat n) l (by rw [e]; exact h9) (by rw [e]; exact hn) (by rw [e]; omega), e]
    · rw [putL_big n hn]
      have e : (UInt8.ofNat (n % 128 + 128)).toNat = n % 128 + 128 := by simp; omega
      have h9 : i ≠ 9 := fun h9 => by subst h9; omega
      rw [List.cons_append, getGo_more acc _ _ h9 (by rw [e]; omega), e]
      have hp : 128 ^ (i + 1) = 128 * 128 ^ i := by rw [Nat.pow_succ]; omega
      have h1 : n / 128 * 128 ^ (i + 1) + n % 128 * 128 ^ i = n * 128 ^ i := by
        rw [hp, ← Nat.mul_assoc, ← Nat.add_mul]
        congr 1
        omega
      rw [ih (n / 128) (by omega) (i + 1) _ (by omega) (.inr (by omega)) (by omega)]
      have h2 : (n % 128 + 128) % 128 = n % 128 := by omega
      rw [h2]
      congr 1
      omega
theorem getS_put (n : Nat) (more : ByteArray) (h : n < 18446744073709551616) : getS (⟨(putL n).toArray⟩ ++ more) = (n, more.data.toList, 0) := by
  unfold getS
  rw [ByteArray.data_append]
  have := getGo_put more.data.toList n 0 0 (by simpa using h) (.inl rfl) (by omega)
  simpa using this

theorem put_getGo (l : List UInt8) : ∀ i acc N r, i ≤ 9 → getGo i acc l = (N, r, 0) → ∃ n, N = acc + n * 128 ^ i ∧ putL n ++ r = l ∧ (0 < i → n ≠ 0) ∧ (n + 1) * 128 ^ i ≤ 18446744073709551616 := by
  induction l with
  | nil => intro i acc N r _ h; simp [getGo] at h
  | cons b l ih =>
    intro i acc N r hi h
    have hb := b.toNat_lt
    have hp : 128 ^ (i + 1) = 128 * 128 ^ i := by rw [Nat.pow_succ]; omega
    have hp9 : i ≤ 8 → 128 ^ (i + 1) ≤ 128 ^ 9 := fun h => Nat.pow_le_pow_right (by decide) (by omega)
    rw [getGo] at h
    by_cases c1 : i = 9 ∧ 1 < b.toNat
    · rw [if_pos c1] at h; simp at h
    · rw [if_neg c1] at h
      by_cases c2 : 128 ≤ b.toNat
      · rw [if_pos c2] at h
        obtain ⟨n, e1, e2, e3, e4⟩ := ih (i + 1) _ N r (by omega) h
        have hn := e3 (by omega)
        refine ⟨b.toNat % 128 + 128 * n, ?_, ?_, by omega, ?_⟩
        · rw [e1, hp, Nat.add_mul, ← Nat.mul_assoc, Nat.mul_comm n 128]; omega
        · rw [putL_big _ (by omega)]
          have h1 : (b.toNat % 128 + 128 * n) % 128 + 128 = b.toNat := by omega
          have h2 : (b.toNat % 128 + 128 * n) / 128 = n := by omega
          rw [h1, h2, List.cons_append, e2]
          simp
        · have h1 : (b.toNat % 128 + 128 * n + 1) * 128 ^ i ≤ (128 * (n + 1)) * 128 ^ i := Nat.mul_le_mul_right _ (by omega)
          have h2 : (128 * (n + 1)) * 128 ^ i = (n + 1) * 128 ^ (i + 1) := by rw [hp, ← Nat.mul_assoc, Nat.mul_comm (n + 1) 128]
          omega
      · rw [if_neg c2] at h
        by_cases c3 : b.toNat = 0 ∧ 0 < i
        · rw [if_pos c3] at h; simp at h
        · rw [if_neg c3] at h
          simp only [Prod.mk.injEq, and_true] at h
          obtain ⟨e1, e2⟩ := h
          refine ⟨b.toNat, e1.symm, ?_, by omega, ?_⟩
          · rw [putL_small _ (by omega), e2]; simp
          · by_cases c4 : i = 9
            · subst c4; omega
            · have h1 : (b.toNat + 1) * 128 ^ i ≤ 128 * 128 ^ i := Nat.mul_le_mul_right _ (by omega)
              have := hp9 (by omega)
              omega
theorem put_getS (s : ByteArray) (h : (getS s).2.2 = 0) : (getS s).1 < 18446744073709551616 ∧ (⟨(putL (getS s).1).toArray⟩ ++ ⟨(getS s).2.1.toArray⟩ : ByteArray) = s := by
  obtain ⟨⟨N, r, why⟩, hr⟩ : ∃ r, getS s = r := ⟨_, rfl⟩
  rw [hr] at h ⊢
  simp only at h
  subst h
  obtain ⟨n, e1, e2, e3, e4⟩ := put_getGo s.data.toList 0 0 N r (by omega) hr
  have hn : N = n := by simpa using e1
  subst hn
  refine ⟨by simp at e4; omega, ?_⟩
  apply ByteArray.ext
  rw [ByteArray.data_append]
  apply Array.ext'
  simpa using e2
end Go.Proofs.Ytmkbijnndbgjgaa
namespace Go.Proofs.Ytmkbijnndbgjgaa.Crc
open Go.RowKit

/-- one of a byte's eight steps -/
def hv (r : Nat) : Nat := (r / 2) ^^^ (2197175160 * (r % 2))
theorem xor_half (a b : Nat) : (a ^^^ b) / 2 = (a / 2) ^^^ (b / 2) := by
  have := @Nat.xor_div_two_pow a b 1
  simpa using this
theorem xor_odd (a b : Nat) : (a ^^^ b) % 2 = (a % 2) ^^^ (b % 2) := by
  have := @Nat.xor_mod_two_pow a b 1
  simpa using this
theorem mul_bit (a b : Nat) (ha : a = 0 ∨ a = 1) (hb : b = 0 ∨ b = 1) : 2197175160 * (a ^^^ b) = (2197175160 * a) ^^^ (2197175160 * b) := by
  rcases ha with rfl | rfl <;> rcases hb with rfl | rfl <;> decide
theorem xor4 (a b c d : Nat) : (a ^^^ b) ^^^ (c ^^^ d) = (a ^^^ c) ^^^ (b ^^^ d) := by
  rw [Nat.xor_assoc, Nat.xor_assoc, ← Nat.xor_assoc b c d, Nat.xor_comm b c, Nat.xor_assoc c b d]
theorem hv_xor (a b : Nat) : hv (a ^^^ b) = hv a ^^^ hv b := by
  unfold hv
  rw [xor_half, xor_odd, mul_bit _ _ (by omega) (by omega), xor4]
theorem hv_lt (r : Nat) (h : r < 4294967296) : hv r < 4294967296 := by
  unfold hv
  apply Nat.xor_lt_two_pow (n := 32)
  · omega
  · have : r % 2 = 0 ∨ r % 2 = 1 := by omega
    rcases this with h | h <;> rw [h] <;> decide
def hvN : Nat → Nat → Nat
  | 0, r => r
  | k + 1, r => hvN k (hv r)
theorem hvN_succ (k r : Nat) : hvN (k + 1) r = hv (hvN k r) := by
  induction k generalizing r with
  | zero => rfl
  | succ k ih => rw [hvN, ih]; rfl
theorem hvN_add (k m r : Nat) : hvN (k + m) r = hvN k (hvN m r) := by
  induction m generalizing r with
  | zero => rfl
  | succ m ih => rw [Nat.add_succ, hvN, ih]; rfl
theorem hvN_xor (k a b : Nat) : hvN k (a ^^^ b) = hvN k a ^^^ hvN k b := by
  induction k generalizing a b with
  | zero => rfl
  | succ k ih => rw [hvN, hv_xor, ih]; rfl
theorem hvN_lt (k r : Nat) (h : r < 4294967296) : hvN k r < 4294967296 := by
  induction k generalizing r with
  | zero => exact h
  | succ k ih => exact ih _ (hv_lt r h)
theorem hvN_zero (k : Nat) : hvN k 0 = 0 := by
  induction k with
  | zero => rfl
  | succ k ih => rw [hvN]; exact ih

/-- a text's bytes into the register -/
def regL (r : Nat) : List UInt8 → Nat
  | [] => r
  | b :: l => regL (hvN 8 (r ^^^ b.toNat)) l
theorem regL_app (a b : List UInt8) : ∀ r, regL r (a ++ b) = regL (regL r a) b := by
  induction a with
  | nil => intro r; rfl
  | cons x a ih => intro r; exact ih _
theorem regL_lt (l : List UInt8) : ∀ r, r < 4294967296 → regL r l < 4294967296 := by
  induction l with
  | nil => intro r h; exact h
  | cons x l ih =>
    intro r h
    refine ih _ (hvN_lt 8 _ ?_)
    have := x.toNat_lt
    exact Nat.xor_lt_two_pow (n := 32) h (by omega)
theorem regL_affine (l : List UInt8) : ∀ a b, regL (a ^^^ b) l = hvN (8 * l.length) a ^^^ regL b l := by
  induction l with
  | nil => intro a b; rfl
  | cons x l ih =>
    intro a b
    rw [regL, Nat.xor_assoc, hvN_xor, ih, ← hvN_add, List.length_cons, show 8 * l.length + 8 = 8 * (l.length + 1) by omega]
    rfl
theorem regL_zero (X : Nat) (l : List UInt8) : regL X l = hvN (8 * l.length) X ^^^ regL 0 l := by
  have := regL_affine l X 0
  rwa [Nat.xor_zero] at this
def notR (r : Nat) : Nat := r ^^^ 4294967295
theorem notR_lt (r : Nat) (h : r < 4294967296) : notR r < 4294967296 := Nat.xor_lt_two_pow (n := 32) h (by decide)
theorem notR_notR (r : Nat) : notR (notR r) = r := by unfold notR; rw [Nat.xor_assoc, Nat.xor_self, Nat.xor_zero]
def onL (sum : Nat) (l : List UInt8) : Nat := notR (regL (notR sum) l)
theorem onL_lt (sum : Nat) (l : List UInt8) (h : sum < 4294967296) : onL sum l < 4294967296 := notR_lt _ (regL_lt _ _ (notR_lt _ h))

/- ### the register's bits, as the program reckons them -/
theorem wraps32 (n : Int) (h₀ : 0 ≤ n) (h₁ : n < 2 ^ 32) : IntKind.u32.wrap n = n := by rw [IntKind.wrap_u32]; omega
theorem xor_u32 (a b : Nat) (ha : a < 4294967296) (hb : b < 4294967296) : bits BinOp.xor IntKind.u32 (a : Int) (b : Int) = ((a ^^^ b : Nat) : Int) := by
  have ha' : a % 2 ^ IntKind.u32.bits = a := Nat.mod_eq_of_lt (by simpa [IntKind.bits] using ha)
  have hb' : b % 2 ^ IntKind.u32.bits = b := Nat.mod_eq_of_lt (by simpa [IntKind.bits] using hb)
  simp only [bits, BitVec.ofInt_natCast, BitVec.toNat_xor, BitVec.toNat_ofNat, ha', hb']
  refine wraps32 _ (Int.natCast_nonneg _) ?_
  have := Nat.xor_lt_two_pow (n := 32) ha hb
  exact_mod_cast this
theorem and_u32 (a b : Nat) (ha : a < 4294967296) (hb : b < 4294967296) : bits BinOp.and IntKind.u32 (a : Int) (b : Int) = ((a &&& b : Nat) : Int) :=
  (bits_nat .u32 32 (by decide) wraps32 a b ha hb).1
theorem or_u32 (a b : Nat) (ha : a < 4294967296) (hb : b < 4294967296) : bits BinOp.or IntKind.u32 (a : Int) (b : Int) = ((a ||| b : Nat) : Int) :=
  (bits_nat .u32 32 (by decide) wraps32 a b ha hb).2
theorem and_one_u32 (r : Nat) (h : r < 4294967296) : bits BinOp.and IntKind.u32 (r : Int) 1 = ((r % 2 : Nat) : Int) := by
  have := and_u32 r 1 h (by decide)
  rw [Nat.and_one_is_mod] at this
  exact this
theorem hv_bits (r : Nat) (h : r < 4294967296) : bits BinOp.xor IntKind.u32 ((r : Int) / 2) (IntKind.u32.wrap (2197175160 * bits BinOp.and IntKind.u32 (r : Int) 1)) = (hv r : Int) := by
  rw [and_one_u32 r h, IntKind.wrap_u32]
  have e1 : (r : Int) / 2 = ((r / 2 : Nat) : Int) := by omega
  have e2 : 2197175160 * ((r % 2 : Nat) : Int) % 4294967296 = ((2197175160 * (r % 2) : Nat) : Int) := by omega
  rw [e1, e2, xor_u32 _ _ (by omega) (by omega)]
  rfl
theorem xor_ones (r : Nat) (h : r < 4294967296) : r ^^^ 4294967295 = 4294967295 - r := by
  have e : (r ^^^ 4294967295) = (BitVec.ofNat 32 r ^^^ BitVec.allOnes 32).toNat := by
    rw [BitVec.toNat_xor, BitVec.toNat_ofNat, BitVec.toNat_allOnes, Nat.mod_eq_of_lt (by simpa using h)]
  rw [e, BitVec.xor_allOnes, BitVec.toNat_not, BitVec.toNat_ofNat, Nat.mod_eq_of_lt (by simpa using h)]
theorem not_u32 (r : Nat) (h : r < 4294967296) : bits BinOp.xor IntKind.u32 IntKind.u32.max (r : Int) = (notR r : Int) := by
  have e : IntKind.u32.max = ((4294967295 : Nat) : Int) := by decide
  rw [e, xor_u32 _ _ (by decide) h, Nat.xor_comm]
  rfl
theorem xor_u32_ones (r : Nat) (h : r < 4294967296) : bits BinOp.xor IntKind.u32 (r : Int) 4294967295 = (notR r : Int) := by
  have := xor_u32 r 4294967295 h (by decide)
  exact this
theorem hv_odd (r : Nat) (h : r < 4294967296) (ho : r % 2 = 1) : bits BinOp.xor IntKind.u32 ((r : Int) / 2) 2197175160 = (hv r : Int) := by
  have := xor_u32 (r / 2) 2197175160 (by omega) (by decide)
  have e1 : (r : Int) / 2 = ((r / 2 : Nat) : Int) := by omega
  rw [e1]
  refine this.trans ?_
  rw [hv, ho]
theorem hv_even (r : Nat) (ho : ¬ r % 2 = 1) : (r : Int) / 2 = (hv r : Int) := by
  have e : r % 2 = 0 := by omega
  rw [hv, e]
  simp
theorem xor_eq (a b : Nat) (h : a ^^^ b = 0) : a = b := by
  have := congrArg (· ^^^ b) h
  simpa [Nat.xor_assoc] using this
theorem hv_zero (x : Nat) (h : x < 4294967296) (h0 : hv x = 0) : x = 0 := by
  unfold hv at h0
  rcases (by omega : x % 2 = 0 ∨ x % 2 = 1) with hp | hp
  · rw [hp, Nat.mul_zero, Nat.xor_zero] at h0
    omega
  · rw [hp, Nat.mul_one] at h0
    have : x / 2 = 2197175160 := xor_eq _ _ h0
    omega
theorem hvN_zero_inv (k : Nat) : ∀ x, x < 4294967296 → hvN k x = 0 → x = 0 := by
  induction k with
  | zero => intro x _ h; exact h
  | succ k ih => intro x h h0; exact hv_zero x h (ih _ (hv_lt x h) h0)
theorem regL_inj (l : List UInt8) (a b : Nat) (ha : a < 4294967296) (hb : b < 4294967296) (h : regL a l = regL b l) : a = b := by
  rw [regL_zero a, regL_zero b] at h
  have h1 : hvN (8 * l.length) a = hvN (8 * l.length) b := by
    have := congrArg (· ^^^ regL 0 l) h
    simpa [Nat.xor_assoc] using this
  have h2 : hvN (8 * l.length) (a ^^^ b) = 0 := by rw [hvN_xor, h1, Nat.xor_self]
  exact xor_eq _ _ (hvN_zero_inv _ _ (Nat.xor_lt_two_pow (n := 32) ha hb) h2)
theorem hvN_inj (k a b : Nat) (ha : a < 4294967296) (hb : b < 4294967296) (h : hvN k a = hvN k b) : a = b := by
  have h2 : hvN k (a ^^^ b) = 0 := by rw [hvN_xor, h, Nat.xor_self]
  exact xor_eq _ _ (hvN_zero_inv _ _ (Nat.xor_lt_two_pow (n := 32) ha hb) h2)
theorem notR_inj (a b : Nat) (h : notR a = notR b) : a = b := by
  have := congrArg notR h
  rwa [notR_notR, notR_notR] at this
theorem sum_turned (p q : List UInt8) (x y : UInt8) (h : onL 0 (p ++ x :: q) = onL 0 (p ++ y :: q)) : x = y := by
  unfold onL at h
  have h1 := notR_inj _ _ h
  rw [regL_app, regL_app] at h1
  generalize hR : regL (notR 0) p = R at h1
  have hRl : R < 4294967296 := by rw [← hR]; exact regL_lt _ _ (notR_lt _ (by decide))
  have hx := x.toNat_lt
  have hy := y.toNat_lt
  have lx : R ^^^ x.toNat < 4294967296 := Nat.xor_lt_two_pow (n := 32) hRl (by omega)
  have ly : R ^^^ y.toNat < 4294967296 := Nat.xor_lt_two_pow (n := 32) hRl (by omega)
  have h2 := regL_inj q _ _ (hvN_lt 8 _ lx) (hvN_lt 8 _ ly) h1
  have h3 := hvN_inj 8 _ _ lx ly h2
  have h4 : x.toNat = y.toNat := by
    have := congrArg (R ^^^ ·) h3
    simpa [← Nat.xor_assoc] using this
  exact UInt8.toNat_inj.1 h4
theorem xor_u8 (a b : Nat) (ha : a < 256) (hb : b < 256) : bits BinOp.xor IntKind.u8 (a : Int) (b : Int) = ((a ^^^ b : Nat) : Int) := by
  have ha' : a % 2 ^ IntKind.u8.bits = a := Nat.mod_eq_of_lt (by simpa [IntKind.bits] using ha)
  have hb' : b % 2 ^ IntKind.u8.bits = b := Nat.mod_eq_of_lt (by simpa [IntKind.bits] using hb)
  simp only [bits, BitVec.ofInt_natCast, BitVec.toNat_xor, BitVec.toNat_ofNat, ha', hb']
  refine wraps_u8 _ (Int.natCast_nonneg _) ?_
  have := Nat.xor_lt_two_pow (n := 8) ha hb
  exact_mod_cast this

theorem set_parts (l : List UInt8) (i : Nat) (h : i < l.length) (y : UInt8) : l = l.take i ++ l[i] :: l.drop (i + 1) ∧ l.set i y = l.take i ++ y :: l.drop (i + 1) := by
  refine ⟨?_, List.set_eq_take_append_cons_drop ▸ ?_⟩
  · rw [List.getElem_cons_drop, List.take_append_drop]
  · simp [h]
end Go.Proofs.Ytmkbijnndbgjgaa.Crc
namespace Go.Proofs.Ytmkbijnndbgjgaa.Crc
open Go.RowKit
theorem ret_int {k : IntKind} {a b : Int} (h : a = b) : Ending.returned (.int k a) = .returned (.int k b) := by rw [h]
theorem ret_str {a b : ByteArray} (h : a = b) : Ending.returned (.string a) = .returned (.string b) := by rw [h]
theorem ret_bool {a b : Bool} (h : a = b) : Ending.returned (.bool a) = .returned (.bool b) := by rw [h]
theorem below2 {a b c : World} (h1 : Below a.heap.size a b) (h2 : Below b.heap.size b c) : Below a.heap.size a c := h1.trans (h2.mono h1.size)

theorem halved_any (r : Nat) (w : World) (h : r < 4294967296) :
    Calls Try.prog 101 #[.int .u32 (r : Int)] w fun e w' => e = .returned (.int .u32 (hv r : Int)) ∧ w' = w := by
  have hi : (r : Int) < 4294967296 := by omega
  go_enter Try.func101, Try.ntmps101
  go_wp2
  go_ret
  exact ⟨ret_int (hv_bits r h), rfl⟩

theorem drop_cons (s : ByteArray) (k : Nat) (h : k < s.size) : s.data.toList.drop k = s[k] :: s.data.toList.drop (k + 1) := by
  rw [List.drop_eq_getElem_cons (by simpa using h)]; rfl

set_option maxRecDepth 20000 in
theorem on_any (sum : Nat) (s : ByteArray) (w : World) (h : sum < 4294967296) (hs : s.size ≤ 9223372036854775807) :
    Calls Try.prog 80 #[.int .u32 (sum : Int), .string s] w fun e w' => e = .returned (.int .u32 (onL sum s.data.toList : Int)) ∧ w' = w := by
  have hi : (sum : Int) ≤ 4294967295 := by omega
  have HS : Hid (sum < 4294967296) := h
  clear h
  go_enter Try.func80, Try.ntmps80
  have e0 := not_u32 sum HS.out
  obtain ⟨N, hN⟩ : ∃ N, N = notR sum := ⟨_, rfl⟩
  rw [← hN] at e0
  have HN : Hid (N < 4294967296 ∧ N = notR sum) := ⟨by rw [hN]; exact notR_lt _ HS.out, hN⟩
  clear hN
  go_wp2
  go_loop [5, 11] (fun t i => ∃ j R : Nat, j ≤ s.size ∧ Hid (R < 4294967296) ∧ i = .int .i64 j ∧ t = .int .u32 (R : Int) ∧ Hid (regL N s.data.toList = regL R (s.data.toList.drop j))) (fun _ i => s.size - (intOf i).toNat)
  case atStart => exact ⟨0, N, by omega, HN.out.1, rfl, rfl, (rfl : regL N s.data.toList = _)⟩
  case round =>
    obtain ⟨j, R, hj, HR, rfl, rfl, HG⟩ := hrel
    have hRi : (R : Int) ≤ 4294967295 := by have := HR.out; omega
    by_cases hlt : j < s.size
    · have HD : Hid (s.data.toList.drop j = s[j] :: s.data.toList.drop (j + 1)) := drop_cons s j hlt
      have hbl := (s[j]).toNat_lt
      obtain ⟨X, hX⟩ : ∃ X, X = R ^^^ (s[j]).toNat := ⟨_, rfl⟩
      have e1 := xor_u32 R (s[j]).toNat HR.out (by omega)
      rw [← hX] at e1
      have HX : Hid (X < 4294967296 ∧ X = R ^^^ (s[j]).toNat) := ⟨by rw [hX]; exact Nat.xor_lt_two_pow (n := 32) HR.out (by omega), hX⟩
      have hbi : ((s[j]).toNat : Int) ≤ 255 := by omega
      clear hX hbl
      go_wp2
      go_loop [5, 20] (fun t i => ∃ k Q : Nat, k ≤ 8 ∧ Hid (Q < 4294967296) ∧ i = .int .i64 k ∧ t = .int .u32 (Q : Int) ∧ Hid (hvN 8 X = hvN (8 - k) Q)) (fun _ i => 8 - (intOf i).toNat)
      case atStart => exact ⟨0, X, by omega, HX.out.1, rfl, rfl, (rfl : hvN 8 X = _)⟩
      case round =>
        obtain ⟨k, Q, hk, HQ, rfl, rfl, HE⟩ := hrel
        have hQi : (Q : Int) ≤ 4294967295 := by have := HQ.out; omega
        by_cases hlt2 : k < 8
        · have HE' : Hid (hvN 8 X = hvN (8 - (k + 1)) (hv Q)) := by
            show _ = _
            rw [HE.out, show 8 - k = 8 - (k + 1) + 1 by omega]; rfl
          have hc := fun w => halved_any Q w HQ.out
          go_wp2_with (go_at_call 101; refine (hc _).mono ?_; rintro e w' ⟨rfl, rfl⟩)
          go_round
          case rel => exact ⟨k + 1, hv Q, by omega, hv_lt Q HQ.out, by go_num, rfl, HE'⟩
          case measure => simp [intOf]; omega
        · obtain rfl : k = 8 := by omega
          go_wp2
          go_round
          case rel =>
            refine ⟨j + 1, Q, by omega, HQ, by go_num, rfl, ?_⟩
            show _ = _
            have h8 : hvN 8 X = Q := HE.out
            rw [HG.out, HD.out, regL, ← HX.out.2, h8]
          case measure => simp [intOf]; omega
    · have e2 := not_u32 R HR.out
      go_wp2
      go_ret
      refine ⟨ret_int ?_, rfl⟩
      have : s.data.toList.drop j = [] := List.drop_of_length_le (by simp; omega)
      have hE := HG.out
      rw [this] at hE
      rw [onL, ← HN.out.2, hE]
      rfl
theorem of_any (s : ByteArray) (w : World) (hs : s.size ≤ 9223372036854775807) :
    Calls Try.prog 59 #[.string s] w fun e w' => e = .returned (.int .u32 (onL 0 s.data.toList : Int)) ∧ w' = w := by
  have hc := fun w => on_any 0 s w (by decide) hs
  go_enter Try.func59, Try.ntmps59
  go_wp2_with fail
  go_at_call 80; refine (hc _).mono ?_; rintro e w' ⟨rfl, rfl⟩
  go_wp2
  go_ret
  exact ⟨rfl, rfl⟩

end Go.Proofs.Ytmkbijnndbgjgaa.Crc
namespace Go.Proofs.Ytmkbijnndbgjgaa.Crc
open Go.RowKit

/-- a sum's bytes, the highest one first -/
def textR (n : Nat) : List UInt8 := [UInt8.ofNat (n / 16777216), UInt8.ofNat (n / 65536), UInt8.ofNat (n / 256), UInt8.ofNat n]
theorem addr_add (b o j : Nat) : (⟨b, o, none⟩ : Addr).add j = ⟨b, o + j, none⟩ := by unfold Addr.add; split <;> simp_all
theorem ofNat_toNat (n : Nat) : ((UInt8.ofNat n).toNat : Int) = (n : Int) % 256 := by simp
theorem text_cells (n : Nat) (h : n < 4294967296) (w : World) (T : TypeId) :
    (convert 137 9 (.slice (some ⟨w.heap.size, 0, none⟩) 4 4)).run Try.prog (w.alloc (.cells #[Value.int .u8 ((n : Int) / 16777216), .int .u8 ((n : Int) / 65536 % 256), .int .u8 ((n : Int) / 256 % 256), .int .u8 ((n : Int) % 256)] T)) =
      .ok (.string ⟨(textR n).toArray⟩) (w.alloc (.cells #[Value.int .u8 ((n : Int) / 16777216), .int .u8 ((n : Int) / 65536 % 256), .int .u8 ((n : Int) / 256 % 256), .int .u8 ((n : Int) % 256)] T)) :=
  run_convert_bytes_back (P := Try.prog) _ 137 9 5 ⟨w.heap.size, 0, none⟩ 4 (textR n) Try.underlying137 Try.underlying5 Try.underlying9 (fun j hj => by
    rw [addr_add, Nat.zero_add, World.cell?_alloc_at _ _ _ _ rfl]
    match j, hj with
    | 0, _ => simp [textR]; omega
    | 1, _ => simp [textR]
    | 2, _ => simp [textR]
    | 3, _ => simp [textR])
theorem str_list (s : ByteArray) : ∃ l : List UInt8, s = ⟨l.toArray⟩ ∧ l.length = s.size := ⟨s.data.toList, by cases s; simp, by simp⟩
theorem size_list (l : List UInt8) : (⟨l.toArray⟩ : ByteArray).size = l.length := by show l.toArray.size = _; simp
theorem str_app (a b : List UInt8) : (⟨a.toArray⟩ ++ ⟨b.toArray⟩ : ByteArray) = ⟨(a ++ b).toArray⟩ := by
  apply ByteArray.ext
  rw [ByteArray.data_append]
  simp
theorem extract_drop (s : ByteArray) (k : Nat) : s.extract k s.size = ⟨(s.data.toList.drop k).toArray⟩ := by
  apply ByteArray.ext
  rw [ByteArray.data_extract]
  apply Array.ext'
  simp [List.take_of_length_le]
theorem extract_take (s : ByteArray) (k : Nat) : s.extract 0 k = ⟨(s.data.toList.take k).toArray⟩ := by
  apply ByteArray.ext
  rw [ByteArray.data_extract]
  apply Array.ext'
  simp
theorem clone_any (s : ByteArray) (w : World) (hs : s.size ≤ 281474976710656) :
    Calls Try.prog 79 #[.string s] w fun e w' => e = .returned (.string s) ∧ Below w.heap.size w w' := by
  go_enter Try.func79, Try.ntmps79
  go_wp2_with (go_at_call 100; refine (Try.stringslite_Clone s _ hs).mono ?_; rintro e w1 ⟨rfl, hb⟩)
  go_ret
  exact ⟨rfl, hb⟩

/-- four bytes as a sum -/
def be4 (a b c d : UInt8) : Nat := 16777216 * a.toNat + 65536 * b.toNat + 256 * c.toNat + d.toNat
def readL : List UInt8 → Nat × List UInt8 × Int
  | a :: b :: c :: d :: l => (be4 a b c d, l, 0)
  | _ => (0, [], 5)
theorem or_low (a : Int) (b : Int) (ha : 0 ≤ a) (ha1 : a < 16777216) (hb : 0 ≤ b) (hb1 : b ≤ 255) : bits BinOp.or IntKind.u32 (a * 256) b = a * 256 + b :=
  bits_join .u32 32 (by decide) wraps32 8 (a * 256) b (by omega) (by omega) (by omega) hb (by omega) (by omega)
theorem or2 (a b c : Nat) (ha : (a : Int) ≤ 255) (hb : (b : Int) ≤ 255) (hc : (c : Int) ≤ 255) : bits BinOp.or IntKind.u32 (((a : Int) * 256 + (b : Int)) * 256) (c : Int) = ((a : Int) * 256 + (b : Int)) * 256 + (c : Int) :=
  or_low _ _ (by omega) (by omega) (by omega) hc
theorem or3 (a b c d : Nat) (ha : (a : Int) ≤ 255) (hb : (b : Int) ≤ 255) (hc : (c : Int) ≤ 255) (hd : (d : Int) ≤ 255) : bits BinOp.or IntKind.u32 ((((a : Int) * 256 + (b : Int)) * 256 + (c : Int)) * 256) (d : Int) = (((a : Int) * 256 + (b : Int)) * 256 + (c : Int)) * 256 + (d : Int) :=
  or_low _ _ (by omega) (by omega) (by omega) hd
theorem ret_read {a b : Int} {r : ByteArray} {e : Int} (h : a = b) : Ending.returned (.tuple #[.int .u32 a, .string r, .int .i64 e]) = .returned (.tuple #[.int .u32 b, .string r, .int .i64 e]) := by rw [h]
theorem four (l : List UInt8) (h : 4 ≤ l.length) : ∃ a b c d r, l = a :: b :: c :: d :: r := by
  match l, h with
  | a :: b :: c :: d :: r, _ => exact ⟨a, b, c, d, r, rfl⟩
theorem readL_short (l : List UInt8) (h : ¬ 4 ≤ l.length) : readL l = (0, [], 5) := by
  match l, h with
  | [], _ => rfl
  | [_], _ => rfl
  | [_, _], _ => rfl
  | [_, _, _], _ => rfl
  | _ :: _ :: _ :: _ :: _, h => simp at h
end Go.Proofs.Ytmkbijnndbgjgaa.Crc
namespace Go.Proofs.Ytmkbijnndbgjgaa.Frame

def sumL (l : List UInt8) : List UInt8 := Crc.textR (Crc.onL 0 l)
theorem sumL_len (l : List UInt8) : (sumL l).length = 4 := rfl
def frameL (l : List UInt8) : List UInt8 := putL l.length ++ (sumL l ++ l)

/-- the first frame: its payload, what is behind, the error -/
def bodyL (n : Nat) (r : List UInt8) : List UInt8 × List UInt8 × Int :=
  if n ≤ 4096 then (if n + 4 ≤ r.length then (if r.take 4 = sumL ((r.drop 4).take n) then ((r.drop 4).take n, r.drop (n + 4), 0) else ([], [], 6)) else ([], [], 5)) else ([], [], 7)
def nextL (l : List UInt8) : List UInt8 × List UInt8 × Int :=
  if (getGo 0 0 l).2.2 = 0 then bodyL (getGo 0 0 l).1 (getGo 0 0 l).2.1 else ([], [], (getGo 0 0 l).2.2)
theorem nextL_err {l : List UInt8} {n : Nat} {r : List UInt8} {e : Int} (h : getGo 0 0 l = (n, r, e)) (he : e ≠ 0) : nextL l = ([], [], e) := by
  rw [nextL, h]; exact if_neg he
theorem nextL_body {l : List UInt8} {n : Nat} {r : List UInt8} (h : getGo 0 0 l = (n, r, 0)) : nextL l = bodyL n r := by
  rw [nextL, h]; rfl
theorem nextL_many {l : List UInt8} {n : Nat} {r : List UInt8} (h : getGo 0 0 l = (n, r, 0)) (hn : ¬ n ≤ 4096) : nextL l = ([], [], 7) := by
  rw [nextL_body h, bodyL, if_neg hn]
theorem nextL_short {l : List UInt8} {n : Nat} {r : List UInt8} (h : getGo 0 0 l = (n, r, 0)) (hn : n ≤ 4096) (hr : ¬ n + 4 ≤ r.length) : nextL l = ([], [], 5) := by
  rw [nextL_body h, bodyL, if_pos hn, if_neg hr]
theorem nextL_sum {l : List UInt8} {n : Nat} {r : List UInt8} (h : getGo 0 0 l = (n, r, 0)) (hn : n ≤ 4096) (hr : n + 4 ≤ r.length) (hs : r.take 4 ≠ sumL ((r.drop 4).take n)) : nextL l = ([], [], 6) := by
  rw [nextL_body h, bodyL, if_pos hn, if_pos hr, if_neg hs]
theorem nextL_ok {l : List UInt8} {n : Nat} {r : List UInt8} (h : getGo 0 0 l = (n, r, 0)) (hn : n ≤ 4096) (hr : n + 4 ≤ r.length) (hs : r.take 4 = sumL ((r.drop 4).take n)) : nextL l = ((r.drop 4).take n, r.drop (n + 4), 0) := by
  rw [nextL_body h, bodyL, if_pos hn, if_pos hr, if_pos hs]

/-- an error's answer is empty -/
theorem getGo_bad (l : List UInt8) : ∀ i acc, (getGo i acc l).2.2 ≠ 0 → (getGo i acc l).1 = 0 ∧ (getGo i acc l).2.1 = [] := by
  induction l with
  | nil => intro i acc _; exact ⟨rfl, rfl⟩
  | cons b l ih =>
    intro i acc h
    rw [getGo] at h ⊢
    split at h
    · rename_i h1; rw [if_pos h1]; exact ⟨rfl, rfl⟩
    · rename_i h1
      rw [if_neg h1]
      split at h
      · rename_i h2; rw [if_pos h2]; exact ih _ _ h
      · rename_i h2
        rw [if_neg h2]
        split at h
        · rename_i h3; rw [if_pos h3]; exact ⟨rfl, rfl⟩
        · exact absurd rfl h
/-- what is read is less than what was there -/
theorem getGo_split (l : List UInt8) : ∀ i acc n r, getGo i acc l = (n, r, 0) → ∃ c, c ≠ [] ∧ l = c ++ r := by
  induction l with
  | nil => intro i acc n r h; cases h
  | cons b l ih =>
    intro i acc n r h
    rw [getGo] at h
    split at h
    · cases h
    · split at h
      · obtain ⟨c, _, e⟩ := ih _ _ _ _ h; exact ⟨b :: c, by simp, by rw [e]; rfl⟩
      · split at h
        · cases h
        · cases h; exact ⟨[b], by simp, rfl⟩
/-- ten bytes are enough -/
theorem getGo_take (l : List UInt8) : ∀ i acc, i ≤ 9 → ∀ n r e, getGo i acc l = (n, r, e) →
    ∃ r', getGo i acc (l.take (10 - i)) = (n, r', e) ∧ r'.length ≤ (l.take (10 - i)).length ∧ (e = 0 → r = l.drop ((l.take (10 - i)).length - r'.length)) := by
  induction l with
  | nil => intro i acc hi n r e h; cases h; exact ⟨[], by simp [getGo], by simp, fun h => by cases h⟩
  | cons b l ih =>
    intro i acc hi n r e h
    have ht : (b :: l).take (10 - i) = b :: l.take (9 - i) := by
      obtain ⟨k, hk⟩ : ∃ k, 10 - i = k + 1 := ⟨9 - i, by omega⟩
      rw [hk, List.take_succ_cons, show 9 - i = k by omega]
    rw [ht]
    rw [getGo] at h ⊢
    split at h
    · rename_i h1; rw [if_pos h1]; cases h; exact ⟨[], rfl, by simp, fun h => by cases h⟩
    · rename_i h1
      rw [if_neg h1]
      split at h
      · rename_i h2
        rw [if_pos h2]
        have h9 : i ≠ 9 := fun h => h1 ⟨h, by omega⟩
        obtain ⟨r', e1, e2, e3⟩ := ih (i + 1) _ (by omega) n r e h
        rw [show 10 - (i + 1) = 9 - i by omega] at e1 e2 e3
        refine ⟨r', e1, by simp only [List.length_cons]; omega, fun h0 => ?_⟩
        rw [e3 h0]
        have : (b :: l.take (9 - i)).length - r'.length = ((l.take (9 - i)).length - r'.length) + 1 := by simp only [List.length_cons]; omega
        rw [this, List.drop_succ_cons]
      · rename_i h2
        rw [if_neg h2]
        split at h
        · rename_i h3; rw [if_pos h3]; cases h; exact ⟨[], rfl, by simp, fun h => by cases h⟩
        · rename_i h3
          rw [if_neg h3]; cases h
          refine ⟨l.take (9 - i), rfl, by simp, fun _ => ?_⟩
          have : (b :: l.take (9 - i)).length - (l.take (9 - i)).length = 1 := by simp only [List.length_cons]; omega
          rw [this]; rfl

theorem nextL_bad (l : List UInt8) (h : (nextL l).2.2 ≠ 0) : nextL l = ([], [], (nextL l).2.2) := by
  rw [nextL] at h ⊢
  split
  · rename_i h1
    rw [if_pos h1, bodyL] at h
    rw [bodyL]
    split
    · rename_i h2
      rw [if_pos h2] at h
      split
      · rename_i h3
        rw [if_pos h3] at h
        split
        · rename_i h4; rw [if_pos h4] at h; exact absurd rfl h
        · rfl
      · rfl
    · rfl
  · rfl
/-- what is read is taken apart -/
theorem nextL_inv {l p r : List UInt8} (h : nextL l = (p, r, 0)) : ∃ c, c ≠ [] ∧ l = c ++ (sumL p ++ (p ++ r)) ∧ getGo 0 0 l = (p.length, sumL p ++ (p ++ r), 0) ∧ p.length ≤ 4096 := by
  obtain ⟨⟨n, q, e⟩, hg⟩ : ∃ g, getGo 0 0 l = g := ⟨_, rfl⟩
  by_cases he : e = 0
  · subst he
    by_cases hn : n ≤ 4096
    · by_cases hr : n + 4 ≤ q.length
      · by_cases hs : q.take 4 = sumL ((q.drop 4).take n)
        · rw [nextL_ok hg hn hr hs] at h
          injection h with h1 h2; injection h2 with h2 _
          obtain ⟨c, hc, e⟩ := getGo_split l _ _ _ _ hg
          have hpl : p.length = n := by rw [← h1, List.length_take, List.length_drop]; omega
          have hq : q = sumL p ++ (p ++ r) := by
            rw [← h1, ← hs, ← h2]
            conv => lhs; rw [← List.take_append_drop 4 q]
            congr 1
            conv => lhs; rw [← List.take_append_drop n (q.drop 4)]
            rw [List.drop_drop, Nat.add_comm]
          refine ⟨c, hc, by rw [e, hq], ?_, by omega⟩
          rw [hg, hpl, hq]
        · rw [nextL_sum hg hn hr hs] at h; cases h
      · rw [nextL_short hg hn hr] at h; cases h
    · rw [nextL_many hg hn] at h; cases h
  · rw [nextL_err hg he] at h; cases h; exact absurd rfl he
theorem nextL_lt {l p r : List UInt8} (h : nextL l = (p, r, 0)) : r.length + p.length + 5 ≤ l.length ∧ r.length < l.length := by
  obtain ⟨c, hc, e, _, _⟩ := nextL_inv h
  have : 0 < c.length := List.length_pos_iff.2 hc
  have hs := sumL_len p
  rw [e]
  simp only [List.length_append]
  omega
theorem nextL_le (l : List UInt8) : (nextL l).1.length ≤ l.length ∧ (nextL l).2.1.length ≤ l.length := by
  obtain ⟨⟨p, r, y⟩, h⟩ : ∃ g, nextL l = g := ⟨_, rfl⟩
  by_cases hy : y = 0
  · subst hy
    have := nextL_lt h
    rw [h]; simp only; omega
  · have := nextL_bad l (by rw [h]; exact hy)
    rw [this]; simp
/-- a frame is read as what it was, whatever is behind -/
theorem nextL_frame (p more : List UInt8) (hp : p.length ≤ 4096) : nextL (frameL p ++ more) = (p, more, 0) := by
  have hg : getGo 0 0 (frameL p ++ more) = (p.length, sumL p ++ (p ++ more), 0) := by
    have := getGo_put (sumL p ++ (p ++ more)) p.length 0 0 (by omega) (.inl rfl) (by omega)
    rw [frameL, List.append_assoc, List.append_assoc, this]
    simp
  have hd : (sumL p ++ (p ++ more)).drop 4 = p ++ more := by
    have h4 := sumL_len p
    rw [← h4, List.drop_left]
  have ht : (sumL p ++ (p ++ more)).take 4 = sumL p := by
    have h4 := sumL_len p
    rw [← h4, List.take_left]
  rw [nextL_ok hg hp (by have := sumL_len p; simp only [List.length_append]; omega) (by rw [hd, ht, List.take_left]), hd, List.take_left]
  rw [show p.length + 4 = 4 + p.length by omega, ← List.drop_drop, hd, List.drop_left]

/-- all of them: the payloads, what is left -/
def allF : Nat → List UInt8 → List (List UInt8) × List UInt8
  | 0, l => ([], l)
  | f + 1, l => if (nextL l).2.2 = 0 then ((nextL l).1 :: (allF f (nextL l).2.1).1, (allF f (nextL l).2.1).2) else ([], l)
theorem allF_fuel (f : Nat) : ∀ g l, l.length ≤ f → l.length ≤ g → allF f l = allF g l := by
  induction f with
  | zero =>
    intro g l h1 h2
    obtain rfl : l = [] := List.length_eq_zero_iff.1 (by omega)
    cases g with
    | zero => rfl
    | succ g => rw [allF, allF, if_neg (by decide)]
  | succ f ih =>
    intro g l h1 h2
    cases g with
    | zero =>
      obtain rfl : l = [] := List.length_eq_zero_iff.1 (by omega)
      rw [allF, allF, if_neg (by decide)]
    | succ g =>
      rw [allF, allF]
      by_cases h : (nextL l).2.2 = 0
      · have hl := (nextL_lt (l := l) (p := (nextL l).1) (r := (nextL l).2.1) (by rw [← h])).2
        rw [if_pos h, if_pos h, ih g _ (by omega) (by omega)]
      · rw [if_neg h, if_neg h]
def allL (l : List UInt8) : List (List UInt8) × List UInt8 := allF l.length l
theorem allL_ok {l p r : List UInt8} (h : nextL l = (p, r, 0)) : allL l = (p :: (allL r).1, (allL r).2) := by
  have hl := (nextL_lt h).2
  rw [allL, allF_fuel l.length (l.length + 1) l (by omega) (by omega), allF, h, if_pos rfl, allL, allF_fuel l.length r.length r (by omega) (by omega)]
theorem allL_bad {l p r : List UInt8} {y : Int} (h : nextL l = (p, r, y)) (hy : y ≠ 0) : allL l = ([], l) := by
  rw [allL, allF_fuel l.length (l.length + 1) l (by omega) (by omega), allF, h, if_neg hy]
theorem allL_le (n : Nat) : ∀ l : List UInt8, l.length ≤ n → (allL l).2.length ≤ l.length ∧ (allL l).1.length ≤ l.length := by
  induction n with
  | zero =>
    intro l h
    obtain rfl : l = [] := List.length_eq_zero_iff.1 (by omega)
    exact ⟨by decide, by decide⟩
  | succ n ih =>
    intro l h
    obtain ⟨⟨p, r, y⟩, hn⟩ : ∃ g, nextL l = g := ⟨_, rfl⟩
    by_cases hy : y = 0
    · subst hy
      have hl := (nextL_lt hn).2
      have := ih r (by omega)
      rw [allL_ok hn]
      simp only [List.length_cons]
      omega
    · rw [allL_bad hn hy]; simp

/-- so many of them -/
def takeL : Nat → List UInt8 → List (List UInt8) × List UInt8 × Int
  | 0, l => ([], l, 0)
  | k + 1, l => if (nextL l).2.2 = 0 then (if (takeL k (nextL l).2.1).2.2 = 0 then ((nextL l).1 :: (takeL k (nextL l).2.1).1, (takeL k (nextL l).2.1).2.1, 0) else ([], [], (takeL k (nextL l).2.1).2.2)) else ([], [], (nextL l).2.2)

/-- what the frames tell, one behind the other, the last one being refused -/
def eachF : Nat → List UInt8 → List (List UInt8 × List UInt8 × Int)
  | 0, l => [nextL l]
  | f + 1, l => nextL l :: (if (nextL l).2.2 = 0 then eachF f (nextL l).2.1 else [])
end Go.Proofs.Ytmkbijnndbgjgaa.Frame
namespace Go.Proofs.Ytmkbijnndbgjgaa.Frame
open Go.RowKit

theorem ret_strs {a b : ByteArray} {y : Int} (h : a = b) : Ending.returned (.tuple #[.string a, .int .i64 y]) = .returned (.tuple #[.string b, .int .i64 y]) := by rw [h]
theorem below2 {a b c : World} (h1 : Below a.heap.size a b) (h2 : Below b.heap.size b c) : Below a.heap.size a c := h1.trans (h2.mono h1.size)
theorem str_list (s : ByteArray) : ∃ l : List UInt8, s = ⟨l.toArray⟩ ∧ l.length = s.size := ⟨s.data.toList, by cases s; simp, by simp⟩
theorem size_list (l : List UInt8) : (⟨l.toArray⟩ : ByteArray).size = l.length := by show l.toArray.size = _; simp
theorem str_app (a b : List UInt8) : (⟨a.toArray⟩ ++ ⟨b.toArray⟩ : ByteArray) = ⟨(a ++ b).toArray⟩ := Crc.str_app a b
theorem extract_drop (s : ByteArray) (k : Nat) : s.extract k s.size = ⟨(s.data.toList.drop k).toArray⟩ := Crc.extract_drop s k
theorem extract_take (s : ByteArray) (k : Nat) : s.extract 0 k = ⟨(s.data.toList.take k).toArray⟩ := Crc.extract_take s k
theorem sum_lt (l : List UInt8) : Crc.onL 0 l < 4294967296 := Crc.onL_lt 0 l (by decide)
theorem putL_le (n : Nat) (h : n ≤ 4096) : (putL n).length ≤ 2 := by
  by_cases h1 : n < 128
  · rw [putL_small n h1]; simp
  · rw [putL_big n h1, putL_small _ (by omega)]; simp
theorem putL_pos (n : Nat) : 1 ≤ (putL n).length := List.length_pos_iff.2 (putL_ne n)

theorem ofL (l : List UInt8) (w : World) (hl : l.length ≤ 9223372036854775807) :
    Calls Try.prog 59 #[.string ⟨l.toArray⟩] w fun e w' => e = .returned (.int .u32 (Crc.onL 0 l : Int)) ∧ w' = w := by
  have := Crc.of_any ⟨l.toArray⟩ w (by rw [size_list]; exact hl)
  simpa using this
theorem cloneL (l : List UInt8) (hl : l.length ≤ 281474976710656) (w : World) :
    Calls Try.prog 79 #[.string ⟨l.toArray⟩] w fun e w' => e = .returned (.string ⟨l.toArray⟩) ∧ Below w.heap.size w w' := clone_any _ w (by rw [size_list]; exact hl)
theorem getL {l : List UInt8} {n : Nat} {r : List UInt8} {y : Int} (h : getGo 0 0 l = (n, r, y)) (hl : l.length ≤ 281474976710656) (w : World) :
    Calls Try.prog 58 #[.string ⟨l.toArray⟩] w fun e w' => e = .returned (.tuple #[.int .u64 n, .string ⟨r.toArray⟩, .int .i64 y]) ∧ Below w.heap.size w w' := by
  have := get_any ⟨l.toArray⟩ w (by rw [size_list]; exact hl)
  rw [show getS ⟨l.toArray⟩ = getGo 0 0 l by simp [getS], h] at this
  exact this
end Go.Proofs.Ytmkbijnndbgjgaa.Frame
namespace Go.Proofs.Ytmkbijnndbgjgaa.Frame
open Go.RowKit

theorem bgn1 (w : World) : Calls Try.prog 59 #[.string ⟨#[49, 50, 51, 52, 53, 54, 55, 56, 57]⟩] w fun e w' => e = .returned (.int .u32 3808858755) ∧ w' = w := by
  have := ofL [49, 50, 51, 52, 53, 54, 55, 56, 57] w (by decide)
  rw [show Crc.onL 0 [49, 50, 51, 52, 53, 54, 55, 56, 57] = 3808858755 by decide +kernel] at this
  exact this
theorem bgn2 (w : World) : Calls Try.prog 58 #[.string ⟨#[172, 2, 122]⟩] w fun e w' => e = .returned (.tuple #[.int .u64 300, .string ⟨#[122]⟩, .int .i64 0]) ∧ Below w.heap.size w w' :=
  getL (l := [172, 2, 122]) (n := 300) (r := [122]) (y := 0) (by decide +kernel) (by decide) w
theorem bgn3 (w : World) : Calls Try.prog 60 #[.int .u64 300] w fun e w' => e = .returned (.string ⟨#[172, 2]⟩) ∧ Below w.heap.size w w' := by
  have := put_any 300 w (by decide) (by decide)
  rw [show putL (300 : Int).toNat = [172, 2] by decide +kernel] at this
  exact this
theorem begins_any (w : World) :
    Calls Try.prog 27 #[] w fun e w' => e = .returned (.bool true) ∧ Below w.heap.size w w' := by
  go_enter Try.func27, Try.ntmps27
  go_wp2_with fail
  go_at_call 58; refine (bgn2 _).mono ?_; rintro e w1 ⟨rfl, hb1⟩
  go_wp2_with fail
  go_at_call 59; refine (bgn1 _).mono ?_; rintro e w2 ⟨rfl, rfl⟩
  go_wp2_with fail
  go_at_call 60; refine (bgn3 _).mono ?_; rintro e w3 ⟨rfl, hb3⟩
  go_wp2_with fail
  go_ret
  exact ⟨rfl, below2 hb1 hb3⟩
end Go.Proofs.Ytmkbijnndbgjgaa.Frame
