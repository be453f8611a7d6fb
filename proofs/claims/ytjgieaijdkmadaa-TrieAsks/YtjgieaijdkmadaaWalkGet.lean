/- What num.first, strings.Clone, num.Get and the document's Get return, for every text. -/
import Derived.Test.YtjgieaijdkmadaaWalkPut
import Derived.Lib.EndianBits
import Derived.BigQuiet
import Derived.Deep.QuietTactic
set_option linter.unusedVariables false
namespace Go.Proofs.Ytjgieaijdkmadaa
open Go.RowKit

/-- the number that bytes begin with: it, what is behind, the error -/
def getGo (i acc : Nat) : List UInt8 → Nat × List UInt8 × Int
  | [] => (0, [], 5)
  | b :: l => if i = 9 ∧ 1 < b.toNat then (0, [], 7)
    else if 128 ≤ b.toNat then getGo (i + 1) (acc + b.toNat % 128 * 128 ^ i) l
    else if b.toNat = 0 ∧ 0 < i then (0, [], 7)
    else (acc + b.toNat * 128 ^ i, l, 0)
def getS (s : ByteArray) : Nat × List UInt8 × Int := getGo 0 0 s.data.toList

theorem or_high (acc : Nat) (b : UInt8) (i : Nat) (hi : i ≤ 9) (ha : acc < 128 ^ i) (h9 : i = 9 → b.toNat ≤ 1) :
    bits BinOp.or IntKind.u64 (acc : Int) (IntKind.u64.wrap (IntKind.u64.wrap (bits BinOp.andNot IntKind.u8 (b.toNat : Int) 128) * 2 ^ (7 * i))) = ((acc + b.toNat % 128 * 128 ^ i : Nat) : Int) := by
  have hb := b.toNat_lt
  rw [andNot128 _ (by omega) (by omega), wraps_u64 (_ % 128) (by omega) (by omega)]
  have p : (2 : Int) ^ (7 * i) = ((128 ^ i : Nat) : Int) := by
    rw [show 128 = 2 ^ 7 by rfl, ← Nat.pow_mul]; simp
  have hm : b.toNat % 128 * 128 ^ i < 2 ^ 64 := by
    by_cases h : i = 9
    · subst h
      have := h9 rfl
      have : b.toNat % 128 ≤ 1 := by omega
      omega
    · have : 128 ^ i ≤ 128 ^ 8 := Nat.pow_le_pow_right (by decide) (by omega)
      have h2 : b.toNat % 128 ≤ 127 := by omega
      have := Nat.mul_le_mul h2 this
      omega
  have hi2 : 128 ^ i ≤ 128 ^ 9 := Nat.pow_le_pow_right (by decide) hi
  have hc : ((b.toNat : Int) % 128) * 2 ^ (7 * i) = ((b.toNat % 128 * 128 ^ i : Nat) : Int) := by rw [p]; simp
  rw [hc, wraps_u64 _ (by omega) (by exact_mod_cast hm)]
  rw [bits_join_low .u64 64 (by decide) wraps_u64 (7 * i) _ _ (by omega) (by rw [p]; exact_mod_cast ha) (by omega) (by omega) (by rw [p]; simp [Int.mul_emod_left]) (by exact_mod_cast hm)]
  simp

theorem drop_cons (s : ByteArray) (k : Nat) (h : k < s.size) : s.data.toList.drop k = s[k] :: s.data.toList.drop (k + 1) := by
  rw [List.drop_eq_getElem_cons (by simpa using h)]; rfl
theorem getGo_err9 (acc : Nat) (b : UInt8) (l : List UInt8) {i : Nat} (hi : i = 9) (hb : 1 < b.toNat) : getGo i acc (b :: l) = (0, [], 7) := by
  rw [getGo, if_pos ⟨hi, hb⟩]
theorem getGo_zero (acc : Nat) (b : UInt8) (l : List UInt8) {i : Nat} (hi : 0 < i) (hb : b.toNat = 0) : getGo i acc (b :: l) = (0, [], 7) := by
  rw [getGo, if_neg (by omega), if_neg (by omega), if_pos ⟨hb, hi⟩]
theorem getGo_last (acc : Nat) (b : UInt8) (l : List UInt8) {i : Nat} (h9 : i = 9 → b.toNat ≤ 1) (hb : b.toNat < 128) (h0 : ¬ (b.toNat = 0 ∧ 0 < i)) : getGo i acc (b :: l) = (acc + b.toNat * 128 ^ i, l, 0) := by
  rw [getGo, if_neg (by omega), if_neg (by omega), if_neg h0]
theorem getGo_more (acc : Nat) (b : UInt8) (l : List UInt8) {i : Nat} (h9 : i ≠ 9) (hb : 128 ≤ b.toNat) : getGo i acc (b :: l) = getGo (i + 1) (acc + b.toNat % 128 * 128 ^ i) l := by
  rw [getGo, if_neg (by omega), if_pos hb]
theorem ret_get (r : Nat × List UInt8 × Int) {n : Int} {a : ByteArray} {e : Int} (hn : 0 ≤ n) (h : r = (n.toNat, a.data.toList, e)) :
    Ending.returned (.tuple #[.int .u64 n, .string a, .int .i64 e]) = .returned (.tuple #[.int .u64 r.1, .string ⟨r.2.1.toArray⟩, .int .i64 r.2.2]) := by
  subst h
  simp [Int.toNat_of_nonneg hn]
theorem ret_get' (r : Nat × List UInt8 × Int) {n : Int} {a : ByteArray} {e : Int} {N : Nat} {l : List UInt8} (h : r = (N, l, e)) (hn : n = (N : Int)) (ha : a = ⟨l.toArray⟩) :
    Ending.returned (.tuple #[.int .u64 n, .string a, .int .i64 e]) = .returned (.tuple #[.int .u64 r.1, .string ⟨r.2.1.toArray⟩, .int .i64 r.2.2]) := by
  subst h; subst hn; subst ha; rfl
theorem extract_drop (s : ByteArray) (k : Nat) : s.extract k s.size = ⟨(s.data.toList.drop k).toArray⟩ := by
  apply ByteArray.ext
  rw [ByteArray.data_extract]
  apply Array.ext'
  simp [List.take_of_length_le]
theorem acc_next (acc : Nat) (b : UInt8) (i : Nat) (ha : acc < 128 ^ i) : acc + b.toNat % 128 * 128 ^ i < 128 ^ (i + 1) := by
  have h2 : b.toNat % 128 ≤ 127 := by omega
  have := Nat.mul_le_mul h2 (Nat.le_refl (128 ^ i))
  rw [Nat.pow_succ]
  omega
theorem getGo_len (l : List UInt8) : ∀ i acc, (getGo i acc l).2.1.length ≤ l.length := by
  induction l with
  | nil => intro i acc; simp [getGo]
  | cons b l ih =>
    intro i acc
    rw [getGo]
    split
    · simp
    · split
      · have := ih (i + 1) (acc + b.toNat % 128 * 128 ^ i); simp; omega
      · split
        · simp
        · simp
theorem getS_len (s : ByteArray) : (getS s).2.1.length ≤ s.size := by
  have := getGo_len s.data.toList 0 0
  simpa [getS] using this

theorem add_high (acc : Nat) (b : UInt8) (i P : Nat) (hP : P = 128 ^ i) (hi : i ≤ 9) (ha : acc < 128 ^ i) (h9 : i = 9 → b.toNat ≤ 1) :
    IntKind.u64.wrap (↑acc + IntKind.u64.wrap (↑b.toNat % 128 * ↑P)) = ((acc + b.toNat % 128 * 128 ^ i : Nat) : Int) := by
  subst hP
  have hm : b.toNat % 128 * 128 ^ i ≤ 127 * 128 ^ 8 ∨ b.toNat % 128 * 128 ^ i ≤ 128 ^ 9 := by
    by_cases h : i = 9
    · subst h
      have := h9 rfl
      right
      have : b.toNat % 128 ≤ 1 := by omega
      omega
    · left
      have h1 : 128 ^ i ≤ 128 ^ 8 := Nat.pow_le_pow_right (by decide) (by omega)
      have h2 : b.toNat % 128 ≤ 127 := by omega
      exact Nat.mul_le_mul h2 h1
  have hi2 : 128 ^ i ≤ 128 ^ 9 := Nat.pow_le_pow_right (by decide) hi
  have hc : ((b.toNat : Int) % 128) * ((128 ^ i : Nat) : Int) = ((b.toNat % 128 * 128 ^ i : Nat) : Int) := by simp
  rw [hc, IntKind.wrap_u64, IntKind.wrap_u64]
  omega
theorem pow_next (i : Nat) (hi : i ≤ 8) : IntKind.u64.wrap (((128 ^ i : Nat) : Int) * 128) = ((128 ^ (i + 1) : Nat) : Int) := by
  have hi2 : 128 ^ i ≤ 128 ^ 8 := Nat.pow_le_pow_right (by decide) hi
  rw [IntKind.wrap_u64, Nat.pow_succ]
  omega
end Go.Proofs.Ytjgieaijdkmadaa
