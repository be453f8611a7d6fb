/- What num.first, strings.Clone, num.Get and the document's Get return, for every text. -/
import Derived.Test.YteoihmoclndihabWalkPut
import Derived.Lib.EndianBits
import Derived.BigQuiet
import Derived.Deep.QuietTactic
set_option linter.unusedVariables false
namespace Go.Proofs.Yteoihmoclndihab
open Go.RowKit

/-- the number that bytes begin with: it, what is behind, the error -/
def getGo (i acc : Nat) : List UInt8 → Nat × List UInt8 × Int
  | [] => (0, [], 5)
  | b :: l => if i = 9 ∧ 1 < b.toNat then (0, [], 7)
    else if 128 ≤ b.toNat then getGo (i + 1) (acc + b.toNat % 128 * 128 ^ i) l
    else if b.toNat = 0 ∧ 0 < i then (0, [], 7)
    else (acc + b.toNat * 128 ^ i, l, 0)
def getS (s : ByteArray) : Nat × List UInt8 × Int := getGo 0 0 s.data.toList

theorem or_high (acc : Nat) (b : UInt8) (i : Nat) (hi : i ≤ 9) (ha : acc < 128 ^ i) (h9 : i = 9 → b.toNat ≤ 1) :
    bits BinOp.or IntKind.u64 (acc : Int) (IntKind.u64.wrap (IntKind.u64.wrap (bits BinOp.andNot IntKind.u8 (b.toNat : Int) 128) * 2 ^ (7 * i))) = ((acc + b.toNat % 128 * 128 ^ i : Nat) : Int) := by
  have hb := b.toNat_lt
  rw [andNot128 _ (by omega) (by omega), wraps_u64 (_ % 128) (by omega) (by omega)]
  have p : (2 : Int) ^ (7 * i) = ((128 ^ i : Nat) : Int) := by
    rw [show 128 = 2 ^ 7 by rfl, ← Nat.pow_mul]; simp
  have hm : b.toNat % 128 * 128 ^ i < 2 ^ 64 := by
    by_cases h : i = 9
    · subst h
      have := h9 rfl
      have : b.toNat % 128 ≤ 1 := by omega
      omega
    · have : 128 ^ i ≤ 128 ^ 8 := Nat.pow_le_pow_right (by decide) (by omega)
      have h2 : b.toNat % 128 ≤ 127 := by omega
      have := Nat.mul_le_mul h2 this
      omega
  have hi2 : 128 ^ i ≤ 128 ^ 9 := Nat.pow_le_pow_right (by decide) hi
  have hc : ((b.toNat : Int) % 128) * 2 ^ (7 * i) = ((b.toNat % 128 * 128 ^ i : Nat) : Int) := by rw [p]; simp
  rw [hc, wraps_u64 _ (by omega) (by exact_mod_cast hm)]
  rw [bits_join_low .u64 64 (by decide) wraps_u64 (7 * i) _ _ (by omega) (by rw [p]; exact_mod_cast ha) (by omega) (by omega) (by rw [p]; simp [Int.mul_emod_left]) (by exact_mod_cast hm)]
  simp

theorem drop_cons (s : ByteArray) (k : Nat) (h : k < s.size) : s.data.toList.drop k = s[k] :: s.data.toList.drop (k + 1) := by
  rw [List.drop_eq_getElem_cons (by simpa using h)]; rfl
theorem getGo_err9 (acc : Nat) (b : UInt8) (l : List UInt8) {i : Nat} (hi : i = 9) (hb : 1 < b.toNat) : getGo i acc (b :: l) = (0, [], 7) := by
  rw [getGo, if_pos ⟨hi, hb⟩]
theorem getGo_zero (acc : Nat) (b : UInt8) (l : List UInt8) {i : Nat} (hi : 0 < i) (hb : b.toNat = 0) : getGo i acc (b :: l) = (0, [], 7) := by
  rw [getGo, if_neg (by omega), if_neg (by omega), if_pos ⟨hb, hi⟩]
theorem getGo_last (acc : Nat) (b : UInt8) (l : List UInt8) {i : Nat} (h9 : i = 9 → b.toNat ≤ 1) (hb : b.toNat < 128) (h0 : ¬ (b.toNat = 0 ∧ 0 < i)) : getGo i acc (b :: l) = (acc + b.toNat * 128 ^ i, l, 0) := by
  rw [getGo, if_neg (by omega), if_neg (by omega), if_neg h0]
theorem getGo_more (acc : Nat) (b : UInt8) (l : List UInt8) {i : Nat} (h9 : i ≠ 9) (hb : 128 ≤ b.toNat) : getGo i acc (b :: l) = getGo (i + 1) (acc + b.toNat % 128 * 128 ^ i) l := by
  rw [getGo, if_neg (by omega), if_pos hb]
theorem ret_get (r : Nat × List UInt8 × Int) {n : Int} {a : ByteArray} {e : Int} (hn : 0 ≤ n) (h : r = (n.toNat, a.data.toList, e)) :
    Ending.returned (.tuple #[.int .u64 n, .string a, .int .i64 e]) = .returned (.tuple #[.int .u64 r.1, .string ⟨r.2.1.toArray⟩, .int .i64 r.2.2]) := by
  subst h
  simp [Int.toNat_of_nonneg hn]
theorem ret_get' (r : Nat × List UInt8 × Int) {n : Int} {a : ByteArray} {e : Int} {N : Nat} {l : List UInt8} (h : r = (N, l, e)) (hn : n = (N : Int)) (ha : a = ⟨l.toArray⟩) :
    Ending.returned (.tuple #[.int .u64 n, .string a, .int .i64 e]) = .returned (.tuple #[.int .u64 r.1, .string ⟨r.2.1.toArray⟩, .int .i64 r.2.2]) := by
  subst h; subst hn; subst ha; rfl
theorem extract_drop (s : ByteArray) (k : Nat) : s.extract k s.size = ⟨(s.data.toList.drop k).toArray⟩ := by
  apply ByteArray.ext
  rw [ByteArray.data_extract]
  apply Array.ext'
  simp [List.take_of_length_le]
theorem acc_next (acc : Nat) (b : UInt8) (i : Nat) (ha : acc < 128 ^ i) : acc + b.toNat % 128 * 128 ^ i < 128 ^ (i + 1) := by
  have h2 : b.toNat % 128 ≤ 127 := by omega
  have := Nat.mul_le_mul h2 (Nat.le_refl (128 ^ i))
  rw [Nat.pow_succ]
  omega
set_option maxHeartbeats 1000000 in
set_option maxRecDepth 20000 in
theorem first_any (s : ByteArray) (w : World) (hs : s.size ≤ maxLen) :
    Calls Try.prog 32 #[.string s] w fun e w' => e = .returned (.tuple #[.int .u64 (getS s).1, .string ⟨(getS s).2.1.toArray⟩, .int .i64 (getS s).2.2]) ∧ Below w.heap.size w w' := by
  unfold maxLen at hs
  go_enter Try.func32, Try.ntmps32
  go_wp2
  go_loop [5, 11] (fun n i => ∃ j acc : Nat, j ≤ s.size ∧ j ≤ 9 ∧ Hid (acc < 128 ^ j) ∧ i = .int .i64 j ∧ n = .int .u64 acc ∧ Hid (getS s = getGo j acc (s.data.toList.drop j))) (fun _ i => s.size - (intOf i).toNat)
  case atStart => exact ⟨0, 0, by omega, by omega, (by simp : 0 < 128 ^ 0), rfl, rfl, (rfl : getS s = _)⟩
  case round =>
    obtain ⟨j, acc, hj, hj9, HA, rfl, rfl, HG⟩ := hrel
    by_cases hlt : j < s.size
    · have hd := drop_cons s j hlt
      have HD : Hid (s.data.toList.drop j = s[j] :: s.data.toList.drop (j + 1)) := hd
      clear hd
      go_wp2
      · go_ret3
        exact ⟨ret_get (getS s) (by omega) (by rw [HG.out, HD.out, getGo_err9 _ _ _ (by omega) (by omega)]; rfl), Below.refl _ _⟩
      · go_ret3
        exact ⟨ret_get (getS s) (by omega) (by rw [HG.out, HD.out, getGo_zero _ _ _ (by omega) (by omega)]; rfl), Below.refl _ _⟩
      · obtain rfl : j = 9 := by omega
        go_quiet (fail)
        go_wp2
        go_ret3
        refine ⟨ret_get' (getS s) (by rw [HG.out, HD.out, getGo_last _ _ _ (by omega) (by omega) (by omega)]) ?_ (extract_drop s 10), below_drewN (Below.refl _ _) _⟩
        exact (or_high acc s[9] 9 (by omega) HA.out (by omega)).trans (by rw [Nat.mod_eq_of_lt (by omega)])
      · go_round
        case rel =>
          exact ⟨j + 1, acc + s[j].toNat % 128 * 128 ^ j, by omega, by omega, acc_next acc s[j] j HA.out, by go_num, by rw [or_high acc s[j] j (by omega) HA.out (by omega)], (by rw [HG.out, HD.out, getGo_more _ _ _ (by omega) (by omega)] : getS s = _)⟩
        case measure => simp [intOf]; omega
      · go_ret3
        exact ⟨ret_get (getS s) (by omega) (by rw [HG.out, HD.out, getGo_zero _ _ _ (by omega) (by omega)]; rfl), Below.refl _ _⟩
      · go_quiet (fail)
        go_wp2
        go_ret3
        refine ⟨ret_get' (getS s) (by rw [HG.out, HD.out, getGo_last _ _ _ (by omega) (by omega) (by omega)]) ?_ (extract_drop s _), below_drewN (Below.refl _ _) _⟩
        have hz : s[j].toNat = 0 := by assumption
        have ho := or_high acc s[j] j (by omega) HA.out (by omega)
        rw [hz] at ho
        rw [hz]
        exact ho
      · go_quiet (fail)
        go_wp2
        go_ret3
        refine ⟨ret_get' (getS s) (by rw [HG.out, HD.out, getGo_last _ _ _ (by omega) (by omega) (by omega)]) ?_ (extract_drop s _), below_drewN (Below.refl _ _) _⟩
        exact (or_high acc s[j] j (by omega) HA.out (by omega)).trans (by rw [Nat.mod_eq_of_lt (by omega)])
    · obtain rfl : j = s.size := by omega
      go_wp2
      go_ret3
      exact ⟨ret_get (getS s) (by omega) (by rw [HG.out, List.drop_of_length_le (by simp), getGo]; rfl), Below.refl _ _⟩

theorem clone_any (s : ByteArray) (w : World) (hs : s.size ≤ 281474976710656) :
    Calls Try.prog 33 #[.string s] w fun e w' => e = .returned (.string s) ∧ Below w.heap.size w w' := by
  go_enter Try.func33, Try.ntmps33
  go_wp2_with (go_at_call 53; refine (Try.stringslite_Clone s _ hs).mono ?_; rintro e w1 ⟨rfl, hb⟩)
  go_ret
  exact ⟨rfl, hb⟩

theorem getGo_len (l : List UInt8) : ∀ i acc, (getGo i acc l).2.1.length ≤ l.length := by
  induction l with
  | nil => intro i acc; simp [getGo]
  | cons b l ih =>
    intro i acc
    rw [getGo]
    split
    · simp
    · split
      · have := ih (i + 1) (acc + b.toNat % 128 * 128 ^ i); simp; omega
      · split
        · simp
        · simp
theorem getS_len (s : ByteArray) : (getS s).2.1.length ≤ s.size := by
  have := getGo_len s.data.toList 0 0
  simpa [getS] using this

theorem get_any (s : ByteArray) (w : World) (hs : s.size ≤ 281474976710656) :
    Calls Try.prog 11 #[.string s] w fun e w' => e = .returned (.tuple #[.int .u64 (getS s).1, .string ⟨(getS s).2.1.toArray⟩, .int .i64 (getS s).2.2]) ∧ Below w.heap.size w w' := by
  have hl := getS_len s
  have hf := fun w => first_any s w (by unfold maxLen; omega)
  obtain ⟨r, hr⟩ : ∃ r, r = getS s := ⟨_, rfl⟩
  rw [← hr] at hl
  simp only [← hr] at hf ⊢
  clear hr
  obtain ⟨n, l, e⟩ := r
  have hc := fun w => clone_any ⟨l.toArray⟩ w (by show l.toArray.size ≤ _; simp at hl ⊢; omega)
  go_enter Try.func11, Try.ntmps11
  go_wp2_with (first
    | (go_at_call 32; refine (hf _).mono ?_; rintro e w1 ⟨rfl, hb1⟩)
    | (go_at_call 33; refine (hc _).mono ?_; rintro e w2 ⟨rfl, hb2⟩))
  go_ret3
  exact ⟨rfl, hb1.trans (hb2.mono hb1.size)⟩

theorem add_high (acc : Nat) (b : UInt8) (i P : Nat) (hP : P = 128 ^ i) (hi : i ≤ 9) (ha : acc < 128 ^ i) (h9 : i = 9 → b.toNat ≤ 1) :
    IntKind.u64.wrap (↑acc + IntKind.u64.wrap (↑b.toNat % 128 * ↑P)) = ((acc + b.toNat % 128 * 128 ^ i : Nat) : Int) := by
  subst hP
  have hm : b.toNat % 128 * 128 ^ i ≤ 127 * 128 ^ 8 ∨ b.toNat % 128 * 128 ^ i ≤ 128 ^ 9 := by
    by_cases h : i = 9
    · subst h
      have := h9 rfl
      right
      have : b.toNat % 128 ≤ 1 := by omega
      omega
    · left
      have h1 : 128 ^ i ≤ 128 ^ 8 := Nat.pow_le_pow_right (by decide) (by omega)
      have h2 : b.toNat % 128 ≤ 127 := by omega
      exact Nat.mul_le_mul h2 h1
  have hi2 : 128 ^ i ≤ 128 ^ 9 := Nat.pow_le_pow_right (by decide) hi
  have hc : ((b.toNat : Int) % 128) * ((128 ^ i : Nat) : Int) = ((b.toNat % 128 * 128 ^ i : Nat) : Int) := by simp
  rw [hc, IntKind.wrap_u64, IntKind.wrap_u64]
  omega
theorem pow_next (i : Nat) (hi : i ≤ 8) : IntKind.u64.wrap (((128 ^ i : Nat) : Int) * 128) = ((128 ^ (i + 1) : Nat) : Int) := by
  have hi2 : 128 ^ i ≤ 128 ^ 8 := Nat.pow_le_pow_right (by decide) hi
  rw [IntKind.wrap_u64, Nat.pow_succ]
  omega
end Go.Proofs.Yteoihmoclndihab
