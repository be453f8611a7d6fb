/- spoortop.begins returns true. -/
import Derived.WalkKit
import Derived.Laws.BitsLemmas
import Derived.Test.YteoihmoclndihabShelf
import Derived.WalkSmall
import Derived.Laws.IdiomStrings
import Derived.RegionTactic
import Derived.BigRegion
import Derived.ChangeAlike
import Derived.BigQuiet
import Derived.Deep.QuietTactic
import Derived.Handy
import Derived.Test.YteoihmoclndihabMathGet
import Derived.Deep.RegionWith
set_option linter.unusedVariables false
namespace Go.Proofs.Yteoihmoclndihab.Crc
open Go.RowKit

/-- one of a byte's eight steps -/
def hv (r : Nat) : Nat := (r / 2) ^^^ (2197175160 * (r % 2))
theorem xor_half (a b : Nat) : (a ^^^ b) / 2 = (a / 2) ^^^ (b / 2) := by
  have := @Nat.xor_div_two_pow a b 1
  simpa using this
theorem xor_odd (a b : Nat) : (a ^^^ b) % 2 = (a % 2) ^^^ (b % 2) := by
  have := @Nat.xor_mod_two_pow a b 1
  simpa using this
theorem mul_bit (a b : Nat) (ha : a = 0 ∨ a = 1) (hb : b = 0 ∨ b = 1) : 2197175160 * (a ^^^ b) = (2197175160 * a) ^^^ (2197175160 * b) := by
  rcases ha with rfl | rfl <;> rcases hb with rfl | rfl <;> decide
theorem xor4 (a b c d : Nat) : (a ^^^ b) ^^^ (c ^^^ d) = (a ^^^ c) ^^^ (b ^^^ d) := by
  rw [Nat.xor_assoc, Nat.xor_assoc, ← Nat.xor_assoc b c d, Nat.xor_comm b c, Nat.xor_assoc c b d]
theorem hv_xor (a b : Nat) : hv (a ^^^ b) = hv a ^^^ hv b := by
  unfold hv
  rw [xor_half, xor_odd, mul_bit _ _ (by omega) (by omega), xor4]
theorem hv_lt (r : Nat) (h : r < 4294967296) : hv r < 4294967296 := by
  unfold hv
  apply Nat.xor_lt_two_pow (n := 32)
  · omega
  · have : r % 2 = 0 ∨ r % 2 = 1 := by omega
    rcases this with h | h <;> rw [h] <;> decide
def hvN : Nat → Nat → Nat
  | 0, r => r
  | k + 1, r => hvN k (hv r)
theorem hvN_succ (k r : Nat) : hvN (k + 1) r = hv (hvN k r) := by
  induction k generalizing r with
  | zero => rfl
  | succ k ih => rw [hvN, ih]; rfl
theorem hvN_add (k m r : Nat) : hvN (k + m) r = hvN k (hvN m r) := by
  induction m generalizing r with
  | zero => rfl
  | succ m ih => rw [Nat.add_succ, hvN, ih]; rfl
theorem hvN_xor (k a b : Nat) : hvN k (a ^^^ b) = hvN k a ^^^ hvN k b := by
  induction k generalizing a b with
  | zero => rfl
  | succ k ih => rw [hvN, hv_xor, ih]; rfl
theorem hvN_lt (k r : Nat) (h : r < 4294967296) : hvN k r < 4294967296 := by
  induction k generalizing r with
  | zero => exact h
  | succ k ih => exact ih _ (hv_lt r h)
theorem hvN_zero (k : Nat) : hvN k 0 = 0 := by
  induction k with
  | zero => rfl
  | succ k ih => rw [hvN]; exact ih

/-- a text's bytes into the register -/
def regL (r : Nat) : List UInt8 → Nat
  | [] => r
  | b :: l => regL (hvN 8 (r ^^^ b.toNat)) l
theorem regL_app (a b : List UInt8) : ∀ r, regL r (a ++ b) = regL (regL r a) b := by
  induction a with
  | nil => intro r; rfl
  | cons x a ih => intro r; exact ih _
theorem regL_lt (l : List UInt8) : ∀ r, r < 4294967296 → regL r l < 4294967296 := by
  induction l with
  | nil => intro r h; exact h
  | cons x l ih =>
    intro r h
    refine ih _ (hvN_lt 8 _ ?_)
    have := x.toNat_lt
    exact Nat.xor_lt_two_pow (n := 32) h (by omega)
theorem regL_affine (l : List UInt8) : ∀ a b, regL (a ^^^ b) l = hvN (8 * l.length) a ^^^ regL b l := by
  induction l with
  | nil => intro a b; rfl
  | cons x l ih =>
    intro a b
    rw [regL, Nat.xor_assoc, hvN_xor, ih, ← hvN_add, List.length_cons, show 8 * l.length + 8 = 8 * (l.length + 1) by omega]
    rfl
theorem regL_zero (X : Nat) (l : List UInt8) : regL X l = hvN (8 * l.length) X ^^^ regL 0 l := by
  have := regL_affine l X 0
  rwa [Nat.xor_zero] at this
def notR (r : Nat) : Nat := r ^^^ 4294967295
theorem notR_lt (r : Nat) (h : r < 4294967296) : notR r < 4294967296 := Nat.xor_lt_two_pow (n := 32) h (by decide)
theorem notR_notR (r : Nat) : notR (notR r) = r := by unfold notR; rw [Nat.xor_assoc, Nat.xor_self, Nat.xor_zero]
def onL (sum : Nat) (l : List UInt8) : Nat := notR (regL (notR sum) l)
theorem onL_lt (sum : Nat) (l : List UInt8) (h : sum < 4294967296) : onL sum l < 4294967296 := notR_lt _ (regL_lt _ _ (notR_lt _ h))

/- ### the register's bits, as the program reckons them -/
theorem wraps32 (n : Int) (h₀ : 0 ≤ n) (h₁ : n < 2 ^ 32) : IntKind.u32.wrap n = n := by rw [IntKind.wrap_u32]; omega
theorem xor_u32 (a b : Nat) (ha : a < 4294967296) (hb : b < 4294967296) : bits BinOp.xor IntKind.u32 (a : Int) (b : Int) = ((a ^^^ b : Nat) : Int) := by
  have ha' : a % 2 ^ IntKind.u32.bits = a := Nat.mod_eq_of_lt (by simpa [IntKind.bits] using ha)
  have hb' : b % 2 ^ IntKind.u32.bits = b := Nat.mod_eq_of_lt (by simpa [IntKind.bits] using hb)
  simp only [bits, BitVec.ofInt_natCast, BitVec.toNat_xor, BitVec.toNat_ofNat, ha', hb']
  refine wraps32 _ (Int.natCast_nonneg _) ?_
  have := Nat.xor_lt_two_pow (n := 32) ha hb
  exact_mod_cast this
theorem and_u32 (a b : Nat) (ha : a < 4294967296) (hb : b < 4294967296) : bits BinOp.and IntKind.u32 (a : Int) (b : Int) = ((a &&& b : Nat) : Int) :=
  (bits_nat .u32 32 (by decide) wraps32 a b ha hb).1
theorem or_u32 (a b : Nat) (ha : a < 4294967296) (hb : b < 4294967296) : bits BinOp.or IntKind.u32 (a : Int) (b : Int) = ((a ||| b : Nat) : Int) :=
  (bits_nat .u32 32 (by decide) wraps32 a b ha hb).2
theorem and_one_u32 (r : Nat) (h : r < 4294967296) : bits BinOp.and IntKind.u32 (r : Int) 1 = ((r % 2 : Nat) : Int) := by
  have := and_u32 r 1 h (by decide)
  rw [Nat.and_one_is_mod] at this
  exact this
theorem hv_bits (r : Nat) (h : r < 4294967296) : bits BinOp.xor IntKind.u32 ((r : Int) / 2) (IntKind.u32.wrap (2197175160 * bits BinOp.and IntKind.u32 (r : Int) 1)) = (hv r : Int) := by
  rw [and_one_u32 r h, IntKind.wrap_u32]
  have e1 : (r : Int) / 2 = ((r / 2 : Nat) : Int) := by omega
  have e2 : 2197175160 * ((r % 2 : Nat) : Int) % 4294967296 = ((2197175160 * (r % 2) : Nat) : Int) := by omega
  rw [e1, e2, xor_u32 _ _ (by omega) (by omega)]
  rfl
theorem xor_ones (r : Nat) (h : r < 4294967296) : r ^^^ 4294967295 = 4294967295 - r := by
  have e : (r ^^^ 4294967295) = (BitVec.ofNat 32 r ^^^ BitVec.allOnes 32).toNat := by
    rw [BitVec.toNat_xor, BitVec.toNat_ofNat, BitVec.toNat_allOnes, Nat.mod_eq_of_lt (by simpa using h)]
  rw [e, BitVec.xor_allOnes, BitVec.toNat_not, BitVec.toNat_ofNat, Nat.mod_eq_of_lt (by simpa using h)]
theorem not_u32 (r : Nat) (h : r < 4294967296) : bits BinOp.xor IntKind.u32 IntKind.u32.max (r : Int) = (notR r : Int) := by
  have e : IntKind.u32.max = ((4294967295 : Nat) : Int) := by decide
  rw [e, xor_u32 _ _ (by decide) h, Nat.xor_comm]
  rfl
theorem xor_u32_ones (r : Nat) (h : r < 4294967296) : bits BinOp.xor IntKind.u32 (r : Int) 4294967295 = (notR r : Int) := by
  have := xor_u32 r 4294967295 h (by decide)
  exact this
theorem hv_odd (r : Nat) (h : r < 4294967296) (ho : r % 2 = 1) : bits BinOp.xor IntKind.u32 ((r : Int) / 2) 2197175160 = (hv r : Int) := by
  have := xor_u32 (r / 2) 2197175160 (by omega) (by decide)
  have e1 : (r : Int) / 2 = ((r / 2 : Nat) : Int) := by omega
  rw [e1]
  refine this.trans ?_
  rw [hv, ho]
theorem hv_even (r : Nat) (ho : ¬ r % 2 = 1) : (r : Int) / 2 = (hv r : Int) := by
  have e : r % 2 = 0 := by omega
  rw [hv, e]
  simp
theorem xor_eq (a b : Nat) (h : a ^^^ b = 0) : a = b := by
  have := congrArg (· ^^^ b) h
  simpa [Nat.xor_assoc] using this
theorem hv_zero (x : Nat) (h : x < 4294967296) (h0 : hv x = 0) : x = 0 := by
  unfold hv at h0
  rcases (by omega : x % 2 = 0 ∨ x % 2 = 1) with hp | hp
  · rw [hp, Nat.mul_zero, Nat.xor_zero] at h0
    omega
  · rw [hp, Nat.mul_one] at h0
    have : x / 2 = 2197175160 := xor_eq _ _ h0
    omega
theorem hvN_zero_inv (k : Nat) : ∀ x, x < 4294967296 → hvN k x = 0 → x = 0 := by
  induction k with
  | zero => intro x _ h; exact h
  | succ k ih => intro x h h0; exact hv_zero x h (ih _ (hv_lt x h) h0)
theorem regL_inj (l : List UInt8) (a b : Nat) (ha : a < 4294967296) (hb : b < 4294967296) (h : regL a l = regL b l) : a = b := by
  rw [regL_zero a, regL_zero b] at h
  have h1 : hvN (8 * l.length) a = hvN (8 * l.length) b := by
    have := congrArg (· ^^^ regL 0 l) h
    simpa [Nat.xor_assoc] using this
  have h2 : hvN (8 * l.length) (a ^^^ b) = 0 := by rw [hvN_xor, h1, Nat.xor_self]
  exact xor_eq _ _ (hvN_zero_inv _ _ (Nat.xor_lt_two_pow (n := 32) ha hb) h2)
theorem hvN_inj (k a b : Nat) (ha : a < 4294967296) (hb : b < 4294967296) (h : hvN k a = hvN k b) : a = b := by
  have h2 : hvN k (a ^^^ b) = 0 := by rw [hvN_xor, h, Nat.xor_self]
  exact xor_eq _ _ (hvN_zero_inv _ _ (Nat.xor_lt_two_pow (n := 32) ha hb) h2)
theorem notR_inj (a b : Nat) (h : notR a = notR b) : a = b := by
  have := congrArg notR h
  rwa [notR_notR, notR_notR] at this
theorem sum_turned (p q : List UInt8) (x y : UInt8) (h : onL 0 (p ++ x :: q) = onL 0 (p ++ y :: q)) : x = y := by
  unfold onL at h
  have h1 := notR_inj _ _ h
  rw [regL_app, regL_app] at h1
  generalize hR : regL (notR 0) p = R at h1
  have hRl : R < 4294967296 := by rw [← hR]; exact regL_lt _ _ (notR_lt _ (by decide))
  have hx := x.toNat_lt
  have hy := y.toNat_lt
  have lx : R ^^^ x.toNat < 4294967296 := Nat.xor_lt_two_pow (n := 32) hRl (by omega)
  have ly : R ^^^ y.toNat < 4294967296 := Nat.xor_lt_two_pow (n := 32) hRl (by omega)
  have h2 := regL_inj q _ _ (hvN_lt 8 _ lx) (hvN_lt 8 _ ly) h1
  have h3 := hvN_inj 8 _ _ lx ly h2
  have h4 : x.toNat = y.toNat := by
    have := congrArg (R ^^^ ·) h3
    simpa [← Nat.xor_assoc] using this
  exact UInt8.toNat_inj.1 h4
theorem xor_u8 (a b : Nat) (ha : a < 256) (hb : b < 256) : bits BinOp.xor IntKind.u8 (a : Int) (b : Int) = ((a ^^^ b : Nat) : Int) := by
  have ha' : a % 2 ^ IntKind.u8.bits = a := Nat.mod_eq_of_lt (by simpa [IntKind.bits] using ha)
  have hb' : b % 2 ^ IntKind.u8.bits = b := Nat.mod_eq_of_lt (by simpa [IntKind.bits] using hb)
  simp only [bits, BitVec.ofInt_natCast, BitVec.toNat_xor, BitVec.toNat_ofNat, ha', hb']
  refine wraps_u8 _ (Int.natCast_nonneg _) ?_
  have := Nat.xor_lt_two_pow (n := 8) ha hb
  exact_mod_cast this

theorem set_parts (l : List UInt8) (i : Nat) (h : i < l.length) (y : UInt8) : l = l.take i ++ l[i] :: l.drop (i + 1) ∧ l.set i y = l.take i ++ y :: l.drop (i + 1) := by
  refine ⟨?_, List.set_eq_take_append_cons_drop ▸ ?_⟩
  · rw [List.getElem_cons_drop, List.take_append_drop]
  · simp [h]
end Go.Proofs.Yteoihmoclndihab.Crc
namespace Go.Proofs.Yteoihmoclndihab.Crc
open Go.RowKit
theorem ret_int {k : IntKind} {a b : Int} (h : a = b) : Ending.returned (.int k a) = .returned (.int k b) := by rw [h]
theorem ret_str {a b : ByteArray} (h : a = b) : Ending.returned (.string a) = .returned (.string b) := by rw [h]
theorem ret_bool {a b : Bool} (h : a = b) : Ending.returned (.bool a) = .returned (.bool b) := by rw [h]
theorem below2 {a b c : World} (h1 : Below a.heap.size a b) (h2 : Below b.heap.size b c) : Below a.heap.size a c := h1.trans (h2.mono h1.size)

theorem halved_any (r : Nat) (w : World) (h : r < 4294967296) :
    Calls Try.prog 54 #[.int .u32 (r : Int)] w fun e w' => e = .returned (.int .u32 (hv r : Int)) ∧ w' = w := by
  have hi : (r : Int) < 4294967296 := by omega
  go_enter Try.func54, Try.ntmps54
  go_wp2
  go_ret
  exact ⟨ret_int (hv_bits r h), rfl⟩

theorem drop_cons (s : ByteArray) (k : Nat) (h : k < s.size) : s.data.toList.drop k = s[k] :: s.data.toList.drop (k + 1) := by
  rw [List.drop_eq_getElem_cons (by simpa using h)]; rfl

set_option maxRecDepth 20000 in
theorem on_any (sum : Nat) (s : ByteArray) (w : World) (h : sum < 4294967296) (hs : s.size ≤ 9223372036854775807) :
    Calls Try.prog 34 #[.int .u32 (sum : Int), .string s] w fun e w' => e = .returned (.int .u32 (onL sum s.data.toList : Int)) ∧ w' = w := by
  have hi : (sum : Int) ≤ 4294967295 := by omega
  have HS : Hid (sum < 4294967296) := h
  clear h
  go_enter Try.func34, Try.ntmps34
  have e0 := not_u32 sum HS.out
  obtain ⟨N, hN⟩ : ∃ N, N = notR sum := ⟨_, rfl⟩
  rw [← hN] at e0
  have HN : Hid (N < 4294967296 ∧ N = notR sum) := ⟨by rw [hN]; exact notR_lt _ HS.out, hN⟩
  clear hN
  go_wp2
  go_loop [5, 11] (fun t i => ∃ j R : Nat, j ≤ s.size ∧ Hid (R < 4294967296) ∧ i = .int .i64 j ∧ t = .int .u32 (R : Int) ∧ Hid (regL N s.data.toList = regL R (s.data.toList.drop j))) (fun _ i => s.size - (intOf i).toNat)
  case atStart => exact ⟨0, N, by omega, HN.out.1, rfl, rfl, (rfl : regL N s.data.toList = _)⟩
  case round =>
    obtain ⟨j, R, hj, HR, rfl, rfl, HG⟩ := hrel
    have hRi : (R : Int) ≤ 4294967295 := by have := HR.out; omega
    by_cases hlt : j < s.size
    · have HD : Hid (s.data.toList.drop j = s[j] :: s.data.toList.drop (j + 1)) := drop_cons s j hlt
      have hbl := (s[j]).toNat_lt
      obtain ⟨X, hX⟩ : ∃ X, X = R ^^^ (s[j]).toNat := ⟨_, rfl⟩
      have e1 := xor_u32 R (s[j]).toNat HR.out (by omega)
      rw [← hX] at e1
      have HX : Hid (X < 4294967296 ∧ X = R ^^^ (s[j]).toNat) := ⟨by rw [hX]; exact Nat.xor_lt_two_pow (n := 32) HR.out (by omega), hX⟩
      have hbi : ((s[j]).toNat : Int) ≤ 255 := by omega
      clear hX hbl
      go_wp2
      go_loop [5, 20] (fun t i => ∃ k Q : Nat, k ≤ 8 ∧ Hid (Q < 4294967296) ∧ i = .int .i64 k ∧ t = .int .u32 (Q : Int) ∧ Hid (hvN 8 X = hvN (8 - k) Q)) (fun _ i => 8 - (intOf i).toNat)
      case atStart => exact ⟨0, X, by omega, HX.out.1, rfl, rfl, (rfl : hvN 8 X = _)⟩
      case round =>
        obtain ⟨k, Q, hk, HQ, rfl, rfl, HE⟩ := hrel
        have hQi : (Q : Int) ≤ 4294967295 := by have := HQ.out; omega
        by_cases hlt2 : k < 8
        · have HE' : Hid (hvN 8 X = hvN (8 - (k + 1)) (hv Q)) := by
            show _ = _
            rw [HE.out, show 8 - k = 8 - (k + 1) + 1 by omega]; rfl
          have hc := fun w => halved_any Q w HQ.out
          go_wp2_with (go_at_call 54; refine (hc _).mono ?_; rintro e w' ⟨rfl, rfl⟩)
          go_round
          case rel => exact ⟨k + 1, hv Q, by omega, hv_lt Q HQ.out, by go_num, rfl, HE'⟩
          case measure => simp [intOf]; omega
        · obtain rfl : k = 8 := by omega
          go_wp2
          go_round
          case rel =>
            refine ⟨j + 1, Q, by omega, HQ, by go_num, rfl, ?_⟩
            show _ = _
            have h8 : hvN 8 X = Q := HE.out
            rw [HG.out, HD.out, regL, ← HX.out.2, h8]
          case measure => simp [intOf]; omega
    · have e2 := not_u32 R HR.out
      go_wp2
      go_ret
      refine ⟨ret_int ?_, rfl⟩
      have : s.data.toList.drop j = [] := List.drop_of_length_le (by simp; omega)
      have hE := HG.out
      rw [this] at hE
      rw [onL, ← HN.out.2, hE]
      rfl
theorem of_any (s : ByteArray) (w : World) (hs : s.size ≤ 9223372036854775807) :
    Calls Try.prog 12 #[.string s] w fun e w' => e = .returned (.int .u32 (onL 0 s.data.toList : Int)) ∧ w' = w := by
  have hc := fun w => on_any 0 s w (by decide) hs
  go_enter Try.func12, Try.ntmps12
  go_wp2_with fail
  go_at_call 34; refine (hc _).mono ?_; rintro e w' ⟨rfl, rfl⟩
  go_wp2
  go_ret
  exact ⟨rfl, rfl⟩

end Go.Proofs.Yteoihmoclndihab.Crc
namespace Go.Proofs.Yteoihmoclndihab.Crc
open Go.RowKit

/-- a sum's bytes, the highest one first -/
def textR (n : Nat) : List UInt8 := [UInt8.ofNat (n / 16777216), UInt8.ofNat (n / 65536), UInt8.ofNat (n / 256), UInt8.ofNat n]
theorem addr_add (b o j : Nat) : (⟨b, o, none⟩ : Addr).add j = ⟨b, o + j, none⟩ := by unfold Addr.add; split <;> simp_all
theorem ofNat_toNat (n : Nat) : ((UInt8.ofNat n).toNat : Int) = (n : Int) % 256 := by simp
theorem text_cells (n : Nat) (h : n < 4294967296) (w : World) (T : TypeId) :
    (convert 79 9 (.slice (some ⟨w.heap.size, 0, none⟩) 4 4)).run Try.prog (w.alloc (.cells #[Value.int .u8 ((n : Int) / 16777216), .int .u8 ((n : Int) / 65536 % 256), .int .u8 ((n : Int) / 256 % 256), .int .u8 ((n : Int) % 256)] T)) =
      .ok (.string ⟨(textR n).toArray⟩) (w.alloc (.cells #[Value.int .u8 ((n : Int) / 16777216), .int .u8 ((n : Int) / 65536 % 256), .int .u8 ((n : Int) / 256 % 256), .int .u8 ((n : Int) % 256)] T)) :=
  run_convert_bytes_back (P := Try.prog) _ 79 9 5 ⟨w.heap.size, 0, none⟩ 4 (textR n) Try.underlying79 Try.underlying5 Try.underlying9 (fun j hj => by
    rw [addr_add, Nat.zero_add, World.cell?_alloc_at _ _ _ _ rfl]
    match j, hj with
    | 0, _ => simp [textR]; omega
    | 1, _ => simp [textR]
    | 2, _ => simp [textR]
    | 3, _ => simp [textR])
theorem str_list (s : ByteArray) : ∃ l : List UInt8, s = ⟨l.toArray⟩ ∧ l.length = s.size := ⟨s.data.toList, by cases s; simp, by simp⟩
theorem size_list (l : List UInt8) : (⟨l.toArray⟩ : ByteArray).size = l.length := by show l.toArray.size = _; simp
theorem str_app (a b : List UInt8) : (⟨a.toArray⟩ ++ ⟨b.toArray⟩ : ByteArray) = ⟨(a ++ b).toArray⟩ := by
  apply ByteArray.ext
  rw [ByteArray.data_append]
  simp
theorem extract_drop (s : ByteArray) (k : Nat) : s.extract k s.size = ⟨(s.data.toList.drop k).toArray⟩ := by
  apply ByteArray.ext
  rw [ByteArray.data_extract]
  apply Array.ext'
  simp [List.take_of_length_le]
theorem extract_take (s : ByteArray) (k : Nat) : s.extract 0 k = ⟨(s.data.toList.take k).toArray⟩ := by
  apply ByteArray.ext
  rw [ByteArray.data_extract]
  apply Array.ext'
  simp
theorem clone_any (s : ByteArray) (w : World) (hs : s.size ≤ 281474976710656) :
    Calls Try.prog 33 #[.string s] w fun e w' => e = .returned (.string s) ∧ Below w.heap.size w w' := by
  go_enter Try.func33, Try.ntmps33
  go_wp2_with (go_at_call 53; refine (Try.stringslite_Clone s _ hs).mono ?_; rintro e w1 ⟨rfl, hb⟩)
  go_ret
  exact ⟨rfl, hb⟩

/-- four bytes as a sum -/
def be4 (a b c d : UInt8) : Nat := 16777216 * a.toNat + 65536 * b.toNat + 256 * c.toNat + d.toNat
def readL : List UInt8 → Nat × List UInt8 × Int
  | a :: b :: c :: d :: l => (be4 a b c d, l, 0)
  | _ => (0, [], 5)
theorem or_low (a : Int) (b : Int) (ha : 0 ≤ a) (ha1 : a < 16777216) (hb : 0 ≤ b) (hb1 : b ≤ 255) : bits BinOp.or IntKind.u32 (a * 256) b = a * 256 + b :=
  bits_join .u32 32 (by decide) wraps32 8 (a * 256) b (by omega) (by omega) (by omega) hb (by omega) (by omega)
theorem or2 (a b c : Nat) (ha : (a : Int) ≤ 255) (hb : (b : Int) ≤ 255) (hc : (c : Int) ≤ 255) : bits BinOp.or IntKind.u32 (((a : Int) * 256 + (b : Int)) * 256) (c : Int) = ((a : Int) * 256 + (b : Int)) * 256 + (c : Int) :=
  or_low _ _ (by omega) (by omega) (by omega) hc
theorem or3 (a b c d : Nat) (ha : (a : Int) ≤ 255) (hb : (b : Int) ≤ 255) (hc : (c : Int) ≤ 255) (hd : (d : Int) ≤ 255) : bits BinOp.or IntKind.u32 ((((a : Int) * 256 + (b : Int)) * 256 + (c : Int)) * 256) (d : Int) = (((a : Int) * 256 + (b : Int)) * 256 + (c : Int)) * 256 + (d : Int) :=
  or_low _ _ (by omega) (by omega) (by omega) hd
theorem ret_read {a b : Int} {r : ByteArray} {e : Int} (h : a = b) : Ending.returned (.tuple #[.int .u32 a, .string r, .int .i64 e]) = .returned (.tuple #[.int .u32 b, .string r, .int .i64 e]) := by rw [h]
theorem four (l : List UInt8) (h : 4 ≤ l.length) : ∃ a b c d r, l = a :: b :: c :: d :: r := by
  match l, h with
  | a :: b :: c :: d :: r, _ => exact ⟨a, b, c, d, r, rfl⟩
theorem readL_short (l : List UInt8) (h : ¬ 4 ≤ l.length) : readL l = (0, [], 5) := by
  match l, h with
  | [], _ => rfl
  | [_], _ => rfl
  | [_, _], _ => rfl
  | [_, _, _], _ => rfl
  | _ :: _ :: _ :: _ :: _, h => simp at h
end Go.Proofs.Yteoihmoclndihab.Crc
namespace Go.Proofs.Yteoihmoclndihab.Frame

def sumL (l : List UInt8) : List UInt8 := Crc.textR (Crc.onL 0 l)
theorem sumL_len (l : List UInt8) : (sumL l).length = 4 := rfl
def frameL (l : List UInt8) : List UInt8 := putL l.length ++ (sumL l ++ l)

/-- the first frame: its payload, what is behind, the error -/
def bodyL (n : Nat) (r : List UInt8) : List UInt8 × List UInt8 × Int :=
  if n ≤ 4096 then (if n + 4 ≤ r.length then (if r.take 4 = sumL ((r.drop 4).take n) then ((r.drop 4).take n, r.drop (n + 4), 0) else ([], [], 6)) else ([], [], 5)) else ([], [], 7)
def nextL (l : List UInt8) : List UInt8 × List UInt8 × Int :=
  if (getGo 0 0 l).2.2 = 0 then bodyL (getGo 0 0 l).1 (getGo 0 0 l).2.1 else ([], [], (getGo 0 0 l).2.2)
theorem nextL_err {l : List UInt8} {n : Nat} {r : List UInt8} {e : Int} (h : getGo 0 0 l = (n, r, e)) (he : e ≠ 0) : nextL l = ([], [], e) := by
  rw [nextL, h]; exact if_neg he
theorem nextL_body {l : List UInt8} {n : Nat} {r : List UInt8} (h : getGo 0 0 l = (n, r, 0)) : nextL l = bodyL n r := by
  rw [nextL, h]; rfl
theorem nextL_many {l : List UInt8} {n : Nat} {r : List UInt8} (h : getGo 0 0 l = (n, r, 0)) (hn : ¬ n ≤ 4096) : nextL l = ([], [], 7) := by
  rw [nextL_body h, bodyL, if_neg hn]
theorem nextL_short {l : List UInt8} {n : Nat} {r : List UInt8} (h : getGo 0 0 l = (n, r, 0)) (hn : n ≤ 4096) (hr : ¬ n + 4 ≤ r.length) : nextL l = ([], [], 5) := by
  rw [nextL_body h, bodyL, if_pos hn, if_neg hr]
theorem nextL_sum {l : List UInt8} {n : Nat} {r : List UInt8} (h : getGo 0 0 l = (n, r, 0)) (hn : n ≤ 4096) (hr : n + 4 ≤ r.length) (hs : r.take 4 ≠ sumL ((r.drop 4).take n)) : nextL l = ([], [], 6) := by
  rw [nextL_body h, bodyL, if_pos hn, if_pos hr, if_neg hs]
theorem nextL_ok {l : List UInt8} {n : Nat} {r : List UInt8} (h : getGo 0 0 l = (n, r, 0)) (hn : n ≤ 4096) (hr : n + 4 ≤ r.length) (hs : r.take 4 = sumL ((r.drop 4).take n)) : nextL l = ((r.drop 4).take n, r.drop (n + 4), 0) := by
  rw [nextL_body h, bodyL, if_pos hn, if_pos hr, if_pos hs]

/-- an error's answer is empty -/
theorem getGo_bad (l : List UInt8) : ∀ i acc, (getGo i acc l).2.2 ≠ 0 → (getGo i acc l).1 = 0 ∧ (getGo i acc l).2.1 = [] := by
  induction l with
  | nil => intro i acc _; exact ⟨rfl, rfl⟩
  | cons b l ih =>
    intro i acc h
    rw [getGo] at h ⊢
    split at h
    · rename_i h1; rw [if_pos h1]; exact ⟨rfl, rfl⟩
    · rename_i h1
      rw [if_neg h1]
      split at h
      · rename_i h2; rw [if_pos h2]; exact ih _ _ h
      · rename_i h2
        rw [if_neg h2]
        split at h
        · rename_i h3; rw [if_pos h3]; exact ⟨rfl, rfl⟩
        · exact absurd rfl h
/-- what is read is less than what was there -/
theorem getGo_split (l : List UInt8) : ∀ i acc n r, getGo i acc l = (n, r, 0) → ∃ c, c ≠ [] ∧ l = c ++ r := by
  induction l with
  | nil => intro i acc n r h; cases h
  | cons b l ih =>
    intro i acc n r h
    rw [getGo] at h
    split at h
    · cases h
    · split at h
      · obtain ⟨c, _, e⟩ := ih _ _ _ _ h; exact ⟨b :: c, by simp, by rw [e]; rfl⟩
      · split at h
        · cases h
        · cases h; exact ⟨[b], by simp, rfl⟩
/-- ten bytes are enough -/
theorem getGo_take (l : List UInt8) : ∀ i acc, i ≤ 9 → ∀ n r e, getGo i acc l = (n, r, e) →
    ∃ r', getGo i acc (l.take (10 - i)) = (n, r', e) ∧ r'.length ≤ (l.take (10 - i)).length ∧ (e = 0 → r = l.drop ((l.take (10 - i)).length - r'.length)) := by
  induction l with
  | nil => intro i acc hi n r e h; cases h; exact ⟨[], by simp [getGo], by simp, fun h => by cases h⟩
  | cons b l ih =>
    intro i acc hi n r e h
    have ht : (b :: l).take (10 - i) = b :: l.take (9 - i) := by
      obtain ⟨k, hk⟩ : ∃ k, 10 - i = k + 1 := ⟨9 - i, by omega⟩
      rw [hk, List.take_succ_cons, show 9 - i = k by omega]
    rw [ht]
    rw [getGo] at h ⊢
    split at h
    · rename_i h1; rw [if_pos h1]; cases h; exact ⟨[], rfl, by simp, fun h => by cases h⟩
    · rename_i h1
      rw [if_neg h1]
      split at h
      · rename_i h2
        rw [if_pos h2]
        have h9 : i ≠ 9 := fun h => h1 ⟨h, by omega⟩
        obtain ⟨r', e1, e2, e3⟩ := ih (i + 1) _ (by omega) n r e h
        rw [show 10 - (i + 1) = 9 - i by omega] at e1 e2 e3
        refine ⟨r', e1, by simp only [List.length_cons]; omega, fun h0 => ?_⟩
        rw [e3 h0]
        have : (b :: l.take (9 - i)).length - r'.length = ((l.take (9 - i)).length - r'.length) + 1 := by simp only [List.length_cons]; omega
        rw [this, List.drop_succ_cons]
      · rename_i h2
        rw [if_neg h2]
        split at h
        · rename_i h3; rw [if_pos h3]; cases h; exact ⟨[], rfl, by simp, fun h => by cases h⟩
        · rename_i h3
          rw [if_neg h3]; cases h
          refine ⟨l.take (9 - i), rfl, by simp, fun _ => ?_⟩
          have : (b :: l.take (9 - i)).length - (l.take (9 - i)).length = 1 := by simp only [List.length_cons]; omega
          rw [this]; rfl

theorem nextL_bad (l : List UInt8) (h : (nextL l).2.2 ≠ 0) : nextL l = ([], [], (nextL l).2.2) := by
  rw [nextL] at h ⊢
  split
  · rename_i h1
    rw [if_pos h1, bodyL] at h
    rw [bodyL]
    split
    · rename_i h2
      rw [if_pos h2] at h
      split
      · rename_i h3
        rw [if_pos h3] at h
        split
        · rename_i h4; rw [if_pos h4] at h; exact absurd rfl h
        · rfl
      · rfl
    · rfl
  · rfl
/-- what is read is taken apart -/
theorem nextL_inv {l p r : List UInt8} (h : nextL l = (p, r, 0)) : ∃ c, c ≠ [] ∧ l = c ++ (sumL p ++ (p ++ r)) ∧ getGo 0 0 l = (p.length, sumL p ++ (p ++ r), 0) ∧ p.length ≤ 4096 := by
  obtain ⟨⟨n, q, e⟩, hg⟩ : ∃ g, getGo 0 0 l = g := ⟨_, rfl⟩
  by_cases he : e = 0
  · subst he
    by_cases hn : n ≤ 4096
    · by_cases hr : n + 4 ≤ q.length
      · by_cases hs : q.take 4 = sumL ((q.drop 4).take n)
        · rw [nextL_ok hg hn hr hs] at h
          injection h with h1 h2; injection h2 with h2 _
          obtain ⟨c, hc, e⟩ := getGo_split l _ _ _ _ hg
          have hpl : p.length = n := by rw [← h1, List.length_take, List.length_drop]; omega
          have hq : q = sumL p ++ (p ++ r) := by
            rw [← h1, ← hs, ← h2]
            conv => lhs; rw [← List.take_append_drop 4 q]
            congr 1
            conv => lhs; rw [← List.take_append_drop n (q.drop 4)]
            rw [List.drop_drop, Nat.add_comm]
          refine ⟨c, hc, by rw [e, hq], ?_, by omega⟩
          rw [hg, hpl, hq]
        · rw [nextL_sum hg hn hr hs] at h; cases h
      · rw [nextL_short hg hn hr] at h; cases h
    · rw [nextL_many hg hn] at h; cases h
  · rw [nextL_err hg he] at h; cases h; exact absurd rfl he
theorem nextL_lt {l p r : List UInt8} (h : nextL l = (p, r, 0)) : r.length + p.length + 5 ≤ l.length ∧ r.length < l.length := by
  obtain ⟨c, hc, e, _, _⟩ := nextL_inv h
  have : 0 < c.length := List.length_pos_iff.2 hc
  have hs := sumL_len p
  rw [e]
  simp only [List.length_append]
  omega
theorem nextL_le (l : List UInt8) : (nextL l).1.length ≤ l.length ∧ (nextL l).2.1.length ≤ l.length := by
  obtain ⟨⟨p, r, y⟩, h⟩ : ∃ g, nextL l = g := ⟨_, rfl⟩
  by_cases hy : y = 0
  · subst hy
    have := nextL_lt h
    rw [h]; simp only; omega
  · have := nextL_bad l (by rw [h]; exact hy)
    rw [this]; simp
/-- a frame is read as what it was, whatever is behind -/
theorem nextL_frame (p more : List UInt8) (hp : p.length ≤ 4096) : nextL (frameL p ++ more) = (p, more, 0) := by
  have hg : getGo 0 0 (frameL p ++ more) = (p.length, sumL p ++ (p ++ more), 0) := by
    have := getGo_put (sumL p ++ (p ++ more)) p.length 0 0 (by omega) (.inl rfl) (by omega)
    rw [frameL, List.append_assoc, List.append_assoc, this]
    simp
  have hd : (sumL p ++ (p ++ more)).drop 4 = p ++ more := by
    have h4 := sumL_len p
    rw [← h4, List.drop_left]
  have ht : (sumL p ++ (p ++ more)).take 4 = sumL p := by
    have h4 := sumL_len p
    rw [← h4, List.take_left]
  rw [nextL_ok hg hp (by have := sumL_len p; simp only [List.length_append]; omega) (by rw [hd, ht, List.take_left]), hd, List.take_left]
  rw [show p.length + 4 = 4 + p.length by omega, ← List.drop_drop, hd, List.drop_left]

/-- all of them: the payloads, what is left -/
def allF : Nat → List UInt8 → List (List UInt8) × List UInt8
  | 0, l => ([], l)
  | f + 1, l => if (nextL l).2.2 = 0 then ((nextL l).1 :: (allF f (nextL l).2.1).1, (allF f (nextL l).2.1).2) else ([], l)
theorem allF_fuel (f : Nat) : ∀ g l, l.length ≤ f → l.length ≤ g → allF f l = allF g l := by
  induction f with
  | zero =>
    intro g l h1 h2
    obtain rfl : l = [] := List.length_eq_zero_iff.1 (by omega)
    cases g with
    | zero => rfl
    | succ g => rw [allF, allF, if_neg (by decide)]
  | succ f ih =>
    intro g l h1 h2
    cases g with
    | zero =>
      obtain rfl : l = [] := List.length_eq_zero_iff.1 (by omega)
      rw [allF, allF, if_neg (by decide)]
    | succ g =>
      rw [allF, allF]
      by_cases h : (nextL l).2.2 = 0
      · have hl := (nextL_lt (l := l) (p := (nextL l).1) (r := (nextL l).2.1) (by rw [← h])).2
        rw [if_pos h, if_pos h, ih g _ (by omega) (by omega)]
      · rw [if_neg h, if_neg h]
def allL (l : List UInt8) : List (List UInt8) × List UInt8 := allF l.length l
theorem allL_ok {l p r : List UInt8} (h : nextL l = (p, r, 0)) : allL l = (p :: (allL r).1, (allL r).2) := by
  have hl := (nextL_lt h).2
  rw [allL, allF_fuel l.length (l.length + 1) l (by omega) (by omega), allF, h, if_pos rfl, allL, allF_fuel l.length r.length r (by omega) (by omega)]
theorem allL_bad {l p r : List UInt8} {y : Int} (h : nextL l = (p, r, y)) (hy : y ≠ 0) : allL l = ([], l) := by
  rw [allL, allF_fuel l.length (l.length + 1) l (by omega) (by omega), allF, h, if_neg hy]
theorem allL_le (n : Nat) : ∀ l : List UInt8, l.length ≤ n → (allL l).2.length ≤ l.length ∧ (allL l).1.length ≤ l.length := by
  induction n with
  | zero =>
    intro l h
    obtain rfl : l = [] := List.length_eq_zero_iff.1 (by omega)
    exact ⟨by decide, by decide⟩
  | succ n ih =>
    intro l h
    obtain ⟨⟨p, r, y⟩, hn⟩ : ∃ g, nextL l = g := ⟨_, rfl⟩
    by_cases hy : y = 0
    · subst hy
      have hl := (nextL_lt hn).2
      have := ih r (by omega)
      rw [allL_ok hn]
      simp only [List.length_cons]
      omega
    · rw [allL_bad hn hy]; simp

/-- so many of them -/
def takeL : Nat → List UInt8 → List (List UInt8) × List UInt8 × Int
  | 0, l => ([], l, 0)
  | k + 1, l => if (nextL l).2.2 = 0 then (if (takeL k (nextL l).2.1).2.2 = 0 then ((nextL l).1 :: (takeL k (nextL l).2.1).1, (takeL k (nextL l).2.1).2.1, 0) else ([], [], (takeL k (nextL l).2.1).2.2)) else ([], [], (nextL l).2.2)

/-- what the frames tell, one behind the other, the last one being refused -/
def eachF : Nat → List UInt8 → List (List UInt8 × List UInt8 × Int)
  | 0, l => [nextL l]
  | f + 1, l => nextL l :: (if (nextL l).2.2 = 0 then eachF f (nextL l).2.1 else [])
end Go.Proofs.Yteoihmoclndihab.Frame
namespace Go.Proofs.Yteoihmoclndihab.Frame
open Go.RowKit

theorem ret_strs {a b : ByteArray} {y : Int} (h : a = b) : Ending.returned (.tuple #[.string a, .int .i64 y]) = .returned (.tuple #[.string b, .int .i64 y]) := by rw [h]
theorem below2 {a b c : World} (h1 : Below a.heap.size a b) (h2 : Below b.heap.size b c) : Below a.heap.size a c := h1.trans (h2.mono h1.size)
theorem str_list (s : ByteArray) : ∃ l : List UInt8, s = ⟨l.toArray⟩ ∧ l.length = s.size := ⟨s.data.toList, by cases s; simp, by simp⟩
theorem size_list (l : List UInt8) : (⟨l.toArray⟩ : ByteArray).size = l.length := by show l.toArray.size = _; simp
theorem str_app (a b : List UInt8) : (⟨a.toArray⟩ ++ ⟨b.toArray⟩ : ByteArray) = ⟨(a ++ b).toArray⟩ := Crc.str_app a b
theorem extract_drop (s : ByteArray) (k : Nat) : s.extract k s.size = ⟨(s.data.toList.drop k).toArray⟩ := Crc.extract_drop s k
theorem extract_take (s : ByteArray) (k : Nat) : s.extract 0 k = ⟨(s.data.toList.take k).toArray⟩ := Crc.extract_take s k
theorem sum_lt (l : List UInt8) : Crc.onL 0 l < 4294967296 := Crc.onL_lt 0 l (by decide)
theorem putL_le (n : Nat) (h : n ≤ 4096) : (putL n).length ≤ 2 := by
  by_cases h1 : n < 128
  · rw [putL_small n h1]; simp
  · rw [putL_big n h1, putL_small _ (by omega)]; simp
theorem putL_pos (n : Nat) : 1 ≤ (putL n).length := List.length_pos_iff.2 (putL_ne n)

theorem ofL (l : List UInt8) (w : World) (hl : l.length ≤ 9223372036854775807) :
    Calls Try.prog 12 #[.string ⟨l.toArray⟩] w fun e w' => e = .returned (.int .u32 (Crc.onL 0 l : Int)) ∧ w' = w := by
  have := Crc.of_any ⟨l.toArray⟩ w (by rw [size_list]; exact hl)
  simpa using this
theorem cloneL (l : List UInt8) (hl : l.length ≤ 281474976710656) (w : World) :
    Calls Try.prog 33 #[.string ⟨l.toArray⟩] w fun e w' => e = .returned (.string ⟨l.toArray⟩) ∧ Below w.heap.size w w' := clone_any _ w (by rw [size_list]; exact hl)
theorem getL {l : List UInt8} {n : Nat} {r : List UInt8} {y : Int} (h : getGo 0 0 l = (n, r, y)) (hl : l.length ≤ 281474976710656) (w : World) :
    Calls Try.prog 11 #[.string ⟨l.toArray⟩] w fun e w' => e = .returned (.tuple #[.int .u64 n, .string ⟨r.toArray⟩, .int .i64 y]) ∧ Below w.heap.size w w' := by
  have := get_any ⟨l.toArray⟩ w (by rw [size_list]; exact hl)
  rw [show getS ⟨l.toArray⟩ = getGo 0 0 l by simp [getS], h] at this
  exact this
end Go.Proofs.Yteoihmoclndihab.Frame
namespace Go.Proofs.Yteoihmoclndihab.Frame
open Go.RowKit

theorem bgn1 (w : World) : Calls Try.prog 12 #[.string ⟨#[49, 50, 51, 52, 53, 54, 55, 56, 57]⟩] w fun e w' => e = .returned (.int .u32 3808858755) ∧ w' = w := by
  have := ofL [49, 50, 51, 52, 53, 54, 55, 56, 57] w (by decide)
  rw [show Crc.onL 0 [49, 50, 51, 52, 53, 54, 55, 56, 57] = 3808858755 by decide +kernel] at this
  exact this
theorem bgn2 (w : World) : Calls Try.prog 11 #[.string ⟨#[172, 2, 122]⟩] w fun e w' => e = .returned (.tuple #[.int .u64 300, .string ⟨#[122]⟩, .int .i64 0]) ∧ Below w.heap.size w w' :=
  getL (l := [172, 2, 122]) (n := 300) (r := [122]) (y := 0) (by decide +kernel) (by decide) w
theorem bgn3 (w : World) : Calls Try.prog 13 #[.int .u64 300] w fun e w' => e = .returned (.string ⟨#[172, 2]⟩) ∧ Below w.heap.size w w' := by
  have := put_any 300 w (by decide) (by decide)
  rw [show putL (300 : Int).toNat = [172, 2] by decide +kernel] at this
  exact this
theorem begins_any (w : World) :
    Calls Try.prog 4 #[] w fun e w' => e = .returned (.bool true) ∧ Below w.heap.size w w' := by
  go_enter Try.func4, Try.ntmps4
  go_wp2_with fail
  go_at_call 11; refine (bgn2 _).mono ?_; rintro e w1 ⟨rfl, hb1⟩
  go_wp2_with fail
  go_at_call 12; refine (bgn1 _).mono ?_; rintro e w2 ⟨rfl, rfl⟩
  go_wp2_with fail
  go_at_call 13; refine (bgn3 _).mono ?_; rintro e w3 ⟨rfl, hb3⟩
  go_wp2_with fail
  go_ret
  exact ⟨rfl, below2 hb1 hb3⟩
end Go.Proofs.Yteoihmoclndihab.Frame
