/- Plain mathematics of the check sum: the register's step is linear, and has an inverse. No program in sight. -/
import Derived.WalkKit
import Derived.Laws.BitsLemmas
set_option linter.unusedVariables false
namespace Go.Proofs.Ytoigogjklhahkaa.Crc
open Go.RowKit

/-- one of a byte's eight steps -/
def hv (r : Nat) : Nat := (r / 2) ^^^ (2197175160 * (r % 2))
theorem xor_half (a b : Nat) : (a ^^^ b) / 2 = (a / 2) ^^^ (b / 2) := by
  have := @Nat.xor_div_two_pow a b 1
  simpa using this
theorem xor_odd (a b : Nat) : (a ^^^ b) % 2 = (a % 2) ^^^ (b % 2) := by
  have := @Nat.xor_mod_two_pow a b 1
  simpa using this
theorem mul_bit (a b : Nat) (ha : a = 0 ∨ a = 1) (hb : b = 0 ∨ b = 1) : 2197175160 * (a ^^^ b) = (2197175160 * a) ^^^ (2197175160 * b) := by
  rcases ha with rfl | rfl <;> rcases hb with rfl | rfl <;> decide
theorem xor4 (a b c d : Nat) : (a ^^^ b) ^^^ (c ^^^ d) = (a ^^^ c) ^^^ (b ^^^ d) := by
  rw [Nat.xor_assoc, Nat.xor_assoc, ← Nat.xor_assoc b c d, Nat.xor_comm b c, Nat.xor_assoc c b d]
theorem hv_xor (a b : Nat) : hv (a ^^^ b) = hv a ^^^ hv b := by
  unfold hv
  rw [xor_half, xor_odd, mul_bit _ _ (by omega) (by omega), xor4]
theorem hv_lt (r : Nat) (h : r < 4294967296) : hv r < 4294967296 := by
  unfold hv
  apply Nat.xor_lt_two_pow (n := 32)
  · omega
  · have : r % 2 = 0 ∨ r % 2 = 1 := by omega
    rcases this with h | h <;> rw [h] <;> decide
def hvN : Nat → Nat → Nat
  | 0, r => r
  | k + 1, r => hvN k (hv r)
theorem hvN_succ (k r : Nat) : hvN (k + 1) r = hv (hvN k r) := by
  induction k generalizing r with
  | zero => rfl
  | succ k ih => rw [hvN, ih]; rfl
theorem hvN_add (k m r : Nat) : hvN (k + m) r = hvN k (hvN m r) := by
  induction m generalizing r with
  | zero => rfl
  | succ m ih => rw [Nat.add_succ, hvN, ih]; rfl
theorem hvN_xor (k a b : Nat) : hvN k (a ^^^ b) = hvN k a ^^^ hvN k b := by
  induction k generalizing a b with
  | zero => rfl
  | succ k ih => rw [hvN, hv_xor, ih]; rfl
theorem hvN_lt (k r : Nat) (h : r < 4294967296) : hvN k r < 4294967296 := by
  induction k generalizing r with
  | zero => exact h
  | succ k ih => exact ih _ (hv_lt r h)
theorem hvN_zero (k : Nat) : hvN k 0 = 0 := by
  induction k with
  | zero => rfl
  | succ k ih => rw [hvN]; exact ih

/-- a text's bytes into the register -/
def regL (r : Nat) : List UInt8 → Nat
  | [] => r
  | b :: l => regL (hvN 8 (r ^^^ b.toNat)) l
theorem regL_app (a b : List UInt8) : ∀ r, regL r (a ++ b) = regL (regL r a) b := by
  induction a with
  | nil => intro r; rfl
  | cons x a ih => intro r; exact ih _
theorem regL_lt (l : List UInt8) : ∀ r, r < 4294967296 → regL r l < 4294967296 := by
  induction l with
  | nil => intro r h; exact h
  | cons x l ih =>
    intro r h
    refine ih _ (hvN_lt 8 _ ?_)
    have := x.toNat_lt
    exact Nat.xor_lt_two_pow (n := 32) h (by omega)
theorem regL_affine (l : List UInt8) : ∀ a b, regL (a ^^^ b) l = hvN (8 * l.length) a ^^^ regL b l := by
  induction l with
  | nil => intro a b; rfl
  | cons x l ih =>
    intro a b
    rw [regL, Nat.xor_assoc, hvN_xor, ih, ← hvN_add, List.length_cons, show 8 * l.length + 8 = 8 * (l.length + 1) by omega]
    rfl
theorem regL_zero (X : Nat) (l : List UInt8) : regL X l = hvN (8 * l.length) X ^^^ regL 0 l := by
  have := regL_affine l X 0
  rwa [Nat.xor_zero] at this
def notR (r : Nat) : Nat := r ^^^ 4294967295
theorem notR_lt (r : Nat) (h : r < 4294967296) : notR r < 4294967296 := Nat.xor_lt_two_pow (n := 32) h (by decide)
theorem notR_notR (r : Nat) : notR (notR r) = r := by unfold notR; rw [Nat.xor_assoc, Nat.xor_self, Nat.xor_zero]
def onL (sum : Nat) (l : List UInt8) : Nat := notR (regL (notR sum) l)
theorem onL_lt (sum : Nat) (l : List UInt8) (h : sum < 4294967296) : onL sum l < 4294967296 := notR_lt _ (regL_lt _ _ (notR_lt _ h))

/- ### the register's bits, as the program reckons them -/
theorem wraps32 (n : Int) (h₀ : 0 ≤ n) (h₁ : n < 2 ^ 32) : IntKind.u32.wrap n = n := by rw [IntKind.wrap_u32]; omega
theorem xor_u32 (a b : Nat) (ha : a < 4294967296) (hb : b < 4294967296) : bits BinOp.xor IntKind.u32 (a : Int) (b : Int) = ((a ^^^ b : Nat) : Int) := by
  have ha' : a % 2 ^ IntKind.u32.bits = a := Nat.mod_eq_of_lt (by simpa [IntKind.bits] using ha)
  have hb' : b % 2 ^ IntKind.u32.bits = b := Nat.mod_eq_of_lt (by simpa [IntKind.bits] using hb)
  simp only [bits, BitVec.ofInt_natCast, BitVec.toNat_xor, BitVec.toNat_ofNat, ha', hb']
  refine wraps32 _ (Int.natCast_nonneg _) ?_
  have := Nat.xor_lt_two_pow (n := 32) ha hb
  exact_mod_cast this
theorem and_u32 (a b : Nat) (ha : a < 4294967296) (hb : b < 4294967296) : bits BinOp.and IntKind.u32 (a : Int) (b : Int) = ((a &&& b : Nat) : Int) :=
  (bits_nat .u32 32 (by decide) wraps32 a b ha hb).1
theorem or_u32 (a b : Nat) (ha : a < 4294967296) (hb : b < 4294967296) : bits BinOp.or IntKind.u32 (a : Int) (b : Int) = ((a ||| b : Nat) : Int) :=
  (bits_nat .u32 32 (by decide) wraps32 a b ha hb).2
theorem and_one_u32 (r : Nat) (h : r < 4294967296) : bits BinOp.and IntKind.u32 (r : Int) 1 = ((r % 2 : Nat) : Int) := by
  have := and_u32 r 1 h (by decide)
  rw [Nat.and_one_is_mod] at this
  exact this
theorem hv_bits (r : Nat) (h : r < 4294967296) : bits BinOp.xor IntKind.u32 ((r : Int) / 2) (IntKind.u32.wrap (2197175160 * bits BinOp.and IntKind.u32 (r : Int) 1)) = (hv r : Int) := by
  rw [and_one_u32 r h, IntKind.wrap_u32]
  have e1 : (r : Int) / 2 = ((r / 2 : Nat) : Int) := by omega
  have e2 : 2197175160 * ((r % 2 : Nat) : Int) % 4294967296 = ((2197175160 * (r % 2) : Nat) : Int) := by omega
  rw [e1, e2, xor_u32 _ _ (by omega) (by omega)]
  rfl
theorem xor_ones (r : Nat) (h : r < 4294967296) : r ^^^ 4294967295 = 4294967295 - r := by
  have e : (r ^^^ 4294967295) = (BitVec.ofNat 32 r ^^^ BitVec.allOnes 32).toNat := by
    rw [BitVec.toNat_xor, BitVec.toNat_ofNat, BitVec.toNat_allOnes, Nat.mod_eq_of_lt (by simpa using h)]
  rw [e, BitVec.xor_allOnes, BitVec.toNat_not, BitVec.toNat_ofNat, Nat.mod_eq_of_lt (by simpa using h)]
theorem not_u32 (r : Nat) (h : r < 4294967296) : bits BinOp.xor IntKind.u32 IntKind.u32.max (r : Int) = (notR r : Int) := by
  have e : IntKind.u32.max = ((4294967295 : Nat) : Int) := by decide
  rw [e, xor_u32 _ _ (by decide) h, Nat.xor_comm]
  rfl
theorem xor_u32_ones (r : Nat) (h : r < 4294967296) : bits BinOp.xor IntKind.u32 (r : Int) 4294967295 = (notR r : Int) := by
  have := xor_u32 r 4294967295 h (by decide)
  exact this
theorem hv_odd (r : Nat) (h : r < 4294967296) (ho : r % 2 = 1) : bits BinOp.xor IntKind.u32 ((r : Int) / 2) 2197175160 = (hv r : Int) := by
  have := xor_u32 (r / 2) 2197175160 (by omega) (by decide)
  have e1 : (r : Int) / 2 = ((r / 2 : Nat) : Int) := by omega
  rw [e1]
  refine this.trans ?_
  rw [hv, ho]
theorem hv_even (r : Nat) (ho : ¬ r % 2 = 1) : (r : Int) / 2 = (hv r : Int) := by
  have e : r % 2 = 0 := by omega
  rw [hv, e]
  simp
theorem xor_eq (a b : Nat) (h : a ^^^ b = 0) : a = b := by
  have := congrArg (· ^^^ b) h
  simpa [Nat.xor_assoc] using this
theorem hv_zero (x : Nat) (h : x < 4294967296) (h0 : hv x = 0) : x = 0 := by
  unfold hv at h0
  rcases (by omega : x % 2 = 0 ∨ x % 2 = 1) with hp | hp
  · rw [hp, Nat.mul_zero, Nat.xor_zero] at h0
    omega
  · rw [hp, Nat.mul_one] at h0
    have : x / 2 = 2197175160 := xor_eq _ _ h0
    omega
theorem hvN_zero_inv (k : Nat) : ∀ x, x < 4294967296 → hvN k x = 0 → x = 0 := by
  induction k with
  | zero => intro x _ h; exact h
  | succ k ih => intro x h h0; exact hv_zero x h (ih _ (hv_lt x h) h0)
theorem regL_inj (l : List UInt8) (a b : Nat) (ha : a < 4294967296) (hb : b < 4294967296) (h : regL a l = regL b l) : a = b := by
  rw [regL_zero a, regL_zero b] at h
  have h1 : hvN (8 * l.length) a = hvN (8 * l.length) b := by
    have := congrArg (· ^^^ regL 0 l) h
    simpa [Nat.xor_assoc] using this
  have h2 : hvN (8 * l.length) (a ^^^ b) = 0 := by rw [hvN_xor, h1, Nat.xor_self]
  exact xor_eq _ _ (hvN_zero_inv _ _ (Nat.xor_lt_two_pow (n := 32) ha hb) h2)
theorem hvN_inj (k a b : Nat) (ha : a < 4294967296) (hb : b < 4294967296) (h : hvN k a = hvN k b) : a = b := by
  have h2 : hvN k (a ^^^ b) = 0 := by rw [hvN_xor, h, Nat.xor_self]
  exact xor_eq _ _ (hvN_zero_inv _ _ (Nat.xor_lt_two_pow (n := 32) ha hb) h2)
theorem notR_inj (a b : Nat) (h : notR a = notR b) : a = b := by
  have := congrArg notR h
  rwa [notR_notR, notR_notR] at this
theorem sum_turned (p q : List UInt8) (x y : UInt8) (h : onL 0 (p ++ x :: q) = onL 0 (p ++ y :: q)) : x = y := by
  unfold onL at h
  have h1 := notR_inj _ _ h
  rw [regL_app, regL_app] at h1
  generalize hR : regL (notR 0) p = R at h1
  have hRl : R < 4294967296 := by rw [← hR]; exact regL_lt _ _ (notR_lt _ (by decide))
  have hx := x.toNat_lt
  have hy := y.toNat_lt
  have lx : R ^^^ x.toNat < 4294967296 := Nat.xor_lt_two_pow (n := 32) hRl (by omega)
  have ly : R ^^^ y.toNat < 4294967296 := Nat.xor_lt_two_pow (n := 32) hRl (by omega)
  have h2 := regL_inj q _ _ (hvN_lt 8 _ lx) (hvN_lt 8 _ ly) h1
  have h3 := hvN_inj 8 _ _ lx ly h2
  have h4 : x.toNat = y.toNat := by
    have := congrArg (R ^^^ ·) h3
    simpa [← Nat.xor_assoc] using this
  exact UInt8.toNat_inj.1 h4
theorem xor_u8 (a b : Nat) (ha : a < 256) (hb : b < 256) : bits BinOp.xor IntKind.u8 (a : Int) (b : Int) = ((a ^^^ b : Nat) : Int) := by
  have ha' : a % 2 ^ IntKind.u8.bits = a := Nat.mod_eq_of_lt (by simpa [IntKind.bits] using ha)
  have hb' : b % 2 ^ IntKind.u8.bits = b := Nat.mod_eq_of_lt (by simpa [IntKind.bits] using hb)
  simp only [bits, BitVec.ofInt_natCast, BitVec.toNat_xor, BitVec.toNat_ofNat, ha', hb']
  refine wraps_u8 _ (Int.natCast_nonneg _) ?_
  have := Nat.xor_lt_two_pow (n := 8) ha hb
  exact_mod_cast this

theorem set_parts (l : List UInt8) (i : Nat) (h : i < l.length) (y : UInt8) : l = l.take i ++ l[i] :: l.drop (i + 1) ∧ l.set i y = l.take i ++ y :: l.drop (i + 1) := by
  refine ⟨?_, List.set_eq_take_append_cons_drop ▸ ?_⟩
  · rw [List.getElem_cons_drop, List.take_append_drop]
  · simp [h]
end Go.Proofs.Ytoigogjklhahkaa.Crc
