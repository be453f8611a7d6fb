/- Links, plain, and rows of them in memory. -/
import Derived.WalkKit
import Derived.Test.YtaaedgfacnaggaaProg
import Derived.WalkSmall
import Derived.Laws.IdiomStrings
import Derived.Laws.BitsAllLaws
import Derived.Laws.StructEq
import Derived.RegionTactic
import Derived.Deep.RegionWith
import Derived.BigRegion
import Derived.ChangeAlike
import Derived.BigQuiet
import Derived.Deep.QuietTactic
import Derived.OneCell
import Derived.Laws.ResultCell
import Derived.Deep.RegionHeld3
import Derived.Deep.Cut
import Derived.Laws.AppendOwn
import Derived.OwnWalk
set_option linter.unusedVariables false
namespace Go.Proofs.Ytaaedgfacnaggaa.Addr

def hiN (n : Nat) : Nat := n / 18446744073709551616
def loN (n : Nat) : Nat := n % 18446744073709551616
theorem hilo (n : Nat) : n = 18446744073709551616 * hiN n + loN n := by unfold hiN loN; omega
theorem loN_lt (n : Nat) : loN n < 18446744073709551616 := by unfold loN; omega
theorem hiN_lt {n : Nat} (h : n < 2 ^ 128) : hiN n < 18446744073709551616 := by unfold hiN; omega
theorem of_hilo (h l : Nat) (hl : l < 18446744073709551616) : hiN (18446744073709551616 * h + l) = h ∧ loN (18446744073709551616 * h + l) = l := by unfold hiN loN; omega
theorem eq_hilo {n m : Nat} (h1 : hiN n = hiN m) (h2 : loN n = loN m) : n = m := by rw [hilo n, hilo m, h1, h2]
def wideN (six : Bool) : Nat := if six then 128 else 32
theorem wideN_le (six : Bool) : wideN six ≤ 128 := by cases six <;> decide
theorem wideN_ge (six : Bool) : 32 ≤ wideN six := by cases six <;> decide

/- ### bits -/
theorem andNot_pow (a k : Nat) (hk : k ≤ 64) (ha : a < 18446744073709551616) : a &&& (18446744073709551615 - (2 ^ k - 1)) = a - a % 2 ^ k := by
  have hp : 0 < 2 ^ k := Nat.two_pow_pos k
  have hle : 2 ^ k ≤ 2 ^ 64 := Nat.pow_le_pow_right (by decide) hk
  have h1 : 18446744073709551615 - (2 ^ k - 1) = 2 ^ 64 - ((2 ^ k - 1) + 1) := by omega
  have h2 : a - a % 2 ^ k = 2 ^ k * (a / 2 ^ k) := by have := Nat.div_add_mod a (2 ^ k); omega
  rw [h1, h2]
  apply Nat.eq_of_testBit_eq
  intro i
  rw [Nat.testBit_and, Nat.testBit_two_pow_sub_succ (by omega), Nat.testBit_two_pow_sub_one, Nat.testBit_two_pow_mul, Nat.testBit_div_two_pow]
  by_cases hi : i < k
  · simp [hi]; omega
  · have hik : k ≤ i := by omega
    simp [hi, hik]
    intro hb
    by_cases h64 : i < 64
    · exact h64
    · have hlt : a < 2 ^ i := Nat.lt_of_lt_of_le ha (Nat.pow_le_pow_right (n := 2) (by decide) (by omega : 64 ≤ i))
      rw [Nat.testBit_lt_two_pow hlt] at hb
      simp at hb
theorem or_pow (a k : Nat) (h : a % 2 ^ k = 0) : a ||| (2 ^ k - 1) = a + (2 ^ k - 1) := by
  have hp : 0 < 2 ^ k := Nat.two_pow_pos k
  have h2 : a = 2 ^ k * (a / 2 ^ k) := by have := Nat.div_add_mod a (2 ^ k); omega
  have h3 := Nat.two_pow_add_eq_or_of_lt (i := k) (b := 2 ^ k - 1) (by omega) (a / 2 ^ k)
  rw [← h2] at h3
  exact h3.symm

/- ### the last bits -/
def freeN (k : Nat) : Nat := 2 ^ k - 1
def firstN (k n : Nat) : Nat := n - n % 2 ^ k
theorem pow64 (k : Nat) (h : 64 < k) : (2 : Nat) ^ k = 18446744073709551616 * 2 ^ (k - 64) := by
  rw [show (18446744073709551616 : Nat) = 2 ^ 64 by decide, ← Nat.pow_add]; congr 1; omega
theorem free_hi (k : Nat) : hiN (freeN k) = 2 ^ (k - 64) - 1 := by
  unfold hiN freeN
  by_cases h : 64 < k
  · rw [pow64 k h]
    have hp := Nat.two_pow_pos (k - 64)
    omega
  · have hle : 2 ^ k ≤ 2 ^ 64 := Nat.pow_le_pow_right (by decide) (by omega)
    rw [show k - 64 = 0 by omega]
    omega
theorem free_lo (k : Nat) : loN (freeN k) = 2 ^ (min k 64) - 1 := by
  unfold loN freeN
  have hp := Nat.two_pow_pos (k - 64)
  by_cases h : 64 < k
  · rw [pow64 k h, show min k 64 = 64 by omega]
    omega
  · have hle : 2 ^ k ≤ 2 ^ 64 := Nat.pow_le_pow_right (by decide) (by omega)
    have hp := Nat.two_pow_pos k
    rw [show min k 64 = k by omega]
    omega
theorem mod_le64 (n k : Nat) (h : ¬ 64 < k) : n % 2 ^ k = loN n % 2 ^ k := by
  unfold loN
  rw [show (18446744073709551616 : Nat) = 2 ^ 64 by decide, Nat.mod_mod_of_dvd _ (Nat.pow_dvd_pow 2 (by omega))]
theorem mod_gt64 (n k : Nat) (h : 64 < k) : n % 2 ^ k = loN n + 18446744073709551616 * (hiN n % 2 ^ (k - 64)) := by
  unfold loN hiN
  rw [pow64 k h, Nat.mod_mul]
theorem first_hi (k n : Nat) : hiN (firstN k n) = hiN n - hiN n % 2 ^ (k - 64) := by
  have hn := hilo n
  have hl := loN_lt n
  unfold firstN
  by_cases h : 64 < k
  · rw [mod_gt64 n k h]
    have := Nat.mod_le (hiN n) (2 ^ (k - 64))
    generalize hiN n % 2 ^ (k - 64) = m at *
    generalize hiN n = H at *
    generalize loN n = L at *
    subst hn
    unfold hiN; omega
  · rw [mod_le64 n k h, show k - 64 = 0 by omega, Nat.pow_zero, Nat.mod_one]
    have := Nat.mod_le (loN n) (2 ^ k)
    generalize loN n % 2 ^ k = m at *
    generalize hiN n = H at *
    generalize loN n = L at *
    subst hn
    unfold hiN; omega
theorem first_lo (k n : Nat) : loN (firstN k n) = loN n - loN n % 2 ^ (min k 64) := by
  have hn := hilo n
  have hl := loN_lt n
  unfold firstN
  by_cases h : 64 < k
  · rw [mod_gt64 n k h, show min k 64 = 64 by omega]
    have := Nat.mod_le (hiN n) (2 ^ (k - 64))
    generalize hiN n % 2 ^ (k - 64) = m at *
    generalize hiN n = H at *
    generalize loN n = L at *
    subst hn
    unfold loN; omega
  · rw [mod_le64 n k h, show min k 64 = k by omega]
    have := Nat.mod_le (loN n) (2 ^ k)
    generalize loN n % 2 ^ k = m at *
    generalize hiN n = H at *
    generalize loN n = L at *
    subst hn
    unfold loN; omega
theorem first_eq (k n : Nat) : firstN k n = n ↔ n % 2 ^ k = 0 := by
  unfold firstN; have := Nat.mod_le n (2 ^ k); omega
theorem zero_parts {n k : Nat} (h : n % 2 ^ k = 0) : hiN n % 2 ^ (k - 64) = 0 ∧ loN n % 2 ^ (min k 64) = 0 := by
  by_cases hk : 64 < k
  · rw [mod_gt64 n k hk] at h
    rw [show min k 64 = 64 by omega]
    have : loN n < 2 ^ 64 := loN_lt n
    constructor
    · omega
    · rw [show loN n = 0 by omega]
  · rw [mod_le64 n k hk] at h
    rw [show k - 64 = 0 by omega, show min k 64 = k by omega]
    exact ⟨Nat.mod_one _, h⟩
theorem add_free {n k : Nat} (h : n % 2 ^ k = 0) : hiN (n + freeN k) = hiN n + (2 ^ (k - 64) - 1) ∧ loN (n + freeN k) = loN n + (2 ^ (min k 64) - 1) := by
  have h1 := free_hi k
  have h2 := free_lo k
  have hz := zero_parts h
  rw [← h1, ← h2]
  have hn := hilo n
  have hf := hilo (freeN k)
  have hl := loN_lt n
  have hl2 := loN_lt (freeN k)
  have key : loN n + loN (freeN k) < 18446744073709551616 := by
    rw [h2]
    have hm : min k 64 ≤ 64 := by omega
    have e1 : (18446744073709551616 : Nat) = 2 ^ (min k 64) * 2 ^ (64 - min k 64) := by rw [← Nat.pow_add, show min k 64 + (64 - min k 64) = 64 by omega]
    have hz2 := hz.2
    have hp := Nat.two_pow_pos (min k 64)
    rw [e1] at hl ⊢
    generalize 2 ^ (min k 64) = q at *
    generalize 2 ^ (64 - min k 64) = r at *
    generalize loN n = L at *
    have e2 : L = q * (L / q) := by have := Nat.div_add_mod L q; omega
    have e3 : L / q < r := Nat.div_lt_of_lt_mul hl
    have e4 : q * (L / q + 1) ≤ q * r := Nat.mul_le_mul_left q e3
    rw [Nat.mul_add, ← e2] at e4
    omega
  generalize hiN n = H at *
  generalize loN n = L at *
  generalize hHf : hiN (freeN k) = Hf at *
  generalize hLf : loN (freeN k) = Lf at *
  generalize freeN k = f at *
  have := of_hilo (H + Hf) (L + Lf) key
  rw [show n + f = 18446744073709551616 * (H + Hf) + (L + Lf) by omega]
  exact this

/- ### what is asked -/
def rightB (six : Bool) (n : Nat) : Bool := decide (n < 2 ^ wideN six)
def cmpN (n m : Nat) : Int := if n < m then -1 else if n = m then 0 else 1
structure Pf where
  six : Bool
  n : Nat
  len : Int
def okP (p : Pf) : Bool := decide (0 ≤ p.len ∧ p.len ≤ (wideN p.six : Int)) && (rightB p.six p.n && decide (p.n % 2 ^ (wideN p.six - p.len.toNat) = 0))
theorem okP_iff {p : Pf} : okP p = true ↔ (0 ≤ p.len ∧ p.len ≤ (wideN p.six : Int)) ∧ p.n < 2 ^ wideN p.six ∧ p.n % 2 ^ (wideN p.six - p.len.toNat) = 0 := by
  unfold okP rightB
  simp only [Bool.and_eq_true, decide_eq_true_eq]
def checkP (p : Pf) : Int := if okP p = true then 0 else 2
def kP (p : Pf) : Nat := wideN p.six - p.len.toNat
def lastN (p : Pf) : Nat := p.n + freeN (kP p)
def lastE (p : Pf) : Nat × Int := if okP p = true then (lastN p, 0) else (0, 2)
def hasB (p : Pf) (six : Bool) (a : Nat) : Bool := okP p && (decide (p.six = six) && (rightB six a && decide (firstN (kP p) a = p.n)))
def coversB (p q : Pf) : Bool := okP q && (decide (p.len ≤ q.len) && hasB p q.six q.n)
def nextE (six : Bool) (n : Nat) : Nat × Int := if rightB six n = true then (if n = 2 ^ wideN six - 1 then (0, 3) else (n + 1, 0)) else (0, 2)
end Go.Proofs.Ytaaedgfacnaggaa.Addr
namespace Go.Proofs.Ytaaedgfacnaggaa.Addr

theorem okP_len {p : Pf} (h : okP p = true) : kP p ≤ wideN p.six ∧ p.len = (wideN p.six : Int) - (kP p : Int) := by
  have := (okP_iff.1 h).1
  unfold kP
  omega
theorem okP_zero {p : Pf} (h : okP p = true) : p.n % 2 ^ kP p = 0 := (okP_iff.1 h).2.2
theorem okP_lt {p : Pf} (h : okP p = true) : p.n < 2 ^ wideN p.six := (okP_iff.1 h).2.1
theorem mult_room {q r n : Nat} (h0 : n % q = 0) (hd : r % q = 0) (hq : 0 < q) (h : n < r) : n + q ≤ r := by
  have h1 := Nat.div_add_mod n q
  have h2 := Nat.div_add_mod r q
  have e : n / q < r / q := by
    apply Nat.lt_of_mul_lt_mul_left (a := q)
    omega
  have := Nat.mul_le_mul_left q (show n / q + 1 ≤ r / q from e)
  rw [Nat.mul_add] at this
  omega
theorem pow_mod (a b : Nat) (h : a ≤ b) : 2 ^ b % 2 ^ a = 0 := Nat.mod_eq_zero_of_dvd (Nat.pow_dvd_pow 2 h)
theorem last_lt {p : Pf} (h : okP p = true) : lastN p < 2 ^ wideN p.six := by
  have h1 := mult_room (okP_zero h) (pow_mod _ _ (okP_len h).1) (Nat.two_pow_pos _) (okP_lt h)
  have hp := Nat.two_pow_pos (kP p)
  unfold lastN freeN
  omega
theorem cmp_le {n m : Nat} : decide (cmpN n m ≤ 0) = decide (n ≤ m) := by
  unfold cmpN
  split
  · simp; omega
  · split
    · subst n; simp
    · have : ¬ n ≤ m := by omega
      simp [this]
theorem has_bad {p : Pf} (h : okP p = false) (six : Bool) (a : Nat) : hasB p six a = false := by unfold hasB; rw [h]; rfl
theorem has_wrong {p : Pf} {six : Bool} {a : Nat} (h : rightB six a = false) : hasB p six a = false := by unfold hasB; rw [h]; simp
/- ### halves -/
end Go.Proofs.Ytaaedgfacnaggaa.Addr
namespace Go.Proofs.Ytaaedgfacnaggaa.Addr
open Go.RowKit

theorem below2 {a b c : World} (h1 : Below a.heap.size a b) (h2 : Below b.heap.size b c) : Below a.heap.size a c := h1.trans (h2.mono h1.size)
theorem below_drew {B : Nat} {w0 w : World} (h : Below B w0 w) : Below B w0 w.drew := h.trans ⟨rfl, rfl, rfl, Nat.le_refl _, fun _ _ => rfl⟩
theorem below_new {w0 w : World} (h : Below w0.heap.size w0 w) (o : Obj) : Below w0.heap.size w0 (w.alloc o) := h.alloc h.size _
theorem bset {B b k : Nat} {w0 w : World} {v : Value} (h : Below B w0 w) (hB : B ≤ b) : Below B w0 (w.setCell ⟨b, k, none⟩ v) := h.setCell (p := ⟨b, k, none⟩) hB v
def RowAt (W : World) (g : Nat) (cs : List Value) (t : TypeId) : Prop := W.heap[g]? = some (.cells cs.toArray t (0, 0))
theorem RowAt.lt {W : World} {g : Nat} {cs : List Value} {t : TypeId} (h : RowAt W g cs t) : g < W.heap.size := (Array.getElem?_eq_some_iff.1 h).1
theorem RowAt.cell {W : World} {g : Nat} {cs : List Value} {t : TypeId} (h : RowAt W g cs t) (k : Nat) : W.cell? ⟨g, k, none⟩ = cs[k]? := by
  unfold RowAt at h; simp [World.cell?, h]
theorem RowAt.frozen {W : World} {g : Nat} {cs : List Value} {t : TypeId} (h : RowAt W g cs t) (k : Nat) : W.frozen? ⟨g, k, none⟩ = false := by
  unfold RowAt at h; simp [World.frozen?, h]
theorem RowAt.below {W W' : World} {g : Nat} {cs : List Value} {t : TypeId} (h : RowAt W g cs t) (hb : Below W.heap.size W W') : RowAt W' g cs t := (hb.block g h.lt).trans h
theorem RowAt.drew {W : World} {g : Nat} {cs : List Value} {t : TypeId} (h : RowAt W g cs t) : RowAt W.drew g cs t := h
theorem RowAt.new (W : World) (cs : List Value) (t : TypeId) : RowAt (W.alloc (.cells cs.toArray t)) W.heap.size cs t := by unfold RowAt; simp only [World.alloc, Array.getElem?_push_size]
theorem RowAt.alloc {W : World} {g : Nat} {cs : List Value} {t : TypeId} (h : RowAt W g cs t) (o : Obj) : RowAt (W.alloc o) g cs t := h.below ((Below.refl _ W).alloc (Nat.le_refl _) _)

theorem gdrew {X W : World} {r : Option Nat} (h : X.grownBy W r) : X.grownBy W.drew r := ⟨h.os, h.tape, h.output, h.size, fun k hk hn => h.block k hk hn⟩
theorem gset {X W : World} {b k : Nat} {v : Value} (h : X.grownBy W (some b)) : X.grownBy (W.setCell ⟨b, k, none⟩ v) (some b) := by
  have hb : Below b W (W.setCell ⟨b, k, none⟩ v) := (Below.refl b W).setCell (p := ⟨b, k, none⟩) (Nat.le_refl _) v
  refine ⟨hb.os.trans h.os, hb.tape.trans h.tape, hb.output.trans h.output, Nat.le_trans h.size hb.size, fun j hj hn => ?_⟩
  have hne : j ≠ b := fun e => hn (by rw [e])
  refine Eq.trans ?_ (h.block j hj hn)
  simp only [World.setCell]
  rw [Array.getElem?_modify, if_neg (fun e => hne e.symm)]
theorem gbelow {X W W' : World} {r : Option Nat} (h : X.grownBy W r) (hb : Below W.heap.size W W') : X.grownBy W' r :=
  ⟨hb.os.trans h.os, hb.tape.trans h.tape, hb.output.trans h.output, Nat.le_trans h.size hb.size, fun j hj hn => (hb.block j (Nat.lt_of_lt_of_le hj h.size)).trans (h.block j hj hn)⟩
theorem grefl (X : World) (r : Option Nat) : X.grownBy X r := ⟨rfl, rfl, rfl, Nat.le_refl _, fun _ _ _ => rfl⟩
theorem RowAt.gkeep {X W : World} {g : Nat} {cs : List Value} {t : TypeId} {r : Option Nat} (h : RowAt X g cs t) (hg : X.grownBy W r) (hne : some g ≠ r) : RowAt W g cs t := (hg.block g h.lt hne).trans h
theorem gfinal {w X W : World} {b : Nat} (h0 : Below w.heap.size w X) (hg : X.grownBy W (some b)) (hb : w.heap.size ≤ b) : Below w.heap.size w W :=
  ⟨hg.os.trans h0.os, hg.tape.trans h0.tape, hg.output.trans h0.output, Nat.le_trans h0.size hg.size, fun k hk => (hg.block k (Nat.lt_of_lt_of_le hk h0.size) (fun e => by injection e with e; omega)).trans (h0.block k hk)⟩
theorem cells2 {W : World} {b : Nat} {x y : Value} {t : TypeId} (h : RowAt W b [x, y] t) : W.cell? ⟨b, 0, none⟩ = some x ∧ W.cell? ⟨b, 1, none⟩ = some y ∧ ∀ k, W.frozen? ⟨b, k, none⟩ = false := ⟨h.cell 0, h.cell 1, h.frozen⟩
theorem cells4 {W : World} {b : Nat} {x y z u : Value} {t : TypeId} (h : RowAt W b [x, y, z, u] t) : W.cell? ⟨b, 0, none⟩ = some x ∧ W.cell? ⟨b, 1, none⟩ = some y ∧ W.cell? ⟨b, 2, none⟩ = some z ∧ W.cell? ⟨b, 3, none⟩ = some u ∧ ∀ k, W.frozen? ⟨b, k, none⟩ = false := ⟨h.cell 0, h.cell 1, h.cell 2, h.cell 3, h.frozen⟩

/-- an address as a value -/
def adV (n : Nat) : Value := .agg #[.int .u64 (hiN n : Int), .int .u64 (loN n : Int)]
def pfV (p : Pf) : Value := .agg #[.bool p.six, .int .u64 (hiN p.n : Int), .int .u64 (loN p.n : Int), .int .i64 p.len]
theorem results_cell {fn : Func} {p : Tmp} {ty : TypeId} (h : fn.results = #[.cell p ty]) (tmps : Array Value) (P : Program) (w : World) :
    (results fn tmps).run P w = ((asAddr (tmps.getD p undef)).run P w).andThen fun a w₁ => (loadVar ty a).run P w₁ := by
  simp only [results, h]
  simp [Sem.run_bind, Result.andThen]
theorem styleOf_any (six : Bool) (w : World) : Calls Try.prog 39 #[.bool six] w fun e w' => e = .returned (.agg (if six then #[.int .i64 128, .int .i64 16, .int .i64 16, .string ⟨#[58]⟩] else #[.int .i64 32, .int .i64 8, .int .i64 10, .string ⟨#[46]⟩])) ∧ Below w.heap.size w w' := by
  cases six
  · go_enter Try.func39, Try.ntmps39
    go_wp2
    (try simp only [Exit.inBlock, Exit.then])
    refine bodyPost_ret (v := .agg #[.int .i64 32, .int .i64 8, .int .i64 10, .string ⟨#[46]⟩]) ?_ rfl ⟨rfl, (Below.refl _ w).alloc (Nat.le_refl _) _⟩
    rw [results_cell rfl]
    go_simp
  · go_enter Try.func39, Try.ntmps39
    go_wp2
    (try simp only [Exit.inBlock, Exit.then])
    refine bodyPost_ret (v := .agg #[.int .i64 128, .int .i64 16, .int .i64 16, .string ⟨#[58]⟩]) ?_ rfl ⟨rfl, (Below.refl _ w).alloc (Nat.le_refl _) _⟩
    rw [results_cell rfl]
    go_simp
theorem wrap_pow (k : Nat) (h : k ≤ 64) : IntKind.u64.wrap (IntKind.u64.wrap (2 ^ k) - 1) = ((2 ^ k - 1 : Nat) : Int) := by
  have hp := Nat.two_pow_pos k
  have hle : (2 : Nat) ^ k ≤ 2 ^ 64 := Nat.pow_le_pow_right (by decide) h
  have e : (2 : Int) ^ k = ((2 ^ k : Nat) : Int) := by simp
  rw [e]
  generalize 2 ^ k = q at *
  rw [IntKind.wrap_u64, IntKind.wrap_u64]
  omega
theorem tail_any (k : Nat) (w : World) (hk : k ≤ 128) : Calls Try.prog 38 #[.int .i64 (k : Int)] w fun e w' => e = .returned (adV (freeN k)) ∧ Below w.heap.size w w' := by
  have h1 := free_hi k
  have h2 := free_lo k
  have HV : Hid (adV (freeN k) = .agg #[.int .u64 ((2 ^ (k - 64) - 1 : Nat) : Int), .int .u64 ((2 ^ (min k 64) - 1 : Nat) : Int)]) := by show _ = _; unfold adV; rw [h1, h2]
  generalize adV (freeN k) = V at HV ⊢
  clear h1 h2
  have hki : (k : Int) ≤ 128 := by omega
  have hp64 : (2 : Nat) ^ k ≤ 2 ^ 128 := Nat.pow_le_pow_right (by decide) hk
  by_cases h64 : 64 < k
  · go_enter Try.func38, Try.ntmps38
    go_wp2
    go_region
    go_wp2
    (try simp only [Exit.inBlock, Exit.then])
    refine bodyPost_ret (v := .agg #[.int .u64 (IntKind.u64.wrap (IntKind.u64.wrap (2 ^ (k - 64)) - 1)), .int .u64 (IntKind.u64.wrap (IntKind.u64.wrap 18446744073709551616 - 1))]) ?_ rfl ⟨?_, below_drew ((Below.refl _ w).alloc (Nat.le_refl _) _)⟩
    · rw [results_cell rfl]
      go_simp
    · rw [HV.out, wrap_pow _ (by omega), show min k 64 = 64 by omega]
      rfl
  · by_cases h63 : k = 64
    · subst h63
      go_enter Try.func38, Try.ntmps38
      go_wp2
      go_region
      go_wp2
      (try simp only [Exit.inBlock, Exit.then])
      refine bodyPost_ret (v := .agg #[.int .u64 0, .int .u64 18446744073709551615]) ?_ rfl ⟨?_, below_drew ((Below.refl _ w).alloc (Nat.le_refl _) _)⟩
      · rw [results_cell rfl]
        go_simp
        rfl
      · rw [HV.out]; rfl
    · have hlt : (k : Int) - 64 < 0 := by omega
      go_enter Try.func38, Try.ntmps38
      go_wp2
      go_region
      go_wp2
      (try simp only [Exit.inBlock, Exit.then])
      refine bodyPost_ret (v := .agg #[.int .u64 0, .int .u64 (IntKind.u64.wrap (IntKind.u64.wrap (2 ^ k) - 1))]) ?_ rfl ⟨?_, below_drew ((Below.refl _ w).alloc (Nat.le_refl _) _)⟩
      · rw [results_cell rfl]
        go_simp
      · rw [HV.out, wrap_pow _ (by omega), show min k 64 = k by omega, show k - 64 = 0 by omega]; rfl
theorem compare_any (x y : Nat) (w : World) (hx : (x : Int) ≤ 18446744073709551615) (hy : (y : Int) ≤ 18446744073709551615) : Calls Try.prog 60 #[.int .u64 (x : Int), .int .u64 (y : Int)] w fun e w' => e = .returned (.int .i64 (cmpN x y)) ∧ w' = w := by
  have HB : Hid (cmpN x y = if x < y then -1 else if x = y then 0 else 1) := rfl
  generalize cmpN x y = R at HB ⊢
  by_cases h1 : x < y
  · have HV : Hid (R = -1) := by show _ = _; rw [HB.out, if_pos h1]
    clear HB
    go_enter Try.func60, Try.ntmps60
    go_wp2
    go_ret
    exact ⟨by rw [HV.out]; rfl, rfl⟩
  · have h3 : decide ((x : Int) < (y : Int)) = false := by rw [decide_eq_false_iff_not]; omega
    have h3' : decide (x < y) = false := by rw [decide_eq_false_iff_not]; omega
    by_cases h2 : y < x
    · have h4 : decide ((y : Int) < (x : Int)) = true := by rw [decide_eq_true_iff]; omega
      have h4' : decide (y < x) = true := by rw [decide_eq_true_iff]; omega
      have HV : Hid (R = 1) := by show _ = _; rw [HB.out, if_neg h1, if_neg (by omega)]
      clear HB
      go_enter Try.func60, Try.ntmps60
      go_wp2
      go_ret
      exact ⟨by rw [HV.out]; rfl, rfl⟩
    · have h4 : decide ((y : Int) < (x : Int)) = false := by rw [decide_eq_false_iff_not]; omega
      have h4' : decide (y < x) = false := by rw [decide_eq_false_iff_not]; omega
      have HV : Hid (R = 0) := by show _ = _; rw [HB.out, if_neg h1, if_pos (by omega)]
      clear HB
      go_enter Try.func60, Try.ntmps60
      go_wp2
      go_ret
      exact ⟨by rw [HV.out]; rfl, rfl⟩
end Go.Proofs.Ytaaedgfacnaggaa.Addr
namespace Go.Proofs.Ytaaedgfacnaggaa.Addr
open Go.RowKit

theorem or_any (a b : Int) (g : Nat) (w : World) (hg : RowAt w g [.int .i64 a, .int .i64 b] 3) : Calls Try.prog 44 #[.slice (some ⟨g, 0, none⟩) 2 2] w fun e w' => e = .returned (.int .i64 (if a = 0 then b else a)) ∧ w' = w := by
  have q0 : w.cell? ⟨g, 0, none⟩ = some (.int .i64 a) := hg.cell 0
  have q1 : w.cell? ⟨g, 1, none⟩ = some (.int .i64 b) := hg.cell 1
  have HR : Hid ((a ≠ 0 → (if a = 0 then b else a) = a) ∧ (a = 0 → (if a = 0 then b else a) = b)) := ⟨fun h => if_neg h, fun h => if_pos h⟩
  generalize (if a = 0 then b else a) = R at HR ⊢
  clear hg
  go_enter Try.func44, Try.ntmps44
  go_wp2
  go_loop [8] (fun i => ∃ k : Nat, k ≤ 2 ∧ i = .int .i64 (k : Int) ∧ (1 ≤ k → a = 0) ∧ (2 ≤ k → b = 0)) (fun i => 2 - (intOf i).toNat)
  case atStart => exact ⟨0, by omega, rfl, by omega, by omega⟩
  case round =>
    obtain ⟨k, hk, rfl, h1, h2⟩ := hrel
    have hk3 : k = 0 ∨ k = 1 ∨ k = 2 := by omega
    rcases hk3 with rfl | rfl | rfl
    · by_cases ha : a = 0
      · subst ha
        go_wp2
        go_round
        case rel => exact ⟨1, by omega, rfl, fun _ => by trivial, by omega⟩
        case measure => simp [intOf]
      · have HV : Hid (R = a) := HR.out.1 ha
        have ha2 : (a != 0) = true := by simpa using ha
        go_wp2
        go_ret
        exact ⟨by rw [HV.out]; rfl, rfl⟩
    · have ha := h1 (by omega)
      have HV : Hid (R = b) := HR.out.2 ha
      have HA : Hid (a = 0) := ha
      clear h1 h2 ha
      by_cases hb : b = 0
      · subst hb
        go_wp2
        go_round
        case rel => exact ⟨2, by omega, rfl, fun _ => HA.out, fun _ => by trivial⟩
        case measure => simp [intOf]
      · have hb2 : (b != 0) = true := by simpa using hb
        go_wp2
        go_ret
        exact ⟨by rw [HV.out]; rfl, rfl⟩
    · have HV : Hid (R = 0) := by show _ = _; rw [HR.out.2 (h1 (by omega)), h2 (by omega)]
      clear h1 h2
      go_wp2
      go_ret
      exact ⟨by rw [HV.out]; rfl, rfl⟩
theorem cmp_lt {n m : Nat} (h : n < m) : cmpN n m = -1 := if_pos h
theorem cmp_eq (n : Nat) : cmpN n n = 0 := by unfold cmpN; rw [if_neg (by omega), if_pos rfl]
theorem cmp_gt {n m : Nat} (h : m < n) : cmpN n m = 1 := by unfold cmpN; rw [if_neg (by omega), if_neg (by omega)]
theorem cmp_parts (n m : Nat) : (if cmpN (hiN n) (hiN m) = 0 then cmpN (loN n) (loN m) else cmpN (hiN n) (hiN m)) = cmpN n m := by
  have e1 := hilo n
  have e2 := hilo m
  have l1 := loN_lt n
  have l2 := loN_lt m
  generalize hiN n = a at *
  generalize hiN m = b at *
  generalize loN n = c at *
  generalize loN m = d at *
  rcases Nat.lt_trichotomy a b with h | rfl | h
  · rw [cmp_lt h, cmp_lt (n := n) (m := m) (by omega)]; rfl
  · rw [cmp_eq, if_pos rfl]
    rcases Nat.lt_trichotomy c d with h | rfl | h
    · rw [cmp_lt h, cmp_lt (n := n) (m := m) (by omega)]
    · rw [e1, e2, cmp_eq, cmp_eq]
    · rw [cmp_gt h, cmp_gt (n := n) (m := m) (by omega)]
  · rw [cmp_gt h, cmp_gt (n := n) (m := m) (by omega)]; rfl
set_option maxHeartbeats 4000000 in
theorem cmp_any (n m : Nat) (w : World) (hn : n < 2 ^ 128) (hm : m < 2 ^ 128) : Calls Try.prog 36 #[adV n, adV m] w fun e w' => e = .returned (.int .i64 (cmpN n m)) ∧ Below w.heap.size w w' := by
  have c1 := fun w => compare_any (hiN n) (hiN m) w (by have := hiN_lt hn; omega) (by have := hiN_lt hm; omega)
  have c2 := fun w => compare_any (loN n) (loN m) w (by have := loN_lt n; omega) (by have := loN_lt m; omega)
  have HR : Hid ((if cmpN (hiN n) (hiN m) = 0 then cmpN (loN n) (loN m) else cmpN (hiN n) (hiN m)) = cmpN n m) := cmp_parts n m
  unfold adV
  generalize cmpN (hiN n) (hiN m) = x at *
  generalize cmpN (loN n) (loN m) = y at *
  generalize cmpN n m = R at HR ⊢
  have c3 := fun g w h => or_any x y g w h
  rw [HR.out] at c3
  clear HR
  generalize hiN n = a at *
  generalize hiN m = b at *
  generalize loN n = c at *
  generalize loN m = d at *
  clear hn hm
  have h3 : RowAt (((w.alloc (.cells #[.int .u64 (a : Int), .int .u64 (c : Int)] 25)).alloc (.cells #[.int .u64 (b : Int), .int .u64 (d : Int)] 25)).alloc (.cells #[.int .i64 x, .int .i64 y] 3)).drew (w.heap.size + 1 + 1) [.int .i64 x, .int .i64 y] 3 := by
    have := RowAt.new ((w.alloc (.cells #[.int .u64 (a : Int), .int .u64 (c : Int)] 25)).alloc (.cells #[.int .u64 (b : Int), .int .u64 (d : Int)] 25)) [.int .i64 x, .int .i64 y] 3
    rw [World.size_alloc, World.size_alloc] at this
    exact this.drew
  have hB : Below w.heap.size w (((w.alloc (.cells #[.int .u64 (a : Int), .int .u64 (c : Int)] 25)).alloc (.cells #[.int .u64 (b : Int), .int .u64 (d : Int)] 25)).alloc (.cells #[.int .i64 x, .int .i64 y] 3)).drew := below_drew (below_new (below_new (below_new (Below.refl _ w) _) _) _)
  go_enter Try.func36, Try.ntmps36
  go_wp2_with fail
  go_region_held3 (fun w' => w'.cell? ⟨w.heap.size, 0, none⟩ = some (.int .u64 (a : Int)) ∧ w'.cell? ⟨w.heap.size, 1, none⟩ = some (.int .u64 (c : Int)) ∧ w'.cell? ⟨w.heap.size + 1, 0, none⟩ = some (.int .u64 (b : Int)) ∧ w'.cell? ⟨w.heap.size + 1, 1, none⟩ = some (.int .u64 (d : Int)))
    (go_keep)
    (first
    | (go_at_call 60; with_reducible refine (c1 _).mono ?_; rintro e w2 ⟨rfl, rfl⟩)
    | (go_at_call 60; with_reducible refine (c2 _).mono ?_; rintro e w2 ⟨rfl, rfl⟩)
    | (go_at_call 44; with_reducible refine (c3 _ _ h3).mono ?_; rintro e w2 ⟨rfl, rfl⟩))
  go_wp2_with fail
  go_ret
  exact ⟨rfl, hB⟩
end Go.Proofs.Ytaaedgfacnaggaa.Addr
namespace Go.Proofs.Ytaaedgfacnaggaa.Addr
open Go.RowKit

theorem styleOf_wide (six : Bool) (w : World) : Calls Try.prog 39 #[.bool six] w fun e w' => ∃ (a b : Int) (c : ByteArray), e = .returned (.agg #[.int .i64 (wideN six : Int), .int .i64 a, .int .i64 b, .string c]) ∧ Below w.heap.size w w' := (styleOf_any six w).mono (by
  rintro e w' ⟨rfl, hb⟩
  cases six
  · exact ⟨_, _, _, rfl, hb⟩
  · exact ⟨_, _, _, rfl, hb⟩)
theorem field_style (x a b c : Value) (w : World) : (Instr.field 76 (.agg #[x, a, b, c]) 0).run Try.prog w = .ok x w := by
  have u := Try.underlying76
  have z := Try.sizeOf3
  have g := Try.isAgg3
  simp only [Instr.field]
  go_simp
  rfl
set_option maxHeartbeats 1000000 in
theorem free_any (p : Pf) (w : World) (hl : 0 ≤ p.len ∧ p.len ≤ (wideN p.six : Int)) : Calls Try.prog 56 #[pfV p] w fun e w' => e = .returned (adV (freeN (kP p))) ∧ Below w.heap.size w w' := by
  have hfd := field_style
  have cs := fun w => styleOf_wide p.six w
  have ct := fun w => tail_any (kP p) w (by have := wideN_le p.six; unfold kP; omega)
  have hk : (wideN p.six : Int) - p.len = (kP p : Int) := by unfold kP; omega
  have hw : (wideN p.six : Int) ≤ 128 := by have := wideN_le p.six; omega
  have hki : (kP p : Int) ≤ 128 := by omega
  have hwr : IntKind.i64.wrap (kP p : Int) = (kP p : Int) := by rw [IntKind.wrap_i64]; omega
  unfold pfV adV
  unfold adV at ct
  generalize kP p = k at *
  generalize freeN k = f at *
  generalize hiN f = fh at *
  generalize loN f = fl at *
  obtain ⟨six, n, len⟩ := p
  simp only at *
  generalize hiN n = h at *
  generalize loN n = l at *
  generalize (wideN six : Int) = wd at *
  obtain ⟨X, hX⟩ : ∃ X, X = (w.alloc (.cells #[.bool six, .int .u64 (h : Int), .int .u64 (l : Int), .int .i64 len] 32)).alloc (.cells #[.int .u64 0, .int .u64 0] 25) := ⟨_, rfl⟩
  have hB0 : Below w.heap.size w X := by rw [hX]; exact below_new (below_new (Below.refl _ _) _) _
  have r0 : RowAt X w.heap.size [.bool six, .int .u64 (h : Int), .int .u64 (l : Int), .int .i64 len] 32 := by rw [hX]; exact (RowAt.new _ _ _).alloc _
  have r1 : RowAt X (w.heap.size + 1) [.int .u64 0, .int .u64 0] 25 := by rw [hX, ← World.size_alloc w (.cells #[.bool six, .int .u64 (h : Int), .int .u64 (l : Int), .int .i64 len] 32)]; exact RowAt.new _ _ _
  have HSK : Hid (∀ W, X.grownBy W (some (w.heap.size + 1)) → (W.cell? ⟨w.heap.size, 0, none⟩ = some (.bool six) ∧ W.cell? ⟨w.heap.size, 3, none⟩ = some (.int .i64 len))) := fun W hb => by
    have q := cells4 (r0.gkeep hb (by simp))
    exact ⟨q.1, q.2.2.2.1⟩
  have HR1 : Hid (∀ W, Below X.heap.size X W → RowAt W (w.heap.size + 1) [.int .u64 0, .int .u64 0] 25) := fun W hb => r1.below hb
  clear r0 r1
  go_enter Try.func56, Try.ntmps56
  go_upto_region 1 with fail
  rw [← hX]
  clear hX
  have hbA : Below X.heap.size X X := Below.refl _ _
  have hgA : X.grownBy X (some (w.heap.size + 1)) := grefl _ _
  go_region_held3 (fun w' => w'.cell? ⟨w.heap.size, 0, none⟩ = some (.bool six) ∧ w'.cell? ⟨w.heap.size, 3, none⟩ = some (.int .i64 len))
    (first
      | (refine HSK.out _ ?_
         repeat' (first | with_reducible exact hgA | with_reducible apply gdrew | with_reducible apply gset)))
    (first
      | (go_at_call 39; with_reducible refine (cs _).mono ?_; rintro e w2 ⟨sa, sb, sc, rfl, hb2⟩
         have hbN : Below X.heap.size X w2 := below2 (by repeat' (first | with_reducible exact hbA | with_reducible apply below_drew)) hb2
         have hgN : X.grownBy w2 (some (w.heap.size + 1)) := gbelow (by repeat' (first | with_reducible exact hgA | with_reducible apply gdrew)) hb2
         clear hbA hgA
         have hbA := hbN
         have hgA := hgN
         clear hbN hb2 hgN)
      | (go_at_call 38; with_reducible refine (ct _).mono ?_; rintro e w2 ⟨rfl, hb2⟩
         have hbN : Below X.heap.size X w2 := below2 (by repeat' (first | with_reducible exact hbA | with_reducible apply below_drew)) hb2
         have hgN : X.grownBy w2 (some (w.heap.size + 1)) := gbelow (by repeat' (first | with_reducible exact hgA | with_reducible apply gdrew)) hb2
         clear hbA hgA
         have hbA := hbN
         have hgA := hgN
         clear hbN hb2 hgN
         obtain ⟨q0, q1, qf⟩ := cells2 (HR1.out _ hbA)))
  go_wp2_with fail
  (try simp only [Exit.inBlock, Exit.then])
  refine bodyPost_ret (v := .agg #[.int .u64 (fh : Int), .int .u64 (fl : Int)]) ?_ rfl ⟨rfl, gfinal hB0 (gset (gset hgA)) (by omega)⟩
  rw [results_cell rfl]
  go_simp
end Go.Proofs.Ytaaedgfacnaggaa.Addr
namespace Go.Proofs.Ytaaedgfacnaggaa.Addr
open Go.RowKit

structure Bl (w : World) where
  W : World
  h : Below w.heap.size w W
theorem bl_ne (w : World) : Nonempty (Bl w) := ⟨⟨w, Below.refl _ _⟩⟩
theorem wp_region_bl {P : Program} {id : Nat} {Q : Exit → Act → World → Prop} {a : Act} {w : World} {l : List Oper} (hm : P.follows .mixedOrders = true) (hB : Region.lexB .any l.toArray = true)
    (h : wpQuiet P l.toArray (fun w' => ∃ p : Bl w, w' = p.W) (fun a' => ∀ w', (∃ p : Bl w, w' = p.W) → Q .normal a' w') l a) : (Code.region id l.toArray true).wp P Q a w :=
  wp_region_quiet (C := fun w' => ∃ p : Bl w, w' = p.W) hm hB ⟨⟨w.drew, (Below.refl _ _).drew⟩, rfl⟩ (by simpa using h)
theorem bl_call {P : Program} {f : FuncId} {args : Array Value} {w : World} {p : Bl w} {v : Value}
    (h : Calls P f args p.W fun e w' => e = .returned v ∧ Below p.W.heap.size p.W w') : Calls P f args p.W fun e w'' => e = .returned v ∧ ∃ q : Bl w, w'' = q.W :=
  h.mono fun _ w' ⟨he, hb⟩ => ⟨he, ⟨w', p.h.trans (hb.mono p.h.size)⟩, rfl⟩
theorem bl_same {P : Program} {f : FuncId} {args : Array Value} {w : World} {p : Bl w} {v : Value}
    (h : Calls P f args p.W fun e w' => e = .returned v ∧ w' = p.W) : Calls P f args p.W fun e w'' => e = .returned v ∧ ∃ q : Bl w, w'' = q.W :=
  h.mono fun _ w' ⟨he, hb⟩ => ⟨he, p, hb⟩
end Go.Proofs.Ytaaedgfacnaggaa.Addr
namespace Go.Proofs.Ytaaedgfacnaggaa.Lk
open Go.RowKit
/-- a link, plain -/
structure Lk where
  iface : Int
  peer : Int
/-- a row that lies in memory: n elements of sz cells each -/
def HasRow (W : World) (v : Value) (sz n : Nat) (cs : List Value) : Prop :=
  cs.length = n * sz ∧ ((v = .slice none 0 0 ∧ n = 0) ∨ ∃ a cap, v = .slice (some a) n cap ∧ n ≤ cap ∧ cap ≤ 9223372036854775807 ∧ (0 < n → a.spot = none ∧ a.block < W.heap.size) ∧ ∀ j, j < n * sz → W.cell? (a.add j) = cs[j]?)
theorem addr_add (b o j : Nat) : (⟨b, o, none⟩ : Addr).add j = ⟨b, o + j, none⟩ := by unfold Addr.add; split <;> simp_all
theorem hasRow_nil (W : World) (sz : Nat) : HasRow W (.slice none 0 0) sz 0 [] := ⟨by simp, .inl ⟨rfl, rfl⟩⟩
theorem hasRow_own {W : World} {B e sz n : Nat} {v : Value} {cs : List Value} (h : W.ownsRow B e sz v n cs) : HasRow W v sz n cs := by
  refine ⟨h.1, ?_⟩
  rcases h.2 with h0 | ⟨g, cap, cur, rfl, hg, hgb, hnc, hcm, rest⟩
  · exact .inl h0
  · refine .inr ⟨⟨g, 0, none⟩, cap, rfl, hnc, by unfold maxLen at hcm; exact hcm, fun _ => ⟨rfl, (Array.getElem?_eq_some_iff.1 hgb).1⟩, fun j hj => ?_⟩
    rw [← h.cellAt j hj, addr_add, Nat.zero_add]
theorem HasRow.keep {W W' : World} {v : Value} {sz n : Nat} {cs : List Value} (h : HasRow W v sz n cs) (hb : Below W.heap.size W W') : HasRow W' v sz n cs := by
  refine ⟨h.1, ?_⟩
  rcases h.2 with h0 | ⟨a, cap, e, h1, h2, h3, h4⟩
  · exact .inl h0
  · refine .inr ⟨a, cap, e, h1, h2, fun h => ⟨(h3 h).1, Nat.lt_of_lt_of_le (h3 h).2 hb.size⟩, fun j hj => ?_⟩
    have hn : 0 < n := by rcases Nat.eq_zero_or_pos n with h0 | h0; rw [h0] at hj; omega; exact h0
    obtain ⟨b, i, s⟩ := a
    obtain ⟨hs, hlt⟩ := h3 hn
    simp only at hs hlt
    subst hs
    have h5 := h4 j hj
    rw [addr_add] at h5 ⊢
    rw [← h5]
    exact hb.cell (p := ⟨b, i + j, none⟩) hlt
theorem HasRow.slice {W : World} {v : Value} {sz n : Nat} {cs : List Value} (h : HasRow W v sz n cs) : ∃ o cap, v = .slice o n cap ∧ n ≤ cap ∧ cap ≤ 9223372036854775807 := by
  rcases h.2 with ⟨h0, rfl⟩ | ⟨a, cap, e, h1, h2, h3, h4⟩
  · exact ⟨none, 0, h0, Nat.le_refl _, by omega⟩
  · exact ⟨some a, cap, e, h1, h2⟩
theorem HasRow.at {W : World} {o : Option Addr} {m cap sz n : Nat} {cs : List Value} (h : HasRow W (.slice o m cap) sz n cs) (hn : 0 < n) : m = n ∧ ∃ b i, o = some ⟨b, i, none⟩ ∧ b < W.heap.size ∧ ∀ j, j < n * sz → W.cell? ⟨b, i + j, none⟩ = cs[j]? := by
  rcases h.2 with ⟨h0, h1⟩ | ⟨a, c, e, h1, h2, h3, h4⟩
  · omega
  · injection e with e1 e2 e3
    subst e1
    obtain ⟨b, i, s⟩ := a
    obtain ⟨hs, hlt⟩ := h3 hn
    simp only at hs hlt
    subst hs
    exact ⟨e2, b, i, rfl, hlt, fun j hj => by rw [← h4 j hj, addr_add]⟩
end Go.Proofs.Ytaaedgfacnaggaa.Lk
