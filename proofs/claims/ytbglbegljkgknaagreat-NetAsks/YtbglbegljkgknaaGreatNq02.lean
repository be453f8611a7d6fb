/- What num.Zig, num.Zag, num.Put and their counterparts of the document's answer return, for every input. -/
import Derived.Test.YtbglbegljkgknaaGreatNq01
import Derived.WalkKit
import Derived.Deep.QuietTactic
import Derived.BigQuiet
import Derived.Laws.AppendOwn
import Derived.OwnWalk
import Derived.WalkSmall
import Derived.Laws.BitsLemmas
import Derived.Lib.BitFns
import Derived.Test.YtbglbegljkgknaaGreatShelf
import Derived.Laws.IdiomStrings
import Derived.RegionTactic
import Derived.Deep.RegionWith
import Derived.BigRegion
import Derived.ChangeAlike
set_option linter.unusedVariables false
namespace Go.Proofs.YtbglbegljkgknaaGreat.Addr
open Go.RowKit

structure Bl (w : World) where
  W : World
  h : Below w.heap.size w W
theorem bl_ne (w : World) : Nonempty (Bl w) := ⟨⟨w, Below.refl _ _⟩⟩
theorem wp_region_bl {P : Program} {id : Nat} {Q : Exit → Act → World → Prop} {a : Act} {w : World} {l : List Oper} (hm : P.follows .mixedOrders = true) (hB : Region.lexB .any l.toArray = true)
    (h : wpQuiet P l.toArray (fun w' => ∃ p : Bl w, w' = p.W) (fun a' => ∀ w', (∃ p : Bl w, w' = p.W) → Q .normal a' w') l a) : (Code.region id l.toArray true).wp P Q a w :=
  wp_region_quiet (C := fun w' => ∃ p : Bl w, w' = p.W) hm hB ⟨⟨w.drew, (Below.refl _ _).drew⟩, rfl⟩ (by simpa using h)
theorem bl_call {P : Program} {f : FuncId} {args : Array Value} {w : World} {p : Bl w} {v : Value}
    (h : Calls P f args p.W fun e w' => e = .returned v ∧ Below p.W.heap.size p.W w') : Calls P f args p.W fun e w'' => e = .returned v ∧ ∃ q : Bl w, w'' = q.W :=
  h.mono fun _ w' ⟨he, hb⟩ => ⟨he, ⟨w', p.h.trans (hb.mono p.h.size)⟩, rfl⟩
theorem bl_same {P : Program} {f : FuncId} {args : Array Value} {w : World} {p : Bl w} {v : Value}
    (h : Calls P f args p.W fun e w' => e = .returned v ∧ w' = p.W) : Calls P f args p.W fun e w'' => e = .returned v ∧ ∃ q : Bl w, w'' = q.W :=
  h.mono fun _ w' ⟨he, hb⟩ => ⟨he, p, hb⟩
end Go.Proofs.YtbglbegljkgknaaGreat.Addr
namespace Go.Proofs.YtbglbegljkgknaaGreat.Lk
open Go.RowKit
open Go.Proofs.YtbglbegljkgknaaGreat.Addr (RowAt below2 below_drew below_new bset)
/-- a link, plain -/
structure Lk where
  iface : Int
  peer : Int
def lkC (x : Lk) : List Value := [.int .i64 x.iface, .int .i64 x.peer]
def lkV (x : Lk) : Value := .agg (lkC x).toArray
def FitL (x : Lk) : Prop := (-9223372036854775808 ≤ x.iface ∧ x.iface ≤ 9223372036854775807) ∧ (-9223372036854775808 ≤ x.peer ∧ x.peer ≤ 9223372036854775807)
def okK (x : Lk) : Bool := decide (0 ≤ x.iface) && decide (x.iface ≤ 65536) && decide (0 ≤ x.peer) && decide (x.peer ≤ 1048576)
/-- the links rise by interface behind a bound -/
def rise : Option Int → List Lk → Bool
  | _, [] => true
  | none, s :: l => okK s && rise (some s.iface) l
  | some r, s :: l => okK s && decide (r < s.iface) && rise (some s.iface) l
def okL (l : List Lk) : Bool := decide (l.length ≤ 32) && rise none l
def checkL (l : List Lk) : Int := if okL l then 0 else 2
def findL (l : List Lk) (i : Int) : Option Lk := l.find? (fun s => decide (s.iface = i))
def peerL (l : List Lk) (i : Int) : Int × Int := if okL l then (match findL l i with | some s => (s.peer, 0) | none => (0, 3)) else (0, 2)
def aheadL (l : List Lk) (i : Int) : List Lk := l.filter (fun s => decide (s.iface < i))
def behindL (l : List Lk) (i : Int) : List Lk := l.filter (fun s => decide (i < s.iface))
def others (l : List Lk) (i : Int) : List Lk := l.filter (fun s => !decide (s.iface = i))
def delL (l : List Lk) (i : Int) : List Lk × Int := if okL l then (others l i, if (others l i).length = l.length then 3 else 0) else ([], 2)
def putL (l : List Lk) (x : Lk) : List Lk × Int := if okL l && okK x then (if (others l x.iface).length = 32 then (others l x.iface, 8) else (aheadL l x.iface ++ ([x] ++ behindL l x.iface), 0)) else ([], 2)
/-- a row that lies in memory: n elements of sz cells each -/
def HasRow (W : World) (v : Value) (sz n : Nat) (cs : List Value) : Prop :=
  cs.length = n * sz ∧ ((v = .slice none 0 0 ∧ n = 0) ∨ ∃ a cap, v = .slice (some a) n cap ∧ n ≤ cap ∧ cap ≤ 9223372036854775807 ∧ (0 < n → a.spot = none ∧ a.block < W.heap.size) ∧ ∀ j, j < n * sz → W.cell? (a.add j) = cs[j]?)
theorem addr_add (b o j : Nat) : (⟨b, o, none⟩ : Addr).add j = ⟨b, o + j, none⟩ := by unfold Addr.add; split <;> simp_all
theorem hasRow_nil (W : World) (sz : Nat) : HasRow W (.slice none 0 0) sz 0 [] := ⟨by simp, .inl ⟨rfl, rfl⟩⟩
theorem hasRow_own {W : World} {B e sz n : Nat} {v : Value} {cs : List Value} (h : W.ownsRow B e sz v n cs) : HasRow W v sz n cs := by
  refine ⟨h.1, ?_⟩
  rcases h.2 with h0 | ⟨g, cap, cur, rfl, hg, hgb, hnc, hcm, rest⟩
  · exact .inl h0
  · refine .inr ⟨⟨g, 0, none⟩, cap, rfl, hnc, by unfold maxLen at hcm; exact hcm, fun _ => ⟨rfl, (Array.getElem?_eq_some_iff.1 hgb).1⟩, fun j hj => ?_⟩
    rw [← h.cellAt j hj, addr_add, Nat.zero_add]
theorem HasRow.keep {W W' : World} {v : Value} {sz n : Nat} {cs : List Value} (h : HasRow W v sz n cs) (hb : Below W.heap.size W W') : HasRow W' v sz n cs := by
  refine ⟨h.1, ?_⟩
  rcases h.2 with h0 | ⟨a, cap, e, h1, h2, h3, h4⟩
  · exact .inl h0
  · refine .inr ⟨a, cap, e, h1, h2, fun h => ⟨(h3 h).1, Nat.lt_of_lt_of_le (h3 h).2 hb.size⟩, fun j hj => ?_⟩
    have hn : 0 < n := by rcases Nat.eq_zero_or_pos n with h0 | h0; rw [h0] at hj; omega; exact h0
    obtain ⟨b, i, s⟩ := a
    obtain ⟨hs, hlt⟩ := h3 hn
    simp only at hs hlt
    subst hs
    have h5 := h4 j hj
    rw [addr_add] at h5 ⊢
    rw [← h5]
    exact hb.cell (p := ⟨b, i + j, none⟩) hlt
theorem HasRow.slice {W : World} {v : Value} {sz n : Nat} {cs : List Value} (h : HasRow W v sz n cs) : ∃ o cap, v = .slice o n cap ∧ n ≤ cap ∧ cap ≤ 9223372036854775807 := by
  rcases h.2 with ⟨h0, rfl⟩ | ⟨a, cap, e, h1, h2, h3, h4⟩
  · exact ⟨none, 0, h0, Nat.le_refl _, by omega⟩
  · exact ⟨some a, cap, e, h1, h2⟩
theorem HasRow.at {W : World} {o : Option Addr} {m cap sz n : Nat} {cs : List Value} (h : HasRow W (.slice o m cap) sz n cs) (hn : 0 < n) : m = n ∧ ∃ b i, o = some ⟨b, i, none⟩ ∧ b < W.heap.size ∧ ∀ j, j < n * sz → W.cell? ⟨b, i + j, none⟩ = cs[j]? := by
  rcases h.2 with ⟨h0, h1⟩ | ⟨a, c, e, h1, h2, h3, h4⟩
  · omega
  · injection e with e1 e2 e3
    subst e1
    obtain ⟨b, i, s⟩ := a
    obtain ⟨hs, hlt⟩ := h3 hn
    simp only at hs hlt
    subst hs
    exact ⟨e2, b, i, rfl, hlt, fun j hj => by rw [← h4 j hj, addr_add]⟩
def lkCs (l : List Lk) : List Value := l.flatMap lkC
theorem lkCs_len (l : List Lk) : (lkCs l).length = l.length * 2 := by
  induction l with
  | nil => rfl
  | cons s l ih =>
    show (lkC s ++ lkCs l).length = _
    rw [List.length_append, ih, List.length_cons]
    show 2 + _ = _
    omega
theorem lkCs_app (a b : List Lk) : lkCs (a ++ b) = lkCs a ++ lkCs b := by unfold lkCs; rw [List.flatMap_append]
theorem one_links (l : List Lk) : ∀ x ∈ lkCs l, x.oneCell' = true := by
  intro x hx
  obtain ⟨p, _, h⟩ := List.mem_flatMap.1 hx
  simp only [lkC, List.mem_cons, List.not_mem_nil, or_false] at h
  rcases h with rfl | rfl <;> rfl
def HasLks (W : World) (v : Value) (l : List Lk) : Prop := HasRow W v 2 l.length (lkCs l)
theorem HasLks.keep {W W' : World} {v : Value} {l : List Lk} (h : HasLks W v l) (hb : Below W.heap.size W W') : HasLks W' v l := HasRow.keep h hb
theorem lkCs_at (l : List Lk) : ∀ j (h : j < l.length), (lkCs l)[2 * j]? = some (.int .i64 l[j].iface) ∧ (lkCs l)[2 * j + 1]? = some (.int .i64 l[j].peer) := by
  induction l with
  | nil => intro j h; simp at h
  | cons p ps ih =>
    intro j h
    cases j with
    | zero => exact ⟨rfl, rfl⟩
    | succ j =>
      have := ih j (by simpa using h)
      rw [show lkCs (p :: ps) = .int .i64 p.iface :: .int .i64 p.peer :: lkCs ps from rfl, show 2 * (j + 1) = 2 * j + 1 + 1 by omega]
      simp only [List.getElem?_cons_succ, List.getElem_cons_succ]
      exact this
theorem HasLks.cell {W : World} {o : Option Addr} {m cap : Nat} {l : List Lk} (h : HasLks W (.slice o m cap) l) (j : Nat) (hj : j < l.length) : ∃ b i, o = some ⟨b, i, none⟩ ∧ b < W.heap.size ∧ W.cell? ⟨b, i + j * 2, none⟩ = some (.int .i64 l[j].iface) ∧ W.cell? ⟨b, i + j * 2 + 1, none⟩ = some (.int .i64 l[j].peer) := by
  obtain ⟨_, b, i, e, hb, hc⟩ := HasRow.at h (by omega)
  have h2 := lkCs_at l j hj
  exact ⟨b, i, e, hb, by rw [hc (j * 2) (by omega), Nat.mul_comm]; exact h2.1, by rw [Nat.add_assoc, hc (j * 2 + 1) (by omega), Nat.mul_comm]; exact h2.2⟩
def NewIn (w : World) (v : Value) : Prop := ∀ a n c, v = .slice (some a) n c → w.heap.size ≤ a.block
end Go.Proofs.YtbglbegljkgknaaGreat.Lk
namespace Go.Proofs.YtbglbegljkgknaaGreat
open Go.RowKit

/- ### bits of one byte -/
theorem or128_all : ∀ n : Fin 256, bits BinOp.or IntKind.u8 (n.val : Int) 128 = (n.val : Int) % 128 + 128 := by decide +kernel
theorem andNot128_all : ∀ n : Fin 256, bits BinOp.andNot IntKind.u8 (n.val : Int) 128 = (n.val : Int) % 128 := by decide +kernel
theorem or128 (x : Int) (h0 : 0 ≤ x) (h1 : x ≤ 255) : bits BinOp.or IntKind.u8 x 128 = x % 128 + 128 := by
  have e := or128_all ⟨x.toNat, by omega⟩
  simpa only [Int.toNat_of_nonneg h0] using e
theorem andNot128 (x : Int) (h0 : 0 ≤ x) (h1 : x ≤ 255) : bits BinOp.andNot IntKind.u8 x 128 = x % 128 := by
  have e := andNot128_all ⟨x.toNat, by omega⟩
  simpa only [Int.toNat_of_nonneg h0] using e

/- ### turning the sign -/
theorem xor_u64_zero (x : Int) (h0 : 0 ≤ x) (h1 : x ≤ 18446744073709551615) : bits BinOp.xor IntKind.u64 x 0 = x := by
  obtain ⟨a, rfl⟩ := Int.eq_ofNat_of_zero_le h0
  simp only [bits]
  rw [IntKind.wrap_u64]
  have e : BitVec.ofInt IntKind.u64.bits 0 = 0#_ := by decide +kernel
  rw [e, BitVec.xor_zero, BitVec.toNat_ofInt]
  simp only [IntKind.bits]
  omega
theorem xor_u64_ones (x : Int) (h0 : 0 ≤ x) (h1 : x ≤ 18446744073709551615) : bits BinOp.xor IntKind.u64 x 18446744073709551615 = 18446744073709551615 - x := by
  obtain ⟨a, rfl⟩ := Int.eq_ofNat_of_zero_le h0
  simp only [bits]
  rw [IntKind.wrap_u64]
  have e : BitVec.ofInt IntKind.u64.bits 18446744073709551615 = BitVec.allOnes _ := by decide +kernel
  rw [e, BitVec.xor_allOnes, BitVec.toNat_not, BitVec.toNat_ofInt]
  simp only [IntKind.bits]
  omega
theorem xor_i64_zero (x : Int) (h0 : -9223372036854775808 ≤ x) (h1 : x ≤ 9223372036854775807) : bits BinOp.xor IntKind.i64 x 0 = x := by
  simp only [bits]
  rw [IntKind.wrap_i64]
  have e : BitVec.ofInt IntKind.i64.bits 0 = 0#_ := by decide +kernel
  rw [e, BitVec.xor_zero, BitVec.toNat_ofInt]
  simp only [IntKind.bits]
  omega
theorem xor_i64_ones (x : Int) (h0 : -9223372036854775808 ≤ x) (h1 : x ≤ 9223372036854775807) : bits BinOp.xor IntKind.i64 x (-1) = -x - 1 := by
  simp only [bits]
  rw [IntKind.wrap_i64]
  have e : BitVec.ofInt IntKind.i64.bits (-1) = BitVec.allOnes _ := by decide +kernel
  rw [e, BitVec.xor_allOnes, BitVec.toNat_not, BitVec.toNat_ofInt]
  simp only [IntKind.bits]
  omega

/-- 2n, or -2n - 1 -/
def zigZ (n : Int) : Int := if 0 ≤ n then 2 * n else -2 * n - 1
def zagZ (u : Int) : Int := if u % 2 = 0 then u / 2 else -(u / 2) - 1
theorem zig_bits (n : Int) (h0 : -9223372036854775808 ≤ n) (h1 : n ≤ 9223372036854775807) :
    bits BinOp.xor IntKind.u64 (IntKind.u64.wrap (wrap64 (n * 2))) (IntKind.u64.wrap (n / 9223372036854775808)) = zigZ n := by
  unfold zigZ wrap64
  rw [IntKind.wrap_u64, IntKind.wrap_u64]
  by_cases h : 0 ≤ n
  · rw [if_pos h, show n / 9223372036854775808 % 18446744073709551616 = 0 by omega, xor_u64_zero _ (by omega) (by omega)]
    omega
  · rw [if_neg h, show n / 9223372036854775808 % 18446744073709551616 = 18446744073709551615 by omega, xor_u64_ones _ (by omega) (by omega)]
    omega
theorem zag_bits (n : Int) (h0 : 0 ≤ n) (h1 : n ≤ 18446744073709551615) :
    bits BinOp.xor IntKind.i64 (n / 2) (wrap64 (-wrap64 (bits BinOp.and IntKind.u64 n 1))) = zagZ n := by
  rw [and_one_u64 n h0 h1]
  unfold zagZ wrap64
  by_cases h : n % 2 = 0
  · rw [if_pos h, h]
    exact xor_i64_zero _ (by omega) (by omega)
  · rw [if_neg h, show n % 2 = 1 by omega]
    exact xor_i64_ones _ (by omega) (by omega)

/- ### the bytes of a number -/
def putF : Nat → Nat → List UInt8
  | 0, n => [UInt8.ofNat n]
  | f + 1, n => if n < 128 then [UInt8.ofNat n] else UInt8.ofNat (n % 128 + 128) :: putF f (n / 128)
theorem putF_fuel (f : Nat) : ∀ g n, n ≤ f → n ≤ g → putF f n = putF g n := by
  induction f with
  | zero =>
    intro g n h1 h2
    obtain rfl : n = 0 := by omega
    cases g with
    | zero => rfl
    | succ g => rw [putF, putF, if_pos (by decide)]
  | succ f ih =>
    intro g n h1 h2
    cases g with
    | zero =>
      obtain rfl : n = 0 := by omega
      rw [putF, putF, if_pos (by decide)]
    | succ g =>
      rw [putF, putF]
      by_cases h : n < 128
      · rw [if_pos h, if_pos h]
      · rw [if_neg h, if_neg h, ih g (n / 128) (by omega) (by omega)]
def putL (n : Nat) : List UInt8 := putF n n

theorem putL_small (n : Nat) (h : n < 128) : putL n = [UInt8.ofNat n] := by
  rw [putL]
  cases n with
  | zero => rfl
  | succ n => rw [putF, if_pos h]
theorem putL_big (n : Nat) (h : ¬ n < 128) : putL n = UInt8.ofNat (n % 128 + 128) :: putL (n / 128) := by
  rw [putL, putL, putF_fuel n (n + 1) n (by omega) (by omega), putF, if_neg h, putF_fuel n (n / 128) (n / 128) (by omega) (by omega)]

theorem putL_len (k : Nat) : ∀ n, n < 128 ^ (k + 1) → (k = 0 ∨ 128 ^ k ≤ n) → (putL n).length = k + 1 := by
  induction k with
  | zero => intro n h _; rw [putL_small n (by omega)]; rfl
  | succ k ih =>
    intro n h h2
    have hp : 128 ^ (k + 1) = 128 * 128 ^ k := by rw [Nat.pow_succ]; omega
    have hq : 0 < 128 ^ k := Nat.pow_pos (by decide)
    have h3 : 128 ^ (k + 1) ≤ n := by omega
    rw [putL_big n (by omega)]
    have h4 : n / 128 < 128 ^ (k + 1) := by rw [Nat.div_lt_iff_lt_mul (by decide)]; rw [Nat.pow_succ] at h; omega
    have h5 : 128 ^ k ≤ n / 128 := by rw [Nat.le_div_iff_mul_le (by decide)]; omega
    simp [ih (n / 128) h4 (.inr h5)]

/-- the byte at place i of k + 1 -/
theorem putL_at (k : Nat) : ∀ n i, n < 128 ^ (k + 1) → (k = 0 ∨ 128 ^ k ≤ n) → i ≤ k →
    (putL n)[i]? = some (UInt8.ofNat (if i = k then n / 128 ^ i else n / 128 ^ i % 128 + 128)) := by
  induction k with
  | zero => intro n i h _ hi; obtain rfl : i = 0 := by omega
            rw [putL_small n (by omega)]; simp
  | succ k ih =>
    intro n i h h2 hi
    have hp : 128 ^ (k + 1) = 128 * 128 ^ k := by rw [Nat.pow_succ]; omega
    have hq : 0 < 128 ^ k := Nat.pow_pos (by decide)
    have h3 : 128 ^ (k + 1) ≤ n := by omega
    rw [putL_big n (by omega)]
    cases i with
    | zero => simp
    | succ i =>
      have h4 : n / 128 < 128 ^ (k + 1) := by rw [Nat.div_lt_iff_lt_mul (by decide)]; rw [Nat.pow_succ] at h; omega
      have h5 : 128 ^ k ≤ n / 128 := by rw [Nat.le_div_iff_mul_le (by decide)]; omega
      have := ih (n / 128) i h4 (.inr h5) (by omega)
      have e : n / 128 / 128 ^ i = n / 128 ^ (i + 1) := by rw [Nat.div_div_eq_div_mul, Nat.pow_succ, Nat.mul_comm]
      rw [e] at this
      simpa using this

theorem putL_ne (n : Nat) : putL n ≠ [] := by
  by_cases h : n < 128
  · rw [putL_small n h]; simp
  · rw [putL_big n h]; simp

/- ### how many bytes -/
theorem bitLenAux_spec (f : Nat) : ∀ x, x < 2 ^ f → x ≠ 0 → ∃ L, Lib.bitLenAux f x = L + 1 ∧ 2 ^ L ≤ x ∧ x < 2 ^ (L + 1) := by
  induction f with
  | zero => intro x h h2; omega
  | succ f ih =>
    intro x h h2
    by_cases h1 : x / 2 = 0
    · refine ⟨0, ?_, by omega, by omega⟩
      rw [Lib.bitLenAux, if_neg h2, h1]
      cases f <;> simp [Lib.bitLenAux]
    · obtain ⟨L, e, a, b⟩ := ih (x / 2) (by rw [Nat.pow_succ] at h; omega) h1
      refine ⟨L + 1, ?_, ?_, ?_⟩
      · rw [Lib.bitLenAux, if_neg h2, e]; omega
      · rw [Nat.pow_succ]; omega
      · rw [Nat.pow_succ]; omega

theorem or_one (n : Nat) : n ||| 1 = n + (1 - n % 2) := by
  have h1 : (n ||| 1) % 2 = 1 := by
    have : (n ||| 1) % 2 ^ 1 = (n % 2 ^ 1) ||| (1 % 2 ^ 1) := Nat.or_mod_two_pow
    simp at this
    rw [this]
    have : n % 2 = 0 ∨ n % 2 = 1 := by omega
    rcases this with h | h <;> rw [h] <;> rfl
  have h2 : (n ||| 1) / 2 = n / 2 := by
    have := @Nat.or_div_two_pow n 1 1
    simpa using this
  omega

/-- the count of bytes that the program reckons: at most 10, and it fits -/
theorem many_spec (n : Nat) (h : n < 18446744073709551616) : ∃ k, (Lib.bitLen (n ||| 1) + 6) / 7 = k + 1 ∧ k ≤ 9 ∧ n < 128 ^ (k + 1) ∧ (k = 0 ∨ 128 ^ k ≤ n) := by
  have e := or_one n
  obtain ⟨L, hL, h1, h2⟩ := bitLenAux_spec 64 (n ||| 1) (by omega) (by omega)
  have hL64 : L < 64 := by
    apply Nat.lt_of_not_le
    intro hc
    have : 2 ^ 64 ≤ 2 ^ L := Nat.pow_le_pow_right (by decide) hc
    omega
  have p : ∀ k, 128 ^ k = 2 ^ (7 * k) := fun k => by rw [show 128 = 2 ^ 7 by rfl, ← Nat.pow_mul]
  refine ⟨L / 7, ?_, by omega, ?_, ?_⟩
  · rw [Lib.bitLen, hL]; omega
  · have : 2 ^ (L + 1) ≤ 2 ^ (7 * (L / 7 + 1)) := Nat.pow_le_pow_right (by decide) (by omega)
    rw [p]; omega
  · by_cases h7 : L / 7 = 0
    · exact .inl h7
    · refine .inr ?_
      have h3 : 2 ^ (7 * (L / 7)) ≤ 2 ^ L := Nat.pow_le_pow_right (by decide) (by omega)
      have h4 : 2 ^ (7 * (L / 7)) % 2 = 0 := by
        obtain ⟨m, hm⟩ : ∃ m, 7 * (L / 7) = m + 1 := ⟨7 * (L / 7) - 1, by omega⟩
        rw [hm, Nat.pow_succ]; omega
      rw [p]; omega
theorem or_one_u64 (n : Int) (h0 : 0 ≤ n) (h1 : n ≤ 18446744073709551615) : bits BinOp.or IntKind.u64 n 1 = ((n.toNat ||| 1 : Nat) : Int) := by
  have h := bits_or_u64_nat n.toNat 1 (by omega) (by omega)
  rw [Int.toNat_of_nonneg h0] at h
  exact h
theorem or_one_le (n : Nat) (h : n < 18446744073709551616) : (n ||| 1) < 18446744073709551616 := by have := or_one n; omega
end Go.Proofs.YtbglbegljkgknaaGreat
namespace Go.Proofs.YtbglbegljkgknaaGreat
open Go.RowKit
theorem ret_int {k : IntKind} {a b : Int} (h : a = b) : Ending.returned (.int k a) = .returned (.int k b) := by rw [h]
theorem ret_str {a b : ByteArray} (h : a = b) : Ending.returned (.string a) = .returned (.string b) := by rw [h]

theorem addr_add (b o j : Nat) : (⟨b, o, none⟩ : Addr).add j = ⟨b, o + j, none⟩ := by unfold Addr.add; split <;> simp_all
/-- the bytes that the loop and the last store leave -/
theorem put_cells (n : Int) (h0 : 0 ≤ n) (k : Nat) (hlt : n.toNat < 128 ^ (k + 1)) (hge : k = 0 ∨ 128 ^ k ≤ n.toNat) (hk9 : k ≤ 9) (C : Array Value) (hC : C.size = 10)
    (hm : ∀ m, m < k + 1 → C[m]? = some (.int .u8 (n / 2 ^ (7 * m) % 128 + 128))) (j : Nat) (hj : j < (putL n.toNat).length) :
    (C.setIfInBounds k (.int .u8 (bits BinOp.andNot IntKind.u8 (n / 2 ^ (7 * k) % 128 + 128) 128)))[j]? = some (.int .u8 ((putL n.toNat)[j].toNat : Int)) := by
  have hl := putL_len k n.toNat hlt hge
  have hat := putL_at k n.toNat j hlt hge (by omega)
  have p : ∀ m, (128 : Nat) ^ m = 2 ^ (7 * m) := fun m => by rw [show 128 = 2 ^ 7 by rfl, ← Nat.pow_mul]
  have hd : ∀ m, n / 2 ^ (7 * m) = ((n.toNat / 128 ^ m : Nat) : Int) := fun m => by
    rw [p]
    obtain ⟨a, rfl⟩ := Int.eq_ofNat_of_zero_le h0
    simp
  rw [List.getElem?_eq_getElem hj] at hat
  have hat' : (putL n.toNat)[j] = UInt8.ofNat (if j = k then n.toNat / 128 ^ j else n.toNat / 128 ^ j % 128 + 128) := Option.some.inj hat
  rw [hat']
  by_cases hjk : j = k
  · subst hjk
    rw [Array.getElem?_setIfInBounds_self_of_lt (by omega), if_pos rfl, andNot128 _ (by omega) (by omega), hd]
    have hb : n.toNat / 128 ^ j < 128 := by
      rw [Nat.div_lt_iff_lt_mul (Nat.pow_pos (by decide))]
      rw [Nat.pow_succ] at hlt; omega
    have : (UInt8.ofNat (n.toNat / 128 ^ j)).toNat = n.toNat / 128 ^ j := by simp; omega
    rw [this]
    congr 2
    omega
  · rw [Array.getElem?_setIfInBounds_ne (by omega), hm j (by omega), if_neg hjk, hd]
    have : (UInt8.ofNat (n.toNat / 128 ^ j % 128 + 128)).toNat = n.toNat / 128 ^ j % 128 + 128 := by simp; omega
    rw [this]
    simp
/-- the document's bytes -/
theorem bcell {W w1 : World} (hb : Below W.heap.size W w1) : (∀ b o, b < W.heap.size → w1.cell? ⟨b, o, none⟩ = W.cell? ⟨b, o, none⟩) ∧ (∀ b o, b < W.heap.size → w1.frozen? ⟨b, o, none⟩ = W.frozen? ⟨b, o, none⟩) :=
  ⟨fun b o h => hb.cell (p := ⟨b, o, none⟩) h, fun b o h => hb.frozen (p := ⟨b, o, none⟩) h⟩
theorem rput_cons (n : Int) (h : 128 ≤ n) : (⟨#[UInt8.ofNat (n % 128 + 128).toNat]⟩ ++ ⟨(putL (n / 128).toNat).toArray⟩ : ByteArray) = ⟨(putL n.toNat).toArray⟩ := by
  apply ByteArray.ext
  rw [ByteArray.data_append, putL_big n.toNat (by omega)]
  apply Array.ext'
  have e : (n / 128).toNat = n.toNat / 128 := by omega
  have e2 : (n % 128 + 128).toNat = n.toNat % 128 + 128 := by omega
  rw [e, e2]
  simp
end Go.Proofs.YtbglbegljkgknaaGreat
