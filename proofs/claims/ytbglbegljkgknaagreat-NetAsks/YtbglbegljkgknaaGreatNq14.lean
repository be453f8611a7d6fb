/- What familyOf, bytesWithin, oneByte, gather and lay return. -/
import Derived.Test.YtbglbegljkgknaaGreatNq07
import Derived.Lib.BufferWrite
set_option linter.unusedVariables false
namespace Go.Proofs.YtbglbegljkgknaaGreat.Msg
open Go.RowKit
open Go.Proofs.YtbglbegljkgknaaGreat.Addr (Pf okP checkP wideN firstN kP hiN loN adV pfV RowAt below2 below_drew below_new bset RowAt.lt RowAt.cell RowAt.frozen RowAt.below RowAt.drew RowAt.new RowAt.alloc gdrew gset gbelow galloc grefl cells2 cells4 results_cell)

theorem undrew {W w1 : World} (hb : Below W.drew.heap.size W.drew w1) : Below W.heap.size W w1 := ⟨hb.os, hb.tape, hb.output, hb.size, fun k hk => hb.block k hk⟩
theorem take10 (l : List UInt8) (m : Nat) (hm : m = min l.length 10) : l.take 10 = l.take m := by
  rw [hm]
  rcases Nat.le_total l.length 10 with h | h
  · rw [Nat.min_eq_left h, List.take_of_length_le h, List.take_of_length_le (Nat.le_refl _)]
  · rw [Nat.min_eq_right h]
theorem getGo_len (l : List UInt8) {n : Nat} {r : List UInt8} (h : getGo 0 0 l = (n, r, 0)) : r.length ≤ l.length := by
  have := (getGo_back h).2
  rw [← this, List.length_append]; omega
theorem rdN_cases (l : List UInt8) : (rdN l = none ∧ (getGo 0 0 (l.take 10)).2.2 ≠ 0) ∨ (rdN l = some ((getGo 0 0 (l.take 10)).1, l.drop ((l.take 10).length - (getGo 0 0 (l.take 10)).2.1.length)) ∧ (getGo 0 0 (l.take 10)).2.2 = 0 ∧ (getGo 0 0 (l.take 10)).1 < 18446744073709551616 ∧ (getGo 0 0 (l.take 10)).2.1.length ≤ (l.take 10).length) := by
  unfold rdN
  by_cases h : (getGo 0 0 (l.take 10)).2.2 = 0
  · right
    obtain ⟨a, b, c⟩ : ∃ a b, getGo 0 0 (l.take 10) = (a, b, 0) := ⟨_, _, Prod.ext rfl (Prod.ext rfl h)⟩
    rw [if_pos h]
    refine ⟨rfl, h, ?_, ?_⟩
    · rw [c]; exact (getGo_back c).1
    · rw [c]; exact getGo_len _ c
  · left; rw [if_neg h]; exact ⟨rfl, h⟩
theorem fI_cases (l : List UInt8) : (fI l = none ∧ (getGo 0 0 (l.take 10)).2.2 ≠ 0) ∨ (fI l = some (((getGo 0 0 (l.take 10)).1 : Int), l.drop ((l.take 10).length - (getGo 0 0 (l.take 10)).2.1.length)) ∧ (getGo 0 0 (l.take 10)).2.2 = 0 ∧ (getGo 0 0 (l.take 10)).1 ≤ 9223372036854775807 ∧ (getGo 0 0 (l.take 10)).2.1.length ≤ (l.take 10).length) ∨ (fI l = none ∧ (getGo 0 0 (l.take 10)).2.2 = 0 ∧ 9223372036854775807 < (getGo 0 0 (l.take 10)).1 ∧ (getGo 0 0 (l.take 10)).1 < 18446744073709551616) := by
  unfold fI
  rcases rdN_cases l with ⟨h1, h2⟩ | ⟨h1, h2, h3, h4⟩
  · left; rw [h1]; exact ⟨rfl, h2⟩
  · right
    rw [h1]
    simp only
    by_cases hc : (getGo 0 0 (l.take 10)).1 ≤ 9223372036854775807
    · left; rw [if_pos hc]; exact ⟨rfl, h2, hc, h4⟩
    · right; rw [if_neg hc]; exact ⟨rfl, h2, by omega, h3⟩
end Go.Proofs.YtbglbegljkgknaaGreat.Msg
namespace Go.Proofs.YtbglbegljkgknaaGreat.Msg
open Go.RowKit
open Go.Proofs.YtbglbegljkgknaaGreat.Addr (Pf okP checkP wideN firstN kP hiN loN adV pfV RowAt below2 below_drew below_new bset RowAt.lt RowAt.cell RowAt.frozen RowAt.below RowAt.drew RowAt.new RowAt.alloc gdrew gset gbelow galloc grefl cells2 cells4 results_cell)

def famV (six : Bool) : Value := .agg #[.int .u8 (if six then 6 else 4), .int .i64 (if six then 0 else 12)]
theorem addr_add (b o j : Nat) : (⟨b, o, none⟩ : Go.Addr).add j = ⟨b, o + j, none⟩ := by unfold Addr.add; split <;> simp_all
/-- a byte's cell -/
def cB (b : UInt8) : Value := .int .u8 (b.toNat : Int)
def cL (l : List UInt8) : List Value := l.map cB
theorem size_u8 : (Tryz.prog.info? 5).map (·.size) = some 1 := by kernel_rfl
/-- the sixteen bytes that gather lays -/
def gaB (six : Bool) (s : List UInt8) : List UInt8 := List.replicate (16 - wB six) 0 ++ (s.take (wB six) ++ List.replicate (wB six - (s.take (wB six)).length) 0)
theorem gaB_len (six : Bool) (s : List UInt8) : (gaB six s).length = 16 := by
  unfold gaB
  have : (s.take (wB six)).length ≤ wB six := by rw [List.length_take]; omega
  simp only [List.length_append, List.length_replicate]
  cases six <;> simp only [wB] at * <;> simp at * <;> omega
theorem nb_zeros (k : Nat) (l : List UInt8) : nb 0 (List.replicate k 0 ++ l) = nb 0 l := by
  induction k with
  | zero => rfl
  | succ k ih => rw [List.replicate_succ]; exact ih
theorem nb_gaB (six : Bool) (s : List UInt8) : nb 0 (gaB six s) = gaN six s := by unfold gaB gaN; exact nb_zeros _ _
theorem nb_lt (l : List UInt8) : ∀ acc, nb acc l < (acc + 1) * 256 ^ l.length := by
  induction l with
  | nil => intro acc; simp [nb]
  | cons b t ih =>
    intro acc
    have := ih (acc * 256 + b.toNat)
    have hb := b.toNat_lt
    rw [List.length_cons, Nat.pow_succ]
    refine Nat.lt_of_lt_of_le this ?_
    rw [Nat.mul_comm (256 ^ t.length) 256, ← Nat.mul_assoc]
    exact Nat.mul_le_mul_right _ (by omega)
theorem nb_shift (l : List UInt8) : ∀ acc, nb acc l = acc * 256 ^ l.length + nb 0 l := by
  induction l with
  | nil => intro acc; simp [nb]
  | cons b t ih =>
    intro acc
    show nb (acc * 256 + b.toNat) t = acc * 256 ^ (t.length + 1) + nb (0 * 256 + b.toNat) t
    rw [ih, ih (0 * 256 + b.toNat), Nat.pow_succ, Nat.add_mul, Nat.zero_mul, Nat.zero_add, Nat.mul_assoc, Nat.mul_comm 256]
    omega
theorem nb_snoc (l : List UInt8) (b : UInt8) (acc : Nat) : nb acc (l ++ [b]) = nb acc l * 256 + b.toNat := by rw [nb_app]; rfl
theorem hilo_nb (B : List UInt8) (h : B.length = 16) : hiN (nb 0 B) = nb 0 (B.take 8) ∧ loN (nb 0 B) = nb 0 (B.drop 8) := by
  have e : nb 0 B = nb 0 (B.take 8) * 18446744073709551616 + nb 0 (B.drop 8) := by
    have := nb_app (B.take 8) (B.drop 8) 0
    rw [List.take_append_drop] at this
    rw [this, nb_shift, List.length_drop, h]
  have hl := nb_lt (B.drop 8) 0
  rw [List.length_drop, h] at hl
  have h2 : nb 0 (B.drop 8) < 18446744073709551616 := by simpa using hl
  have := Addr.of_hilo (nb 0 (B.take 8)) (nb 0 (B.drop 8)) h2
  rw [e, Nat.mul_comm]
  exact this
theorem or_byte (x : Nat) (b : UInt8) (hx : x < 72057594037927936) : bits .or .u64 (IntKind.u64.wrap ((x : Int) * 256)) (IntKind.u64.wrap (b.toNat : Int)) = ((x * 256 + b.toNat : Nat) : Int) := by
  have hb := b.toNat_lt
  have e1 : IntKind.u64.wrap ((x : Int) * 256) = ((x * 256 : Nat) : Int) := by rw [IntKind.wrap_u64]; omega
  have e2 : IntKind.u64.wrap (b.toNat : Int) = (b.toNat : Int) := by rw [IntKind.wrap_u64]; omega
  rw [e1, e2, u64_or_nat _ _ (by omega) (by omega)]
  have := Nat.shiftLeft_add_eq_or_of_lt (b := b.toNat) (i := 8) (by omega) x
  rw [Nat.shiftLeft_eq] at this
  rw [← this]
def frN (six : Bool) : Nat := if six then 0 else 12
theorem RowAt.set {W : World} {g : Nat} {cs : List Value} {t : TypeId} (h : RowAt W g cs t) (ds : List Value) : RowAt (W.setRow g ds.toArray) g ds t := setRow_heap W g cs.toArray ds.toArray t (0, 0) h
theorem RowAt.other {W : World} {g k : Nat} {cs : List Value} {t : TypeId} (h : RowAt W g cs t) (hne : g ≠ k) (ds : Array Value) : RowAt (W.setRow k ds) g cs t := (setRow_other W k g ds (by first | exact hne | exact fun e => hne e.symm)).trans h
theorem below_setRow {B g : Nat} {w0 w : World} (hb : Below B w0 w) (hBg : B ≤ g) (cs : Array Value) : Below B w0 (w.setRow g cs) :=
  hb.trans ⟨rfl, rfl, rfl, by simp, fun k hk => setRow_other w g k cs (by omega)⟩
theorem cell_ga {W : World} {g : Nat} {B : List UInt8} {t : TypeId} (h : RowAt W g (cL B) t) (k : Nat) (hk : k < B.length) : W.cell? ⟨g, k, none⟩ = some (.int .u8 ((B.getD k 0).toNat : Int)) := by
  rw [RowAt.cell h, cL, List.getElem?_map, List.getElem?_eq_getElem hk, List.getD_eq_getElem?_getD, List.getElem?_eq_getElem hk]; rfl
theorem take_snoc (l : List UInt8) (k : Nat) (h : k < l.length) : l.take (k + 1) = l.take k ++ [l.getD k 0] := by
  rw [List.take_succ_eq_append_getElem h, List.getD_eq_getElem?_getD, List.getElem?_eq_getElem h]; rfl
end Go.Proofs.YtbglbegljkgknaaGreat.Msg
