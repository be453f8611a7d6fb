/- What num.Row and the document's Row return, for every row of numbers. -/
import Derived.Test.YtbglbegljkgknaaGreatNq02
import Derived.Lib.EndianBits
import Derived.BigQuiet
import Derived.Deep.QuietTactic
import Derived.Test.YtbglbegljkgknaaGreatShelf
import Derived.Shelf.Strings.Builder1
set_option linter.unusedVariables false
namespace Go.Proofs.YtbglbegljkgknaaGreat
open Go.RowKit

/-- the number that bytes begin with: it, what is behind, the error -/
def getGo (i acc : Nat) : List UInt8 → Nat × List UInt8 × Int
  | [] => (0, [], 5)
  | b :: l => if i = 9 ∧ 1 < b.toNat then (0, [], 7)
    else if 128 ≤ b.toNat then getGo (i + 1) (acc + b.toNat % 128 * 128 ^ i) l
    else if b.toNat = 0 ∧ 0 < i then (0, [], 7)
    else (acc + b.toNat * 128 ^ i, l, 0)
def getS (s : ByteArray) : Nat × List UInt8 × Int := getGo 0 0 s.data.toList

theorem or_high (acc : Nat) (b : UInt8) (i : Nat) (hi : i ≤ 9) (ha : acc < 128 ^ i) (h9 : i = 9 → b.toNat ≤ 1) :
    bits BinOp.or IntKind.u64 (acc : Int) (IntKind.u64.wrap (IntKind.u64.wrap (bits BinOp.andNot IntKind.u8 (b.toNat : Int) 128) * 2 ^ (7 * i))) = ((acc + b.toNat % 128 * 128 ^ i : Nat) : Int) := by
  have hb := b.toNat_lt
  rw [andNot128 _ (by omega) (by omega), wraps_u64 (_ % 128) (by omega) (by omega)]
  have p : (2 : Int) ^ (7 * i) = ((128 ^ i : Nat) : Int) := by
    rw [show 128 = 2 ^ 7 by rfl, ← Nat.pow_mul]; simp
  have hm : b.toNat % 128 * 128 ^ i < 2 ^ 64 := by
    by_cases h : i = 9
    · subst h
      have := h9 rfl
      have : b.toNat % 128 ≤ 1 := by omega
      omega
    · have : 128 ^ i ≤ 128 ^ 8 := Nat.pow_le_pow_right (by decide) (by omega)
      have h2 : b.toNat % 128 ≤ 127 := by omega
      have := Nat.mul_le_mul h2 this
      omega
  have hi2 : 128 ^ i ≤ 128 ^ 9 := Nat.pow_le_pow_right (by decide) hi
  have hc : ((b.toNat : Int) % 128) * 2 ^ (7 * i) = ((b.toNat % 128 * 128 ^ i : Nat) : Int) := by rw [p]; simp
  rw [hc, wraps_u64 _ (by omega) (by exact_mod_cast hm)]
  rw [bits_join_low .u64 64 (by decide) wraps_u64 (7 * i) _ _ (by omega) (by rw [p]; exact_mod_cast ha) (by omega) (by omega) (by rw [p]; simp [Int.mul_emod_left]) (by exact_mod_cast hm)]
  simp

theorem drop_cons (s : ByteArray) (k : Nat) (h : k < s.size) : s.data.toList.drop k = s[k] :: s.data.toList.drop (k + 1) := by
  rw [List.drop_eq_getElem_cons (by simpa using h)]; rfl
theorem getGo_err9 (acc : Nat) (b : UInt8) (l : List UInt8) {i : Nat} (hi : i = 9) (hb : 1 < b.toNat) : getGo i acc (b :: l) = (0, [], 7) := by
  rw [getGo, if_pos ⟨hi, hb⟩]
theorem getGo_zero (acc : Nat) (b : UInt8) (l : List UInt8) {i : Nat} (hi : 0 < i) (hb : b.toNat = 0) : getGo i acc (b :: l) = (0, [], 7) := by
  rw [getGo, if_neg (by omega), if_neg (by omega), if_pos ⟨hb, hi⟩]
theorem getGo_last (acc : Nat) (b : UInt8) (l : List UInt8) {i : Nat} (h9 : i = 9 → b.toNat ≤ 1) (hb : b.toNat < 128) (h0 : ¬ (b.toNat = 0 ∧ 0 < i)) : getGo i acc (b :: l) = (acc + b.toNat * 128 ^ i, l, 0) := by
  rw [getGo, if_neg (by omega), if_neg (by omega), if_neg h0]
theorem getGo_more (acc : Nat) (b : UInt8) (l : List UInt8) {i : Nat} (h9 : i ≠ 9) (hb : 128 ≤ b.toNat) : getGo i acc (b :: l) = getGo (i + 1) (acc + b.toNat % 128 * 128 ^ i) l := by
  rw [getGo, if_neg (by omega), if_pos hb]
theorem ret_get (r : Nat × List UInt8 × Int) {n : Int} {a : ByteArray} {e : Int} (hn : 0 ≤ n) (h : r = (n.toNat, a.data.toList, e)) :
    Ending.returned (.tuple #[.int .u64 n, .string a, .int .i64 e]) = .returned (.tuple #[.int .u64 r.1, .string ⟨r.2.1.toArray⟩, .int .i64 r.2.2]) := by
  subst h
  simp [Int.toNat_of_nonneg hn]
theorem ret_get' (r : Nat × List UInt8 × Int) {n : Int} {a : ByteArray} {e : Int} {N : Nat} {l : List UInt8} (h : r = (N, l, e)) (hn : n = (N : Int)) (ha : a = ⟨l.toArray⟩) :
    Ending.returned (.tuple #[.int .u64 n, .string a, .int .i64 e]) = .returned (.tuple #[.int .u64 r.1, .string ⟨r.2.1.toArray⟩, .int .i64 r.2.2]) := by
  subst h; subst hn; subst ha; rfl
theorem extract_drop (s : ByteArray) (k : Nat) : s.extract k s.size = ⟨(s.data.toList.drop k).toArray⟩ := by
  apply ByteArray.ext
  rw [ByteArray.data_extract]
  apply Array.ext'
  simp [List.take_of_length_le]
theorem acc_next (acc : Nat) (b : UInt8) (i : Nat) (ha : acc < 128 ^ i) : acc + b.toNat % 128 * 128 ^ i < 128 ^ (i + 1) := by
  have h2 : b.toNat % 128 ≤ 127 := by omega
  have := Nat.mul_le_mul h2 (Nat.le_refl (128 ^ i))
  rw [Nat.pow_succ]
  omega
theorem getGo_len (l : List UInt8) : ∀ i acc, (getGo i acc l).2.1.length ≤ l.length := by
  induction l with
  | nil => intro i acc; simp [getGo]
  | cons b l ih =>
    intro i acc
    rw [getGo]
    split
    · simp
    · split
      · have := ih (i + 1) (acc + b.toNat % 128 * 128 ^ i); simp; omega
      · split
        · simp
        · simp
theorem getS_len (s : ByteArray) : (getS s).2.1.length ≤ s.size := by
  have := getGo_len s.data.toList 0 0
  simpa [getS] using this

theorem add_high (acc : Nat) (b : UInt8) (i P : Nat) (hP : P = 128 ^ i) (hi : i ≤ 9) (ha : acc < 128 ^ i) (h9 : i = 9 → b.toNat ≤ 1) :
    IntKind.u64.wrap (↑acc + IntKind.u64.wrap (↑b.toNat % 128 * ↑P)) = ((acc + b.toNat % 128 * 128 ^ i : Nat) : Int) := by
  subst hP
  have hm : b.toNat % 128 * 128 ^ i ≤ 127 * 128 ^ 8 ∨ b.toNat % 128 * 128 ^ i ≤ 128 ^ 9 := by
    by_cases h : i = 9
    · subst h
      have := h9 rfl
      right
      have : b.toNat % 128 ≤ 1 := by omega
      omega
    · left
      have h1 : 128 ^ i ≤ 128 ^ 8 := Nat.pow_le_pow_right (by decide) (by omega)
      have h2 : b.toNat % 128 ≤ 127 := by omega
      exact Nat.mul_le_mul h2 h1
  have hi2 : 128 ^ i ≤ 128 ^ 9 := Nat.pow_le_pow_right (by decide) hi
  have hc : ((b.toNat : Int) % 128) * ((128 ^ i : Nat) : Int) = ((b.toNat % 128 * 128 ^ i : Nat) : Int) := by simp
  rw [hc, IntKind.wrap_u64, IntKind.wrap_u64]
  omega
theorem pow_next (i : Nat) (hi : i ≤ 8) : IntKind.u64.wrap (((128 ^ i : Nat) : Int) * 128) = ((128 ^ (i + 1) : Nat) : Int) := by
  have hi2 : 128 ^ i ≤ 128 ^ 8 := Nat.pow_le_pow_right (by decide) hi
  rw [IntKind.wrap_u64, Nat.pow_succ]
  omega
end Go.Proofs.YtbglbegljkgknaaGreat
namespace Go.Proofs.YtbglbegljkgknaaGreat
open Go.RowKit

theorem ret_bool {a b : Bool} (h : a = b) : Ending.returned (.bool a) = .returned (.bool b) := by rw [h]
theorem gs1 : getS ⟨#[172, 2, 122]⟩ = (300, [122], 0) := by decide +kernel
theorem gs2 : getS ⟨#[128, 0]⟩ = (0, [], 7) := by decide +kernel
theorem gs3 : getS ⟨#[128]⟩ = (0, [], 5) := by decide +kernel
theorem ps1 : putL 300 = [172, 2] := by rw [putL_big _ (by decide), putL_small _ (by decide)]; decide
theorem ps2 : putL 0 = [0] := by rw [putL_small _ (by decide)]; decide

theorem below2 {a b c : World} (h1 : Below a.heap.size a b) (h2 : Below b.heap.size b c) : Below a.heap.size a c := h1.trans (h2.mono h1.size)
theorem below5 {a b c d e f : World} (h1 : Below a.heap.size a b) (h2 : Below b.heap.size b c) (h3 : Below c.heap.size c d) (h4 : Below d.heap.size d e) (h5 : Below e.heap.size e f) : Below a.heap.size a f :=
  below2 (below2 (below2 (below2 h1 h2) h3) h4) h5
end Go.Proofs.YtbglbegljkgknaaGreat
namespace Go.Proofs.YtbglbegljkgknaaGreat
open Go.Shelf Go.RowKit

/- ### what was there stays a builder, and stays owned, where only new memory came -/
theorem grown_of {w w' : World} (h : Below w.heap.size w w') : w.grownBy w' none := ⟨h.os, h.tape, h.output, h.size, fun k hk _ => h.block k hk⟩
theorem own_below {w w' : World} {B e size n : Nat} {v : Value} {xs : List Value} (h : w.ownsRow B e size v n xs) (hb : Below w.heap.size w w') : w'.ownsRow B e size v n xs := by
  refine h.kept (grown_of hb) ?_
  cases v.ownBlock with
  | none => exact .inl rfl
  | some k => exact .inr (by simp)
theorem isb_below {T e : TypeId} {B b : Nat} {bs : List Value} {w w' : World} (h : Lib.IsBuilder T e B b bs w) (hb : Below w.heap.size w w') : Lib.IsBuilder T e B b bs w' := by
  have step : ∀ p, Lib.BuilderAt T e B b p bs w → Lib.BuilderAt T e B b p bs w' := by
    intro p hp
    have hlt := hp.lt
    obtain ⟨h1, v, h2, h3, h4⟩ := hp
    exact ⟨h1, v, by rw [hb.block b hlt]; exact h2, own_below h3 hb, h4⟩
  rcases h with h | h
  · exact .inl (step _ h)
  · exact .inr (step _ h)
end Go.Proofs.YtbglbegljkgknaaGreat
namespace Go.Proofs.YtbglbegljkgknaaGreat
open Go.RowKit

/-- a slice of integers that came in -/
def IsRow (k : IntKind) (w : World) (a : Option Addr) (len cap : Nat) (zs : List Int) : Prop :=
  (a = none ∧ len = 0 ∧ cap = 0 ∧ zs = []) ∨
  ∃ x, a = some x ∧ len ≤ cap ∧ cap ≤ maxLen ∧ zs.length = cap ∧ (∀ i, i < zs.length → w.cell? (x.add i) = some (.int k (zs.getD i 0))) ∧ ∀ n ∈ zs, (Lit.int k n).wf = true

/-- the bytes of numbers, one behind the other -/
def allL (ns : List Int) : List UInt8 := ns.flatMap fun n => putL n.toNat
def rowL (ns : List Int) : List UInt8 := putL ns.length ++ allL ns
theorem allL_snoc (ns : List Int) (n : Int) : allL (ns ++ [n]) = allL ns ++ putL n.toNat := by simp [allL]
theorem putL_le (n : Nat) (h : n < 18446744073709551616) : (putL n).length ≤ 10 := by
  obtain ⟨k, _, hk9, hlt, hge⟩ := many_spec n h
  rw [putL_len k _ hlt hge]; omega
theorem allL_le (ns : List Int) (h : ∀ n ∈ ns, 0 ≤ n ∧ n ≤ 18446744073709551615) : (allL ns).length ≤ 10 * ns.length := by
  induction ns with
  | nil => simp [allL]
  | cons n ns ih =>
    have h1 := putL_le n.toNat (by have := h n (by simp); omega)
    have h2 := ih (fun m hm => h m (by simp [hm]))
    simp only [allL, List.flatMap_cons, List.length_append, List.length_cons] at h2 ⊢
    omega
theorem wf_u64 {n : Int} (h : (Lit.int .u64 n).wf = true) : 0 ≤ n ∧ n ≤ 18446744073709551615 := by
  simpa [Lit.wf, IntKind.min, IntKind.max, IntKind.signed, IntKind.bits] using h

/-- a row, read: its elements are numbers of 64 bits; each lies in a cell that is there -/
theorem isRow_at {w : World} {a : Option Addr} {len cap : Nat} {zs : List Int} (h : IsRow .u64 w a len cap zs) {k : Nat} (hk : k < len) :
    ∃ b off, a = some ⟨b, off, none⟩ ∧ b < w.heap.size ∧ ∀ j, j < len → w.cell? ⟨b, off + j, none⟩ = some (.int .u64 (zs.getD j 0)) := by
  rcases h with ⟨rfl, rfl, _, _⟩ | ⟨x, rfl, hl, hm, hz, hc, hw⟩
  · omega
  · obtain ⟨b, off, spot⟩ := x
    have h0 := hc 0 (by omega)
    have hspot : spot = none := by simpa [Addr.add] using World.cell?_spot h0
    subst hspot
    have hlt : b < w.heap.size := by
      rcases Nat.lt_or_ge b w.heap.size with h' | h'
      · exact h'
      · rw [addr_add] at h0
        simp [World.cell?, Array.getElem?_eq_none h'] at h0
    exact ⟨b, off, rfl, hlt, fun j hj => by rw [← addr_add]; exact hc j (by omega)⟩
theorem isRow_len {w : World} {a : Option Addr} {len cap : Nat} {zs : List Int} (h : IsRow .u64 w a len cap zs) : len ≤ zs.length ∧ zs.length = cap ∧ cap ≤ maxLen ∧ (∀ n ∈ zs, 0 ≤ n ∧ n ≤ 18446744073709551615) := by
  rcases h with ⟨rfl, rfl, rfl, rfl⟩ | ⟨x, rfl, hl, hm, hz, hc, hw⟩
  · exact ⟨by simp, by simp, by simp, by simp⟩
  · exact ⟨by omega, hz, hm, fun n hn => wf_u64 (hw n hn)⟩
theorem isRow_below {k : IntKind} {w w' : World} {a : Option Addr} {len cap : Nat} {zs : List Int} (h : IsRow k w a len cap zs) (hb : Below w.heap.size w w') : IsRow k w' a len cap zs := by
  rcases h with h | ⟨x, rfl, hl, hm, hz, hc, hw⟩
  · exact .inl h
  · refine .inr ⟨x, rfl, hl, hm, hz, fun i hi => ?_, hw⟩
    have h0 := hc i hi
    have hlt : (x.add i).block < w.heap.size := by
      rcases Nat.lt_or_ge (x.add i).block w.heap.size with h' | h'
      · exact h'
      · simp [World.cell?, Array.getElem?_eq_none h'] at h0
    rw [hb.cell hlt]
    exact h0
/-- what a reader of a row needs of it -/
def RowIn (w : World) (a : Option Addr) (len : Nat) (zs : List Int) : Prop :=
  len ≤ zs.length ∧ (∀ n ∈ zs, 0 ≤ n ∧ n ≤ 18446744073709551615) ∧ ∀ k, k < len → ∃ b off, a = some ⟨b, off, none⟩ ∧ b < w.heap.size ∧ ∀ j, j < len → w.cell? ⟨b, off + j, none⟩ = some (.int .u64 (zs.getD j 0))
theorem rowIn_row {w : World} {a : Option Addr} {len cap : Nat} {zs : List Int} (h : IsRow .u64 w a len cap zs) : RowIn w a len zs :=
  ⟨(isRow_len h).1, (isRow_len h).2.2.2, fun k hk => isRow_at h hk⟩
theorem take_snoc' (zs : List Int) (k : Nat) (h : k < zs.length) : zs.take (k + 1) = zs.take k ++ [zs.getD k 0] := by
  rw [List.take_succ_eq_append_getElem h]; simp [h]

theorem strCells_eq (l : List UInt8) : Lib.strCells ⟨l.toArray⟩ = Lib.byteCells l := by simp [Lib.strCells, Lib.byteCells]
theorem byteCells_app (a b : List UInt8) : Lib.byteCells a ++ Lib.byteCells b = Lib.byteCells (a ++ b) := by simp [Lib.byteCells]

theorem ret_row {a b : List UInt8} {e : Int} (h : a = b) : Ending.returned (.tuple #[.string ⟨a.toArray⟩, .int .i64 e]) = .returned (.tuple #[.string ⟨b.toArray⟩, .int .i64 e]) := by rw [h]
end Go.Proofs.YtbglbegljkgknaaGreat
