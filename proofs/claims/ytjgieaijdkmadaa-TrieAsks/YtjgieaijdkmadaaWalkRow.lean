/- What num.Row and the document's Row return, for every row of numbers. -/
import Derived.Test.YtjgieaijdkmadaaWalkNumbers
import Derived.Test.YtjgieaijdkmadaaWalkBuilder
set_option linter.unusedVariables false
namespace Go.Proofs.Ytjgieaijdkmadaa
open Go.RowKit

/-- a slice of integers that came in -/
def IsRow (k : IntKind) (w : World) (a : Option Addr) (len cap : Nat) (zs : List Int) : Prop :=
  (a = none ∧ len = 0 ∧ cap = 0 ∧ zs = []) ∨
  ∃ x, a = some x ∧ len ≤ cap ∧ cap ≤ maxLen ∧ zs.length = cap ∧ (∀ i, i < zs.length → w.cell? (x.add i) = some (.int k (zs.getD i 0))) ∧ ∀ n ∈ zs, (Lit.int k n).wf = true

/-- the bytes of numbers, one behind the other -/
def allL (ns : List Int) : List UInt8 := ns.flatMap fun n => putL n.toNat
def rowL (ns : List Int) : List UInt8 := putL ns.length ++ allL ns
theorem allL_snoc (ns : List Int) (n : Int) : allL (ns ++ [n]) = allL ns ++ putL n.toNat := by simp [allL]
theorem putL_le (n : Nat) (h : n < 18446744073709551616) : (putL n).length ≤ 10 := by
  obtain ⟨k, _, hk9, hlt, hge⟩ := many_spec n h
  rw [putL_len k _ hlt hge]; omega
theorem allL_le (ns : List Int) (h : ∀ n ∈ ns, 0 ≤ n ∧ n ≤ 18446744073709551615) : (allL ns).length ≤ 10 * ns.length := by
  induction ns with
  | nil => simp [allL]
  | cons n ns ih =>
    have h1 := putL_le n.toNat (by have := h n (by simp); omega)
    have h2 := ih (fun m hm => h m (by simp [hm]))
    simp only [allL, List.flatMap_cons, List.length_append, List.length_cons] at h2 ⊢
    omega
theorem wf_u64 {n : Int} (h : (Lit.int .u64 n).wf = true) : 0 ≤ n ∧ n ≤ 18446744073709551615 := by
  simpa [Lit.wf, IntKind.min, IntKind.max, IntKind.signed, IntKind.bits] using h

/-- a row, read: its elements are numbers of 64 bits; each lies in a cell that is there -/
theorem isRow_at {w : World} {a : Option Addr} {len cap : Nat} {zs : List Int} (h : IsRow .u64 w a len cap zs) {k : Nat} (hk : k < len) :
    ∃ b off, a = some ⟨b, off, none⟩ ∧ b < w.heap.size ∧ ∀ j, j < len → w.cell? ⟨b, off + j, none⟩ = some (.int .u64 (zs.getD j 0)) := by
  rcases h with ⟨rfl, rfl, _, _⟩ | ⟨x, rfl, hl, hm, hz, hc, hw⟩
  · omega
  · obtain ⟨b, off, spot⟩ := x
    have h0 := hc 0 (by omega)
    have hspot : spot = none := by simpa [Addr.add] using World.cell?_spot h0
    subst hspot
    have hlt : b < w.heap.size := by
      rcases Nat.lt_or_ge b w.heap.size with h' | h'
      · exact h'
      · rw [addr_add] at h0
        simp [World.cell?, Array.getElem?_eq_none h'] at h0
    exact ⟨b, off, rfl, hlt, fun j hj => by rw [← addr_add]; exact hc j (by omega)⟩
theorem isRow_len {w : World} {a : Option Addr} {len cap : Nat} {zs : List Int} (h : IsRow .u64 w a len cap zs) : len ≤ zs.length ∧ zs.length = cap ∧ cap ≤ maxLen ∧ (∀ n ∈ zs, 0 ≤ n ∧ n ≤ 18446744073709551615) := by
  rcases h with ⟨rfl, rfl, rfl, rfl⟩ | ⟨x, rfl, hl, hm, hz, hc, hw⟩
  · exact ⟨by simp, by simp, by simp, by simp⟩
  · exact ⟨by omega, hz, hm, fun n hn => wf_u64 (hw n hn)⟩
theorem isRow_below {k : IntKind} {w w' : World} {a : Option Addr} {len cap : Nat} {zs : List Int} (h : IsRow k w a len cap zs) (hb : Below w.heap.size w w') : IsRow k w' a len cap zs := by
  rcases h with h | ⟨x, rfl, hl, hm, hz, hc, hw⟩
  · exact .inl h
  · refine .inr ⟨x, rfl, hl, hm, hz, fun i hi => ?_, hw⟩
    have h0 := hc i hi
    have hlt : (x.add i).block < w.heap.size := by
      rcases Nat.lt_or_ge (x.add i).block w.heap.size with h' | h'
      · exact h'
      · simp [World.cell?, Array.getElem?_eq_none h'] at h0
    rw [hb.cell hlt]
    exact h0
/-- what a reader of a row needs of it -/
def RowIn (w : World) (a : Option Addr) (len : Nat) (zs : List Int) : Prop :=
  len ≤ zs.length ∧ (∀ n ∈ zs, 0 ≤ n ∧ n ≤ 18446744073709551615) ∧ ∀ k, k < len → ∃ b off, a = some ⟨b, off, none⟩ ∧ b < w.heap.size ∧ ∀ j, j < len → w.cell? ⟨b, off + j, none⟩ = some (.int .u64 (zs.getD j 0))
theorem rowIn_row {w : World} {a : Option Addr} {len cap : Nat} {zs : List Int} (h : IsRow .u64 w a len cap zs) : RowIn w a len zs :=
  ⟨(isRow_len h).1, (isRow_len h).2.2.2, fun k hk => isRow_at h hk⟩
theorem take_snoc' (zs : List Int) (k : Nat) (h : k < zs.length) : zs.take (k + 1) = zs.take k ++ [zs.getD k 0] := by
  rw [List.take_succ_eq_append_getElem h]; simp [h]

theorem strCells_eq (l : List UInt8) : Lib.strCells ⟨l.toArray⟩ = Lib.byteCells l := by simp [Lib.strCells, Lib.byteCells]
theorem byteCells_app (a b : List UInt8) : Lib.byteCells a ++ Lib.byteCells b = Lib.byteCells (a ++ b) := by simp [Lib.byteCells]

theorem ret_row {a b : List UInt8} {e : Int} (h : a = b) : Ending.returned (.tuple #[.string ⟨a.toArray⟩, .int .i64 e]) = .returned (.tuple #[.string ⟨b.toArray⟩, .int .i64 e]) := by rw [h]
end Go.Proofs.Ytjgieaijdkmadaa
