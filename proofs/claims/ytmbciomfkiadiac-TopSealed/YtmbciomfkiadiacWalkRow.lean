/- What num.Row and the document's Row return, for every row of numbers. -/
import Derived.Test.YtmbciomfkiadiacWalkNumbers
import Derived.Test.YtmbciomfkiadiacWalkBuilder
set_option linter.unusedVariables false
namespace Go.Proofs.Ytmbciomfkiadiac
open Go.RowKit

/-- a slice of integers that came in -/
def IsRow (k : IntKind) (w : World) (a : Option Addr) (len cap : Nat) (zs : List Int) : Prop :=
  (a = none ∧ len = 0 ∧ cap = 0 ∧ zs = []) ∨
  ∃ x, a = some x ∧ len ≤ cap ∧ cap ≤ maxLen ∧ zs.length = cap ∧ (∀ i, i < zs.length → w.cell? (x.add i) = some (.int k (zs.getD i 0))) ∧ ∀ n ∈ zs, (Lit.int k n).wf = true

/-- the bytes of numbers, one behind the other -/
def allL (ns : List Int) : List UInt8 := ns.flatMap fun n => putL n.toNat
def rowL (ns : List Int) : List UInt8 := putL ns.length ++ allL ns
theorem allL_snoc (ns : List Int) (n : Int) : allL (ns ++ [n]) = allL ns ++ putL n.toNat := by simp [allL]
theorem putL_le (n : Nat) (h : n < 18446744073709551616) : (putL n).length ≤ 10 := by
  obtain ⟨k, _, hk9, hlt, hge⟩ := many_spec n h
  rw [putL_len k _ hlt hge]; omega
theorem allL_le (ns : List Int) (h : ∀ n ∈ ns, 0 ≤ n ∧ n ≤ 18446744073709551615) : (allL ns).length ≤ 10 * ns.length := by
  induction ns with
  | nil => simp [allL]
  | cons n ns ih =>
    have h1 := putL_le n.toNat (by have := h n (by simp); omega)
    have h2 := ih (fun m hm => h m (by simp [hm]))
    simp only [allL, List.flatMap_cons, List.length_append, List.length_cons] at h2 ⊢
    omega
theorem wf_u64 {n : Int} (h : (Lit.int .u64 n).wf = true) : 0 ≤ n ∧ n ≤ 18446744073709551615 := by
  simpa [Lit.wf, IntKind.min, IntKind.max, IntKind.signed, IntKind.bits] using h

/-- a row, read: its elements are numbers of 64 bits; each lies in a cell that is there -/
theorem isRow_at {w : World} {a : Option Addr} {len cap : Nat} {zs : List Int} (h : IsRow .u64 w a len cap zs) {k : Nat} (hk : k < len) :
    ∃ b off, a = some ⟨b, off, none⟩ ∧ b < w.heap.size ∧ ∀ j, j < len → w.cell? ⟨b, off + j, none⟩ = some (.int .u64 (zs.getD j 0)) := by
  rcases h with ⟨rfl, rfl, _, _⟩ | ⟨x, rfl, hl, hm, hz, hc, hw⟩
  · omega
  · obtain ⟨b, off, spot⟩ := x
    have h0 := hc 0 (by omega)
    have hspot : spot = none := by simpa [Addr.add] using World.cell?_spot h0
    subst hspot
    have hlt : b < w.heap.size := by
      rcases Nat.lt_or_ge b w.heap.size with h' | h'
      · exact h'
      · rw [addr_add] at h0
        simp [World.cell?, Array.getElem?_eq_none h'] at h0
    exact ⟨b, off, rfl, hlt, fun j hj => by rw [← addr_add]; exact hc j (by omega)⟩
theorem isRow_len {w : World} {a : Option Addr} {len cap : Nat} {zs : List Int} (h : IsRow .u64 w a len cap zs) : len ≤ zs.length ∧ zs.length = cap ∧ cap ≤ maxLen ∧ (∀ n ∈ zs, 0 ≤ n ∧ n ≤ 18446744073709551615) := by
  rcases h with ⟨rfl, rfl, rfl, rfl⟩ | ⟨x, rfl, hl, hm, hz, hc, hw⟩
  · exact ⟨by simp, by simp, by simp, by simp⟩
  · exact ⟨by omega, hz, hm, fun n hn => wf_u64 (hw n hn)⟩
theorem isRow_below {k : IntKind} {w w' : World} {a : Option Addr} {len cap : Nat} {zs : List Int} (h : IsRow k w a len cap zs) (hb : Below w.heap.size w w') : IsRow k w' a len cap zs := by
  rcases h with h | ⟨x, rfl, hl, hm, hz, hc, hw⟩
  · exact .inl h
  · refine .inr ⟨x, rfl, hl, hm, hz, fun i hi => ?_, hw⟩
    have h0 := hc i hi
    have hlt : (x.add i).block < w.heap.size := by
      rcases Nat.lt_or_ge (x.add i).block w.heap.size with h' | h'
      · exact h'
      · simp [World.cell?, Array.getElem?_eq_none h'] at h0
    rw [hb.cell hlt]
    exact h0
/-- what a reader of a row needs of it -/
def RowIn (w : World) (a : Option Addr) (len : Nat) (zs : List Int) : Prop :=
  len ≤ zs.length ∧ (∀ n ∈ zs, 0 ≤ n ∧ n ≤ 18446744073709551615) ∧ ∀ k, k < len → ∃ b off, a = some ⟨b, off, none⟩ ∧ b < w.heap.size ∧ ∀ j, j < len → w.cell? ⟨b, off + j, none⟩ = some (.int .u64 (zs.getD j 0))
theorem rowIn_row {w : World} {a : Option Addr} {len cap : Nat} {zs : List Int} (h : IsRow .u64 w a len cap zs) : RowIn w a len zs :=
  ⟨(isRow_len h).1, (isRow_len h).2.2.2, fun k hk => isRow_at h hk⟩
theorem take_snoc' (zs : List Int) (k : Nat) (h : k < zs.length) : zs.take (k + 1) = zs.take k ++ [zs.getD k 0] := by
  rw [List.take_succ_eq_append_getElem h]; simp [h]

theorem strCells_eq (l : List UInt8) : Lib.strCells ⟨l.toArray⟩ = Lib.byteCells l := by simp [Lib.strCells, Lib.byteCells]
theorem byteCells_app (a b : List UInt8) : Lib.byteCells a ++ Lib.byteCells b = Lib.byteCells (a ++ b) := by simp [Lib.byteCells]

theorem ret_row {a b : List UInt8} {e : Int} (h : a = b) : Ending.returned (.tuple #[.string ⟨a.toArray⟩, .int .i64 e]) = .returned (.tuple #[.string ⟨b.toArray⟩, .int .i64 e]) := by rw [h]
theorem isb_new (w : World) : Lib.IsBuilder 43 5 w.heap.size w.heap.size [] (w.alloc (.cells #[.pointer none, .slice none 0 0] 43)) :=
  .inl ⟨Nat.le_refl _, .slice none 0 0, heap_alloc_new w _, World.ownsRow_nil _ _ _ _, by simp [Value.ownBlock]⟩
theorem row_long (a : Option Addr) (len cap : Nat) (w : World) (hl : 4096 < len) (hm : len ≤ 9223372036854775807) :
    Calls Try.prog 5 #[.slice a len cap] w fun e w' => e = .returned (.tuple #[.string ⟨#[]⟩, .int .i64 11]) ∧ Below w.heap.size w w' := by
  go_enter Try.func5, Try.ntmps5
  go_wp2
  go_ret2
  exact ⟨rfl, Below.refl _ _⟩

set_option maxHeartbeats 1000000 in
set_option maxRecDepth 20000 in
theorem row_core (a : Option Addr) (len cap : Nat) (zs : List Int) (w : World) (hr : RowIn w a len zs) (hl : len ≤ 4096) :
    Calls Try.prog 5 #[.slice a len cap] w fun e w' => e = .returned (.tuple #[.string ⟨(rowL (zs.take len)).toArray⟩, .int .i64 0]) ∧ Below w.heap.size w w' := by
  obtain ⟨hlz, hzb, hr⟩ := hr
  have HR : Hid (∀ k, k < len → ∃ b off, a = some ⟨b, off, none⟩ ∧ b < w.heap.size ∧ ∀ j, j < len → w.cell? ⟨b, off + j, none⟩ = some (.int .u64 (zs.getD j 0))) := hr
  have HZ : Hid (∀ n ∈ zs, 0 ≤ n ∧ n ≤ 18446744073709551615) := hzb
  clear hr hzb
  go_enter Try.func5, Try.ntmps5
  go_wp2_with fail
  go_at_call 13; refine (put_any len _ (by omega) (by omega)).mono ?_; rintro e w1 ⟨rfl, hb1⟩
  have hsz1 := hb1.size
  simp only [World.size_alloc] at hsz1
  have hI1 := isb_below (isb_new w) hb1
  go_wp2_with fail
  have hL0 := putL_le len (by omega)
  go_at_call 14
  refine (writeString_any w.heap.size w.heap.size [] ⟨(putL len).toArray⟩ w1 hI1 (by show 0 + (putL len).toArray.size ≤ _; simp; omega) (by omega)).mono ?_
  rintro e w2 ⟨rfl, hI2, hb2⟩
  have hW2 : Below w.heap.size w w2 := (((Below.refl _ w).alloc (Nat.le_refl _) _).trans (hb1.mono (by simp))).trans hb2
  rw [List.nil_append, strCells_eq] at hI2
  have HI2 : Hid (Lib.IsBuilder 43 5 w.heap.size w.heap.size (Lib.byteCells (putL len)) w2) := hI2
  clear hI1 hI2 hb1 hb2 hsz1
  go_wp2_with fail
  go_loopw [17] (fun i wr => ∃ k : Nat, k ≤ len ∧ i = .int .i64 k ∧ Hid (Lib.IsBuilder 43 5 w.heap.size w.heap.size (Lib.byteCells (putL len ++ allL (zs.take k))) wr) ∧ Below w.heap.size w wr) (fun i _ => len - (intOf i).toNat)
  case atStart => exact ⟨0, by omega, rfl, (by simpa [allL] using HI2.out : Lib.IsBuilder _ _ _ _ _ _), hW2⟩
  case round =>
    obtain ⟨k, hk, rfl, HI, hW⟩ := hrel
    have hsz := hW.size
    by_cases hlt : k < len
    · obtain ⟨b, off, rfl, hb, hcell⟩ := HR.out k hlt
      obtain ⟨z, hz⟩ : ∃ z, z = zs.getD k 0 := ⟨_, rfl⟩
      have hc : wr.cell? ⟨b, off + k, none⟩ = some (.int .u64 z) := by rw [hz, hW.cell (p := ⟨b, off + k, none⟩) hb]; exact hcell k hlt
      have hzb : 0 ≤ z ∧ z ≤ 18446744073709551615 := by
        rw [hz, List.getD_eq_getElem?_getD, List.getElem?_eq_getElem (by omega)]
        exact HZ.out _ (List.getElem_mem _)
      have HE : Hid (zs.take (k + 1) = zs.take k ++ [z]) := by rw [hz]; exact take_snoc' zs k (by omega)
      clear hz hcell
      go_wp2_with fail
      go_at_call 13; refine (put_any z _ hzb.1 hzb.2).mono ?_; rintro e w3 ⟨rfl, hb3⟩
      go_wp2_with fail
      have hI3 := isb_below HI.out hb3
      have hL := allL_le (zs.take k) (fun n hn => HZ.out n (List.mem_of_mem_take hn))
      have hL2 : (zs.take k).length ≤ k := List.length_take_le _ _
      have hL3 := putL_le z.toNat (by omega)
      have hs3 := hb3.size
      go_at_call 14
      refine (writeString_any w.heap.size w.heap.size _ ⟨(putL z.toNat).toArray⟩ w3 hI3 (by rw [Lib.byteCells_length]; show _ + (putL z.toNat).toArray.size ≤ _; simp; omega) (by omega)).mono ?_
      rintro e w4 ⟨rfl, hI4, hb4⟩
      rw [strCells_eq, byteCells_app, List.append_assoc, ← allL_snoc, ← HE.out] at hI4
      have HI4 : Hid (Lib.IsBuilder 43 5 w.heap.size w.heap.size (Lib.byteCells (putL len ++ allL (zs.take (k + 1)))) w4) := hI4
      clear hI3 hI4
      go_wp2
      go_roundw
      case rel => exact ⟨k + 1, by omega, by go_num, HI4, (hW.trans (hb3.mono hsz)).trans hb4⟩
      case measure => simp [intOf]; omega
    · obtain rfl : k = len := by omega
      go_wp2_with fail
      go_at_call 15
      refine (Try.Builder_String_any w.heap.size w.heap.size _ wr HI.out hsz).mono ?_
      rintro e w5 ⟨rfl, hb5⟩
      go_wp2
      go_ret2
      exact ⟨ret_row (by rw [rowL, List.length_take, Nat.min_eq_left hlz]), hW.trans hb5⟩
theorem row_any (a : Option Addr) (len cap : Nat) (zs : List Int) (w : World) (hr : IsRow .u64 w a len cap zs) (hl : len ≤ 4096) :
    Calls Try.prog 5 #[.slice a len cap] w fun e w' => e = .returned (.tuple #[.string ⟨(rowL (zs.take len)).toArray⟩, .int .i64 0]) ∧ Below w.heap.size w w' :=
  row_core a len cap zs w (rowIn_row hr) hl
end Go.Proofs.Ytmbciomfkiadiac
