/- What num.Text and the document's Text and GetText return, and that spoorlaw01.rows returns true. -/
import Derived.Test.YtkjhnefbcnnjlaaTv02
set_option linter.unusedVariables false
namespace Go.Proofs.Ytkjhnefbcnnjlaa
open Go.RowKit

/-- a slice of integers that came in -/
def IsRow (k : IntKind) (w : World) (a : Option Addr) (len cap : Nat) (zs : List Int) : Prop :=
  (a = none ∧ len = 0 ∧ cap = 0 ∧ zs = []) ∨
  ∃ x, a = some x ∧ len ≤ cap ∧ cap ≤ maxLen ∧ zs.length = cap ∧ (∀ i, i < zs.length → w.cell? (x.add i) = some (.int k (zs.getD i 0))) ∧ ∀ n ∈ zs, (Lit.int k n).wf = true

/-- the bytes of numbers, one behind the other -/
def allL (ns : List Int) : List UInt8 := ns.flatMap fun n => putL n.toNat
def rowL (ns : List Int) : List UInt8 := putL ns.length ++ allL ns
theorem allL_snoc (ns : List Int) (n : Int) : allL (ns ++ [n]) = allL ns ++ putL n.toNat := by simp [allL]
theorem putL_le (n : Nat) (h : n < 18446744073709551616) : (putL n).length ≤ 10 := by
  obtain ⟨k, _, hk9, hlt, hge⟩ := many_spec n h
  rw [putL_len k _ hlt hge]; omega
theorem allL_le (ns : List Int) (h : ∀ n ∈ ns, 0 ≤ n ∧ n ≤ 18446744073709551615) : (allL ns).length ≤ 10 * ns.length := by
  induction ns with
  | nil => simp [allL]
  | cons n ns ih =>
    have h1 := putL_le n.toNat (by have := h n (by simp); omega)
    have h2 := ih (fun m hm => h m (by simp [hm]))
    simp only [allL, List.flatMap_cons, List.length_append, List.length_cons] at h2 ⊢
    omega
theorem wf_u64 {n : Int} (h : (Lit.int .u64 n).wf = true) : 0 ≤ n ∧ n ≤ 18446744073709551615 := by
  simpa [Lit.wf, IntKind.min, IntKind.max, IntKind.signed, IntKind.bits] using h

/-- a row, read: its elements are numbers of 64 bits; each lies in a cell that is there -/
theorem isRow_at {w : World} {a : Option Addr} {len cap : Nat} {zs : List Int} (h : IsRow .u64 w a len cap zs) {k : Nat} (hk : k < len) :
    ∃ b off, a = some ⟨b, off, none⟩ ∧ b < w.heap.size ∧ ∀ j, j < len → w.cell? ⟨b, off + j, none⟩ = some (.int .u64 (zs.getD j 0)) := by
  rcases h with ⟨rfl, rfl, _, _⟩ | ⟨x, rfl, hl, hm, hz, hc, hw⟩
  · omega
  · obtain ⟨b, off, spot⟩ := x
    have h0 := hc 0 (by omega)
    have hspot : spot = none := by simpa [Addr.add] using World.cell?_spot h0
    subst hspot
    have hlt : b < w.heap.size := by
      rcases Nat.lt_or_ge b w.heap.size with h' | h'
      · exact h'
      · rw [addr_add] at h0
        simp [World.cell?, Array.getElem?_eq_none h'] at h0
    exact ⟨b, off, rfl, hlt, fun j hj => by rw [← addr_add]; exact hc j (by omega)⟩
theorem isRow_len {w : World} {a : Option Addr} {len cap : Nat} {zs : List Int} (h : IsRow .u64 w a len cap zs) : len ≤ zs.length ∧ zs.length = cap ∧ cap ≤ maxLen ∧ (∀ n ∈ zs, 0 ≤ n ∧ n ≤ 18446744073709551615) := by
  rcases h with ⟨rfl, rfl, rfl, rfl⟩ | ⟨x, rfl, hl, hm, hz, hc, hw⟩
  · exact ⟨by simp, by simp, by simp, by simp⟩
  · exact ⟨by omega, hz, hm, fun n hn => wf_u64 (hw n hn)⟩
/-- what a reader of a row needs of it -/
def RowIn (w : World) (a : Option Addr) (len : Nat) (zs : List Int) : Prop :=
  len ≤ zs.length ∧ (∀ n ∈ zs, 0 ≤ n ∧ n ≤ 18446744073709551615) ∧ ∀ k, k < len → ∃ b off, a = some ⟨b, off, none⟩ ∧ b < w.heap.size ∧ ∀ j, j < len → w.cell? ⟨b, off + j, none⟩ = some (.int .u64 (zs.getD j 0))
theorem rowIn_row {w : World} {a : Option Addr} {len cap : Nat} {zs : List Int} (h : IsRow .u64 w a len cap zs) : RowIn w a len zs :=
  ⟨(isRow_len h).1, (isRow_len h).2.2.2, fun k hk => isRow_at h hk⟩
theorem take_snoc' (zs : List Int) (k : Nat) (h : k < zs.length) : zs.take (k + 1) = zs.take k ++ [zs.getD k 0] := by
  rw [List.take_succ_eq_append_getElem h]; simp [h]

theorem strCells_eq (l : List UInt8) : Lib.strCells ⟨l.toArray⟩ = Lib.byteCells l := by simp [Lib.strCells, Lib.byteCells]
theorem byteCells_app (a b : List UInt8) : Lib.byteCells a ++ Lib.byteCells b = Lib.byteCells (a ++ b) := by simp [Lib.byteCells]

theorem ret_row {a b : List UInt8} {e : Int} (h : a = b) : Ending.returned (.tuple #[.string ⟨a.toArray⟩, .int .i64 e]) = .returned (.tuple #[.string ⟨b.toArray⟩, .int .i64 e]) := by rw [h]
end Go.Proofs.Ytkjhnefbcnnjlaa
namespace Go.Proofs.Ytkjhnefbcnnjlaa
open Go.RowKit

/-- so many numbers, one behind the other -/
def numsGo : Nat → List Int → List UInt8 → List Int × List UInt8 × Int
  | 0, acc, l => (acc, l, 0)
  | k + 1, acc, l => if (getGo 0 0 l).2.2 = 0 then numsGo k (acc ++ [((getGo 0 0 l).1 : Int)]) (getGo 0 0 l).2.1 else ([], [], (getGo 0 0 l).2.2)
def getRowL (l : List UInt8) : List Int × List UInt8 × Int :=
  if (getGo 0 0 l).2.2 = 0 then (if (getGo 0 0 l).1 ≤ 4096 then numsGo (getGo 0 0 l).1 [] (getGo 0 0 l).2.1 else ([], [], 7)) else ([], [], (getGo 0 0 l).2.2)
theorem numsGo_err {k : Nat} {acc : List Int} {l : List UInt8} {n : Nat} {r : List UInt8} {e : Int} (h : getGo 0 0 l = (n, r, e)) (he : e ≠ 0) : numsGo (k + 1) acc l = ([], [], e) := by
  rw [numsGo, h]; exact if_neg he
theorem numsGo_ok {k : Nat} {acc : List Int} {l : List UInt8} {n : Nat} {r : List UInt8} (h : getGo 0 0 l = (n, r, 0)) : numsGo (k + 1) acc l = numsGo k (acc ++ [(n : Int)]) r := by
  rw [numsGo, h]; exact if_pos rfl
theorem getRowL_err {l : List UInt8} {n : Nat} {r : List UInt8} {e : Int} (h : getGo 0 0 l = (n, r, e)) (he : e ≠ 0) : getRowL l = ([], [], e) := by
  rw [getRowL, h]; exact if_neg he
theorem getRowL_many {l : List UInt8} {n : Nat} {r : List UInt8} (h : getGo 0 0 l = (n, r, 0)) (hn : ¬ n ≤ 4096) : getRowL l = ([], [], 7) := by
  rw [getRowL, h]; simp only [if_pos]; exact if_neg hn
theorem getRowL_ok {l : List UInt8} {n : Nat} {r : List UInt8} (h : getGo 0 0 l = (n, r, 0)) (hn : n ≤ 4096) : getRowL l = numsGo n [] r := by
  rw [getRowL, h]; simp only [if_pos]; exact if_pos hn

theorem size_list (l : List UInt8) : (⟨l.toArray⟩ : ByteArray).size = l.length := by show l.toArray.size = _; simp
theorem getS_list (l : List UInt8) : getS ⟨l.toArray⟩ = getGo 0 0 l := by simp [getS]

theorem firstL {l : List UInt8} {n : Nat} {r : List UInt8} {y : Int} (h : getGo 0 0 l = (n, r, y)) (hl : l.length ≤ 281474976710656) (w : World) :
    Calls Try.prog 23 #[.string ⟨l.toArray⟩] w fun e w' => e = .returned (.tuple #[.int .u64 n, .string ⟨r.toArray⟩, .int .i64 y]) ∧ Below w.heap.size w w' := by
  have := first_any ⟨l.toArray⟩ w (by rw [size_list]; unfold maxLen; omega)
  rw [getS_list, h] at this
  exact this
theorem cloneL (l : List UInt8) (hl : l.length ≤ 281474976710656) (w : World) :
    Calls Try.prog 24 #[.string ⟨l.toArray⟩] w fun e w' => e = .returned (.string ⟨l.toArray⟩) ∧ Below w.heap.size w w' := clone_any _ w (by rw [size_list]; exact hl)
theorem getGo_le {l : List UInt8} {i acc n : Nat} {r : List UInt8} {y : Int} (h : getGo i acc l = (n, r, y)) : r.length ≤ l.length := by
  have := getGo_len l i acc
  rw [h] at this
  exact this

theorem info_u64 : (Try.prog.info? 31).map (fun i => (i.zero, i.size, i.bytes)) = some (some (.int .u64 0), 1, 8) := by kernel_rfl

/-- what a reader of a row leaves: a slice that owns the numbers, what is behind, the error -/
def RowLeft (w : World) (r : List Int × List UInt8 × Int) (e : Ending) (w' : World) : Prop :=
  ∃ v, e = .returned (.tuple #[v, .string ⟨r.2.1.toArray⟩, .int .i64 r.2.2]) ∧ w'.ownsRow w.heap.size 31 1 v r.1.length (r.1.map (Value.int .u64)) ∧ Below w.heap.size w w'
theorem rowLeft_err {w w' : World} {r : List Int × List UInt8 × Int} {y : Int} (h : r = ([], [], y)) (hb : Below w.heap.size w w') : RowLeft w r (.returned (.tuple #[.slice none 0 0, .string ⟨#[]⟩, .int .i64 y])) w' := by
  subst h
  exact ⟨_, rfl, World.ownsRow_nil _ _ _ _, hb⟩
theorem rowLeft_ok {w w' : World} {r : List Int × List UInt8 × Int} {v : Value} {ns : List Int} {l : List UInt8} (h : r = (ns, l, 0)) (ho : w'.ownsRow w.heap.size 31 1 v ns.length (ns.map (Value.int .u64))) (hb : Below w.heap.size w w') :
    RowLeft w r (.returned (.tuple #[v, .string ⟨l.toArray⟩, .int .i64 0])) w' := by
  subst h
  exact ⟨_, rfl, ho, hb⟩

theorem numsGo_le (k : Nat) : ∀ acc l, (numsGo k acc l).2.1.length ≤ l.length := by
  induction k with
  | zero => intro acc l; simp [numsGo]
  | succ k ih =>
    intro acc l
    rw [numsGo]
    split
    · have h1 := ih (acc ++ [((getGo 0 0 l).1 : Int)]) (getGo 0 0 l).2.1
      have h2 := getGo_len l 0 0
      omega
    · simp
theorem getRowL_le (l : List UInt8) : (getRowL l).2.1.length ≤ l.length := by
  rw [getRowL]
  split
  · split
    · have h1 := numsGo_le (getGo 0 0 l).1 [] (getGo 0 0 l).2.1
      have h2 := getGo_len l 0 0
      omega
    · simp
  · simp
end Go.Proofs.Ytkjhnefbcnnjlaa
namespace Go.Proofs.Ytkjhnefbcnnjlaa
open Go.RowKit

/-- a slice whose elements are these numbers -/
def Reads (w : World) (v : Value) (ns : List Int) : Prop :=
  (∃ a cap, v = .slice a 0 cap ∧ ns = []) ∨ ∃ b off cap, v = .slice (some ⟨b, off, none⟩) ns.length cap ∧ b < w.heap.size ∧ ns.length ≤ maxLen ∧ ∀ j, j < ns.length → w.cell? ⟨b, off + j, none⟩ = some (.int .u64 (ns.getD j 0))
theorem reads_own {w : World} {B : Nat} {v : Value} {ns : List Int} (h : w.ownsRow B 31 1 v ns.length (ns.map (Value.int .u64))) : Reads w v ns := by
  rcases h.2 with ⟨hv, h0⟩ | ⟨g, cap, cur, hv, hg, hh, hn, hm, hs, ht⟩
  · exact .inl ⟨_, _, hv, List.length_eq_zero_iff.1 h0⟩
  · subst hv
    have hlt : g < w.heap.size := by
      rcases Nat.lt_or_ge g w.heap.size with h' | h'
      · exact h'
      · simp [Array.getElem?_eq_none h'] at hh
    refine .inr ⟨g, 0, cap, rfl, hlt, by omega, fun j hj => ?_⟩
    rw [Nat.zero_add, h.cellAt j (by omega)]
    simp [hj]
theorem str_app (a b : List UInt8) : (⟨a.toArray⟩ ++ ⟨b.toArray⟩ : ByteArray) = ⟨(a ++ b).toArray⟩ := by
  apply ByteArray.ext
  rw [ByteArray.data_append]
  simp
end Go.Proofs.Ytkjhnefbcnnjlaa
namespace Go.Proofs.Ytkjhnefbcnnjlaa
open Go.RowKit

def getTextL (l : List UInt8) : List UInt8 × List UInt8 × Int :=
  if (getGo 0 0 l).2.2 = 0 then (if (getGo 0 0 l).1 ≤ 32768 then (if (getGo 0 0 l).1 ≤ (getGo 0 0 l).2.1.length then ((getGo 0 0 l).2.1.take (getGo 0 0 l).1, (getGo 0 0 l).2.1.drop (getGo 0 0 l).1, 0) else ([], [], 5)) else ([], [], 7)) else ([], [], (getGo 0 0 l).2.2)
theorem getTextL_err {l : List UInt8} {n : Nat} {r : List UInt8} {e : Int} (h : getGo 0 0 l = (n, r, e)) (he : e ≠ 0) : getTextL l = ([], [], e) := by
  rw [getTextL, h]; exact if_neg he
theorem getTextL_many {l : List UInt8} {n : Nat} {r : List UInt8} (h : getGo 0 0 l = (n, r, 0)) (hn : ¬ n ≤ 32768) : getTextL l = ([], [], 7) := by
  rw [getTextL, h]; simp only [if_pos]; exact if_neg hn
theorem getTextL_short {l : List UInt8} {n : Nat} {r : List UInt8} (h : getGo 0 0 l = (n, r, 0)) (hn : n ≤ 32768) (hr : ¬ n ≤ r.length) : getTextL l = ([], [], 5) := by
  rw [getTextL, h]; simp only [if_pos, if_pos hn]; exact if_neg hr
theorem getTextL_ok {l : List UInt8} {n : Nat} {r : List UInt8} (h : getGo 0 0 l = (n, r, 0)) (hn : n ≤ 32768) (hr : n ≤ r.length) : getTextL l = (r.take n, r.drop n, 0) := by
  rw [getTextL, h]; simp only [if_pos, if_pos hn]; exact if_pos hr

theorem info_u8 : (Try.prog.info? 5).map (fun i => (i.zero, i.size, i.bytes)) = some (some (.int .u8 0), 1, 1) := by kernel_rfl
def BytesLeft (w : World) (r : List UInt8 × List UInt8 × Int) (e : Ending) (w' : World) : Prop :=
  ∃ v, e = .returned (.tuple #[v, .string ⟨r.2.1.toArray⟩, .int .i64 r.2.2]) ∧ w'.ownsRow w.heap.size 5 1 v r.1.length (Lib.byteCells r.1) ∧ Below w.heap.size w w'
theorem bytesLeft_err {w w' : World} {r : List UInt8 × List UInt8 × Int} {y : Int} (h : r = ([], [], y)) (hb : Below w.heap.size w w') : BytesLeft w r (.returned (.tuple #[.slice none 0 0, .string ⟨#[]⟩, .int .i64 y])) w' := by
  subst h
  exact ⟨_, rfl, World.ownsRow_nil _ _ _ _, hb⟩
theorem bytesLeft_ok {w w' : World} {r : List UInt8 × List UInt8 × Int} {v : Value} {ns : List UInt8} {l : List UInt8} (h : r = (ns, l, 0)) (ho : w'.ownsRow w.heap.size 5 1 v ns.length (Lib.byteCells ns)) (hb : Below w.heap.size w w') :
    BytesLeft w r (.returned (.tuple #[v, .string ⟨l.toArray⟩, .int .i64 0])) w' := by
  subst h
  exact ⟨_, rfl, ho, hb⟩

theorem conv_own {w : World} {B : Nat} {v : Value} {l : List UInt8} (h : w.ownsRow B 5 1 v l.length (Lib.byteCells l)) :
    (convert 80 9 v).run Try.prog w = .ok (.string ⟨l.toArray⟩) w := by
  rcases h.2 with ⟨hv, h0⟩ | ⟨g, cap, cur, hv, _⟩
  · subst hv
    obtain rfl : l = [] := List.length_eq_zero_iff.1 h0
    have := run_convert_bytes_nil (P := Try.prog) w 80 5 Try.underlying80 Try.underlying5 0 0 9 Try.underlying9
    exact this
  · subst hv
    refine run_convert_bytes_back (P := Try.prog) w 80 9 5 ⟨g, 0, none⟩ cap l Try.underlying80 Try.underlying5 Try.underlying9 (fun j hj => ?_)
    rw [addr_add, Nat.zero_add, h.cellAt j (by omega)]
    simp [Lib.byteCells, hj]
theorem getTextL_le (l : List UInt8) : (getTextL l).2.1.length ≤ l.length := by
  rw [getTextL]
  split
  · split
    · split
      · have h2 := getGo_len l 0 0
        simp
        omega
      · simp
    · simp
  · simp
end Go.Proofs.Ytkjhnefbcnnjlaa
namespace Go.Proofs.Ytkjhnefbcnnjlaa
open Go.RowKit

/-- the bytes of a text -/
def textL (t : List UInt8) : List UInt8 := putL t.length ++ t
theorem rv1 : rowL [1, 200] = [2, 1, 200, 1] := by
  have e1 : putL 2 = [2] := by rw [putL_small _ (by decide)]; rfl
  have e2 : putL 1 = [1] := by rw [putL_small _ (by decide)]; rfl
  have e3 : putL 200 = [200, 1] := by rw [putL_big _ (by decide), putL_small _ (by decide)]; rfl
  have e4 : allL [1, 200] = putL 1 ++ putL 200 := by simp [allL]
  rw [rowL, e4, e2, e3]
  show putL 2 ++ _ = _
  rw [e1]
  rfl
theorem rv2 : getRowL [2, 1, 200, 1, 122] = ([1, 200], [122], 0) := by decide +kernel
theorem rv3 : textL [97, 98] = [2, 97, 98] := by
  have e1 : putL 2 = [2] := by rw [putL_small _ (by decide)]; rfl
  show putL 2 ++ _ = _
  rw [e1]
  rfl
theorem rv4 : getTextL [2, 97, 98, 122] = ([97, 98], [122], 0) := by decide +kernel
theorem rv5 : getTextL [5, 97, 98] = ([], [], 5) := by decide +kernel
theorem isRow_two (w : World) : IsRow .u64 (w.alloc (.cells #[.int .u64 1, .int .u64 200] 31)) (some ⟨w.heap.size, 0, none⟩) 2 2 [1, 200] := by
  refine .inr ⟨_, rfl, by decide, by decide, rfl, ?_, by decide⟩
  intro i hi
  rw [addr_add, Nat.zero_add, World.cell?_alloc_at _ _ _ _ rfl]
  match i, hi with
  | 0, _ => rfl
  | 1, _ => rfl
end Go.Proofs.Ytkjhnefbcnnjlaa
