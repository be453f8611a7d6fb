/- What num.Text, num.GetText and the document's return, for every text. -/
import Derived.Test.YtbglbegljkgknaaGreatNq03
set_option linter.unusedVariables false
namespace Go.Proofs.YtbglbegljkgknaaGreat
open Go.RowKit

/-- so many numbers, one behind the other -/
def numsGo : Nat → List Int → List UInt8 → List Int × List UInt8 × Int
  | 0, acc, l => (acc, l, 0)
  | k + 1, acc, l => if (getGo 0 0 l).2.2 = 0 then numsGo k (acc ++ [((getGo 0 0 l).1 : Int)]) (getGo 0 0 l).2.1 else ([], [], (getGo 0 0 l).2.2)
def getRowL (l : List UInt8) : List Int × List UInt8 × Int :=
  if (getGo 0 0 l).2.2 = 0 then (if (getGo 0 0 l).1 ≤ 4096 then numsGo (getGo 0 0 l).1 [] (getGo 0 0 l).2.1 else ([], [], 7)) else ([], [], (getGo 0 0 l).2.2)
theorem numsGo_err {k : Nat} {acc : List Int} {l : List UInt8} {n : Nat} {r : List UInt8} {e : Int} (h : getGo 0 0 l = (n, r, e)) (he : e ≠ 0) : numsGo (k + 1) acc l = ([], [], e) := by
  rw [numsGo, h]; exact if_neg he
theorem numsGo_ok {k : Nat} {acc : List Int} {l : List UInt8} {n : Nat} {r : List UInt8} (h : getGo 0 0 l = (n, r, 0)) : numsGo (k + 1) acc l = numsGo k (acc ++ [(n : Int)]) r := by
  rw [numsGo, h]; exact if_pos rfl
theorem getRowL_err {l : List UInt8} {n : Nat} {r : List UInt8} {e : Int} (h : getGo 0 0 l = (n, r, e)) (he : e ≠ 0) : getRowL l = ([], [], e) := by
  rw [getRowL, h]; exact if_neg he
theorem getRowL_many {l : List UInt8} {n : Nat} {r : List UInt8} (h : getGo 0 0 l = (n, r, 0)) (hn : ¬ n ≤ 4096) : getRowL l = ([], [], 7) := by
  rw [getRowL, h]; simp only [if_pos]; exact if_neg hn
theorem getRowL_ok {l : List UInt8} {n : Nat} {r : List UInt8} (h : getGo 0 0 l = (n, r, 0)) (hn : n ≤ 4096) : getRowL l = numsGo n [] r := by
  rw [getRowL, h]; simp only [if_pos]; exact if_pos hn

theorem str_list (s : ByteArray) : ∃ l : List UInt8, s = ⟨l.toArray⟩ ∧ l.length = s.size := ⟨s.data.toList, by cases s; simp, by simp⟩
theorem size_list (l : List UInt8) : (⟨l.toArray⟩ : ByteArray).size = l.length := by show l.toArray.size = _; simp
theorem getS_list (l : List UInt8) : getS ⟨l.toArray⟩ = getGo 0 0 l := by simp [getS]

theorem getGo_le {l : List UInt8} {i acc n : Nat} {r : List UInt8} {y : Int} (h : getGo i acc l = (n, r, y)) : r.length ≤ l.length := by
  have := getGo_len l i acc
  rw [h] at this
  exact this

theorem info_u64 : (Tryz.prog.info? 29).map (fun i => (i.zero, i.size, i.bytes)) = some (some (.int .u64 0), 1, 8) := by kernel_rfl

/-- what a reader of a row leaves: a slice that owns the numbers, what is behind, the error -/
def RowLeft (w : World) (r : List Int × List UInt8 × Int) (e : Ending) (w' : World) : Prop :=
  ∃ v, e = .returned (.tuple #[v, .string ⟨r.2.1.toArray⟩, .int .i64 r.2.2]) ∧ w'.ownsRow w.heap.size 29 1 v r.1.length (r.1.map (Value.int .u64)) ∧ Below w.heap.size w w'
theorem rowLeft_err {w w' : World} {r : List Int × List UInt8 × Int} {y : Int} (h : r = ([], [], y)) (hb : Below w.heap.size w w') : RowLeft w r (.returned (.tuple #[.slice none 0 0, .string ⟨#[]⟩, .int .i64 y])) w' := by
  subst h
  exact ⟨_, rfl, World.ownsRow_nil _ _ _ _, hb⟩
theorem rowLeft_ok {w w' : World} {r : List Int × List UInt8 × Int} {v : Value} {ns : List Int} {l : List UInt8} (h : r = (ns, l, 0)) (ho : w'.ownsRow w.heap.size 29 1 v ns.length (ns.map (Value.int .u64))) (hb : Below w.heap.size w w') :
    RowLeft w r (.returned (.tuple #[v, .string ⟨l.toArray⟩, .int .i64 0])) w' := by
  subst h
  exact ⟨_, rfl, ho, hb⟩

theorem numsGo_le (k : Nat) : ∀ acc l, (numsGo k acc l).2.1.length ≤ l.length := by
  induction k with
  | zero => intro acc l; simp [numsGo]
  | succ k ih =>
    intro acc l
    rw [numsGo]
    split
    · have h1 := ih (acc ++ [((getGo 0 0 l).1 : Int)]) (getGo 0 0 l).2.1
      have h2 := getGo_len l 0 0
      omega
    · simp
theorem getRowL_le (l : List UInt8) : (getRowL l).2.1.length ≤ l.length := by
  rw [getRowL]
  split
  · split
    · have h1 := numsGo_le (getGo 0 0 l).1 [] (getGo 0 0 l).2.1
      have h2 := getGo_len l 0 0
      omega
    · simp
  · simp
end Go.Proofs.YtbglbegljkgknaaGreat
namespace Go.Proofs.YtbglbegljkgknaaGreat
open Go.RowKit

/-- a slice whose elements are these numbers -/
def Reads (w : World) (v : Value) (ns : List Int) : Prop :=
  (∃ a cap, v = .slice a 0 cap ∧ ns = []) ∨ ∃ b off cap, v = .slice (some ⟨b, off, none⟩) ns.length cap ∧ b < w.heap.size ∧ ns.length ≤ maxLen ∧ ∀ j, j < ns.length → w.cell? ⟨b, off + j, none⟩ = some (.int .u64 (ns.getD j 0))
theorem reads_below {w w' : World} {v : Value} {ns : List Int} (h : Reads w v ns) (hb : Below w.heap.size w w') : Reads w' v ns := by
  rcases h with h | ⟨b, off, cap, rfl, hlt, hm, hc⟩
  · exact .inl h
  · exact .inr ⟨b, off, cap, rfl, by have := hb.size; omega, hm, fun j hj => by rw [hb.cell (p := ⟨b, off + j, none⟩) hlt]; exact hc j hj⟩
theorem reads_own {w : World} {B : Nat} {v : Value} {ns : List Int} (h : w.ownsRow B 29 1 v ns.length (ns.map (Value.int .u64))) : Reads w v ns := by
  rcases h.2 with ⟨hv, h0⟩ | ⟨g, cap, cur, hv, hg, hh, hn, hm, hs, ht⟩
  · exact .inl ⟨_, _, hv, List.length_eq_zero_iff.1 h0⟩
  · subst hv
    have hlt : g < w.heap.size := by
      rcases Nat.lt_or_ge g w.heap.size with h' | h'
      · exact h'
      · simp [Array.getElem?_eq_none h'] at hh
    refine .inr ⟨g, 0, cap, rfl, hlt, by omega, fun j hj => ?_⟩
    rw [Nat.zero_add, h.cellAt j (by omega)]
    simp [hj]
theorem reads_row {w : World} {a : Option Addr} {len cap : Nat} {zs : List Int} (h : IsRow .u64 w a len cap zs) : Reads w (.slice a len cap) (zs.take len) := by
  have hl := isRow_len h
  by_cases h0 : len = 0
  · subst h0; exact .inl ⟨_, _, rfl, by simp⟩
  · obtain ⟨b, off, rfl, hlt, hc⟩ := isRow_at h (k := 0) (by omega)
    have hlen : (zs.take len).length = len := by rw [List.length_take]; omega
    refine .inr ⟨b, off, cap, by rw [hlen], hlt, by rw [hlen]; omega, fun j hj => ?_⟩
    rw [hlen] at hj
    rw [hc j hj]
    simp [List.getD_eq_getElem?_getD, List.getElem?_take_of_lt hj]

theorem str_app (a b : List UInt8) : (⟨a.toArray⟩ ++ ⟨b.toArray⟩ : ByteArray) = ⟨(a ++ b).toArray⟩ := by
  apply ByteArray.ext
  rw [ByteArray.data_append]
  simp
end Go.Proofs.YtbglbegljkgknaaGreat
namespace Go.Proofs.YtbglbegljkgknaaGreat
open Go.RowKit

def getTextL (l : List UInt8) : List UInt8 × List UInt8 × Int :=
  if (getGo 0 0 l).2.2 = 0 then (if (getGo 0 0 l).1 ≤ 32768 then (if (getGo 0 0 l).1 ≤ (getGo 0 0 l).2.1.length then ((getGo 0 0 l).2.1.take (getGo 0 0 l).1, (getGo 0 0 l).2.1.drop (getGo 0 0 l).1, 0) else ([], [], 5)) else ([], [], 7)) else ([], [], (getGo 0 0 l).2.2)
theorem getTextL_err {l : List UInt8} {n : Nat} {r : List UInt8} {e : Int} (h : getGo 0 0 l = (n, r, e)) (he : e ≠ 0) : getTextL l = ([], [], e) := by
  rw [getTextL, h]; exact if_neg he
theorem getTextL_many {l : List UInt8} {n : Nat} {r : List UInt8} (h : getGo 0 0 l = (n, r, 0)) (hn : ¬ n ≤ 32768) : getTextL l = ([], [], 7) := by
  rw [getTextL, h]; simp only [if_pos]; exact if_neg hn
theorem getTextL_short {l : List UInt8} {n : Nat} {r : List UInt8} (h : getGo 0 0 l = (n, r, 0)) (hn : n ≤ 32768) (hr : ¬ n ≤ r.length) : getTextL l = ([], [], 5) := by
  rw [getTextL, h]; simp only [if_pos, if_pos hn]; exact if_neg hr
theorem getTextL_ok {l : List UInt8} {n : Nat} {r : List UInt8} (h : getGo 0 0 l = (n, r, 0)) (hn : n ≤ 32768) (hr : n ≤ r.length) : getTextL l = (r.take n, r.drop n, 0) := by
  rw [getTextL, h]; simp only [if_pos, if_pos hn]; exact if_pos hr

theorem info_u8 : (Tryz.prog.info? 5).map (fun i => (i.zero, i.size, i.bytes)) = some (some (.int .u8 0), 1, 1) := by kernel_rfl
def BytesLeft (w : World) (r : List UInt8 × List UInt8 × Int) (e : Ending) (w' : World) : Prop :=
  ∃ v, e = .returned (.tuple #[v, .string ⟨r.2.1.toArray⟩, .int .i64 r.2.2]) ∧ w'.ownsRow w.heap.size 5 1 v r.1.length (Lib.byteCells r.1) ∧ Below w.heap.size w w'
theorem bytesLeft_err {w w' : World} {r : List UInt8 × List UInt8 × Int} {y : Int} (h : r = ([], [], y)) (hb : Below w.heap.size w w') : BytesLeft w r (.returned (.tuple #[.slice none 0 0, .string ⟨#[]⟩, .int .i64 y])) w' := by
  subst h
  exact ⟨_, rfl, World.ownsRow_nil _ _ _ _, hb⟩
theorem bytesLeft_ok {w w' : World} {r : List UInt8 × List UInt8 × Int} {v : Value} {ns : List UInt8} {l : List UInt8} (h : r = (ns, l, 0)) (ho : w'.ownsRow w.heap.size 5 1 v ns.length (Lib.byteCells ns)) (hb : Below w.heap.size w w') :
    BytesLeft w r (.returned (.tuple #[v, .string ⟨l.toArray⟩, .int .i64 0])) w' := by
  subst h
  exact ⟨_, rfl, ho, hb⟩

theorem getTextL_le (l : List UInt8) : (getTextL l).2.1.length ≤ l.length := by
  rw [getTextL]
  split
  · split
    · split
      · have h2 := getGo_len l 0 0
        simp
        omega
      · simp
    · simp
  · simp
theorem ret_txt {a b c : List UInt8} {y : Int} (h : a = b) : Ending.returned (.tuple #[.string ⟨a.toArray⟩, .string ⟨c.toArray⟩, .int .i64 y]) = .returned (.tuple #[.string ⟨b.toArray⟩, .string ⟨c.toArray⟩, .int .i64 y]) := by rw [h]
end Go.Proofs.YtbglbegljkgknaaGreat
