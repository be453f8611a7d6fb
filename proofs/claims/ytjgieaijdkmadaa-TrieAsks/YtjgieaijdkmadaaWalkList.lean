/- What num.GetRow and the document's GetRow return, for every text: the row that its bytes begin with, or an error. -/
import Derived.Test.YtjgieaijdkmadaaWalkRow
set_option linter.unusedVariables false
namespace Go.Proofs.Ytjgieaijdkmadaa
open Go.RowKit

/-- so many numbers, one behind the other -/
def numsGo : Nat → List Int → List UInt8 → List Int × List UInt8 × Int
  | 0, acc, l => (acc, l, 0)
  | k + 1, acc, l => if (getGo 0 0 l).2.2 = 0 then numsGo k (acc ++ [((getGo 0 0 l).1 : Int)]) (getGo 0 0 l).2.1 else ([], [], (getGo 0 0 l).2.2)
def getRowL (l : List UInt8) : List Int × List UInt8 × Int :=
  if (getGo 0 0 l).2.2 = 0 then (if (getGo 0 0 l).1 ≤ 4096 then numsGo (getGo 0 0 l).1 [] (getGo 0 0 l).2.1 else ([], [], 7)) else ([], [], (getGo 0 0 l).2.2)
theorem numsGo_err {k : Nat} {acc : List Int} {l : List UInt8} {n : Nat} {r : List UInt8} {e : Int} (h : getGo 0 0 l = (n, r, e)) (he : e ≠ 0) : numsGo (k + 1) acc l = ([], [], e) := by
  rw [numsGo, h]; exact if_neg he
theorem numsGo_ok {k : Nat} {acc : List Int} {l : List UInt8} {n : Nat} {r : List UInt8} (h : getGo 0 0 l = (n, r, 0)) : numsGo (k + 1) acc l = numsGo k (acc ++ [(n : Int)]) r := by
  rw [numsGo, h]; exact if_pos rfl
theorem getRowL_err {l : List UInt8} {n : Nat} {r : List UInt8} {e : Int} (h : getGo 0 0 l = (n, r, e)) (he : e ≠ 0) : getRowL l = ([], [], e) := by
  rw [getRowL, h]; exact if_neg he
theorem getRowL_many {l : List UInt8} {n : Nat} {r : List UInt8} (h : getGo 0 0 l = (n, r, 0)) (hn : ¬ n ≤ 4096) : getRowL l = ([], [], 7) := by
  rw [getRowL, h]; simp only [if_pos]; exact if_neg hn
theorem getRowL_ok {l : List UInt8} {n : Nat} {r : List UInt8} (h : getGo 0 0 l = (n, r, 0)) (hn : n ≤ 4096) : getRowL l = numsGo n [] r := by
  rw [getRowL, h]; simp only [if_pos]; exact if_pos hn

theorem str_list (s : ByteArray) : ∃ l : List UInt8, s = ⟨l.toArray⟩ ∧ l.length = s.size := ⟨s.data.toList, by cases s; simp, by simp⟩
theorem size_list (l : List UInt8) : (⟨l.toArray⟩ : ByteArray).size = l.length := by show l.toArray.size = _; simp
theorem getS_list (l : List UInt8) : getS ⟨l.toArray⟩ = getGo 0 0 l := by simp [getS]

theorem getGo_le {l : List UInt8} {i acc n : Nat} {r : List UInt8} {y : Int} (h : getGo i acc l = (n, r, y)) : r.length ≤ l.length := by
  have := getGo_len l i acc
  rw [h] at this
  exact this

theorem info_u64 : (Try.prog.info? 23).map (fun i => (i.zero, i.size, i.bytes)) = some (some (.int .u64 0), 1, 8) := by kernel_rfl

/-- what a reader of a row leaves: a slice that owns the numbers, what is behind, the error -/
def RowLeft (w : World) (r : List Int × List UInt8 × Int) (e : Ending) (w' : World) : Prop :=
  ∃ v, e = .returned (.tuple #[v, .string ⟨r.2.1.toArray⟩, .int .i64 r.2.2]) ∧ w'.ownsRow w.heap.size 23 1 v r.1.length (r.1.map (Value.int .u64)) ∧ Below w.heap.size w w'
theorem rowLeft_err {w w' : World} {r : List Int × List UInt8 × Int} {y : Int} (h : r = ([], [], y)) (hb : Below w.heap.size w w') : RowLeft w r (.returned (.tuple #[.slice none 0 0, .string ⟨#[]⟩, .int .i64 y])) w' := by
  subst h
  exact ⟨_, rfl, World.ownsRow_nil _ _ _ _, hb⟩
theorem rowLeft_ok {w w' : World} {r : List Int × List UInt8 × Int} {v : Value} {ns : List Int} {l : List UInt8} (h : r = (ns, l, 0)) (ho : w'.ownsRow w.heap.size 23 1 v ns.length (ns.map (Value.int .u64))) (hb : Below w.heap.size w w') :
    RowLeft w r (.returned (.tuple #[v, .string ⟨l.toArray⟩, .int .i64 0])) w' := by
  subst h
  exact ⟨_, rfl, ho, hb⟩

theorem numsGo_le (k : Nat) : ∀ acc l, (numsGo k acc l).2.1.length ≤ l.length := by
  induction k with
  | zero => intro acc l; simp [numsGo]
  | succ k ih =>
    intro acc l
    rw [numsGo]
    split
    · have h1 := ih (acc ++ [((getGo 0 0 l).1 : Int)]) (getGo 0 0 l).2.1
      have h2 := getGo_len l 0 0
      omega
    · simp
theorem getRowL_le (l : List UInt8) : (getRowL l).2.1.length ≤ l.length := by
  rw [getRowL]
  split
  · split
    · have h1 := numsGo_le (getGo 0 0 l).1 [] (getGo 0 0 l).2.1
      have h2 := getGo_len l 0 0
      omega
    · simp
  · simp
end Go.Proofs.Ytjgieaijdkmadaa
