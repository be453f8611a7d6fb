/- What num.Text, num.GetText and the document's return, for every text. -/
import Derived.Test.YtjgieaijdkmadaaWalkSame
set_option linter.unusedVariables false
namespace Go.Proofs.Ytjgieaijdkmadaa
open Go.RowKit

def getTextL (l : List UInt8) : List UInt8 × List UInt8 × Int :=
  if (getGo 0 0 l).2.2 = 0 then (if (getGo 0 0 l).1 ≤ 32768 then (if (getGo 0 0 l).1 ≤ (getGo 0 0 l).2.1.length then ((getGo 0 0 l).2.1.take (getGo 0 0 l).1, (getGo 0 0 l).2.1.drop (getGo 0 0 l).1, 0) else ([], [], 5)) else ([], [], 7)) else ([], [], (getGo 0 0 l).2.2)
theorem getTextL_err {l : List UInt8} {n : Nat} {r : List UInt8} {e : Int} (h : getGo 0 0 l = (n, r, e)) (he : e ≠ 0) : getTextL l = ([], [], e) := by
  rw [getTextL, h]; exact if_neg he
theorem getTextL_many {l : List UInt8} {n : Nat} {r : List UInt8} (h : getGo 0 0 l = (n, r, 0)) (hn : ¬ n ≤ 32768) : getTextL l = ([], [], 7) := by
  rw [getTextL, h]; simp only [if_pos]; exact if_neg hn
theorem getTextL_short {l : List UInt8} {n : Nat} {r : List UInt8} (h : getGo 0 0 l = (n, r, 0)) (hn : n ≤ 32768) (hr : ¬ n ≤ r.length) : getTextL l = ([], [], 5) := by
  rw [getTextL, h]; simp only [if_pos, if_pos hn]; exact if_neg hr
theorem getTextL_ok {l : List UInt8} {n : Nat} {r : List UInt8} (h : getGo 0 0 l = (n, r, 0)) (hn : n ≤ 32768) (hr : n ≤ r.length) : getTextL l = (r.take n, r.drop n, 0) := by
  rw [getTextL, h]; simp only [if_pos, if_pos hn]; exact if_pos hr

theorem info_u8 : (Try.prog.info? 5).map (fun i => (i.zero, i.size, i.bytes)) = some (some (.int .u8 0), 1, 1) := by kernel_rfl
def BytesLeft (w : World) (r : List UInt8 × List UInt8 × Int) (e : Ending) (w' : World) : Prop :=
  ∃ v, e = .returned (.tuple #[v, .string ⟨r.2.1.toArray⟩, .int .i64 r.2.2]) ∧ w'.ownsRow w.heap.size 5 1 v r.1.length (Lib.byteCells r.1) ∧ Below w.heap.size w w'
theorem bytesLeft_err {w w' : World} {r : List UInt8 × List UInt8 × Int} {y : Int} (h : r = ([], [], y)) (hb : Below w.heap.size w w') : BytesLeft w r (.returned (.tuple #[.slice none 0 0, .string ⟨#[]⟩, .int .i64 y])) w' := by
  subst h
  exact ⟨_, rfl, World.ownsRow_nil _ _ _ _, hb⟩
theorem bytesLeft_ok {w w' : World} {r : List UInt8 × List UInt8 × Int} {v : Value} {ns : List UInt8} {l : List UInt8} (h : r = (ns, l, 0)) (ho : w'.ownsRow w.heap.size 5 1 v ns.length (Lib.byteCells ns)) (hb : Below w.heap.size w w') :
    BytesLeft w r (.returned (.tuple #[v, .string ⟨l.toArray⟩, .int .i64 0])) w' := by
  subst h
  exact ⟨_, rfl, ho, hb⟩

theorem getTextL_le (l : List UInt8) : (getTextL l).2.1.length ≤ l.length := by
  rw [getTextL]
  split
  · split
    · split
      · have h2 := getGo_len l 0 0
        simp
        omega
      · simp
    · simp
  · simp
theorem ret_txt {a b c : List UInt8} {y : Int} (h : a = b) : Ending.returned (.tuple #[.string ⟨a.toArray⟩, .string ⟨c.toArray⟩, .int .i64 y]) = .returned (.tuple #[.string ⟨b.toArray⟩, .string ⟨c.toArray⟩, .int .i64 y]) := by rw [h]
end Go.Proofs.Ytjgieaijdkmadaa
