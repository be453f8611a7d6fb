/- What the document's Same and its Row return; and rows of numbers that are read again. -/
import Derived.Test.YtjgieaijdkmadaaWalkList
set_option linter.unusedVariables false
namespace Go.Proofs.Ytjgieaijdkmadaa
open Go.RowKit

/-- a slice whose elements are these numbers -/
def Reads (w : World) (v : Value) (ns : List Int) : Prop :=
  (∃ a cap, v = .slice a 0 cap ∧ ns = []) ∨ ∃ b off cap, v = .slice (some ⟨b, off, none⟩) ns.length cap ∧ b < w.heap.size ∧ ns.length ≤ maxLen ∧ ∀ j, j < ns.length → w.cell? ⟨b, off + j, none⟩ = some (.int .u64 (ns.getD j 0))
theorem reads_below {w w' : World} {v : Value} {ns : List Int} (h : Reads w v ns) (hb : Below w.heap.size w w') : Reads w' v ns := by
  rcases h with h | ⟨b, off, cap, rfl, hlt, hm, hc⟩
  · exact .inl h
  · exact .inr ⟨b, off, cap, rfl, by have := hb.size; omega, hm, fun j hj => by rw [hb.cell (p := ⟨b, off + j, none⟩) hlt]; exact hc j hj⟩
theorem reads_own {w : World} {B : Nat} {v : Value} {ns : List Int} (h : w.ownsRow B 23 1 v ns.length (ns.map (Value.int .u64))) : Reads w v ns := by
  rcases h.2 with ⟨hv, h0⟩ | ⟨g, cap, cur, hv, hg, hh, hn, hm, hs, ht⟩
  · exact .inl ⟨_, _, hv, List.length_eq_zero_iff.1 h0⟩
  · subst hv
    have hlt : g < w.heap.size := by
      rcases Nat.lt_or_ge g w.heap.size with h' | h'
      · exact h'
      · simp [Array.getElem?_eq_none h'] at hh
    refine .inr ⟨g, 0, cap, rfl, hlt, by omega, fun j hj => ?_⟩
    rw [Nat.zero_add, h.cellAt j (by omega)]
    simp [hj]
theorem reads_row {w : World} {a : Option Addr} {len cap : Nat} {zs : List Int} (h : IsRow .u64 w a len cap zs) : Reads w (.slice a len cap) (zs.take len) := by
  have hl := isRow_len h
  by_cases h0 : len = 0
  · subst h0; exact .inl ⟨_, _, rfl, by simp⟩
  · obtain ⟨b, off, rfl, hlt, hc⟩ := isRow_at h (k := 0) (by omega)
    have hlen : (zs.take len).length = len := by rw [List.length_take]; omega
    refine .inr ⟨b, off, cap, by rw [hlen], hlt, by rw [hlen]; omega, fun j hj => ?_⟩
    rw [hlen] at hj
    rw [hc j hj]
    simp [List.getD_eq_getElem?_getD, List.getElem?_take_of_lt hj]

theorem str_app (a b : List UInt8) : (⟨a.toArray⟩ ++ ⟨b.toArray⟩ : ByteArray) = ⟨(a ++ b).toArray⟩ := by
  apply ByteArray.ext
  rw [ByteArray.data_append]
  simp
end Go.Proofs.Ytjgieaijdkmadaa
