/- The document's parts of links: those ahead of an interface, of it, behind it. -/
import Derived.Test.YtmkbijnndbgjgaaLkRefC
import Derived.Deep.AppendLies
set_option linter.unusedVariables false
namespace Go.Proofs.Ytmkbijnndbgjgaa.Lk
open Go.RowKit
open Go.Proofs.Ytmkbijnndbgjgaa.Addr (RowAt below2 below_drew below_new bset RowAt.lt RowAt.cell RowAt.frozen RowAt.below RowAt.drew RowAt.new RowAt.alloc cells2)
attribute [-go_sem] Builtin.append_
theorem info_parts {e sz by' : Nat} {z : Value} (h : (Try.prog.info? e).map (fun i => (i.zero, i.size, i.bytes)) = some (some z, sz, by')) : ∃ i, Try.prog.info? e = some i ∧ i.zero = some z ∧ i.size = sz ∧ i.bytes = by' := by
  cases hi : Try.prog.info? e with
  | none => rw [hi] at h; cases h
  | some i =>
    rw [hi] at h
    simp only [Option.map_some, Option.some.injEq, Prod.mk.injEq] at h
    exact ⟨i, rfl, h.1, h.2.1, h.2.2⟩
def Dist (u v : Value) : Prop := ∀ k, u.ownBlock = some k → v.ownBlock ≠ some k
theorem Dist.symm {u v : Value} (h : Dist u v) : Dist v u := fun k hk hc => h k hc hk
theorem own_below {W W' : World} {m e size k : Nat} {v : Value} {xs : List Value} (h : W.ownsRow m e size v k xs) (hb : Below W.heap.size W W') : W'.ownsRow m e size v k xs := by
  refine ⟨h.1, ?_⟩
  rcases h.2 with h0 | ⟨g, cap, cur, e1, hg, hgb, rest⟩
  · exact .inl h0
  · exact .inr ⟨g, cap, cur, e1, hg, by rw [hb.block g (Array.getElem?_eq_some_iff.1 hgb).1]; exact hgb, rest⟩
def ofL (l : List Lk) (i : Int) : List Lk := l.filter (fun s => decide (s.iface = i))
theorem filter_snoc (p : Lk → Bool) (l : List Lk) (k : Nat) (h : k < l.length) : (l.take (k + 1)).filter p = (l.take k).filter p ++ (if p l[k] then [l[k]] else []) := by
  rw [List.take_succ_eq_append_getElem h, List.filter_append]
  congr 1
  cases hp : p l[k] <;> simp [hp]
theorem filter_le (p : Lk → Bool) (l : List Lk) (k : Nat) : ((l.take k).filter p).length ≤ l.length := Nat.le_trans (List.length_filter_le _ _) (by rw [List.length_take]; omega)
end Go.Proofs.Ytmkbijnndbgjgaa.Lk
