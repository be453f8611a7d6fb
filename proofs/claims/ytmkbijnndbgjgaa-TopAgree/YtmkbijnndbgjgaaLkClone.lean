/- A row of links anew. -/
import Derived.Test.YtmkbijnndbgjgaaLkParts
import Derived.Shelf.Slices.Clone
import Derived.Laws.Cover3
set_option linter.unusedVariables false
namespace Go.Proofs.Ytmkbijnndbgjgaa.Lk
open Go.RowKit Go.Shelf
open Go.Proofs.Ytmkbijnndbgjgaa.Addr (RowAt below2 below_drew below_new bset RowAt.lt RowAt.cell RowAt.frozen RowAt.below RowAt.drew RowAt.new RowAt.alloc cells2)
attribute [-go_sem] Builtin.append_
theorem append_row {e tS sz bytes : Nat} {z : Value} (hi : (Try.prog.info? e).map (fun i => (i.zero, i.size, i.bytes)) = some (some z, sz, bytes)) (hu : Try.prog.underlying tS = some (.slice e)) (hz : z.cells.size = sz) (hsz : 0 < sz)
    {W : World} {n₀ k m : Nat} {v u : Value} {xs news : List Value} (hown : W.ownsRow n₀ e sz v k xs) (hsrc : HasRow W u sz m news) (h1 : ∀ x ∈ news, x.oneCell' = true) (hb : (k + m) * bytes ≤ 140737488355328) (hkm : k + m ≤ 9223372036854775807) (hn : n₀ ≤ W.heap.size) :
    ∃ v' w3, (∀ ty, (Builtin.append_ #[tS, tS] ty #[v, u]).run Try.prog W = .ok v' w3) ∧ w3.ownsRow n₀ e sz v' (k + m) (xs ++ news) ∧ W.grownBy w3 v.ownBlock := by
  obtain ⟨i0, hi0, hz0, hz1, hz2⟩ := info_parts hi
  rcases hsrc.2 with ⟨rfl, rfl⟩ | ⟨a, cap, rfl, g1, g2, g3, g4⟩
  · obtain rfl : news = [] := List.eq_nil_of_length_eq_zero (by rw [hsrc.1]; simp)
    have := fun ty => run_append_owned_none (P := Try.prog) W n₀ tS ty e i0 sz hu hi0 v k xs hown
    exact ⟨v, W, this, by simpa using hown, World.grownBy.refl _ _⟩
  · have h := run_append_own (P := Try.prog) W n₀ tS 0 e i0 z sz bytes hu hi0 hz0 hz1 hz2 hz hsz v k xs hown a m cap news hsrc.1
      (fun j x hj => by rw [g4 j (by rw [← hsrc.1]; exact (List.getElem?_eq_some_iff.1 hj).1)]; exact hj) h1 (by unfold maxLen; omega) hb hn
    obtain ⟨v', w3, hrun, k1, k2, _⟩ := h
    exact ⟨v', w3, fun ty => hrun, k1, k2⟩
theorem empty_own (w : World) (e sz : Nat) : (w.alloc (.cells #[] e)).ownsRow w.heap.size e sz (.slice (some ⟨w.heap.size, 0, none⟩) 0 0) 0 [] :=
  World.ownsRow_made (base := w.heap.size) (e := e) (size := sz) w #[] 0 (Nat.le_refl _) (by decide) (by simp)
theorem eql_slice_nil {t e : Nat} (h : Try.prog.underlying t = some (.slice e)) (a : Option Addr) (l c : Nat) (w : World) : (binOp .eql t (.slice a l c) (.slice none 0 0)).run Try.prog w = .ok (.bool a.isNone) w := by
  simp only [binOp]
  simp [run_equal_slice_nil w t e a l c h]
end Go.Proofs.Ytmkbijnndbgjgaa.Lk
