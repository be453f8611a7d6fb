/- What the document's All, Take and Same of frames return. -/
import Derived.Test.YtoigogjklhahkaaWalkTake
import Derived.Test.YtoigogjklhahkaaWalkNext
set_option linter.unusedVariables false
namespace Go.Proofs.Ytoigogjklhahkaa.Frame
open Go.RowKit

theorem allIs_of {w w' : World} {l : List UInt8} {v : Value} {e : Ending} {a : List (List UInt8)} {b : List UInt8} (h : allL l = (a, b)) (he : e = .returned (.tuple #[v, .int .i64 ((l.length : Int) - b.length)]))
    (ho : w'.ownsRow w.heap.size 9 1 v a.length (a.map strV)) (hb : Below w.heap.size w w') : ∃ v, e = .returned (.tuple #[v, .int .i64 ((l.length : Int) - (allL l).2.length)]) ∧
      w'.ownsRow w.heap.size 9 1 v (allL l).1.length ((allL l).1.map strV) ∧ Below w.heap.size w w' := by
  rw [h]; exact ⟨v, he, ho, hb⟩
theorem takeIs_of {w w' : World} {r : List (List UInt8) × List UInt8 × Int} {v : Value} {e : Ending} {a : List (List UInt8)} {b : List UInt8} {y : Int} (h : r = (a, b, y)) (he : e = .returned (.tuple #[v, .string ⟨b.toArray⟩, .int .i64 y]))
    (ho : w'.ownsRow w.heap.size 9 1 v a.length (a.map strV)) (hb : Below w.heap.size w w') : TakeIs w r e w' := by
  subst h; exact ⟨v, he, ho, hb⟩
/-- a slice whose cells are these texts -/
def HasStrs (W : World) (v : Value) (zs : List (List UInt8)) : Prop :=
  ∃ o cap, v = .slice o zs.length cap ∧ ∀ j (h : j < zs.length), ∃ b i, o = some ⟨b, i, none⟩ ∧ W.cell? ⟨b, i + j, none⟩ = some (strV zs[j]) ∧ b < W.heap.size
theorem has_own {W : World} {B : Nat} {v : Value} {zs : List (List UInt8)} (h : W.ownsRow B 9 1 v zs.length (zs.map strV)) : HasStrs W v zs := by
  rcases h.2 with ⟨rfl, h0⟩ | ⟨g, cap, cur, rfl, hg, hgb, rest⟩
  · exact ⟨none, 0, by rw [h0], fun j hj => by omega⟩
  · refine ⟨_, cap, rfl, fun j hj => ⟨g, 0, rfl, ?_, (Array.getElem?_eq_some_iff.1 hgb).1⟩⟩
    rw [Nat.zero_add, h.cellAt j (by omega)]
    simp [hj]
theorem HasStrs.keep {W W' : World} {v : Value} {zs : List (List UInt8)} (h : HasStrs W v zs) (hb : Below W.heap.size W W') : HasStrs W' v zs := by
  obtain ⟨o, cap, rfl, hc⟩ := h
  refine ⟨o, cap, rfl, fun j hj => ?_⟩
  obtain ⟨b, i, e, h1, h2⟩ := hc j hj
  exact ⟨b, i, e, ((bcell hb).1 _ _ h2).trans h1, Nat.lt_of_lt_of_le h2 hb.size⟩
theorem HasStrs.one {W W' : World} {zs : List (List UInt8)} {o : Option Addr} {n cap : Nat} (h : HasStrs W (.slice o n cap) zs) (j : Nat) (hj : j < n) : n = zs.length ∧ ∃ b i p, o = some ⟨b, i, none⟩ ∧ zs[j]? = some p ∧ W.cell? ⟨b, i + j, none⟩ = some (.string ⟨p.toArray⟩) := by
  obtain ⟨o', cap', e, hc⟩ := h
  cases e
  obtain ⟨b, i, e, h1, _⟩ := hc j hj
  exact ⟨rfl, b, i, zs[j], e, by simp [hj], h1⟩
end Go.Proofs.Ytoigogjklhahkaa.Frame
