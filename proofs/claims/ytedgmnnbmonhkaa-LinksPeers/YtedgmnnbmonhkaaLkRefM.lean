/- Links that rise: those ahead of an interface, and those behind it, are the others. -/
import Derived.Test.YtedgmnnbmonhkaaLkDelM
set_option linter.unusedVariables false
namespace Go.Proofs.Ytedgmnnbmonhkaa.Lk
theorem all_behind {l : List Lk} {i : Int} (h : ∀ x ∈ l, i < x.iface) : aheadL l i = [] ∧ ofL l i = [] ∧ behindL l i = l ∧ others l i = l := by
  unfold aheadL ofL behindL others
  refine ⟨List.filter_eq_nil_iff.2 (fun x hx => by have := h x hx; simp; omega), List.filter_eq_nil_iff.2 (fun x hx => by have := h x hx; simp; omega), List.filter_eq_self.2 (fun x hx => by have := h x hx; simpa using this), List.filter_eq_self.2 (fun x hx => by have := h x hx; simp; omega)⟩
theorem others_split {l : List Lk} (h : l.Pairwise (fun x y => x.iface < y.iface)) (i : Int) : others l i = aheadL l i ++ behindL l i ∧ l.length = (others l i).length + (ofL l i).length := by
  induction l with
  | nil => exact ⟨rfl, rfl⟩
  | cons s t ih =>
    rw [List.pairwise_cons] at h
    obtain ⟨h1, h2⟩ := ih h.2
    have eA : aheadL (s :: t) i = (if s.iface < i then [s] else []) ++ aheadL t i := by
      unfold aheadL; by_cases q : s.iface < i <;> simp [q]
    have eB : behindL (s :: t) i = (if i < s.iface then [s] else []) ++ behindL t i := by
      unfold behindL; by_cases q : i < s.iface <;> simp [q]
    have eO : others (s :: t) i = (if s.iface = i then [] else [s]) ++ others t i := by
      unfold others; by_cases q : s.iface = i <;> simp [q]
    have eF : ofL (s :: t) i = (if s.iface = i then [s] else []) ++ ofL t i := by
      unfold ofL; by_cases q : s.iface = i <;> simp [q]
    rcases Int.lt_trichotomy s.iface i with q | q | q
    · have n1 : ¬ i < s.iface := by omega
      have n2 : ¬ s.iface = i := by omega
      rw [eA, eB, eO, eF, h1]
      simp only [if_pos q, if_neg n1, if_neg n2]
      refine ⟨by simp, ?_⟩
      rw [h1] at h2
      simp only [List.length_cons, List.length_append, List.length_nil] at h2 ⊢
      omega
    · obtain ⟨b1, b2, b3, b4⟩ := all_behind (l := t) (i := i) (fun x hx => by have := h.1 x hx; omega)
      have n1 : ¬ s.iface < i := by omega
      have n2 : ¬ i < s.iface := by omega
      rw [eA, eB, eO, eF, b1, b2, b3, b4]
      simp only [if_pos q, if_neg n1, if_neg n2]
      exact ⟨rfl, by simp⟩
    · obtain ⟨b1, b2, b3, b4⟩ := all_behind (l := t) (i := i) (fun x hx => by have := h.1 x hx; omega)
      have n1 : ¬ s.iface < i := by omega
      have n2 : ¬ s.iface = i := by omega
      rw [eA, eB, eO, eF, b1, b2, b3, b4]
      simp only [if_pos q, if_neg n1, if_neg n2]
      exact ⟨rfl, by simp⟩
end Go.Proofs.Ytedgmnnbmonhkaa.Lk
