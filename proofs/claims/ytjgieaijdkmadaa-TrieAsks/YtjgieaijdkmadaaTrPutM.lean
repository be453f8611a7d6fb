/- Routes put, found and taken out, plain. -/
import Derived.Test.YtjgieaijdkmadaaTrPlace
set_option linter.unusedVariables false
namespace Go.Proofs.Ytjgieaijdkmadaa.Tr
open Go.RowKit
open Go.Proofs.Ytjgieaijdkmadaa.Addr (Pf okP hiN loN)
open Go.Proofs.Ytjgieaijdkmadaa.Lk (HasRow addr_add)
def aheadT (l : List Rt) (p : Pf) : List Rt := l.filter (fun s => decide (ordP s.pf p < 0))
def behindT (l : List Rt) (p : Pf) : List Rt := l.filter (fun s => decide (0 < ordP s.pf p))
def othersT (l : List Rt) (p : Pf) : List Rt := l.filter (fun s => !decide (ordP s.pf p = 0))
def insT (l : List Rt) (r : Rt) : List Rt := aheadT l r.pf ++ ([r] ++ behindT l r.pf)
def putT (l : List Rt) (r : Rt) : List Rt × Int := if okT l && okR r then (if (othersT l r.pf).length = 256 then (l, 8) else (insT l r, 0)) else ([], 2)
def findT (l : List Rt) (p : Pf) : Option Rt := l.find? (fun s => decide (ordP s.pf p = 0))
def delT (l : List Rt) (p : Pf) : List Rt × Int := if okT l && okP p then (othersT l p, if (othersT l p).length = l.length then 3 else 0) else ([], 2)
theorem filt_all {α : Type} {f : α → Bool} {l : List α} (h : ∀ x ∈ l, f x = true) : l.filter f = l := List.filter_eq_self.2 h
theorem filt_none {α : Type} {f : α → Bool} {l : List α} (h : ∀ x ∈ l, f x = false) : l.filter f = [] := List.filter_eq_nil_iff.2 (fun x hx => by rw [h x hx]; simp)
/-- the list in three parts about a place -/
theorem parts_at {l : List Rt} {p : Pf} {k : Nat} (hu : Up l) (hk : Pos l p k) (hi : isAt l p k = true) : ∃ h : k < l.length, l[k].pf = p ∧ l.take k = aheadT l p ∧ l.drop (k + 1) = behindT l p ∧ othersT l p = l.take k ++ l.drop (k + 1) := by
  unfold isAt at hi
  have hkl : k < l.length := by
    rcases Nat.lt_or_ge k l.length with h | h
    · exact h
    · rw [List.getElem?_eq_none h] at hi; cases hi
  rw [List.getElem?_eq_getElem hkl] at hi
  simp only [decide_eq_true_eq] at hi
  have he : l[k].pf = p := (ordP_eq _ _).1 hi
  have hsp : l = l.take k ++ (l[k] :: l.drop (k + 1)) := by
    have := (List.take_append_drop k l).symm
    rw [List.drop_eq_getElem_cons hkl] at this
    exact this
  have h1 : ∀ x ∈ l.take k, ordP x.pf p < 0 := fun x hx => by
    obtain ⟨j, hj, rfl⟩ := List.getElem_of_mem hx
    rw [List.length_take] at hj
    rw [List.getElem_take]
    exact (ordP_lt _ _).2 (hk.2.1 j (by omega) (by omega))
  have h2 : ∀ x ∈ l.drop (k + 1), 0 < ordP x.pf p := fun x hx => by
    obtain ⟨j, hj, rfl⟩ := List.getElem_of_mem hx
    rw [List.length_drop] at hj
    rw [List.getElem_drop, ordP_gt]
    have := List.pairwise_iff_getElem.1 hu k (k + 1 + j) hkl (by omega) (by omega)
    rw [he] at this
    exact this
  have hz : ordP l[k].pf p = 0 := hi
  refine ⟨hkl, he, ?_, ?_, ?_⟩
  · unfold aheadT
    conv => rhs; rw [hsp]
    rw [List.filter_append, filt_all (fun x hx => decide_eq_true (h1 x hx)), filt_none (fun x hx => ?_), List.append_nil]
    rcases List.mem_cons.1 hx with rfl | hx
    · exact decide_eq_false (by omega)
    · have := h2 x hx; exact decide_eq_false (by omega)
  · unfold behindT
    conv => rhs; rw [hsp]
    rw [List.filter_append, filt_none (fun x hx => by have := h1 x hx; exact decide_eq_false (by omega)), List.filter_cons_of_neg (by rw [hz]; decide), List.nil_append, filt_all (fun x hx => decide_eq_true (h2 x hx))]
  · unfold othersT
    conv => lhs; rw [hsp]
    rw [List.filter_append, filt_all (fun x hx => by have := h1 x hx; simp; omega), List.filter_cons_of_neg (by rw [hz]; decide), filt_all (fun x hx => by have := h2 x hx; simp; omega)]
theorem parts_off {l : List Rt} {p : Pf} {k : Nat} (hu : Up l) (hk : Pos l p k) (hi : isAt l p k = false) : l.take k = aheadT l p ∧ l.drop k = behindT l p ∧ othersT l p = l := by
  have h1 : ∀ x ∈ l.take k, ordP x.pf p < 0 := fun x hx => by
    obtain ⟨j, hj, rfl⟩ := List.getElem_of_mem hx
    rw [List.length_take] at hj
    rw [List.getElem_take]
    exact (ordP_lt _ _).2 (hk.2.1 j (by omega) (by omega))
  have h2 : ∀ x ∈ l.drop k, 0 < ordP x.pf p := fun x hx => by
    obtain ⟨j, hj, rfl⟩ := List.getElem_of_mem hx
    rw [List.length_drop] at hj
    rw [List.getElem_drop]
    have hkl : k < l.length := by omega
    have hnk : 0 < ordP l[k].pf p := by
      unfold isAt at hi
      rw [List.getElem?_eq_getElem hkl] at hi
      simp only [decide_eq_false_iff_not] at hi
      have := hk.2.2 k hkl (Nat.le_refl _)
      rw [← ordP_lt] at this
      omega
    by_cases e : j = 0
    · subst e; exact hnk
    · rw [ordP_gt] at hnk ⊢
      exact ltP_trans hnk (List.pairwise_iff_getElem.1 hu k (k + j) hkl (by omega) (by omega))
  have hsp := (List.take_append_drop k l).symm
  refine ⟨?_, ?_, ?_⟩
  · unfold aheadT
    conv => rhs; rw [hsp]
    rw [List.filter_append, filt_all (fun x hx => decide_eq_true (h1 x hx)), filt_none (fun x hx => by have := h2 x hx; exact decide_eq_false (by omega)), List.append_nil]
  · unfold behindT
    conv => rhs; rw [hsp]
    rw [List.filter_append, filt_none (fun x hx => by have := h1 x hx; exact decide_eq_false (by omega)), List.nil_append, filt_all (fun x hx => decide_eq_true (h2 x hx))]
  · unfold othersT
    conv => lhs; rw [hsp]
    rw [List.filter_append, filt_all (fun x hx => by have := h1 x hx; simp; omega), filt_all (fun x hx => by have := h2 x hx; simp; omega), List.take_append_drop]
/-- parts of a row in memory -/
theorem rtCs_take (l : List Rt) : ∀ j, (rtCs l).take (j * 6) = rtCs (l.take j) := by
  induction l with
  | nil => intro j; simp [rtCs]
  | cons x l ih =>
    intro j
    cases j with
    | zero => simp [rtCs]
    | succ j =>
      show (rtC x ++ rtCs l).take ((j + 1) * 6) = rtC x ++ rtCs (l.take j)
      rw [List.take_append, ← ih j]
      congr 1
      · rw [List.take_of_length_le (by show 6 ≤ _; omega)]
      · show (rtCs l).take ((j + 1) * 6 - 6) = _
        congr 1
        omega
theorem rtCs_drop (l : List Rt) : ∀ j, (rtCs l).drop (j * 6) = rtCs (l.drop j) := by
  induction l with
  | nil => intro j; simp [rtCs]
  | cons x l ih =>
    intro j
    cases j with
    | zero => simp
    | succ j =>
      show (rtC x ++ rtCs l).drop ((j + 1) * 6) = rtCs (l.drop j)
      rw [List.drop_append, ← ih j, List.drop_of_length_le (l := rtC x) (by show 6 ≤ _; omega), List.nil_append]
      show (rtCs l).drop ((j + 1) * 6 - 6) = _
      congr 1
      omega
theorem HasRts.take {W : World} {o : Option Addr} {n c : Nat} {l : List Rt} (h : HasRts W (.slice o n c) l) (k : Nat) (hk : k ≤ l.length) : HasRts W (.slice o k c) (l.take k) := by
  have hlk : (l.take k).length = k := by rw [List.length_take]; omega
  show HasRow _ _ _ _ _
  rw [hlk]
  refine ⟨by rw [rtCs_len, hlk], ?_⟩
  rcases h.2 with ⟨e, h0⟩ | ⟨a, cap, e, h1, h2, h3, h4⟩
  · injection e with e1 e2 e3
    subst e1 e3
    have hk0 : k = 0 := by omega
    subst hk0
    exact .inl ⟨rfl, rfl⟩
  · injection e with e1 e2 e3
    subst e1 e3
    refine .inr ⟨a, c, rfl, by omega, h2, fun hp => h3 (by omega), fun j hj => ?_⟩
    rw [h4 j (by omega), ← rtCs_take, List.getElem?_take, if_pos hj]
theorem HasRts.drop {W : World} {b i n c : Nat} {l : List Rt} (h : HasRts W (.slice (some ⟨b, i, none⟩) n c) l) (k : Nat) (hk : k ≤ l.length) : HasRts W (.slice (some ⟨b, i + k * 6, none⟩) (l.length - k) (c - k)) (l.drop k) := by
  have hlk : (l.drop k).length = l.length - k := by rw [List.length_drop]
  show HasRow _ _ _ _ _
  rw [hlk]
  refine ⟨by rw [rtCs_len, hlk], ?_⟩
  rcases h.2 with ⟨e, h0⟩ | ⟨a, cap, e, h1, h2, h3, h4⟩
  · cases e
  · injection e with e1 e2 e3
    injection e1 with e1
    subst e1 e3
    refine .inr ⟨_, _, rfl, by omega, by omega, fun hp => ⟨rfl, (h3 (by omega)).2⟩, fun j hj => ?_⟩
    have := h4 (k * 6 + j) (by omega)
    rw [addr_add] at this ⊢
    rw [Nat.add_assoc, this, ← rtCs_drop, List.getElem?_drop]
/-- nothing of a row -/
theorem has_empty (W : World) (a : Addr) (c : Nat) (hc : c ≤ 9223372036854775807) : HasRts W (.slice (some a) 0 c) [] :=
  ⟨rfl, .inr ⟨a, c, rfl, Nat.zero_le _, hc, fun h => absurd h (by decide), fun j hj => absurd hj (by show ¬ j < 0 * 6; omega)⟩⟩
end Go.Proofs.Ytjgieaijdkmadaa.Tr
