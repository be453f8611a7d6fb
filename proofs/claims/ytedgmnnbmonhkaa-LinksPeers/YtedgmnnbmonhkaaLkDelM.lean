/- A link taken out of a row that rises, by shifting: plain. -/
import Derived.Test.YtedgmnnbmonhkaaLkPeer
import Derived.Test.YtedgmnnbmonhkaaLkClone
set_option linter.unusedVariables false
namespace Go.Proofs.Ytedgmnnbmonhkaa.Lk
open Go.RowKit
theorem rise_some (l : List Lk) : ∀ (r : Int), rise (some r) l = true → ∀ x ∈ l, r < x.iface := by
  induction l with
  | nil => intro r _ x hx; simp at hx
  | cons s l ih =>
    intro r h x hx
    unfold rise at h
    simp only [Bool.and_eq_true, decide_eq_true_eq] at h
    rcases List.mem_cons.1 hx with rfl | hx
    · exact h.1.2
    · have := ih s.iface h.2 x hx; omega
theorem rise_drop (l : List Lk) : ∀ p, rise p l = true → l.Pairwise (fun x y => x.iface < y.iface) := by
  induction l with
  | nil => intro p _; exact List.Pairwise.nil
  | cons s l ih =>
    intro p h
    have h2 : rise (some s.iface) l = true := by
      cases p <;> (unfold rise at h; simp only [Bool.and_eq_true] at h; exact h.2)
    exact List.Pairwise.cons (fun y hy => rise_some l _ h2 y hy) (ih _ h2)
theorem okL_up {l : List Lk} (h : okL l = true) : l.Pairwise (fun x y => x.iface < y.iface) := by
  unfold okL at h
  simp only [Bool.and_eq_true] at h
  exact rise_drop l _ h.2
theorem okL_len2 {l : List Lk} (h : okL l = true) : l.length ≤ 32 := by
  unfold okL at h
  simp only [Bool.and_eq_true, decide_eq_true_eq] at h
  exact h.1
theorem up_ne {l : List Lk} (h : l.Pairwise (fun x y => x.iface < y.iface)) {j k : Nat} (hj : j < l.length) (hk : k < l.length) (hjk : j ≠ k) : l[j].iface ≠ l[k].iface := by
  rcases Nat.lt_or_gt_of_ne hjk with h1 | h1
  · have := List.pairwise_iff_getElem.1 h j k hj hk h1; omega
  · have := List.pairwise_iff_getElem.1 h k j hk hj h1; omega
theorem others_none {l : List Lk} {i : Int} (h : ∀ j (hj : j < l.length), ¬ l[j].iface = i) : others l i = l := by
  unfold others
  rw [List.filter_eq_self]
  intro x hx
  obtain ⟨j, hj, rfl⟩ := List.getElem_of_mem hx
  simp [h j hj]
theorem others_cut (l : List Lk) (k : Nat) (r : Int) : others l r = others (l.take k) r ++ others (l.drop k) r := by
  unfold others
  rw [← List.filter_append, List.take_append_drop]
theorem others_at {l : List Lk} (hp : l.Pairwise (fun x y => x.iface < y.iface)) {k : Nat} (hk : k < l.length) : others l l[k].iface = l.take k ++ l.drop (k + 1) := by
  have h1 : others (l.take k) l[k].iface = l.take k := others_none (fun j hj => by
    rw [List.length_take] at hj
    rw [List.getElem_take]
    exact up_ne hp (by omega) hk (by omega))
  have h2 : others (l.drop (k + 1)) l[k].iface = l.drop (k + 1) := others_none (fun j hj => by
    rw [List.length_drop] at hj
    rw [List.getElem_drop]
    exact up_ne hp (by omega) hk (by omega))
  have h3 : others (l.drop k) l[k].iface = others (l.drop (k + 1)) l[k].iface := by
    rw [List.drop_eq_getElem_cons hk]
    unfold others
    rw [List.filter_cons_of_neg (by simp)]
  rw [others_cut l k, h1, h3, h2]
/-- the row while it is shifted -/
def shift (l : List Lk) (k t : Nat) : List Lk := l.take k ++ ((l.drop (k + 1)).take t ++ l.drop (k + t))
theorem shift_zero (l : List Lk) (k : Nat) : shift l k 0 = l := by unfold shift; simp
theorem shift_len (l : List Lk) (k t : Nat) (h : k + 1 + t ≤ l.length) : (shift l k t).length = l.length := by
  unfold shift
  rw [List.length_append, List.length_append, List.length_take, List.length_take, List.length_drop, List.length_drop]
  omega
theorem shift_get (l : List Lk) (k t : Nat) (h : k + 1 + t ≤ l.length) (j : Nat) : (shift l k t)[j]? = if j < k then l[j]? else if j < k + t then l[j + 1]? else l[j]? := by
  unfold shift
  rw [List.getElem?_append, List.length_take, Nat.min_eq_left (by omega)]
  by_cases h1 : j < k
  · rw [if_pos h1, if_pos h1, List.getElem?_take_of_lt h1]
  · rw [if_neg h1, if_neg h1, List.getElem?_append, List.length_take, List.length_drop, Nat.min_eq_left (by omega)]
    by_cases h2 : j < k + t
    · rw [if_pos (by omega), if_pos h2, List.getElem?_take_of_lt (by omega), List.getElem?_drop]
      congr 1
      omega
    · rw [if_neg (by omega), if_neg h2, List.getElem?_drop]
      congr 1
      omega
theorem shift_at (l : List Lk) (k t : Nat) (h : k + 1 + t < l.length) (h2 : k + 1 + t < (shift l k t).length) : (shift l k t)[k + 1 + t] = l[k + 1 + t] := by
  have e := shift_get l k t (by omega) (k + 1 + t)
  rw [if_neg (by omega), if_neg (by omega), List.getElem?_eq_getElem h2, List.getElem?_eq_getElem h] at e
  exact Option.some.inj e
theorem shift_step (l : List Lk) (k t : Nat) (h : k + 1 + t < l.length) : (shift l k t).set (k + t) l[k + 1 + t] = shift l k (t + 1) := by
  apply List.ext_getElem?
  intro j
  rw [List.getElem?_set, shift_len l k t (by omega), shift_get l k t (by omega), shift_get l k (t + 1) (by omega)]
  by_cases hj : k + t = j
  · subst hj
    rw [if_pos rfl, if_pos (by omega), if_neg (by omega), if_pos (by omega), ← List.getElem?_eq_getElem h]
    congr 1
    omega
  · rw [if_neg hj]
    by_cases h1 : j < k
    · rw [if_pos h1, if_pos h1]
    · rw [if_neg h1, if_neg h1]
      by_cases h2 : j < k + t
      · rw [if_pos h2, if_pos (by omega)]
      · rw [if_neg h2, if_neg (by omega)]
theorem shift_end (l : List Lk) (k : Nat) (h : k < l.length) : (shift l k (l.length - 1 - k)).take (l.length - 1) = l.take k ++ l.drop (k + 1) := by
  unfold shift
  rw [← List.append_assoc, List.take_append_of_le_length (by rw [List.length_append, List.length_take, List.length_take, List.length_drop]; omega), List.take_of_length_le (by rw [List.length_append, List.length_take, List.length_take, List.length_drop]; omega), List.take_of_length_le (l := l.drop (k + 1)) (by rw [List.length_drop]; omega)]
theorem lkCs_set (m : List Lk) (x : Lk) : ∀ j, j < m.length → ((lkCs m).set (j * 2) (.int .i64 x.iface)).set (j * 2 + 1) (.int .i64 x.peer) = lkCs (m.set j x) := by
  induction m with
  | nil => intro j h; simp at h
  | cons s m ih =>
    intro j h
    cases j with
    | zero => rfl
    | succ j =>
      have := ih j (by simpa using h)
      show ((.int .i64 s.iface :: .int .i64 s.peer :: lkCs m : List Value).set ((j + 1) * 2) _).set ((j + 1) * 2 + 1) _ = .int .i64 s.iface :: .int .i64 s.peer :: lkCs (m.set j x)
      rw [show (j + 1) * 2 = j * 2 + 1 + 1 by omega]
      simp only [List.set_cons_succ]
      rw [this]
theorem lkCs_take (l : List Lk) : ∀ j, (lkCs l).take (j * 2) = lkCs (l.take j) := by
  induction l with
  | nil => intro j; simp [lkCs]
  | cons g l ih =>
    intro j
    cases j with
    | zero => simp [lkCs]
    | succ j =>
      show (lkC g ++ lkCs l).take ((j + 1) * 2) = lkC g ++ lkCs (l.take j)
      rw [← ih j, show (j + 1) * 2 = (lkC g).length + j * 2 by show _ = 2 + _; omega, List.take_length_add_append]
end Go.Proofs.Ytedgmnnbmonhkaa.Lk
