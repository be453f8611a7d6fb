/- The peers of links, plain: rising, each once. -/
import Derived.Test.YtedgmnnbmonhkaaLkSame
import Derived.Lib.SlKeysI
set_option linter.unusedVariables false
namespace Go.Proofs.Ytedgmnnbmonhkaa.Lk
def insP (p : Int) : List Int → List Int
  | [] => [p]
  | y :: ys => if p < y then p :: y :: ys else if p = y then y :: ys else y :: insP p ys
def peersL (l : List Lk) : List Int := l.foldl (fun o s => insP s.peer o) []
def peersO (l : List Lk) : List Int := if okL l then peersL l else []
theorem mem_insP (p x : Int) (o : List Int) : x ∈ insP p o ↔ x = p ∨ x ∈ o := by
  induction o with
  | nil => simp [insP]
  | cons y ys ih =>
    unfold insP
    split
    · simp
    · split
      · rename_i h; subst h; simp
      · simp only [List.mem_cons, ih]
        constructor
        · rintro (h | h | h)
          · exact .inr (.inl h)
          · exact .inl h
          · exact .inr (.inr h)
        · rintro (h | h | h)
          · exact .inr (.inl h)
          · exact .inl h
          · exact .inr (.inr h)
theorem insP_up (p : Int) {o : List Int} (h : o.Pairwise (· < ·)) : (insP p o).Pairwise (· < ·) := by
  induction o with
  | nil => simp [insP]
  | cons y ys ih =>
    have h1 := List.pairwise_cons.1 h
    unfold insP
    split
    · rename_i hp
      refine List.pairwise_cons.2 ⟨fun z hz => ?_, h⟩
      rcases List.mem_cons.1 hz with rfl | hz
      · exact hp
      · exact Int.lt_trans hp (h1.1 z hz)
    · split
      · exact h
      · refine List.pairwise_cons.2 ⟨fun z hz => ?_, ih h1.2⟩
        rcases (mem_insP p z ys).1 hz with rfl | hz
        · omega
        · exact h1.1 z hz
theorem insP_len (p : Int) (o : List Int) : (insP p o).length ≤ o.length + 1 := by
  induction o with
  | nil => simp [insP]
  | cons y ys ih =>
    unfold insP
    split
    · simp
    · split
      · simp
      · simp; omega
theorem insP_at (p : Int) : ∀ (o : List Int) (i : Nat), i ≤ o.length → (∀ j (h : j < o.length), i ≤ j → p < o[j]) → (∀ j (h : j < o.length), j < i → o[j] < p) → insP p o = o.take i ++ p :: o.drop i := by
  intro o
  induction o with
  | nil => intro i hi _ _; simp at hi; subst hi; rfl
  | cons y ys ih =>
    intro i hi hb ha
    cases i with
    | zero => have := hb 0 (by simp) (Nat.le_refl _); simp only [List.getElem_cons_zero] at this; unfold insP; rw [if_pos this]; rfl
    | succ i =>
      have h0 := ha 0 (by simp) (by omega)
      simp only [List.getElem_cons_zero] at h0
      unfold insP
      rw [if_neg (by omega), if_neg (by omega), ih i (by simpa using hi) (fun j h hij => by have := hb (j + 1) (by simpa using h) (by omega); simpa using this) (fun j h hij => by have := ha (j + 1) (by simpa using h) (by omega); simpa using this)]
      rfl
theorem insP_in (p : Int) (o : List Int) (hp : o.Pairwise (· < ·)) (h : p ∈ o) : insP p o = o := by
  induction o with
  | nil => cases h
  | cons y ys ih =>
    have h1 := List.pairwise_cons.1 hp
    unfold insP
    rcases List.mem_cons.1 h with rfl | h
    · rw [if_neg (by omega), if_pos rfl]
    · have := h1.1 p h
      rw [if_neg (by omega), if_neg (by omega), ih h1.2 h]
theorem foldP_up (l : List Lk) : ∀ o : List Int, o.Pairwise (· < ·) → (l.foldl (fun o s => insP s.peer o) o).Pairwise (· < ·) := by
  induction l with
  | nil => intro o h; exact h
  | cons s l ih => intro o h; exact ih _ (insP_up _ h)
theorem peers_up (l : List Lk) : (peersL l).Pairwise (· < ·) := foldP_up l [] List.Pairwise.nil
theorem foldP_mem (l : List Lk) (x : Int) : ∀ o : List Int, x ∈ l.foldl (fun o s => insP s.peer o) o ↔ x ∈ o ∨ ∃ s ∈ l, s.peer = x := by
  induction l with
  | nil => intro o; simp
  | cons s l ih =>
    intro o
    rw [List.foldl_cons, ih, mem_insP]
    constructor
    · rintro ((h | h) | ⟨t, h1, h2⟩)
      · exact .inr ⟨s, List.mem_cons_self, h.symm⟩
      · exact .inl h
      · exact .inr ⟨t, List.mem_cons_of_mem _ h1, h2⟩
    · rintro (h | ⟨t, h1, h2⟩)
      · exact .inl (.inr h)
      · rcases List.mem_cons.1 h1 with rfl | h1
        · exact .inl (.inl h2.symm)
        · exact .inr ⟨t, h1, h2⟩
theorem peers_mem (l : List Lk) (x : Int) : x ∈ peersL l ↔ ∃ s ∈ l, s.peer = x := by
  unfold peersL
  rw [foldP_mem]
  simp
theorem foldP_len (l : List Lk) : ∀ o : List Int, (l.foldl (fun o s => insP s.peer o) o).length ≤ o.length + l.length := by
  induction l with
  | nil => intro o; simp
  | cons s l ih => intro o; have h1 := ih (insP s.peer o); have h2 := insP_len s.peer o; rw [List.foldl_cons, List.length_cons]; omega
theorem peers_len (l : List Lk) : (peersL l).length ≤ l.length := by have := foldP_len l []; simpa [peersL] using this
theorem peers_snoc (l : List Lk) (k : Nat) (h : k < l.length) : peersL (l.take (k + 1)) = insP l[k].peer (peersL (l.take k)) := by
  unfold peersL
  rw [List.take_add_one, List.getElem?_eq_getElem h, List.foldl_append]
  rfl
theorem peers_nodup (l : List Lk) : (peersL l).Nodup := (peers_up l).imp (fun h => by omega)
theorem peers_sorted (l : List Lk) : (peersL l).mergeSort leI = peersL l :=
  List.mergeSort_of_pairwise ((peers_up l).imp (fun h => by simp only [leI, decide_eq_true_eq]; omega))
end Go.Proofs.Ytedgmnnbmonhkaa.Lk
