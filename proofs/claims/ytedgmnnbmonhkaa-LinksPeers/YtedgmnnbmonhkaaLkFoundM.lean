/- What follows of links put, taken out and found, plain. -/
import Derived.Test.YtedgmnnbmonhkaaLkPut
import Derived.Test.YtedgmnnbmonhkaaLkPeers
set_option linter.unusedVariables false
namespace Go.Proofs.Ytedgmnnbmonhkaa.Lk
abbrev Up (l : List Lk) : Prop := l.Pairwise (fun x y => x.iface < y.iface)
theorem ext_up : ∀ (a b : List Lk), Up a → Up b → (∀ z, z ∈ a ↔ z ∈ b) → a = b := by
  intro a
  induction a with
  | nil =>
    intro b _ _ h
    cases b with
    | nil => rfl
    | cons y b => exact absurd ((h y).2 List.mem_cons_self) (by simp)
  | cons x a ih =>
    intro b ha hb h
    cases b with
    | nil => exact absurd ((h x).1 List.mem_cons_self) (by simp)
    | cons y b =>
      have h1 := List.pairwise_cons.1 ha
      have h2 := List.pairwise_cons.1 hb
      have hxy : x = y := by
        rcases List.mem_cons.1 ((h x).1 List.mem_cons_self) with e | e
        · exact e
        · rcases List.mem_cons.1 ((h y).2 List.mem_cons_self) with e2 | e2
          · exact e2.symm
          · have := h2.1 x e; have := h1.1 y e2; omega
      subst hxy
      congr 1
      refine ih b h1.2 h2.2 (fun z => ?_)
      constructor
      · intro hz
        rcases List.mem_cons.1 ((h z).1 (List.mem_cons_of_mem _ hz)) with e | e
        · subst e; have := h1.1 z hz; omega
        · exact e
      · intro hz
        rcases List.mem_cons.1 ((h z).2 (List.mem_cons_of_mem _ hz)) with e | e
        · subst e; have := h2.1 z hz; omega
        · exact e
theorem rise_of (l : List Lk) : ∀ p, (∀ x ∈ l, okK x = true) → Up l → (∀ r, p = some r → ∀ x ∈ l, r < x.iface) → rise p l = true := by
  induction l with
  | nil => intro p _ _ _; cases p <;> rfl
  | cons s l ih =>
    intro p h1 h2 h3
    have hp := List.pairwise_cons.1 h2
    have hr := ih (some s.iface) (fun x hx => h1 x (List.mem_cons_of_mem _ hx)) hp.2 (fun r e x hx => by injection e with e; subst e; exact hp.1 x hx)
    have hs := h1 s List.mem_cons_self
    cases p with
    | none => simp only [rise, hs, hr, Bool.and_self]
    | some r => simp only [rise, hs, hr, Bool.and_true, Bool.true_and, decide_eq_true_eq]; exact h3 r rfl s List.mem_cons_self
theorem okL_iff (l : List Lk) : okL l = true ↔ l.length ≤ 32 ∧ (∀ x ∈ l, okK x = true) ∧ Up l :=
  ⟨fun h => ⟨okL_len2 h, fun x hx => okL_mem h hx, okL_up h⟩, fun h => by
    unfold okL
    rw [rise_of l none h.2.1 h.2.2 (fun r e => by cases e), decide_eq_true h.1]
    rfl⟩
def insL (l : List Lk) (x : Lk) : List Lk := aheadL l x.iface ++ ([x] ++ behindL l x.iface)
theorem mem_others (l : List Lk) (i : Int) (z : Lk) : z ∈ others l i ↔ z ∈ l ∧ z.iface ≠ i := by
  unfold others
  rw [List.mem_filter]
  simp
theorem mem_insL (l : List Lk) (x z : Lk) : z ∈ insL l x ↔ z = x ∨ (z ∈ l ∧ z.iface ≠ x.iface) := by
  unfold insL aheadL behindL
  simp only [List.mem_append, List.mem_filter, List.mem_cons, List.not_mem_nil, or_false, decide_eq_true_eq]
  constructor
  · rintro (⟨h1, h2⟩ | h | ⟨h1, h2⟩)
    · exact .inr ⟨h1, by omega⟩
    · exact .inl h
    · exact .inr ⟨h1, by omega⟩
  · rintro (h | ⟨h1, h2⟩)
    · exact .inr (.inl h)
    · rcases Int.lt_or_gt_of_ne h2 with h3 | h3
      · exact .inl ⟨h1, h3⟩
      · exact .inr (.inr ⟨h1, h3⟩)
theorem up_insL {l : List Lk} (h : Up l) (x : Lk) : Up (insL l x) := by
  unfold insL
  refine List.pairwise_append.2 ⟨h.sublist List.filter_sublist, List.pairwise_cons.2 ⟨fun z hz => ?_, h.sublist List.filter_sublist⟩, fun a ha b hb => ?_⟩
  · have := (List.mem_filter.1 hz).2
    simpa using this
  · have h1 := (List.mem_filter.1 ha).2
    simp only [decide_eq_true_eq] at h1
    rcases List.mem_append.1 hb with hb | hb
    · simp at hb; subst hb; exact h1
    · have h2 := (List.mem_filter.1 hb).2
      simp only [decide_eq_true_eq] at h2
      omega
theorem len_insL {l : List Lk} (h : Up l) (x : Lk) : (insL l x).length = (others l x.iface).length + 1 := by
  rw [(others_split h x.iface).1]
  unfold insL
  simp only [List.length_append, List.length_cons, List.length_nil]
  omega
theorem up_others {l : List Lk} (h : Up l) (i : Int) : Up (others l i) := h.sublist List.filter_sublist
theorem others_le (l : List Lk) (i : Int) : (others l i).length ≤ l.length := List.length_filter_le _ _
theorem others_all {l : List Lk} {i : Int} (h : (others l i).length = l.length) : others l i = l := List.filter_sublist.eq_of_length h
theorem find_mem {l : List Lk} (h : Up l) {z : Lk} (hz : z ∈ l) : findL l z.iface = some z := by
  unfold findL
  cases hf : l.find? (fun s => decide (s.iface = z.iface)) with
  | none => exact absurd (List.find?_eq_none.1 hf z hz) (by simp)
  | some s =>
    have h1 := List.mem_of_find?_eq_some hf
    have h2 := List.find?_some hf
    simp only [decide_eq_true_eq] at h2
    obtain ⟨j, hj, rfl⟩ := List.getElem_of_mem h1
    obtain ⟨k, hk, rfl⟩ := List.getElem_of_mem hz
    by_cases e : j = k
    · subst e; rfl
    · exact absurd h2 (up_ne h hj hk e)
theorem find_none {l : List Lk} {i : Int} (h : ∀ z ∈ l, z.iface ≠ i) : findL l i = none := by
  unfold findL
  rw [List.find?_eq_none]
  intro z hz
  simpa using h z hz
theorem find_cases (l : List Lk) (i : Int) : (findL l i = none ∧ ∀ z ∈ l, z.iface ≠ i) ∨ ∃ z ∈ l, z.iface = i ∧ findL l i = some z := by
  cases hf : findL l i with
  | none => exact .inl ⟨rfl, fun z hz => by have := List.find?_eq_none.1 hf z hz; simpa using this⟩
  | some s => exact .inr ⟨s, List.mem_of_find?_eq_some hf, by have := List.find?_some hf; simpa using this, rfl⟩
theorem put_ok {l : List Lk} {x : Lk} (h : (putL l x).2 = 0) : okL l = true ∧ okK x = true ∧ (others l x.iface).length ≤ 31 ∧ (putL l x).1 = insL l x := by
  unfold putL at h ⊢
  split at h
  · rename_i hc
    rw [if_pos hc]
    simp only [Bool.and_eq_true] at hc
    split at h
    · cases h
    · rename_i h3
      have := okL_len2 hc.1
      have := others_le l x.iface
      rw [if_neg h3]
      exact ⟨hc.1, hc.2, by omega, rfl⟩
  · cases h
theorem put_not {l : List Lk} {x : Lk} (h : ¬ (putL l x).2 = 0) : (putL l x).2 = 2 ∨ ((putL l x).2 = 8 ∧ (putL l x).1 = l) := by
  unfold putL at h ⊢
  split at h
  · rename_i hc
    rw [if_pos hc]
    simp only [Bool.and_eq_true] at hc
    split at h
    · rename_i h3
      have := okL_len2 hc.1
      have := others_le l x.iface
      rw [if_pos h3]
      exact .inr ⟨rfl, others_all (by omega)⟩
    · exact absurd rfl h
  · rename_i hc
    rw [if_neg hc]
    exact .inl rfl
theorem ok_ins {l : List Lk} {x : Lk} (h1 : okL l = true) (h2 : okK x = true) (h3 : (others l x.iface).length ≤ 31) : okL (insL l x) = true := by
  have hl := (okL_iff l).1 h1
  refine (okL_iff _).2 ⟨by rw [len_insL hl.2.2]; omega, fun z hz => ?_, up_insL hl.2.2 x⟩
  rcases (mem_insL l x z).1 hz with rfl | ⟨hz, _⟩
  · exact h2
  · exact hl.2.1 z hz
theorem peer_ins {l : List Lk} {x : Lk} (h1 : okL l = true) (h2 : okK x = true) (h3 : (others l x.iface).length ≤ 31) : peerL (insL l x) x.iface = (x.peer, 0) := by
  unfold peerL
  rw [ok_ins h1 h2 h3, if_pos rfl, find_mem (up_insL (okL_up h1) x) ((mem_insL l x x).2 (.inl rfl))]
theorem peer_other {l : List Lk} {x : Lk} (h1 : okL l = true) (h2 : okK x = true) (h3 : (others l x.iface).length ≤ 31) {i : Int} (hi : i ≠ x.iface) : peerL (insL l x) i = peerL l i := by
  unfold peerL
  rw [ok_ins h1 h2 h3, h1, if_pos rfl, if_pos rfl]
  rcases find_cases l i with ⟨e, hn⟩ | ⟨z, hz, rfl, e⟩
  · rw [e, find_none (fun z hz => ?_)]
    rcases (mem_insL l x z).1 hz with rfl | ⟨hz, _⟩
    · exact fun h => hi h.symm
    · exact hn z hz
  · rw [e, find_mem (up_insL (okL_up h1) x) ((mem_insL l x z).2 (.inr ⟨hz, hi⟩))]
theorem others_ins {l : List Lk} (h : Up l) (x : Lk) : others (insL l x) x.iface = others l x.iface := by
  refine ext_up _ _ (up_others (up_insL h x) _) (up_others h _) (fun z => ?_)
  rw [mem_others, mem_insL, mem_others]
  constructor
  · rintro ⟨rfl | h1, h2⟩
    · exact absurd rfl h2
    · exact h1
  · rintro ⟨h1, h2⟩
    exact ⟨.inr ⟨h1, h2⟩, h2⟩
theorem del_ins {l : List Lk} {x : Lk} (h1 : okL l = true) (h2 : okK x = true) (h3 : (others l x.iface).length ≤ 31) : delL (insL l x) x.iface = (others l x.iface, 0) := by
  unfold delL
  rw [ok_ins h1 h2 h3, if_pos rfl, others_ins (okL_up h1), len_insL (okL_up h1), if_neg (by omega)]
theorem had_none {l : List Lk} {i : Int} (h : (peerL l i).2 = 3) : others l i = l := by
  unfold peerL at h
  split at h
  · rcases find_cases l i with ⟨e, hn⟩ | ⟨z, hz, _, e⟩
    · unfold others
      rw [List.filter_eq_self]
      intro z hz
      simpa using hn z hz
    · rw [e] at h; cases h
  · cases h
theorem ins_swap {l : List Lk} (h : Up l) {x y : Lk} (hne : x.iface ≠ y.iface) : insL (insL l x) y = insL (insL l y) x := by
  refine ext_up _ _ (up_insL (up_insL h x) y) (up_insL (up_insL h y) x) (fun z => ?_)
  simp only [mem_insL]
  constructor
  · rintro (rfl | ⟨rfl | ⟨h1, h2⟩, h3⟩)
    · exact .inr ⟨.inl rfl, fun e => hne e.symm⟩
    · exact .inl rfl
    · exact .inr ⟨.inr ⟨h1, h3⟩, h2⟩
  · rintro (rfl | ⟨rfl | ⟨h1, h2⟩, h3⟩)
    · exact .inr ⟨.inl rfl, hne⟩
    · exact .inl rfl
    · exact .inr ⟨.inr ⟨h1, h3⟩, h2⟩
theorem put_swap {l : List Lk} {x y : Lk} (h1 : (putL l x).2 = 0) (h2 : (putL (putL l x).1 y).2 = 0) (h3 : (putL l y).2 = 0) (hne : x.iface ≠ y.iface) : (putL (putL l y).1 x).2 = 0 ∧ (putL (putL l x).1 y).1 = (putL (putL l y).1 x).1 := by
  obtain ⟨a1, a2, a3, a4⟩ := put_ok h1
  obtain ⟨b1, b2, b3, b4⟩ := put_ok h3
  obtain ⟨c1, c2, c3, c4⟩ := put_ok h2
  rw [a4] at c1 c3 c4
  have hu := okL_up a1
  have hs := ins_swap hu hne
  have hl : (others (insL l y) x.iface).length ≤ 31 := by
    have e1 := len_insL (up_insL hu x) y
    have e2 := len_insL (up_insL hu y) x
    rw [hs] at e1
    omega
  have hok := ok_ins b1 b2 b3
  have hP : putL (insL l y) x = (insL (insL l y) x, 0) := by
    unfold putL
    rw [hok, a2]
    simp only [Bool.and_self, if_true]
    rw [if_neg (by omega)]
    rfl
  rw [b4, hP]
  exact ⟨rfl, by rw [a4, c4, hs]⟩
end Go.Proofs.Ytedgmnnbmonhkaa.Lk
