/- Seats that rise: what is taken changes no other seat; plain. -/
import Derived.Test.YtckaajadajjijabOrdMay
import Derived.Test.YtckaajadajjijabMsgPut2
set_option linter.unusedVariables false
namespace Go.Proofs.Ytckaajadajjijab.Ord
open Go.Proofs.Ytckaajadajjijab.Msg (Ev okE okE_bd)

def Up (l : List St) : Prop := l.Pairwise (fun a b => a.router < b.router)
theorem rise_iff (l : List St) : ∀ p : Option Int, rise p l = true ↔ (∀ s ∈ l, okS s = true) ∧ Up l ∧ ∀ r, p = some r → ∀ s ∈ l, r < s.router := by
  induction l with
  | nil => intro p; simp [rise, Up]
  | cons x t ih =>
    intro p
    have hx := ih (some x.router)
    have key : rise p (x :: t) = true ↔ (okS x = true ∧ (∀ r, p = some r → r < x.router)) ∧ rise (some x.router) t = true := by
      cases p with
      | none => simp [rise]
      | some r => simp [rise]
    rw [key, hx]
    unfold Up
    rw [List.pairwise_cons]
    constructor
    · rintro ⟨⟨h1, h2⟩, h3, h4, h5⟩
      refine ⟨?_, ⟨fun s hs => h5 _ rfl s hs, h4⟩, ?_⟩
      · intro s hs
        rcases List.mem_cons.1 hs with rfl | hs
        · exact h1
        · exact h3 s hs
      · intro r hr s hs
        rcases List.mem_cons.1 hs with rfl | hs
        · exact h2 r hr
        · exact Int.lt_trans (h2 r hr) (h5 _ rfl s hs)
    · rintro ⟨h1, ⟨h2, h3⟩, h4⟩
      refine ⟨⟨h1 x (by simp), fun r hr => h4 r hr x (by simp)⟩, fun s hs => h1 s (by simp [hs]), h3, ?_⟩
      intro r hr s hs
      injection hr with hr
      subst hr
      exact h2 s hs
theorem okL_iff (l : List St) : okL l = true ↔ l.length ≤ 64 ∧ (∀ s ∈ l, okS s = true) ∧ Up l := by
  unfold okL
  rw [Bool.and_eq_true, decide_eq_true_eq, rise_iff]
  constructor
  · rintro ⟨h1, h2, h3, _⟩; exact ⟨h1, h2, h3⟩
  · rintro ⟨h1, h2, h3⟩; exact ⟨h1, h2, h3, fun r hr => by cases hr⟩
theorem find_mem {l : List St} (h : Up l) : ∀ {s : St}, s ∈ l → findL l s.router = some s := by
  induction l with
  | nil => intro s hs; cases hs
  | cons x t ih =>
    intro s hs
    unfold Up at h
    rw [List.pairwise_cons] at h
    unfold findL
    rw [List.find?_cons]
    rcases List.mem_cons.1 hs with rfl | hs
    · simp
    · have hlt := h.1 s hs
      have hd : decide (x.router = s.router) = false := decide_eq_false (by omega)
      rw [hd]
      exact ih h.2 hs
theorem find_has {l : List St} {r : Int} {s : St} (h : findL l r = some s) : s ∈ l ∧ s.router = r := by
  refine ⟨List.mem_of_find?_eq_some h, ?_⟩
  have := List.find?_some h
  simpa using this
theorem up_len {l : List St} (h : Up l) (r : Int) : l.length = (ahead l r).length + (behind l r).length + (if isIn l r = true then 1 else 0) := by
  induction l with
  | nil => rfl
  | cons x t ih =>
    have h0 := h
    unfold Up at h
    rw [List.pairwise_cons] at h
    have iht := ih h.2
    by_cases h1 : x.router < r
    · have e1 : ahead (x :: t) r = x :: ahead t r := by unfold ahead; rw [List.filter_cons_of_pos (by simpa using h1)]
      have e2 : behind (x :: t) r = behind t r := by unfold behind; rw [List.filter_cons_of_neg (by simp; omega)]
      have e3 : isIn (x :: t) r = isIn t r := by
        unfold isIn findL
        rw [List.find?_cons, decide_eq_false (by omega)]
      rw [e1, e2, e3, List.length_cons, List.length_cons, iht]
      omega
    · have e1 : ahead (x :: t) r = [] := by
        unfold ahead
        rw [List.filter_eq_nil_iff]
        intro s hs
        rcases List.mem_cons.1 hs with rfl | hs
        · simp; omega
        · have := h.1 s hs; simp; omega
      by_cases h2 : x.router = r
      · have e2 : behind (x :: t) r = t := by
          unfold behind
          rw [List.filter_cons_of_neg (by simp; omega), List.filter_eq_self]
          intro s hs
          have := h.1 s hs
          simp; omega
        have e3 : isIn (x :: t) r = true := by
          unfold isIn findL
          rw [List.find?_cons, decide_eq_true h2]
          rfl
        rw [e1, e2, e3, List.length_cons]
        simp
      · have e2 : behind (x :: t) r = x :: t := by
          unfold behind
          rw [List.filter_eq_self]
          intro s hs
          rcases List.mem_cons.1 hs with rfl | hs
          · simp; omega
          · have := h.1 s hs; simp; omega
        have e3 : isIn (x :: t) r = false := by
          unfold isIn findL
          rw [List.find?_eq_none.2]
          · rfl
          · intro s hs
            rcases List.mem_cons.1 hs with rfl | hs
            · simpa using h2
            · have := h.1 s hs; simp; omega
        rw [e1, e2, e3]
        simp
theorem up_seated {l : List St} (h : Up l) (s : St) : Up (seatedL l s) := by
  unfold seatedL Up
  rw [List.pairwise_append]
  refine ⟨List.Pairwise.filter _ h, ?_, ?_⟩
  · rw [List.pairwise_append]
    refine ⟨by simp, List.Pairwise.filter _ h, ?_⟩
    intro a ha b hb
    simp only [List.mem_cons, List.not_mem_nil, or_false] at ha
    subst ha
    unfold behind at hb
    simpa using (List.mem_filter.1 hb).2
  · intro a ha b hb
    have h1 : a.router < s.router := by unfold ahead at ha; simpa using (List.mem_filter.1 ha).2
    rcases List.mem_append.1 hb with hb | hb
    · simp only [List.mem_cons, List.not_mem_nil, or_false] at hb
      subst hb; exact h1
    · have : s.router < b.router := by unfold behind at hb; simpa using (List.mem_filter.1 hb).2
      omega
theorem mem_seated {l : List St} {s t : St} (ht : t ∈ l) (hne : t.router ≠ s.router) : t ∈ seatedL l s := by
  unfold seatedL ahead behind
  rw [List.mem_append, List.mem_append]
  by_cases h : t.router < s.router
  · exact .inl (List.mem_filter.2 ⟨ht, by simpa using h⟩)
  · exact .inr (.inr (List.mem_filter.2 ⟨ht, by simp; omega⟩))
theorem own_seated (l : List St) (s : St) : s ∈ seatedL l s := by
  unfold seatedL
  simp
def aloneL (l : List St) (r : Int) : List St := match findL l r with
  | some s => [s]
  | none => []
theorem next_may (l : List St) (e : Ev) (h : Int) : (nextL l e h).2 = mayL l e h := by
  unfold nextL mayL
  by_cases ha : askL l e h = 0
  · rw [if_pos ha, if_pos ha]
    by_cases hm : misL l e h = 0
    · rw [if_pos hm, hm]
    · rw [if_neg hm]
  · rw [if_neg ha, if_neg ha]
theorem alone_may {l : List St} (hok : okL l = true) (e : Ev) (h : Int) : mayL (aloneL l e.router) e h = mayL l e h ∨ mayL l e h = 8 := by
  have hkey : okL (aloneL l e.router) = true ∧ findL (aloneL l e.router) e.router = findL l e.router ∧ (aloneL l e.router).length ≤ 1 := by
    unfold aloneL
    cases hf : findL l e.router with
    | none => exact ⟨rfl, rfl, by simp⟩
    | some s =>
      obtain ⟨hm, hr⟩ := find_has hf
      refine ⟨?_, ?_, by simp⟩
      · rw [okL_iff]
        refine ⟨by simp, fun t ht => ?_, by unfold Up; simp⟩
        simp only [List.mem_cons, List.not_mem_nil, or_false] at ht
        subst ht
        exact ((okL_iff l).1 hok).2.1 _ hm
      · show List.find? _ [s] = _
        rw [List.find?_cons, decide_eq_true hr]
  obtain ⟨h1, h2, h3⟩ := hkey
  have e1 : askL (aloneL l e.router) e h = askL l e h := by unfold askL; rw [h1, hok]
  have e2 : isIn (aloneL l e.router) e.router = isIn l e.router := by unfold isIn; rw [h2]
  have e3 : seatOf (aloneL l e.router) e.router = seatOf l e.router := by unfold seatOf; rw [h2]
  unfold mayL
  rw [e1]
  by_cases ha : askL l e h = 0
  · rw [if_pos ha, if_pos ha]
    unfold misL
    rw [e2, e3]
    split
    · exact .inl rfl
    · split
      · exact .inl rfl
      · split
        · exact .inl rfl
        · split
          · exact .inl rfl
          · rw [if_neg (show ¬ (isIn l e.router = false ∧ (aloneL l e.router).length = 64) by omega)]
            split
            · exact .inr rfl
            · exact .inl rfl
  · rw [if_neg ha, if_neg ha]
    exact .inl rfl
/-- what is so where an event was taken -/
theorem taken {l : List St} {e : Ev} {h : Int} (hy : (nextL l e h).2 = 0) :
    okL (nextL l e h).1 = true ∧ (nextL l e h).1.length + (aloneL l e.router).length = l.length + 1 ∧
    (∀ s ∈ l, isIn (nextL l e h).1 s.router = true ∧ (s.router ≠ e.router → seatOf (nextL l e h).1 s.router = s)) := by
  have ha : askL l e h = 0 := by
    by_cases ha : askL l e h = 0
    · exact ha
    · unfold nextL at hy; rw [if_neg ha] at hy; exact absurd hy ha
  have hm : misL l e h = 0 := by
    by_cases hm : misL l e h = 0
    · exact hm
    · unfold nextL at hy; rw [if_pos ha, if_neg hm] at hy; exact absurd hy hm
  obtain ⟨hok, hoe, hh1, hh2⟩ := ask_ok ha
  obtain ⟨hl64, hall, hup⟩ := (okL_iff l).1 hok
  obtain ⟨⟨_, ⟨r1, r2⟩, ⟨q1, q2⟩, ⟨t1, t2⟩⟩, _, _⟩ := okE_bd hoe
  have e1 : (nextL l e h).1 = seatedL l ⟨e.router, e.seq, e.time, decide (e.kind ≠ 2)⟩ := by unfold nextL; rw [if_pos ha, if_pos hm]
  rw [e1]
  generalize hs : (⟨e.router, e.seq, e.time, decide (e.kind ≠ 2)⟩ : St) = s0
  have hr0 : s0.router = e.router := by rw [← hs]
  have hok0 : okS s0 = true := by
    rw [← hs]
    unfold okS
    simp only [Bool.and_eq_true, decide_eq_true_eq]
    omega
  have hu := up_seated hup s0
  have hlen := up_len hup e.router
  have hlm : (seatedL l s0).length = (ahead l e.router).length + (behind l e.router).length + 1 := by
    unfold seatedL
    rw [hr0]
    simp only [List.length_append, List.length_cons, List.length_nil]
    omega
  have hal : (aloneL l e.router).length = if isIn l e.router = true then 1 else 0 := by
    unfold aloneL isIn
    cases findL l e.router <;> rfl
  have hfull : ¬ (isIn l e.router = false ∧ l.length = 64) := by
    intro c
    unfold misL at hm
    split at hm
    · exact absurd hm (by decide)
    · split at hm
      · exact absurd hm (by decide)
      · split at hm
        · exact absurd hm (by decide)
        · split at hm
          · exact absurd hm (by decide)
          · exact absurd hm (by decide)
  refine ⟨?_, by rw [hlm, hal]; omega, ?_⟩
  · rw [okL_iff]
    refine ⟨?_, ?_, hu⟩
    · cases hi : isIn l e.router with
      | true => rw [hi] at hlen; simp only [if_true] at hlen; omega
      | false =>
        have : l.length ≠ 64 := fun c => hfull ⟨hi, c⟩
        rw [hi] at hlen
        simp only [Bool.false_eq_true, if_false] at hlen
        omega
    · intro s hs'
      unfold seatedL at hs'
      rcases List.mem_append.1 hs' with hs' | hs'
      · exact hall s ((List.mem_filter.1 hs').1)
      · rcases List.mem_append.1 hs' with hs' | hs'
        · simp only [List.mem_cons, List.not_mem_nil, or_false] at hs'
          subst hs'; exact hok0
        · exact hall s ((List.mem_filter.1 hs').1)
  · intro s hsl
    by_cases hne : s.router = e.router
    · refine ⟨?_, fun c => absurd hne c⟩
      have := find_mem hu (own_seated l s0)
      unfold isIn
      rw [hne, ← hr0, this]
      rfl
    · have := find_mem hu (mem_seated (s := s0) hsl (by rw [hr0]; exact hne))
      refine ⟨?_, fun _ => ?_⟩
      · unfold isIn; rw [this]; rfl
      · unfold seatOf; rw [this]; rfl
theorem next_keeps {l : List St} {e : Ev} {h : Int} (hok : okL l = true) (hy : (nextL l e h).2 ≠ 0) : (nextL l e h).2 = 2 ∨ (nextL l e h).2 = 1 ∨ (nextL l e h).1 = l := by
  unfold nextL at hy ⊢
  by_cases ha : askL l e h = 0
  · rw [if_pos ha] at hy ⊢
    by_cases hm : misL l e h = 0
    · rw [if_pos hm] at hy; exact absurd rfl hy
    · rw [if_neg hm]; exact .inr (.inr rfl)
  · rw [if_neg ha]
    unfold askL
    split
    · split
      · exact .inr (.inl rfl)
      · rename_i h1 h2
        exfalso
        apply ha
        unfold askL
        rw [if_pos h1, if_neg h2]
    · exact .inl rfl
theorem next_wrong {l : List St} {e : Ev} {h : Int} (hok : okL l = false) : (nextL l e h).2 = 2 := by
  have : askL l e h = 2 := by unfold askL; rw [hok]; rfl
  unfold nextL
  rw [if_neg (by rw [this]; decide), this]
end Go.Proofs.Ytckaajadajjijab.Ord
