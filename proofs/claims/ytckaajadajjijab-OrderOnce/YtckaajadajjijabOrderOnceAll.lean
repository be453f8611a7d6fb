/- For every events, event and time: spoorlaw14.OrderOnce returns true, and changes nothing that was there. No condition. -/
import Derived.Test.YtckaajadajjijabOrdMay
import Derived.Test.YtckaajadajjijabMsgPut2
import Derived.Test.YtckaajadajjijabRows
import Derived.Test.YtckaajadajjijabOrdLives
import Derived.Test.YtckaajadajjijabOrdOpen
import Derived.Test.YtckaajadajjijabMsgOpen
import Derived.ProofKit
import Derived.OpenShut
import Derived.ShutString
import Derived.SizedLaws
set_option linter.unusedVariables false
namespace Go.Proofs.Ytckaajadajjijab.Ord
open Go.Proofs.Ytckaajadajjijab.Msg (Ev okE okE_bd)

def Up (l : List St) : Prop := l.Pairwise (fun a b => a.router < b.router)
theorem rise_iff (l : List St) : ∀ p : Option Int, rise p l = true ↔ (∀ s ∈ l, okS s = true) ∧ Up l ∧ ∀ r, p = some r → ∀ s ∈ l, r < s.router := by
  induction l with
  | nil => intro p; simp [rise, Up]
  | cons x t ih =>
    intro p
    have hx := ih (some x.router)
    have key : rise p (x :: t) = true ↔ (okS x = true ∧ (∀ r, p = some r → r < x.router)) ∧ rise (some x.router) t = true := by
      cases p with
      | none => simp [rise]
      | some r => simp [rise]
    rw [key, hx]
    unfold Up
    rw [List.pairwise_cons]
    constructor
    · rintro ⟨⟨h1, h2⟩, h3, h4, h5⟩
      refine ⟨?_, ⟨fun s hs => h5 _ rfl s hs, h4⟩, ?_⟩
      · intro s hs
        rcases List.mem_cons.1 hs with rfl | hs
        · exact h1
        · exact h3 s hs
      · intro r hr s hs
        rcases List.mem_cons.1 hs with rfl | hs
        · exact h2 r hr
        · exact Int.lt_trans (h2 r hr) (h5 _ rfl s hs)
    · rintro ⟨h1, ⟨h2, h3⟩, h4⟩
      refine ⟨⟨h1 x (by simp), fun r hr => h4 r hr x (by simp)⟩, fun s hs => h1 s (by simp [hs]), h3, ?_⟩
      intro r hr s hs
      injection hr with hr
      subst hr
      exact h2 s hs
theorem okL_iff (l : List St) : okL l = true ↔ l.length ≤ 64 ∧ (∀ s ∈ l, okS s = true) ∧ Up l := by
  unfold okL
  rw [Bool.and_eq_true, decide_eq_true_eq, rise_iff]
  constructor
  · rintro ⟨h1, h2, h3, _⟩; exact ⟨h1, h2, h3⟩
  · rintro ⟨h1, h2, h3⟩; exact ⟨h1, h2, h3, fun r hr => by cases hr⟩
theorem find_mem {l : List St} (h : Up l) : ∀ {s : St}, s ∈ l → findL l s.router = some s := by
  induction l with
  | nil => intro s hs; cases hs
  | cons x t ih =>
    intro s hs
    unfold Up at h
    rw [List.pairwise_cons] at h
    unfold findL
    rw [List.find?_cons]
    rcases List.mem_cons.1 hs with rfl | hs
    · simp
    · have hlt := h.1 s hs
      have hd : decide (x.router = s.router) = false := decide_eq_false (by omega)
      rw [hd]
      exact ih h.2 hs
theorem find_has {l : List St} {r : Int} {s : St} (h : findL l r = some s) : s ∈ l ∧ s.router = r := by
  refine ⟨List.mem_of_find?_eq_some h, ?_⟩
  have := List.find?_some h
  simpa using this
theorem up_len {l : List St} (h : Up l) (r : Int) : l.length = (ahead l r).length + (behind l r).length + (if isIn l r = true then 1 else 0) := by
  induction l with
  | nil => rfl
  | cons x t ih =>
    have h0 := h
    unfold Up at h
    rw [List.pairwise_cons] at h
    have iht := ih h.2
    by_cases h1 : x.router < r
    · have e1 : ahead (x :: t) r = x :: ahead t r := by unfold ahead; rw [List.filter_cons_of_pos (by simpa using h1)]
      have e2 : behind (x :: t) r = behind t r := by unfold behind; rw [List.filter_cons_of_neg (by simp; omega)]
      have e3 : isIn (x :: t) r = isIn t r := by
        unfold isIn findL
        rw [List.find?_cons, decide_eq_false (by omega)]
      rw [e1, e2, e3, List.length_cons, List.length_cons, iht]
      omega
    · have e1 : ahead (x :: t) r = [] := by
        unfold ahead
        rw [List.filter_eq_nil_iff]
        intro s hs
        rcases List.mem_cons.1 hs with rfl | hs
        · simp; omega
        · have := h.1 s hs; simp; omega
      by_cases h2 : x.router = r
      · have e2 : behind (x :: t) r = t := by
          unfold behind
          rw [List.filter_cons_of_neg (by simp; omega), List.filter_eq_self]
          intro s hs
          have := h.1 s hs
          simp; omega
        have e3 : isIn (x :: t) r = true := by
          unfold isIn findL
          rw [List.find?_cons, decide_eq_true h2]
          rfl
        rw [e1, e2, e3, List.length_cons]
        simp
      · have e2 : behind (x :: t) r = x :: t := by
          unfold behind
          rw [List.filter_eq_self]
          intro s hs
          rcases List.mem_cons.1 hs with rfl | hs
          · simp; omega
          · have := h.1 s hs; simp; omega
        have e3 : isIn (x :: t) r = false := by
          unfold isIn findL
          rw [List.find?_eq_none.2]
          · rfl
          · intro s hs
            rcases List.mem_cons.1 hs with rfl | hs
            · simpa using h2
            · have := h.1 s hs; simp; omega
        rw [e1, e2, e3]
        simp
theorem up_seated {l : List St} (h : Up l) (s : St) : Up (seatedL l s) := by
  unfold seatedL Up
  rw [List.pairwise_append]
  refine ⟨List.Pairwise.filter _ h, ?_, ?_⟩
  · rw [List.pairwise_append]
    refine ⟨by simp, List.Pairwise.filter _ h, ?_⟩
    intro a ha b hb
    simp only [List.mem_cons, List.not_mem_nil, or_false] at ha
    subst ha
    unfold behind at hb
    simpa using (List.mem_filter.1 hb).2
  · intro a ha b hb
    have h1 : a.router < s.router := by unfold ahead at ha; simpa using (List.mem_filter.1 ha).2
    rcases List.mem_append.1 hb with hb | hb
    · simp only [List.mem_cons, List.not_mem_nil, or_false] at hb
      subst hb; exact h1
    · have : s.router < b.router := by unfold behind at hb; simpa using (List.mem_filter.1 hb).2
      omega
theorem mem_seated {l : List St} {s t : St} (ht : t ∈ l) (hne : t.router ≠ s.router) : t ∈ seatedL l s := by
  unfold seatedL ahead behind
  rw [List.mem_append, List.mem_append]
  by_cases h : t.router < s.router
  · exact .inl (List.mem_filter.2 ⟨ht, by simpa using h⟩)
  · exact .inr (.inr (List.mem_filter.2 ⟨ht, by simp; omega⟩))
theorem own_seated (l : List St) (s : St) : s ∈ seatedL l s := by
  unfold seatedL
  simp
def aloneL (l : List St) (r : Int) : List St := match findL l r with
  | some s => [s]
  | none => []
theorem next_may (l : List St) (e : Ev) (h : Int) : (nextL l e h).2 = mayL l e h := by
  unfold nextL mayL
  by_cases ha : askL l e h = 0
  · rw [if_pos ha, if_pos ha]
    by_cases hm : misL l e h = 0
    · rw [if_pos hm, hm]
    · rw [if_neg hm]
  · rw [if_neg ha, if_neg ha]
theorem alone_may {l : List St} (hok : okL l = true) (e : Ev) (h : Int) : mayL (aloneL l e.router) e h = mayL l e h ∨ mayL l e h = 8 := by
  have hkey : okL (aloneL l e.router) = true ∧ findL (aloneL l e.router) e.router = findL l e.router ∧ (aloneL l e.router).length ≤ 1 := by
    unfold aloneL
    cases hf : findL l e.router with
    | none => exact ⟨rfl, rfl, by simp⟩
    | some s =>
      obtain ⟨hm, hr⟩ := find_has hf
      refine ⟨?_, ?_, by simp⟩
      · rw [okL_iff]
        refine ⟨by simp, fun t ht => ?_, by unfold Up; simp⟩
        simp only [List.mem_cons, List.not_mem_nil, or_false] at ht
        subst ht
        exact ((okL_iff l).1 hok).2.1 _ hm
      · show List.find? _ [s] = _
        rw [List.find?_cons, decide_eq_true hr]
  obtain ⟨h1, h2, h3⟩ := hkey
  have e1 : askL (aloneL l e.router) e h = askL l e h := by unfold askL; rw [h1, hok]
  have e2 : isIn (aloneL l e.router) e.router = isIn l e.router := by unfold isIn; rw [h2]
  have e3 : seatOf (aloneL l e.router) e.router = seatOf l e.router := by unfold seatOf; rw [h2]
  unfold mayL
  rw [e1]
  by_cases ha : askL l e h = 0
  · rw [if_pos ha, if_pos ha]
    unfold misL
    rw [e2, e3]
    split
    · exact .inl rfl
    · split
      · exact .inl rfl
      · split
        · exact .inl rfl
        · split
          · exact .inl rfl
          · rw [if_neg (show ¬ (isIn l e.router = false ∧ (aloneL l e.router).length = 64) by omega)]
            split
            · exact .inr rfl
            · exact .inl rfl
  · rw [if_neg ha, if_neg ha]
    exact .inl rfl
/-- what is so where an event was taken -/
theorem taken {l : List St} {e : Ev} {h : Int} (hy : (nextL l e h).2 = 0) :
    okL (nextL l e h).1 = true ∧ (nextL l e h).1.length + (aloneL l e.router).length = l.length + 1 ∧
    (∀ s ∈ l, isIn (nextL l e h).1 s.router = true ∧ (s.router ≠ e.router → seatOf (nextL l e h).1 s.router = s)) := by
  have ha : askL l e h = 0 := by
    by_cases ha : askL l e h = 0
    · exact ha
    · unfold nextL at hy; rw [if_neg ha] at hy; exact absurd hy ha
  have hm : misL l e h = 0 := by
    by_cases hm : misL l e h = 0
    · exact hm
    · unfold nextL at hy; rw [if_pos ha, if_neg hm] at hy; exact absurd hy hm
  obtain ⟨hok, hoe, hh1, hh2⟩ := ask_ok ha
  obtain ⟨hl64, hall, hup⟩ := (okL_iff l).1 hok
  obtain ⟨⟨_, ⟨r1, r2⟩, ⟨q1, q2⟩, ⟨t1, t2⟩⟩, _, _⟩ := okE_bd hoe
  have e1 : (nextL l e h).1 = seatedL l ⟨e.router, e.seq, e.time, decide (e.kind ≠ 2)⟩ := by unfold nextL; rw [if_pos ha, if_pos hm]
  rw [e1]
  generalize hs : (⟨e.router, e.seq, e.time, decide (e.kind ≠ 2)⟩ : St) = s0
  have hr0 : s0.router = e.router := by rw [← hs]
  have hok0 : okS s0 = true := by
    rw [← hs]
    unfold okS
    simp only [Bool.and_eq_true, decide_eq_true_eq]
    omega
  have hu := up_seated hup s0
  have hlen := up_len hup e.router
  have hlm : (seatedL l s0).length = (ahead l e.router).length + (behind l e.router).length + 1 := by
    unfold seatedL
    rw [hr0]
    simp only [List.length_append, List.length_cons, List.length_nil]
    omega
  have hal : (aloneL l e.router).length = if isIn l e.router = true then 1 else 0 := by
    unfold aloneL isIn
    cases findL l e.router <;> rfl
  have hfull : ¬ (isIn l e.router = false ∧ l.length = 64) := by
    intro c
    unfold misL at hm
    split at hm
    · exact absurd hm (by decide)
    · split at hm
      · exact absurd hm (by decide)
      · split at hm
        · exact absurd hm (by decide)
        · split at hm
          · exact absurd hm (by decide)
          · exact absurd hm (by decide)
  refine ⟨?_, by rw [hlm, hal]; omega, ?_⟩
  · rw [okL_iff]
    refine ⟨?_, ?_, hu⟩
    · cases hi : isIn l e.router with
      | true => rw [hi] at hlen; simp only [if_true] at hlen; omega
      | false =>
        have : l.length ≠ 64 := fun c => hfull ⟨hi, c⟩
        rw [hi] at hlen
        simp only [Bool.false_eq_true, if_false] at hlen
        omega
    · intro s hs'
      unfold seatedL at hs'
      rcases List.mem_append.1 hs' with hs' | hs'
      · exact hall s ((List.mem_filter.1 hs').1)
      · rcases List.mem_append.1 hs' with hs' | hs'
        · simp only [List.mem_cons, List.not_mem_nil, or_false] at hs'
          subst hs'; exact hok0
        · exact hall s ((List.mem_filter.1 hs').1)
  · intro s hsl
    by_cases hne : s.router = e.router
    · refine ⟨?_, fun c => absurd hne c⟩
      have := find_mem hu (own_seated l s0)
      unfold isIn
      rw [hne, ← hr0, this]
      rfl
    · have := find_mem hu (mem_seated (s := s0) hsl (by rw [hr0]; exact hne))
      refine ⟨?_, fun _ => ?_⟩
      · unfold isIn; rw [this]; rfl
      · unfold seatOf; rw [this]; rfl
theorem next_keeps {l : List St} {e : Ev} {h : Int} (hok : okL l = true) (hy : (nextL l e h).2 ≠ 0) : (nextL l e h).2 = 2 ∨ (nextL l e h).2 = 1 ∨ (nextL l e h).1 = l := by
  unfold nextL at hy ⊢
  by_cases ha : askL l e h = 0
  · rw [if_pos ha] at hy ⊢
    by_cases hm : misL l e h = 0
    · rw [if_pos hm] at hy; exact absurd rfl hy
    · rw [if_neg hm]; exact .inr (.inr rfl)
  · rw [if_neg ha]
    unfold askL
    split
    · split
      · exact .inr (.inl rfl)
      · rename_i h1 h2
        exfalso
        apply ha
        unfold askL
        rw [if_pos h1, if_neg h2]
    · exact .inl rfl
theorem next_wrong {l : List St} {e : Ev} {h : Int} (hok : okL l = false) : (nextL l e h).2 = 2 := by
  have : askL l e h = 2 := by unfold askL; rw [hok]; rfl
  unfold nextL
  rw [if_neg (by rw [this]; decide), this]
end Go.Proofs.Ytckaajadajjijab.Ord
namespace Go.Proofs.Ytckaajadajjijab.Ord
open Go.Proofs.Ytckaajadajjijab.Msg (Ev okE okE_bd)

def ofR (r : Int) (l : List Ev) : List Ev := l.filter (fun e => decide (e.router = r))
def cntR (r : Int) (l : List Ev) : Nat := (ofR r l).length
def lastR (r : Int) (l : List Ev) : Int := match (ofR r l).getLast? with
  | some e => e.time
  | none => -1
theorem of_snoc (r : Int) (l : List Ev) (e : Ev) : ofR r (l ++ [e]) = if e.router = r then ofR r l ++ [e] else ofR r l := by
  unfold ofR
  rw [List.filter_append, List.filter_cons, List.filter_nil]
  by_cases h : e.router = r
  · rw [if_pos h, if_pos (by simpa using h)]
  · rw [if_neg h, if_neg (by simpa using h), List.append_nil]
theorem cnt_snoc (r : Int) (l : List Ev) (e : Ev) : cntR r (l ++ [e]) = if e.router = r then cntR r l + 1 else cntR r l := by
  unfold cntR
  rw [of_snoc]
  split
  · rw [List.length_append]; rfl
  · rfl
theorem last_snoc (r : Int) (l : List Ev) (e : Ev) : lastR r (l ++ [e]) = if e.router = r then e.time else lastR r l := by
  unfold lastR
  rw [of_snoc]
  by_cases h : e.router = r
  · rw [if_pos h, if_pos h, List.getLast?_append]; rfl
  · rw [if_neg h, if_neg h]
theorem last_none {r : Int} {l : List Ev} (h : cntR r l = 0) : lastR r l = -1 := by
  unfold lastR
  rw [List.eq_nil_of_length_eq_zero h]
  rfl
theorem cnt_mono (r : Int) (l : List Ev) (i j : Nat) (h : i ≤ j) : cntR r (l.take i) ≤ cntR r (l.take j) := by
  unfold cntR ofR
  have e : l.take i = (l.take j).take i := by rw [List.take_take, Nat.min_eq_left h]
  rw [e]
  exact ((List.take_sublist i (l.take j)).filter _).length_le
structure Inv (l : List St) (pre : List Ev) : Prop where
  ok : okL l = true
  seat : ∀ r, (findL l r = none ∧ cntR r pre = 0) ∨ ∃ s, findL l r = some s ∧ s.seq = cntR r pre ∧ s.time = lastR r pre ∧ 0 < cntR r pre
theorem inv_nil : Inv [] [] := ⟨rfl, fun r => .inl ⟨rfl, rfl⟩⟩
theorem find_seated {l : List St} (h : Up l) (s : St) (r : Int) : findL (seatedL l s) r = if r = s.router then some s else findL l r := by
  have hu := up_seated h s
  by_cases hr : r = s.router
  · rw [if_pos hr, hr]
    exact find_mem hu (own_seated l s)
  · rw [if_neg hr]
    cases hf : findL l r with
    | some t =>
      obtain ⟨ht, htr⟩ := find_has hf
      have := find_mem hu (mem_seated (s := s) ht (by rw [htr]; exact hr))
      rw [htr] at this
      exact this
    | none =>
      cases hg : findL (seatedL l s) r with
      | none => rfl
      | some t =>
        exfalso
        obtain ⟨ht, htr⟩ := find_has hg
        have htl : t ∈ l := by
          unfold seatedL ahead behind at ht
          rcases List.mem_append.1 ht with ht | ht
          · exact (List.mem_filter.1 ht).1
          · rcases List.mem_append.1 ht with ht | ht
            · simp only [List.mem_cons, List.not_mem_nil, or_false] at ht
              subst ht
              exact absurd htr.symm hr
            · exact (List.mem_filter.1 ht).1
        have := find_mem h htl
        rw [htr, hf] at this
        cases this
theorem mis_zero {l : List St} {e : Ev} {h : Int} (hm : misL l e h = 0) : e.seq = (seatOf l e.router).seq + 1 ∧ (seatOf l e.router).time ≤ e.time := by
  unfold misL at hm
  split at hm
  · exact absurd hm (by decide)
  · split at hm
    · exact absurd hm (by decide)
    · split at hm
      · exact absurd hm (by decide)
      · omega
theorem next_zero {l : List St} {e : Ev} {h : Int} (hy : (nextL l e h).2 = 0) : askL l e h = 0 ∧ misL l e h = 0 := by
  have ha : askL l e h = 0 := by
    by_cases ha : askL l e h = 0
    · exact ha
    · unfold nextL at hy; rw [if_neg ha] at hy; exact absurd hy ha
  refine ⟨ha, ?_⟩
  by_cases hm : misL l e h = 0
  · exact hm
  · unfold nextL at hy; rw [if_pos ha, if_neg hm] at hy; exact absurd hy hm
theorem inv_step {l : List St} {pre : List Ev} {e : Ev} {h : Int} (hi : Inv l pre) (hy : (nextL l e h).2 = 0) :
    Inv (nextL l e h).1 (pre ++ [e]) ∧ e.seq = cntR e.router pre + 1 ∧ lastR e.router pre ≤ e.time := by
  obtain ⟨ha, hm⟩ := next_zero hy
  obtain ⟨hok, hoe, _, _⟩ := ask_ok ha
  obtain ⟨⟨_, ⟨r1, r2⟩, ⟨q1, q2⟩, ⟨t1, t2⟩⟩, _, _⟩ := okE_bd hoe
  obtain ⟨m1, m2⟩ := mis_zero hm
  have e1 : (nextL l e h).1 = seatedL l ⟨e.router, e.seq, e.time, decide (e.kind ≠ 2)⟩ := by unfold nextL; rw [if_pos ha, if_pos hm]
  have hs : e.seq = cntR e.router pre + 1 ∧ lastR e.router pre ≤ e.time := by
    rcases hi.seat e.router with ⟨h1, h2⟩ | ⟨s, h1, h2, h3, h4⟩
    · have : seatOf l e.router = zeroS := by unfold seatOf; rw [h1]; rfl
      rw [this] at m1
      refine ⟨by rw [m1, h2]; rfl, by rw [last_none h2]; omega⟩
    · have : seatOf l e.router = s := by unfold seatOf; rw [h1]; rfl
      rw [this] at m1 m2
      exact ⟨by rw [m1, h2], by rw [← h3]; exact m2⟩
  refine ⟨⟨(taken hy).1, fun r => ?_⟩, hs⟩
  rw [e1, find_seated ((okL_iff l).1 hok).2.2, cnt_snoc, last_snoc]
  by_cases hr : r = e.router
  · rw [if_pos hr, if_pos hr.symm, if_pos hr.symm]
    refine .inr ⟨_, rfl, ?_, rfl, by omega⟩
    rw [hr]
    exact hs.1
  · rw [if_neg hr, if_neg (fun c => hr c.symm), if_neg (fun c => hr c.symm)]
    exact hi.seat r
theorem all_inv (h : Int) : ∀ (es : List Ev) (l : List St) (pre : List Ev) (k : Nat), Inv l pre → ∃ j, j ≤ es.length ∧ (allL h l es k).2.1 = k + j ∧ Inv (allL h l es k).1 (pre ++ es.take j) ∧ ∀ (i : Nat) (hi : i < j) (hi2 : i < es.length), es[i].seq = cntR es[i].router (pre ++ es.take i) + 1 ∧ lastR es[i].router (pre ++ es.take i) ≤ es[i].time := by
  intro es
  induction es with
  | nil =>
    intro l pre k hi
    refine ⟨0, Nat.le_refl _, rfl, ?_, fun i hi2 _ => absurd hi2 (by omega)⟩
    show Inv l (pre ++ [])
    rw [List.append_nil]
    exact hi
  | cons e t ih =>
    intro l pre k hi
    unfold allL
    by_cases hy : (nextL l e h).2 = 0
    · rw [if_pos hy]
      obtain ⟨hi', hs1, hs2⟩ := inv_step hi hy
      obtain ⟨j, hj, h1, h2, h3⟩ := ih (nextL l e h).1 (pre ++ [e]) (k + 1) hi'
      refine ⟨j + 1, by simp; omega, by rw [h1]; omega, ?_, ?_⟩
      · rw [List.take_succ_cons]
        simpa using h2
      · intro i hij hil
        cases i with
        | zero => simpa using ⟨hs1, hs2⟩
        | succ i =>
          have := h3 i (by omega) (by simpa using hil)
          rw [List.take_succ_cons]
          simpa using this
    · rw [if_neg hy]
      refine ⟨0, by omega, rfl, ?_, fun i hi2 _ => absurd hi2 (by omega)⟩
      show Inv l (pre ++ [])
      rw [List.append_nil]
      exact hi
/-- what OrderOnce asks for -/
theorem once (h : Int) (es : List Ev) : ∃ j, j ≤ es.length ∧ (allL h [] es 0).2.1 = j ∧
    (∀ (i : Nat) (hi : i < j) (hi2 : i < es.length), mayL (allL h [] es 0).1 es[i] h ≠ 0 ∧ es[i].seq = cntR es[i].router (es.take i) + 1 ∧ lastR es[i].router (es.take i) ≤ es[i].time) ∧
    (∀ r, isIn (allL h [] es 0).1 r = decide (0 < cntR r (es.take j)) ∧ (0 < cntR r (es.take j) → (seatOf (allL h [] es 0).1 r).seq = cntR r (es.take j) ∧ (seatOf (allL h [] es 0).1 r).time = lastR r (es.take j))) := by
  obtain ⟨j, hj, h1, h2, h3⟩ := all_inv h es [] [] 0 inv_nil
  rw [Nat.zero_add] at h1
  simp only [List.nil_append] at h2 h3
  have hseat : ∀ r, isIn (allL h [] es 0).1 r = decide (0 < cntR r (es.take j)) ∧ (0 < cntR r (es.take j) → (seatOf (allL h [] es 0).1 r).seq = cntR r (es.take j) ∧ (seatOf (allL h [] es 0).1 r).time = lastR r (es.take j)) := by
    intro r
    rcases h2.seat r with ⟨a1, a2⟩ | ⟨s, a1, a2, a3, a4⟩
    · unfold isIn
      rw [a1, a2]
      exact ⟨rfl, fun c => absurd c (by omega)⟩
    · unfold isIn seatOf
      rw [a1]
      exact ⟨by rw [decide_eq_true a4]; rfl, fun _ => ⟨a2, a3⟩⟩
  refine ⟨j, hj, h1, fun i hi hi2 => ?_, hseat⟩
  obtain ⟨b1, b2⟩ := h3 i hi hi2
  refine ⟨?_, b1, b2⟩
  intro hc
  have hm : misL (allL h [] es 0).1 es[i] h = 0 := by
    unfold mayL at hc
    by_cases ha : askL (allL h [] es 0).1 es[i] h = 0
    · rw [if_pos ha] at hc; exact hc
    · rw [if_neg ha] at hc; exact absurd hc ha
  have hz := (mis_zero hm).1
  have hcnt : cntR es[i].router (es.take (i + 1)) = cntR es[i].router (es.take i) + 1 := by
    rw [List.take_succ_eq_append_getElem hi2, cnt_snoc, if_pos rfl]
  have hmono := cnt_mono es[i].router es (i + 1) j hi
  have := ((hseat es[i].router).2 (by omega)).1
  omega
end Go.Proofs.Ytckaajadajjijab.Ord
namespace Go.Proofs.Ytckaajadajjijab
namespace orderOnce
open Go.ChangeShapes Go.WideShapes Go.ChangeAt Go.RowKit
open Go.ChangeMaps (open_string shut_string)
open Go.Proofs.Ytckaajadajjijab.Msg (Ev okE checkE evV evC FitE echeck_any cells12' gkeep gsetO set1)
open Go.Proofs.Ytckaajadajjijab.Ord
open Go.Proofs.Ytckaajadajjijab.Addr (Pf okP checkP wideN firstN kP hiN loN adV pfV RowAt below2 below_drew below_new bset RowAt.lt RowAt.cell RowAt.frozen RowAt.below RowAt.drew RowAt.new RowAt.alloc gdrew gset gbelow galloc grefl cells2 cells4 results_cell Bl bl_ne wp_region_bl bl_call bl_same)

theorem own : ownKnob Try.prog.godebug = none := by kernel_rfl
theorem laidOut : laidOutB Try.prog = true := by kernel_rfl
set_option maxHeartbeats 16000000 in
set_option maxRecDepth 20000 in
theorem walks (b i0 n cp : Nat) (es : List Ev) (c0 c1 c2 c3 c5 c6 c7 c8 c9 c10 c11 : Int) (cs : Bool) (h : Int) (w : World) (m : List St) (j : Nat) (y : Int)
    (he : HasEvs w (.slice (some ⟨b, i0, none⟩) n cp) es) (hn : n = es.length) (hn0 : 0 < n) (hcp : n ≤ cp ∧ cp ≤ 9223372036854775807) (HF : Hid (∀ e ∈ es, FitE e)) (hj : j ≤ n)
    (k1 : ∀ W : World, Below w.heap.size w W → Calls Try.prog 22 #[.slice none 0 0, .slice (some ⟨b, i0, none⟩) n cp, .int .i64 h] W fun r w' => ∃ u, r = .returned (.tuple #[u, .int .i64 (j : Int), .int .i64 y]) ∧ (HasSts w' u m ∧ NewIn W u) ∧ Below W.heap.size W w')
    (HPER : Hid (∀ (i : Nat) (hi : i < j) (hi2 : i < es.length), mayL m es[i] h ≠ 0 ∧ es[i].seq = cntR es[i].router (es.take i) + 1 ∧ lastR es[i].router (es.take i) ≤ es[i].time))
    (HSE : Hid (isIn m c1 = decide (0 < cntR c1 (es.take j)) ∧ (0 < cntR c1 (es.take j) → (seatOf m c1).seq = cntR c1 (es.take j) ∧ (seatOf m c1).time = lastR c1 (es.take j)))) :
    Calls Try.prog 6 #[.slice (some ⟨b, i0, none⟩) n cp, .agg #[.int .u8 c0, .int .i64 c1, .int .u64 c2, .int .i64 c3, .bool cs, .int .u64 c5, .int .u64 c6, .int .i64 c7, .int .u8 c8, .int .i64 c9, .int .i64 c10, .int .i64 c11], .int .i64 h] w fun e w' => e = .returned (.bool true) ∧ Below w.heap.size w w' := by
  have hv := lives_any
  have HE0 : Hid (∀ W : World, Below w.heap.size w W → HasEvs W (.slice (some ⟨b, i0, none⟩) n cp) es) := fun W hb => he.keep hb
  have hjn : j ≤ es.length := by omega
  have hji : (j : Int) ≤ (n : Int) := by omega
  have hjc : (j : Int) ≤ (cp : Int) := by omega
  have hc0 : (0 : Int) < (cp : Int) := by omega
  have hc1 : cp ≠ 0 := by omega
  have hci2 : (cp : Int) ≤ 9223372036854775807 := by omega
  have hd1 : decide ((n : Int) < (j : Int)) = false := decide_eq_false (by omega)
  have hd2 : decide (n < j) = false := decide_eq_false (by omega)
  obtain ⟨X, hX⟩ : ∃ X, X = w.alloc (.cells #[.int .u8 c0, .int .i64 c1, .int .u64 c2, .int .i64 c3, .bool cs, .int .u64 c5, .int .u64 c6, .int .i64 c7, .int .u8 c8, .int .i64 c9, .int .i64 c10, .int .i64 c11] 39) := ⟨_, rfl⟩
  have hB : Below w.heap.size w X := by rw [hX]; exact below_new (Below.refl _ _) _
  have r0 : RowAt X w.heap.size [.int .u8 c0, .int .i64 c1, .int .u64 c2, .int .i64 c3, .bool cs, .int .u64 c5, .int .u64 c6, .int .i64 c7, .int .u8 c8, .int .i64 c9, .int .i64 c10, .int .i64 c11] 39 := by rw [hX]; exact RowAt.new _ _ _
  clear he hn
  go_enter Try.func6, Try.ntmps6
  go_upto_region 1 with fail
  rw [← hX]
  clear hX
  obtain ⟨g0, hg0⟩ : ∃ g, g = w.heap.size := ⟨_, rfl⟩
  rw [← hg0] at r0 ⊢
  clear hg0
  go_wp2_with fail
  go_at_call 16; refine (hv _).mono ?_; rintro e w1 ⟨rfl, hb⟩
  replace r0 := RowAt.below r0 hb
  replace hB := below2 hB hb
  clear hb hv
  go_wp2_with fail
  go_at_call 22; refine (k1 _ hB).mono ?_; rintro e w2 ⟨u, rfl, ⟨hm, _⟩, hb⟩
  replace r0 := RowAt.below r0 hb
  replace hB := below2 hB hb
  have HU : Hid (HasSts w2 u m) := hm
  clear hb k1 hm
  go_wp2_with fail
  go_loopw [10, 11, 34] (fun a b i wr => ∃ k : Nat, k ≤ j ∧ i = .int .i64 k ∧ a = .int .u64 (cntR c1 (es.take k) : Int) ∧ b = .int .i64 (lastR c1 (es.take k)) ∧ Below w.heap.size w wr ∧ Hid (RowAt wr g0 [.int .u8 c0, .int .i64 c1, .int .u64 c2, .int .i64 c3, .bool cs, .int .u64 c5, .int .u64 c6, .int .i64 c7, .int .u8 c8, .int .i64 c9, .int .i64 c10, .int .i64 c11] 39) ∧ Hid (HasSts wr u m)) (fun _ _ i _ => j - (intOf i).toNat)
  case atStart => exact ⟨0, by omega, rfl, rfl, rfl, hB, r0, HU⟩
  case round =>
    obtain ⟨k, hk, rfl, rfl, rfl, hBr, HR0, HU⟩ := hrel
    by_cases hlt : k < j
    · have hkz : k < es.length := by omega
      obtain ⟨f1, f2, f3⟩ := HPER.out k hlt hkz
      obtain ⟨g1, i1, ho, hg1, a0, a1, a2, a3, a4, a5, a6, a7, a8, a9, a10, a11⟩ := HasEvs.cell (HE0.out wr hBr) k hkz
      injection ho with ho
      injection ho with ho1 ho2
      subst ho1 ho2
      have hfe := HF.out es[k] (List.getElem_mem hkz)
      have hcs : cntR c1 (es.take (k + 1)) = if es[k].router = c1 then cntR c1 (es.take k) + 1 else cntR c1 (es.take k) := by rw [List.take_succ_eq_append_getElem hkz, cnt_snoc]
      have hls : lastR c1 (es.take (k + 1)) = if es[k].router = c1 then es[k].time else lastR c1 (es.take k) := by rw [List.take_succ_eq_append_getElem hkz, last_snoc]
      have hcl : cntR c1 (es.take k) ≤ k := by
        unfold cntR ofR
        refine Nat.le_trans (List.length_filter_le _ _) ?_
        rw [List.length_take]; omega
      obtain ⟨e0, he0⟩ : ∃ e0 : Ev, e0 = es[k] := ⟨_, rfl⟩
      rw [← he0] at a0 a1 a2 a3 a4 a5 a6 a7 a8 a9 a10 a11 f1 f2 f3 hfe hcs hls
      clear he0 hg1
      have HC1 : Hid (e0.router = c1 → cntR c1 (es.take (k + 1)) = cntR c1 (es.take k) + 1 ∧ lastR c1 (es.take (k + 1)) = e0.time ∧ e0.seq = cntR c1 (es.take k) + 1 ∧ lastR c1 (es.take k) ≤ e0.time) := fun c => ⟨by rw [hcs, if_pos c], by rw [hls, if_pos c], by rw [f2, c], by rw [← c]; exact f3⟩
      have HC2 : Hid (e0.router ≠ c1 → cntR c1 (es.take (k + 1)) = cntR c1 (es.take k) ∧ lastR c1 (es.take (k + 1)) = lastR c1 (es.take k)) := fun c => ⟨by rw [hcs, if_neg c], by rw [hls, if_neg c]⟩
      clear hcs hls f2 f3
      have hki : (k : Int) < (j : Int) := by omega
      have hci : (cntR c1 (es.take k) : Int) ≤ 9223372036854775807 := by omega
      generalize cntR c1 (es.take k) = cc at *
      generalize lastR c1 (es.take k) = ll at *
      have r0 := HR0.out
      clear HR0 hcl
      go_upto_region 11 with fail
      obtain ⟨X, hX⟩ : ∃ X, X = wr.alloc (.cells #[.int .u8 (e0.kind : Int), .int .i64 e0.router, .int .u64 (e0.seq : Int), .int .i64 e0.time, .bool e0.pf.six, .int .u64 (hiN e0.pf.n : Int), .int .u64 (loN e0.pf.n : Int), .int .i64 e0.pf.len, .int .u8 (e0.act.k : Int), .int .i64 e0.act.i, .int .i64 e0.iface, .int .i64 e0.peer] 39) := ⟨_, rfl⟩
      have hb : Below wr.heap.size wr X := by rw [hX]; exact below_new (Below.refl _ _) _
      have rx : RowAt X wr.heap.size [.int .u8 (e0.kind : Int), .int .i64 e0.router, .int .u64 (e0.seq : Int), .int .i64 e0.time, .bool e0.pf.six, .int .u64 (hiN e0.pf.n : Int), .int .u64 (loN e0.pf.n : Int), .int .i64 e0.pf.len, .int .u8 (e0.act.k : Int), .int .i64 e0.act.i, .int .i64 e0.iface, .int .i64 e0.peer] 39 := by rw [hX]; exact RowAt.new _ _ _
      rw [← hX]
      replace r0 := RowAt.below r0 hb
      have hB2 := below2 hBr hb
      have HU2 : Hid (HasSts X u m) := HU.out.keep hb
      clear hX hb a0 a1 a2 a3 a4 a5 a6 a7 a8 a9 a10 a11 hBr HU
      obtain ⟨gs, hgs⟩ : ∃ g, g = wr.heap.size := ⟨_, rfl⟩
      rw [← hgs] at rx ⊢
      clear hgs
      obtain ⟨⟨x0, x1, x2, x3, x4, x5⟩, ⟨x6, x7, x8, x9, x10, x11⟩, xf, hlx⟩ := cells12' rx
      have cm : Calls Try.prog 19 #[u, .agg #[.int .u8 (e0.kind : Int), .int .i64 e0.router, .int .u64 (e0.seq : Int), .int .i64 e0.time, .bool e0.pf.six, .int .u64 (hiN e0.pf.n : Int), .int .u64 (loN e0.pf.n : Int), .int .i64 e0.pf.len, .int .u8 (e0.act.k : Int), .int .i64 e0.act.i, .int .i64 e0.iface, .int .i64 e0.peer], .int .i64 h] X fun e w' => e = .returned (.int .i64 (mayL m e0 h)) ∧ Below X.heap.size X w' := may_any m u e0 h X HU2.out hfe
      have q1 : (mayL m e0 h == 0) = false := beq_eq_false_iff_ne.2 f1
      generalize mayL m e0 h = A at cm q1
      clear f1 hfe
      go_wp2_with fail
      go_at_call 19; refine cm.mono ?_; rintro e w7 ⟨rfl, hb⟩
      replace r0 := RowAt.below r0 hb
      replace rx := RowAt.below rx hb
      replace hB2 := below2 hB2 hb
      replace HU2 : Hid (HasSts _ u m) := HU2.out.keep hb
      clear hb cm x0 x1 x2 x3 x4 x5 x6 x7 x8 x9 x10 x11 xf hlx
      obtain ⟨⟨x0, x1, x2, x3, x4, x5⟩, ⟨x6, x7, x8, x9, x10, x11⟩, xf, hlx⟩ := cells12' rx
      obtain ⟨⟨y0, y1, y2, y3, y4, y5⟩, ⟨y6, y7, y8, y9, y10, y11⟩, yf, hly⟩ := cells12' r0
      have HR0 : Hid (RowAt w7 g0 [.int .u8 c0, .int .i64 c1, .int .u64 c2, .int .i64 c3, .bool cs, .int .u64 c5, .int .u64 c6, .int .i64 c7, .int .u8 c8, .int .i64 c9, .int .i64 c10, .int .i64 c11] 39) := r0
      clear r0 rx
      by_cases hr : e0.router = c1
      · obtain ⟨g1, g2, g3, g4⟩ := HC1.out hr
        have p1 : (e0.router == c1) = true := by rw [hr]; simp
        have p3 : (e0.seq : Int) = (cc : Int) + 1 := by omega
        have p4 : decide (e0.time < ll) = false := decide_eq_false (by omega)
        have hw : IntKind.u64.wrap ((cc : Int) + 1) = (cc : Int) + 1 := by rw [IntKind.wrap_u64]; omega
        have HG1 : Hid (cntR c1 (es.take (k + 1)) = cc + 1) := g1
        have HG2 : Hid (lastR c1 (es.take (k + 1)) = e0.time) := g2
        clear HC1 HC2 hr g1 g2 g3 g4
        go_wp2_with fail
        go_roundw
        case rel => exact ⟨k + 1, by omega, by go_num, by rw [HG1.out]; rfl, by rw [HG2.out], hB2, HR0, HU2⟩
        case measure => simp [intOf]; omega
      · obtain ⟨g1, g2⟩ := HC2.out hr
        have p1 : (e0.router == c1) = false := beq_eq_false_iff_ne.2 hr
        have HG1 : Hid (cntR c1 (es.take (k + 1)) = cc) := g1
        have HG2 : Hid (lastR c1 (es.take (k + 1)) = ll) := g2
        clear HC1 HC2 hr g1 g2
        go_wp2_with fail
        go_roundw
        case rel => exact ⟨k + 1, by omega, by go_num, by rw [HG1.out], by rw [HG2.out], hB2, HR0, HU2⟩
        case measure => simp [intOf]; omega
    · obtain rfl : k = j := by omega
      have cf := find_any m u c1 wr HU.out
      rw [show stV (seatOf m c1) = .agg #[.int .i64 (seatOf m c1).router, .int .u64 ((seatOf m c1).seq : Int), .int .i64 (seatOf m c1).time, .bool (seatOf m c1).up] from rfl, (HSE.out).1] at cf
      have HS2 := (HSE.out).2
      generalize (seatOf m c1).router = s0 at cf
      generalize (seatOf m c1).seq = s1 at cf HS2
      generalize (seatOf m c1).time = s2 at cf HS2
      generalize (seatOf m c1).up = su at cf
      generalize lastR c1 (es.take k) = ll at *
      generalize cntR c1 (es.take k) = cc at *
      have r0 := HR0.out
      obtain ⟨⟨y0, y1, y2, y3, y4, y5⟩, ⟨y6, y7, y8, y9, y10, y11⟩, yf, hly⟩ := cells12' r0
      clear HU HR0 HSE HPER
      by_cases hcc : 0 < cc
      · obtain ⟨e1, e2⟩ := HS2 hcc
        subst e1 e2
        rw [decide_eq_true hcc] at cf
        have d1 : decide ((0 : Int) < (s1 : Int)) = true := decide_eq_true (by omega)
        have d2 : decide (0 < s1) = true := decide_eq_true hcc
        clear HS2 hcc
        go_wp2_with fail
        go_at_call 14; refine cf.mono ?_; rintro e w8 ⟨rfl, hb⟩
        replace hBr := below2 hBr hb
        clear hb cf y0 y1 y2 y3 y4 y5 y6 y7 y8 y9 y10 y11 yf hly r0
        go_upto_region 21 with fail
        obtain ⟨Y, hY⟩ : ∃ Y, Y = w8.alloc (.cells #[.int .i64 s0, .int .u64 (s1 : Int), .int .i64 s2, .bool su] 48) := ⟨_, rfl⟩
        have hb : Below w8.heap.size w8 Y := by rw [hY]; exact below_new (Below.refl _ _) _
        have r1 : RowAt Y w8.heap.size [.int .i64 s0, .int .u64 (s1 : Int), .int .i64 s2, .bool su] 48 := by rw [hY]; exact RowAt.new _ _ _
        rw [← hY]
        replace hBr := below2 hBr hb
        clear hb hY
        obtain ⟨z0, z1, z2, z3, zf⟩ := cells4 r1
        go_wp2_with fail
        go_ret
        exact ⟨by first | rfl | simp, hBr⟩
      · rw [decide_eq_false hcc] at cf
        have hc0 : cc = 0 := by omega
        subst hc0
        clear HS2 hcc
        go_wp2_with fail
        go_at_call 14; refine cf.mono ?_; rintro e w8 ⟨rfl, hb⟩
        replace hBr := below2 hBr hb
        clear hb cf y0 y1 y2 y3 y4 y5 y6 y7 y8 y9 y10 y11 yf hly r0
        go_upto_region 21 with fail
        obtain ⟨Y, hY⟩ : ∃ Y, Y = w8.alloc (.cells #[.int .i64 s0, .int .u64 (s1 : Int), .int .i64 s2, .bool su] 48) := ⟨_, rfl⟩
        have hb : Below w8.heap.size w8 Y := by rw [hY]; exact below_new (Below.refl _ _) _
        have r1 : RowAt Y w8.heap.size [.int .i64 s0, .int .u64 (s1 : Int), .int .i64 s2, .bool su] 48 := by rw [hY]; exact RowAt.new _ _ _
        rw [← hY]
        replace hBr := below2 hBr hb
        clear hb hY
        obtain ⟨z0, z1, z2, z3, zf⟩ := cells4 r1
        go_wp2_with fail
        go_ret
        exact ⟨by first | rfl | simp, hBr⟩
set_option maxHeartbeats 8000000 in
set_option maxRecDepth 20000 in
theorem walks0  (c0 c1 c2 c3 c5 c6 c7 c8 c9 c10 c11 : Int) (cs : Bool) (h : Int) (w : World) (m : List St) (y : Int) 
    (k1 : ∀ W : World, Below w.heap.size w W → Calls Try.prog 22 #[.slice none 0 0, .slice none 0 0, .int .i64 h] W fun r w' => ∃ u, r = .returned (.tuple #[u, .int .i64 0, .int .i64 y]) ∧ (HasSts w' u m ∧ NewIn W u) ∧ Below W.heap.size W w')
    (HSE : isIn m c1 = false) :
    Calls Try.prog 6 #[.slice none 0 0, .agg #[.int .u8 c0, .int .i64 c1, .int .u64 c2, .int .i64 c3, .bool cs, .int .u64 c5, .int .u64 c6, .int .i64 c7, .int .u8 c8, .int .i64 c9, .int .i64 c10, .int .i64 c11], .int .i64 h] w fun e w' => e = .returned (.bool true) ∧ Below w.heap.size w w' := by
  have hv := lives_any
  obtain ⟨X, hX⟩ : ∃ X, X = w.alloc (.cells #[.int .u8 c0, .int .i64 c1, .int .u64 c2, .int .i64 c3, .bool cs, .int .u64 c5, .int .u64 c6, .int .i64 c7, .int .u8 c8, .int .i64 c9, .int .i64 c10, .int .i64 c11] 39) := ⟨_, rfl⟩
  have hB : Below w.heap.size w X := by rw [hX]; exact below_new (Below.refl _ _) _
  have r0 : RowAt X w.heap.size [.int .u8 c0, .int .i64 c1, .int .u64 c2, .int .i64 c3, .bool cs, .int .u64 c5, .int .u64 c6, .int .i64 c7, .int .u8 c8, .int .i64 c9, .int .i64 c10, .int .i64 c11] 39 := by rw [hX]; exact RowAt.new _ _ _
  have CF : Hid (∀ W : World, ∀ u : Value, HasSts W u m → Calls Try.prog 14 #[u, .int .i64 c1] W fun e w' => e = .returned (.tuple #[.agg #[.int .i64 (seatOf m c1).router, .int .u64 ((seatOf m c1).seq : Int), .int .i64 (seatOf m c1).time, .bool (seatOf m c1).up], .bool false]) ∧ Below W.heap.size W w') := fun W u hu => by
    have := find_any m u c1 W hu
    rw [HSE] at this
    exact this
  generalize (seatOf m c1).router = s0 at CF
  generalize ((seatOf m c1).seq : Int) = s1 at CF
  generalize (seatOf m c1).time = s2 at CF
  generalize (seatOf m c1).up = su at CF
  clear HSE
  go_enter Try.func6, Try.ntmps6
  go_upto_region 1 with fail
  rw [← hX]
  clear hX
  go_wp2_with fail
  go_at_call 16; refine (hv _).mono ?_; rintro e w1 ⟨rfl, hb⟩
  replace r0 := RowAt.below r0 hb
  replace hB := below2 hB hb
  clear hb hv
  go_wp2_with fail
  go_at_call 22; refine (k1 _ hB).mono ?_; rintro e w2 ⟨u, rfl, ⟨hm, _⟩, hb⟩
  replace r0 := RowAt.below r0 hb
  replace hB := below2 hB hb
  have cf := CF.out w2 u hm
  clear hb k1 hm CF
  obtain ⟨⟨y0, y1, y2, y3, y4, y5⟩, ⟨y6, y7, y8, y9, y10, y11⟩, yf, hly⟩ := cells12' r0
  go_wp2_with fail
  all_goals
    refine wp_loop_rounds 1 ?_
    rw [rounds_succ]
    go_wp2_with fail
    go_at_call 14; refine cf.mono ?_; rintro e w8 ⟨rfl, hb⟩
    replace hB := below2 hB hb
    clear hb y0 y1 y2 y3 y4 y5 y6 y7 y8 y9 y10 y11 yf hly r0
    go_upto_region 21 with fail
    obtain ⟨Y, hY⟩ : ∃ Y, Y = w8.alloc (.cells #[.int .i64 s0, .int .u64 s1, .int .i64 s2, .bool su] 48) := ⟨_, rfl⟩
    have hb : Below w8.heap.size w8 Y := by rw [hY]; exact below_new (Below.refl _ _) _
    have r1 : RowAt Y w8.heap.size [.int .i64 s0, .int .u64 s1, .int .i64 s2, .bool su] 48 := by rw [hY]; exact RowAt.new _ _ _
    rw [← hY]
    replace hB := below2 hB hb
    clear hb hY
    obtain ⟨z0, z1, z2, z3, zf⟩ := cells4 r1
    go_wp2_with fail
    go_ret
    exact ⟨by first | rfl | simp, hB⟩
set_option maxHeartbeats 8000000 in
set_option maxRecDepth 20000 in
theorem walks1 (a : Addr) (cp : Nat) (c0 c1 c2 c3 c5 c6 c7 c8 c9 c10 c11 : Int) (cs : Bool) (h : Int) (w : World) (m : List St) (y : Int) (hcp : cp ≤ 9223372036854775807)
    (k1 : ∀ W : World, Below w.heap.size w W → Calls Try.prog 22 #[.slice none 0 0, .slice (some a) 0 cp, .int .i64 h] W fun r w' => ∃ u, r = .returned (.tuple #[u, .int .i64 0, .int .i64 y]) ∧ (HasSts w' u m ∧ NewIn W u) ∧ Below W.heap.size W w')
    (HSE : isIn m c1 = false) :
    Calls Try.prog 6 #[.slice (some a) 0 cp, .agg #[.int .u8 c0, .int .i64 c1, .int .u64 c2, .int .i64 c3, .bool cs, .int .u64 c5, .int .u64 c6, .int .i64 c7, .int .u8 c8, .int .i64 c9, .int .i64 c10, .int .i64 c11], .int .i64 h] w fun e w' => e = .returned (.bool true) ∧ Below w.heap.size w w' := by
  have hv := lives_any
  obtain ⟨X, hX⟩ : ∃ X, X = w.alloc (.cells #[.int .u8 c0, .int .i64 c1, .int .u64 c2, .int .i64 c3, .bool cs, .int .u64 c5, .int .u64 c6, .int .i64 c7, .int .u8 c8, .int .i64 c9, .int .i64 c10, .int .i64 c11] 39) := ⟨_, rfl⟩
  have hB : Below w.heap.size w X := by rw [hX]; exact below_new (Below.refl _ _) _
  have r0 : RowAt X w.heap.size [.int .u8 c0, .int .i64 c1, .int .u64 c2, .int .i64 c3, .bool cs, .int .u64 c5, .int .u64 c6, .int .i64 c7, .int .u8 c8, .int .i64 c9, .int .i64 c10, .int .i64 c11] 39 := by rw [hX]; exact RowAt.new _ _ _
  have CF : Hid (∀ W : World, ∀ u : Value, HasSts W u m → Calls Try.prog 14 #[u, .int .i64 c1] W fun e w' => e = .returned (.tuple #[.agg #[.int .i64 (seatOf m c1).router, .int .u64 ((seatOf m c1).seq : Int), .int .i64 (seatOf m c1).time, .bool (seatOf m c1).up], .bool false]) ∧ Below W.heap.size W w') := fun W u hu => by
    have := find_any m u c1 W hu
    rw [HSE] at this
    exact this
  generalize (seatOf m c1).router = s0 at CF
  generalize ((seatOf m c1).seq : Int) = s1 at CF
  generalize (seatOf m c1).time = s2 at CF
  generalize (seatOf m c1).up = su at CF
  clear HSE
  go_enter Try.func6, Try.ntmps6
  go_upto_region 1 with fail
  rw [← hX]
  clear hX
  go_wp2_with fail
  go_at_call 16; refine (hv _).mono ?_; rintro e w1 ⟨rfl, hb⟩
  replace r0 := RowAt.below r0 hb
  replace hB := below2 hB hb
  clear hb hv
  go_wp2_with fail
  go_at_call 22; refine (k1 _ hB).mono ?_; rintro e w2 ⟨u, rfl, ⟨hm, _⟩, hb⟩
  replace r0 := RowAt.below r0 hb
  replace hB := below2 hB hb
  have cf := CF.out w2 u hm
  clear hb k1 hm CF
  obtain ⟨⟨y0, y1, y2, y3, y4, y5⟩, ⟨y6, y7, y8, y9, y10, y11⟩, yf, hly⟩ := cells12' r0
  go_wp2_with fail
  all_goals
    refine wp_loop_rounds 1 ?_
    rw [rounds_succ]
    go_wp2_with fail
    go_at_call 14; refine cf.mono ?_; rintro e w8 ⟨rfl, hb⟩
    replace hB := below2 hB hb
    clear hb y0 y1 y2 y3 y4 y5 y6 y7 y8 y9 y10 y11 yf hly r0
    go_upto_region 21 with fail
    obtain ⟨Y, hY⟩ : ∃ Y, Y = w8.alloc (.cells #[.int .i64 s0, .int .u64 s1, .int .i64 s2, .bool su] 48) := ⟨_, rfl⟩
    have hb : Below w8.heap.size w8 Y := by rw [hY]; exact below_new (Below.refl _ _) _
    have r1 : RowAt Y w8.heap.size [.int .i64 s0, .int .u64 s1, .int .i64 s2, .bool su] 48 := by rw [hY]; exact RowAt.new _ _ _
    rw [← hY]
    replace hB := below2 hB hb
    clear hb hY
    obtain ⟨z0, z1, z2, z3, zf⟩ := cells4 r1
    go_wp2_with fail
    go_ret
    exact ⟨by first | rfl | simp, hB⟩
theorem walk (v : Value) (es : List Ev) (e : Ev) (h : Int) (w : World) (b0 : HasEvs w v es) (f0 : ∀ s ∈ es, FitE s) (b1 : FitE e) (b2 : -9223372036854775808 ≤ h ∧ h ≤ 9223372036854775807) :
    Calls Try.prog 6 #[v, evV e, .int .i64 h] w fun e w' => e = .returned (.bool true) ∧ Below w.heap.size w w' := by
  obtain ⟨j, hj, h1, h2, h3⟩ := once h es
  have kA := fun (W : World) (hb : Below w.heap.size w W) => all_any [] (.slice none 0 0) es v h W (hasRow_nil W 4) (b0.keep hb) f0 (by decide)
  rw [h1] at kA
  rcases b0.2 with ⟨rfl, hz⟩ | ⟨a, cp, rfl, c1, c2, c3, c4⟩
  · have hj0 : j = 0 := by omega
    subst hj0
    refine walks0 _ _ _ _ _ _ _ _ _ _ _ _ h w (Ord.allL h [] es 0).1 _ kA ?_
    have := (h3 e.router).1
    rw [List.take_zero] at this
    exact this
  · by_cases hz : es.length = 0
    · have hj0 : j = 0 := by omega
      subst hj0
      rw [hz] at kA ⊢
      refine walks1 a cp _ _ _ _ _ _ _ _ _ _ _ _ h w (Ord.allL h [] es 0).1 _ c2 kA ?_
      have := (h3 e.router).1
      rw [List.take_zero] at this
      exact this
    · obtain ⟨hs, _⟩ := c3 (by omega)
      obtain ⟨b, i0, sp⟩ := a
      simp only at hs
      subst hs
      exact walks b i0 es.length cp es _ _ _ _ _ _ _ _ _ _ _ _ h w (Ord.allL h [] es 0).1 j _ b0 rfl (by omega) ⟨c1, c2⟩ f0 hj kA h2 (h3 e.router)

set_option maxRecDepth 100000 in
theorem lifted (os : Os) (started : os.Started) (H : Type) (enc : TypeId × Value → H) :
    ReturnsInHanded {} Try.checked os 6 .any (Rows.orderOnceSpec.pre6 enc Try.prog Try.f6 Rows.orderOnceRow.domain false) (Rows.orderOnceSpec.post enc Try.prog Try.f6 false true false false) := by
  refine returnsInHanded_of_change_sized (C := Try.checked) own started (by kernel_rfl) Try.func6
    (ChangeSpec.witness6 (enc := enc) (C := Try.checked) false ⟨#[], #[.slice none 0 0, .agg #[.int .u8 0, .int .i64 0, .int .u64 0, .int .i64 0, .bool false, .int .u64 0, .int .u64 0, .int .i64 0, .int .u8 0, .int .i64 0, .int .i64 0, .int .i64 0], .int .i64 0], []⟩ 8 (by kernel_rfl) (by kernel_rfl) (by kernel_rfl) (by kernel_rfl)) ?_
  intro W base args ds gs before hval0 hW _ hsz0 _
  have hsz : (DataW.weightsEach Try.prog (Try.f6.params.toList ++ Rows.orderOnceSpec.plain.varTypes Try.prog) (ds ++ gs)).all (· ≤ reachBytes) = true := hsz0
  clear hsz0
  have hval : ∀ (j : Nat) t v, Try.f6.params[j]? = some t → args[j]? = some v → Value.okWide Try.prog W .any base t v := hval0
  have hW' := hW
  obtain ⟨p, q, hA0, hV, rfl, hfz, hnd⟩ := hW
  have hA : DataW.TrodAll enc Try.prog W 0 (fun _ => true) true Try.f6.params.toList args.toList ds p := hA0
  rw [Try.params6] at hA hval hsz
  obtain ⟨v0, vs0, d0, ds0, p0, q0, hargs, rfl, rfl, h0, r0⟩ := trodAll_cons hA
  obtain ⟨v1, vs1, d1, ds1, p1, q1, rfl, rfl, rfl, h1, r1⟩ := trodAll_cons r0
  obtain ⟨v2, vs2, d2, ds2, p2, q2, rfl, rfl, rfl, h2, r2⟩ := trodAll_cons r1
  obtain ⟨rfl, rfl, rfl⟩ := trodAll_nil r2
  obtain rfl : args = #[v0, v1, v2] := by cases args; simp_all
  obtain ⟨rfl, rfl⟩ := trodVars_none hV
  obtain ⟨a0, len0, cap0, rfl⟩ := okWide_slice Try.underlying22 (hval 0 22 v0 rfl rfl)
  have k0 := h0
  have lt0 : ∀ x ∈ p0, x.block < W.heap.size := by obtain ⟨m, hm⟩ := k0; exact DataW.trod_lt m _ _ _ hm
  obtain ⟨fuel0, hf0⟩ := h0
  obtain ⟨z0, b0, f0⟩ := Ord.open_events hf0
  have k1 := h1
  have lt1 : ∀ x ∈ p1, x.block < W.heap.size := by obtain ⟨m, hm⟩ := k1; exact DataW.trod_lt m _ _ _ hm
  obtain ⟨n1, rfl, b1⟩ := Msg.open_event (hval 1 39 v1 rfl rfl) h1
  obtain ⟨a2, rfl, rfl, rfl, w2⟩ := open_int Try.underlying2 (hval 2 2 v2 rfl rfl) h2
  have b2 : -9223372036854775808 ≤ a2 ∧ a2 ≤ 9223372036854775807 := by simpa [Lit.wf, IntKind.min, IntKind.max, IntKind.signed, IntKind.bits] using w2
  clear hA0 hval0
  refine (walk (.slice a0 len0 cap0) z0 n1 a2 W b0 f0 b1 b2).mono fun e W' ⟨he, bel⟩ => ?_
  subst he
  exact ⟨_, rfl, _, _, _, [], _, [], hW', trodAll_mk1 (shut_bool Try.underlying4 _), (trodAll_cons_mk (Below.trod laidOut (by kernel_rfl) (of_decide_eq_true (by kernel_rfl)) k0 bel lt0) (trodAll_cons_mk (Below.trod laidOut (by kernel_rfl) (of_decide_eq_true (by kernel_rfl)) k1 bel lt1) (trodAll_cons_mk (shut_int Try.underlying2 w2) trodAll_mk0))), rfl, bel.frame _, fun h => by cases h⟩

theorem over : Rows.orderOnceRow.holds Try.pinned (OpenSpec.ofChange Rows.orderOnceSpec) :=
  OpenClaim.holds_of_wide 6 Try.f6 rfl rfl rfl rfl rfl rfl rfl ⟨rfl, rfl, rfl, rfl, rfl⟩ rfl rfl rfl rfl rfl (by kernel_rfl) Try.func6 (by kernel_rfl)
    (of_decide_eq_true (by kernel_rfl)) (by unfold Func.isWrapper; first | (rw [if_pos (by decide +kernel)]; kernel_rfl) | (rw [if_neg (by decide +kernel)]; exact ⟨rfl, rfl⟩))
    (fun os started H enc _ => lifted os started H enc)
end orderOnce
theorem oonce_holds : Rows.OrderOnceSaid := orderOnce.over
#print axioms oonce_holds
end Go.Proofs.Ytckaajadajjijab
