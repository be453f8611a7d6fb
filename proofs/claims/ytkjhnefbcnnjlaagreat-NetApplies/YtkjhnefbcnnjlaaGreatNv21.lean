/- Rows of events in memory. -/
import Derived.Test.YtkjhnefbcnnjlaaGreatNv18
import Derived.Test.YtkjhnefbcnnjlaaGreatNv20
import Derived.Test.YtkjhnefbcnnjlaaGreatNv17
import Derived.Test.YtkjhnefbcnnjlaaGreatNv19
import Derived.Test.YtkjhnefbcnnjlaaGreatNv09
set_option linter.unusedVariables false
namespace Go.Proofs.YtkjhnefbcnnjlaaGreat.Ord
open Go.Proofs.YtkjhnefbcnnjlaaGreat.Msg (Ev okE_bd)

def Up (l : List St) : Prop := l.Pairwise (fun a b => a.router < b.router)
theorem rise_iff (l : List St) : ∀ p : Option Int, rise p l = true ↔ (∀ s ∈ l, okS s = true) ∧ Up l ∧ ∀ r, p = some r → ∀ s ∈ l, r < s.router := by
  induction l with
  | nil => intro p; simp [rise, Up]
  | cons x t ih =>
    intro p
    have hx := ih (some x.router)
    have key : rise p (x :: t) = true ↔ (okS x = true ∧ (∀ r, p = some r → r < x.router)) ∧ rise (some x.router) t = true := by
      cases p with
      | none => simp [rise]
      | some r => simp [rise]
    rw [key, hx]
    unfold Up
    rw [List.pairwise_cons]
    constructor
    · rintro ⟨⟨h1, h2⟩, h3, h4, h5⟩
      refine ⟨?_, ⟨fun s hs => h5 _ rfl s hs, h4⟩, ?_⟩
      · intro s hs
        rcases List.mem_cons.1 hs with rfl | hs
        · exact h1
        · exact h3 s hs
      · intro r hr s hs
        rcases List.mem_cons.1 hs with rfl | hs
        · exact h2 r hr
        · exact Int.lt_trans (h2 r hr) (h5 _ rfl s hs)
    · rintro ⟨h1, ⟨h2, h3⟩, h4⟩
      refine ⟨⟨h1 x (by simp), fun r hr => h4 r hr x (by simp)⟩, fun s hs => h1 s (by simp [hs]), h3, ?_⟩
      intro r hr s hs
      injection hr with hr
      subst hr
      exact h2 s hs
theorem okL_iff (l : List St) : okL l = true ↔ l.length ≤ 64 ∧ (∀ s ∈ l, okS s = true) ∧ Up l := by
  unfold okL
  rw [Bool.and_eq_true, decide_eq_true_eq, rise_iff]
  constructor
  · rintro ⟨h1, h2, h3, _⟩; exact ⟨h1, h2, h3⟩
  · rintro ⟨h1, h2, h3⟩; exact ⟨h1, h2, h3, fun r hr => by cases hr⟩
theorem find_mem {l : List St} (h : Up l) : ∀ {s : St}, s ∈ l → findL l s.router = some s := by
  induction l with
  | nil => intro s hs; cases hs
  | cons x t ih =>
    intro s hs
    unfold Up at h
    rw [List.pairwise_cons] at h
    unfold findL
    rw [List.find?_cons]
    rcases List.mem_cons.1 hs with rfl | hs
    · simp
    · have hlt := h.1 s hs
      have hd : decide (x.router = s.router) = false := decide_eq_false (by omega)
      rw [hd]
      exact ih h.2 hs
theorem up_len {l : List St} (h : Up l) (r : Int) : l.length = (ahead l r).length + (behind l r).length + (if isIn l r = true then 1 else 0) := by
  induction l with
  | nil => rfl
  | cons x t ih =>
    have h0 := h
    unfold Up at h
    rw [List.pairwise_cons] at h
    have iht := ih h.2
    by_cases h1 : x.router < r
    · have e1 : ahead (x :: t) r = x :: ahead t r := by unfold ahead; rw [List.filter_cons_of_pos (by simpa using h1)]
      have e2 : behind (x :: t) r = behind t r := by unfold behind; rw [List.filter_cons_of_neg (by simp; omega)]
      have e3 : isIn (x :: t) r = isIn t r := by
        unfold isIn findL
        rw [List.find?_cons, decide_eq_false (by omega)]
      rw [e1, e2, e3, List.length_cons, List.length_cons, iht]
      omega
    · have e1 : ahead (x :: t) r = [] := by
        unfold ahead
        rw [List.filter_eq_nil_iff]
        intro s hs
        rcases List.mem_cons.1 hs with rfl | hs
        · simp; omega
        · have := h.1 s hs; simp; omega
      by_cases h2 : x.router = r
      · have e2 : behind (x :: t) r = t := by
          unfold behind
          rw [List.filter_cons_of_neg (by simp; omega), List.filter_eq_self]
          intro s hs
          have := h.1 s hs
          simp; omega
        have e3 : isIn (x :: t) r = true := by
          unfold isIn findL
          rw [List.find?_cons, decide_eq_true h2]
          rfl
        rw [e1, e2, e3, List.length_cons]
        simp
      · have e2 : behind (x :: t) r = x :: t := by
          unfold behind
          rw [List.filter_eq_self]
          intro s hs
          rcases List.mem_cons.1 hs with rfl | hs
          · simp; omega
          · have := h.1 s hs; simp; omega
        have e3 : isIn (x :: t) r = false := by
          unfold isIn findL
          rw [List.find?_eq_none.2]
          · rfl
          · intro s hs
            rcases List.mem_cons.1 hs with rfl | hs
            · simpa using h2
            · have := h.1 s hs; simp; omega
        rw [e1, e2, e3]
        simp
theorem up_seated {l : List St} (h : Up l) (s : St) : Up (seatedL l s) := by
  unfold seatedL Up
  rw [List.pairwise_append]
  refine ⟨List.Pairwise.filter _ h, ?_, ?_⟩
  · rw [List.pairwise_append]
    refine ⟨by simp, List.Pairwise.filter _ h, ?_⟩
    intro a ha b hb
    simp only [List.mem_cons, List.not_mem_nil, or_false] at ha
    subst ha
    unfold behind at hb
    simpa using (List.mem_filter.1 hb).2
  · intro a ha b hb
    have h1 : a.router < s.router := by unfold ahead at ha; simpa using (List.mem_filter.1 ha).2
    rcases List.mem_append.1 hb with hb | hb
    · simp only [List.mem_cons, List.not_mem_nil, or_false] at hb
      subst hb; exact h1
    · have : s.router < b.router := by unfold behind at hb; simpa using (List.mem_filter.1 hb).2
      omega
theorem mem_seated {l : List St} {s t : St} (ht : t ∈ l) (hne : t.router ≠ s.router) : t ∈ seatedL l s := by
  unfold seatedL ahead behind
  rw [List.mem_append, List.mem_append]
  by_cases h : t.router < s.router
  · exact .inl (List.mem_filter.2 ⟨ht, by simpa using h⟩)
  · exact .inr (.inr (List.mem_filter.2 ⟨ht, by simp; omega⟩))
theorem own_seated (l : List St) (s : St) : s ∈ seatedL l s := by
  unfold seatedL
  simp
def aloneL (l : List St) (r : Int) : List St := match findL l r with
  | some s => [s]
  | none => []
theorem next_may (l : List St) (e : Ev) (h : Int) : (nextL l e h).2 = mayL l e h := by
  unfold nextL mayL
  by_cases ha : askL l e h = 0
  · rw [if_pos ha, if_pos ha]
    by_cases hm : misL l e h = 0
    · rw [if_pos hm, hm]
    · rw [if_neg hm]
  · rw [if_neg ha, if_neg ha]
/-- what is so where an event was taken -/
theorem taken {l : List St} {e : Ev} {h : Int} (hy : (nextL l e h).2 = 0) :
    okL (nextL l e h).1 = true ∧ (nextL l e h).1.length + (aloneL l e.router).length = l.length + 1 ∧
    (∀ s ∈ l, isIn (nextL l e h).1 s.router = true ∧ (s.router ≠ e.router → seatOf (nextL l e h).1 s.router = s)) := by
  have ha : askL l e h = 0 := by
    by_cases ha : askL l e h = 0
    · exact ha
    · unfold nextL at hy; rw [if_neg ha] at hy; exact absurd hy ha
  have hm : misL l e h = 0 := by
    by_cases hm : misL l e h = 0
    · exact hm
    · unfold nextL at hy; rw [if_pos ha, if_neg hm] at hy; exact absurd hy hm
  obtain ⟨hok, hoe, hh1, hh2⟩ := ask_ok ha
  obtain ⟨hl64, hall, hup⟩ := (okL_iff l).1 hok
  obtain ⟨⟨_, ⟨r1, r2⟩, ⟨q1, q2⟩, ⟨t1, t2⟩⟩, _, _⟩ := okE_bd hoe
  have e1 : (nextL l e h).1 = seatedL l ⟨e.router, e.seq, e.time, decide (e.kind ≠ 2)⟩ := by unfold nextL; rw [if_pos ha, if_pos hm]
  rw [e1]
  generalize hs : (⟨e.router, e.seq, e.time, decide (e.kind ≠ 2)⟩ : St) = s0
  have hr0 : s0.router = e.router := by rw [← hs]
  have hok0 : okS s0 = true := by
    rw [← hs]
    unfold okS
    simp only [Bool.and_eq_true, decide_eq_true_eq]
    omega
  have hu := up_seated hup s0
  have hlen := up_len hup e.router
  have hlm : (seatedL l s0).length = (ahead l e.router).length + (behind l e.router).length + 1 := by
    unfold seatedL
    rw [hr0]
    simp only [List.length_append, List.length_cons, List.length_nil]
    omega
  have hal : (aloneL l e.router).length = if isIn l e.router = true then 1 else 0 := by
    unfold aloneL isIn
    cases findL l e.router <;> rfl
  have hfull : ¬ (isIn l e.router = false ∧ l.length = 64) := by
    intro c
    unfold misL at hm
    split at hm
    · exact absurd hm (by decide)
    · split at hm
      · exact absurd hm (by decide)
      · split at hm
        · exact absurd hm (by decide)
        · split at hm
          · exact absurd hm (by decide)
          · exact absurd hm (by decide)
  refine ⟨?_, by rw [hlm, hal]; omega, ?_⟩
  · rw [okL_iff]
    refine ⟨?_, ?_, hu⟩
    · cases hi : isIn l e.router with
      | true => rw [hi] at hlen; simp only [if_true] at hlen; omega
      | false =>
        have : l.length ≠ 64 := fun c => hfull ⟨hi, c⟩
        rw [hi] at hlen
        simp only [Bool.false_eq_true, if_false] at hlen
        omega
    · intro s hs'
      unfold seatedL at hs'
      rcases List.mem_append.1 hs' with hs' | hs'
      · exact hall s ((List.mem_filter.1 hs').1)
      · rcases List.mem_append.1 hs' with hs' | hs'
        · simp only [List.mem_cons, List.not_mem_nil, or_false] at hs'
          subst hs'; exact hok0
        · exact hall s ((List.mem_filter.1 hs').1)
  · intro s hsl
    by_cases hne : s.router = e.router
    · refine ⟨?_, fun c => absurd hne c⟩
      have := find_mem hu (own_seated l s0)
      unfold isIn
      rw [hne, ← hr0, this]
      rfl
    · have := find_mem hu (mem_seated (s := s0) hsl (by rw [hr0]; exact hne))
      refine ⟨?_, fun _ => ?_⟩
      · unfold isIn; rw [this]; rfl
      · unfold seatOf; rw [this]; rfl
end Go.Proofs.YtkjhnefbcnnjlaaGreat.Ord
namespace Go.Proofs.YtkjhnefbcnnjlaaGreat.Ord
open Go.Proofs.YtkjhnefbcnnjlaaGreat.Msg (Ev)

theorem next_zero {l : List St} {e : Ev} {h : Int} (hy : (nextL l e h).2 = 0) : askL l e h = 0 ∧ misL l e h = 0 := by
  have ha : askL l e h = 0 := by
    by_cases ha : askL l e h = 0
    · exact ha
    · unfold nextL at hy; rw [if_neg ha] at hy; exact absurd hy ha
  refine ⟨ha, ?_⟩
  by_cases hm : misL l e h = 0
  · exact hm
  · unfold nextL at hy; rw [if_pos ha, if_neg hm] at hy; exact absurd hy hm
end Go.Proofs.YtkjhnefbcnnjlaaGreat.Ord
namespace Go.Proofs.YtkjhnefbcnnjlaaGreat.Nt
open Go.Proofs.YtkjhnefbcnnjlaaGreat.Msg (Ev okE)
open Go.Proofs.YtkjhnefbcnnjlaaGreat.Fib
open Go.Proofs.YtkjhnefbcnnjlaaGreat.Ord (St nextL okL seatedL)
abbrev UpR (L : List Ro) : Prop := L.Pairwise (fun x y => x.id < y.id)
theorem each_up : ∀ {l : List Ro} {t : List St}, eachR l t = true → l.length = t.length → t.Pairwise (fun a b => a.router < b.router) → UpR l := by
  intro l
  induction l with
  | nil => intro t _ _ _; exact List.Pairwise.nil
  | cons R l ih =>
    intro t h hl hu
    cases t with
    | nil => cases h
    | cons s t =>
      simp only [eachR, Bool.and_eq_true] at h
      have hp := List.pairwise_cons.1 hu
      have hlt : l.length = t.length := by simpa using hl
      refine List.pairwise_cons.2 ⟨fun x hx => ?_, ih h.2 hlt hp.2⟩
      obtain ⟨j, hj, rfl⟩ := List.getElem_of_mem hx
      have h1 := (fitsR_ok ((eachR_iff l t hlt).1 h.2 j hj (by omega))).2.1
      have h2 := (fitsR_ok h.1).2.1
      have h3 := hp.1 _ (List.getElem_mem (by omega : j < t.length))
      omega
theorem each_app : ∀ {a : List Ro} {c : List St} {b : List Ro} {d : List St}, eachR a c = true → a.length = c.length → eachR b d = true → eachR (a ++ b) (c ++ d) = true := by
  intro a
  induction a with
  | nil =>
    intro c b d _ hl hb
    have : c = [] := List.eq_nil_of_length_eq_zero hl.symm
    subst this
    exact hb
  | cons R a ih =>
    intro c b d h hl hb
    cases c with
    | nil => cases h
    | cons s c =>
      simp only [eachR, Bool.and_eq_true] at h
      simp only [List.cons_append, eachR, Bool.and_eq_true]
      exact ⟨h.1, ih h.2 (by simpa using hl) hb⟩
theorem each_filter (p : Int → Bool) : ∀ {l : List Ro} {t : List St}, eachR l t = true → l.length = t.length → eachR (l.filter (fun R => p R.id)) (t.filter (fun s => p s.router)) = true ∧ (l.filter (fun R => p R.id)).length = (t.filter (fun s => p s.router)).length := by
  intro l
  induction l with
  | nil =>
    intro t _ hl
    have : t = [] := List.eq_nil_of_length_eq_zero hl.symm
    subst this
    exact ⟨rfl, rfl⟩
  | cons R l ih =>
    intro t h hl
    cases t with
    | nil => cases h
    | cons s t =>
      simp only [eachR, Bool.and_eq_true] at h
      obtain ⟨i1, i2⟩ := ih h.2 (by simpa using hl)
      have he := (fitsR_ok h.1).2.1
      cases hp : p R.id with
      | false =>
        rw [List.filter_cons_of_neg (by rw [hp]; decide), List.filter_cons_of_neg (by rw [← he, hp]; decide)]
        exact ⟨i1, i2⟩
      | true =>
        rw [List.filter_cons_of_pos (p := fun R : Ro => p R.id) hp, List.filter_cons_of_pos (p := fun s : St => p s.router) (by rw [← he]; exact hp)]
        simp only [eachR, Bool.and_eq_true, List.length_cons, i2, and_true]
        exact ⟨h.1, i1⟩
/-- the parts about a place -/
theorem pos_parts : ∀ (L : List Ro) (r : Int), UpR L → L.take (posN L r) = L.filter (fun R => decide (R.id < r)) ∧ L.drop (if isN L r then posN L r + 1 else posN L r) = L.filter (fun R => decide (r < R.id)) ∧ (isN L r = true → wasN L r ∈ L ∧ (wasN L r).id = r) ∧ (isN L r = false → ∀ R ∈ L, R.id ≠ r) := by
  intro L
  induction L with
  | nil => intro r _; exact ⟨rfl, rfl, fun h => by simp [isN] at h, fun _ R hR => by cases hR⟩
  | cons R L ih =>
    intro r hu
    have hp := List.pairwise_cons.1 hu
    by_cases hr : r ≤ R.id
    · have hpos : posN (R :: L) r = 0 := by unfold posN; rw [List.findIdx_cons]; simp [hr]
      have hall : ∀ x ∈ L, r < x.id := fun x hx => by have := hp.1 x hx; omega
      have hf : L.filter (fun R => decide (r < R.id)) = L := List.filter_eq_self.2 (fun x hx => decide_eq_true (hall x hx))
      have hf2 : L.filter (fun R => decide (R.id < r)) = [] := List.filter_eq_nil_iff.2 (fun x hx => by have := hall x hx; simp; omega)
      have hi : isN (R :: L) r = decide (R.id = r) := by unfold isN; rw [hpos]; rfl
      refine ⟨?_, ?_, fun h => ?_, fun h x hx => ?_⟩
      · rw [hpos, List.take_zero, List.filter_cons_of_neg (by simp; omega), hf2]
      · rw [hpos, hi]
        by_cases he : R.id = r
        · rw [decide_eq_true he, if_pos rfl, List.filter_cons_of_neg (by simp; omega), hf]
          rfl
        · rw [decide_eq_false he, if_neg (by decide), List.filter_cons_of_pos (by simp; omega), hf]
          rfl
      · unfold wasN
        rw [h, if_pos rfl, hpos]
        rw [hi, decide_eq_true_eq] at h
        exact ⟨List.mem_cons_self, h⟩
      · rw [hi, decide_eq_false_iff_not] at h
        rcases List.mem_cons.1 hx with rfl | hx
        · exact h
        · have := hall x hx; omega
    · obtain ⟨i1, i2, i3, i4⟩ := ih r hp.2
      have hpos : posN (R :: L) r = posN L r + 1 := by unfold posN; rw [List.findIdx_cons]; simp [hr]
      have hi : isN (R :: L) r = isN L r := by unfold isN; rw [hpos]; rfl
      have hw : wasN (R :: L) r = wasN L r := by unfold wasN; rw [hi, hpos]; rfl
      refine ⟨?_, ?_, fun h => ?_, fun h x hx => ?_⟩
      · rw [hpos, List.take_succ_cons, i1, List.filter_cons_of_pos (by simp; omega)]
      · rw [hpos, hi, List.filter_cons_of_neg (by simp; omega), ← i2]
        cases isN L r <;> rfl
      · rw [hi] at h
        rw [hw]
        exact ⟨List.mem_cons_of_mem _ (i3 h).1, (i3 h).2⟩
      · rw [hi] at h
        rcases List.mem_cons.1 hx with rfl | hx
        · omega
        · exact i4 h x hx
theorem ros_ok {n : NetT} (h : okN n = true) : ∀ R ∈ n.ros, okRo R = true := fun R hR => by
  obtain ⟨h1, h2, h3, h4⟩ := okN_parts h
  obtain ⟨j, hj, rfl⟩ := List.getElem_of_mem hR
  exact (fitsR_ok ((eachR_iff _ _ h2).1 h3 j hj (by omega))).1
theorem ros_up {n : NetT} (h : okN n = true) : UpR n.ros := by
  obtain ⟨h1, h2, h3, h4⟩ := okN_parts h
  exact each_up h3 h2 ((Ord.okL_iff _).1 h1).2.2
theorem ros_len {n : NetT} (h : okN n = true) : n.ros.length ≤ 64 := by
  obtain ⟨h1, h2, h3, h4⟩ := okN_parts h
  have := ((Ord.okL_iff _).1 h1).1
  omega
theorem make_ok {id : Int} (h : okId id = true) : okRo (makeRo id).1 = true ∧ (makeRo id).1.id = id ∧ (makeRo id).1.up = false := by
  unfold makeRo
  rw [h]
  refine ⟨?_, rfl, rfl⟩
  show okRo ⟨id, false, [], []⟩ = true
  unfold okRo
  rw [h]
  rfl
theorem was_ok {n : NetT} (h : okN n = true) {r : Int} (hr : okId r = true) : okRo (wasN n.ros r) = true ∧ (wasN n.ros r).id = r := by
  obtain ⟨_, _, p3, p4⟩ := pos_parts n.ros r (ros_up h)
  cases hi : isN n.ros r with
  | true => exact ⟨ros_ok h _ (p3 hi).1, (p3 hi).2⟩
  | false =>
    have : wasN n.ros r = (makeRo r).1 := by unfold wasN; rw [hi]; rfl
    rw [this]
    exact ⟨(make_ok hr).1, (make_ok hr).2.1⟩
theorem ev_id {e : Ev} (h : okE e = true) : okId e.router = true := (okId_iff _).2 (okE_parts h).2.1
theorem put_parts {n : NetT} (h : okN n = true) (r : Int) (Q : Ro) : putN n.ros r Q = n.ros.filter (fun R => decide (R.id < r)) ++ ([Q] ++ n.ros.filter (fun R => decide (r < R.id))) := by
  obtain ⟨p1, p2, _, _⟩ := pos_parts n.ros r (ros_up h)
  unfold putN
  rw [p1, p2]
theorem next_okE {l : List St} {e : Ev} {h : Int} (hy : (nextL l e h).2 = 0) : okL l = true ∧ okE e = true ∧ -1 ≤ h ∧ h ≤ 1099511627776 := Ord.ask_ok (Ord.next_zero hy).1
theorem take_zero {n : NetT} {e : Ev} {h : Int} (hz : (takeN n e h).2 = 0) : (nextL n.seats e h).2 = 0 ∧ (applyRo (wasN n.ros e.router) e).2 = 0 ∧ sizeN (putN n.ros e.router (applyRo (wasN n.ros e.router) e).1) ≤ 1024 ∧ takeN n e h = (⟨(nextL n.seats e h).1, putN n.ros e.router (applyRo (wasN n.ros e.router) e).1⟩, 0) := by
  unfold takeN at hz ⊢
  by_cases h1 : (nextL n.seats e h).2 = 0
  · rw [if_pos h1] at hz ⊢
    by_cases h2 : (applyRo (wasN n.ros e.router) e).2 = 0
    · rw [if_pos h2] at hz ⊢
      by_cases h3 : 1024 < sizeN (putN n.ros e.router (applyRo (wasN n.ros e.router) e).1)
      · rw [if_pos h3] at hz; simp at hz
      · rw [if_neg h3]; exact ⟨h1, h2, by omega, rfl⟩
    · rw [if_neg h2] at hz; exact absurd hz h2
  · rw [if_neg h1] at hz; exact absurd hz h1
theorem put_ok {n : NetT} (h : okN n = true) {r : Int} {Q : Ro} (hQ : okRo Q = true) : (putN n.ros r Q).length ≤ 65 ∧ ∀ R ∈ putN n.ros r Q, okRo R = true := by
  rw [put_parts h]
  have h1 := List.length_filter_le (fun R : Ro => decide (R.id < r)) n.ros
  refine ⟨?_, fun R hR => ?_⟩
  · have hl := ros_len h
    have key : ∀ l : List Ro, (l.filter (fun R => decide (R.id < r))).length + (l.filter (fun R => decide (r < R.id))).length ≤ l.length := by
      intro l
      induction l with
      | nil => exact Nat.le_refl _
      | cons x l ih =>
        rcases Int.lt_trichotomy x.id r with hx | hx | hx
        · rw [List.filter_cons_of_pos (by simpa using hx), List.filter_cons_of_neg (by simp; omega)]; simp only [List.length_cons]; omega
        · rw [List.filter_cons_of_neg (by simp; omega), List.filter_cons_of_neg (by simp; omega)]; simp only [List.length_cons]; omega
        · rw [List.filter_cons_of_neg (by simp; omega), List.filter_cons_of_pos (by simpa using hx)]; simp only [List.length_cons]; omega
    have := key n.ros
    simp only [List.length_append, List.length_cons, List.length_nil]
    omega
  · simp only [List.mem_append, List.mem_singleton] at hR
    rcases hR with hR | rfl | hR
    · exact ros_ok h _ (List.mem_filter.1 hR).1
    · exact hQ
    · exact ros_ok h _ (List.mem_filter.1 hR).1
theorem next_is {l : List St} {e : Ev} {h : Int} (hy : (nextL l e h).2 = 0) : (nextL l e h).1 = seatedL l ⟨e.router, e.seq, e.time, decide (e.kind ≠ 2)⟩ := by
  obtain ⟨h1, h2⟩ := Ord.next_zero hy
  unfold nextL
  rw [if_pos h1, if_pos h2]
theorem take_right {n : NetT} {e : Ev} {h : Int} (hok : okN n = true) (hz : (takeN n e h).2 = 0) : okN (takeN n e h).1 = true := by
  obtain ⟨t1, t2, t3, t4⟩ := take_zero hz
  rw [t4]
  obtain ⟨h1, h2, h3, h4⟩ := okN_parts hok
  obtain ⟨n1, n2, n3, n4⟩ := next_okE t1
  have hkeep := (Ord.taken t1).1
  have hw := was_ok hok (ev_id n2)
  have hQ : okRo (applyRo (wasN n.ros e.router) e).1 = true ∧ (applyRo (wasN n.ros e.router) e).1.id = e.router ∧ (applyRo (wasN n.ros e.router) e).1.up = !decide (e.kind = 2) := by
    rcases apply_cases (wasN n.ros e.router) e with g | g | g
    · exact ⟨g.2.2.2.2.2.1, by rw [g.2.2.2.2.2.2.1]; exact hw.2, g.2.2.2.2.2.2.2.1⟩
    · rw [g.1] at t2; exact absurd t2 (by decide)
    · exact absurd t2 g.1
  generalize (applyRo (wasN n.ros e.router) e).1 = Q at *
  have hs := next_is t1
  have f1 := each_filter (fun x => decide (x < e.router)) h3 h2
  have f2 := each_filter (fun x => decide (e.router < x)) h3 h2
  have hone : eachR [Q] [⟨e.router, e.seq, e.time, decide (e.kind ≠ 2)⟩] = true := by
    simp only [eachR, fitsR, hQ.1, hQ.2.1, hQ.2.2, Bool.and_true, Bool.true_and]
    by_cases hk : e.kind = 2 <;> simp [hk]
  have hE : eachR (putN n.ros e.router Q) (nextL n.seats e h).1 = true := by
    rw [put_parts hok, hs]
    exact each_app f1.1 f1.2 (each_app hone rfl f2.1)
  have hL : (putN n.ros e.router Q).length = (nextL n.seats e h).1.length := by
    rw [put_parts hok, hs]
    unfold seatedL Ord.ahead Ord.behind
    simp only [List.length_append, List.length_cons, List.length_nil]
    have := f1.2
    have := f2.2
    omega
  unfold okN
  simp only [Bool.and_eq_true, decide_eq_true_eq]
  exact ⟨hkeep, hL, hE, t3⟩
end Go.Proofs.YtkjhnefbcnnjlaaGreat.Nt
namespace Go.Proofs.YtkjhnefbcnnjlaaGreat.Nt
open Go.RowKit
open Go.Proofs.YtkjhnefbcnnjlaaGreat.Lk (HasRow HasLks.keep hasRow_own)
open Go.Proofs.YtkjhnefbcnnjlaaGreat.Tr (HasRts.keep)
open Go.Proofs.YtkjhnefbcnnjlaaGreat.Msg (Ev FitE evV)
open Go.Proofs.YtkjhnefbcnnjlaaGreat.Fib
open Go.Proofs.YtkjhnefbcnnjlaaGreat.Ord (St HasSts HasSts.keep nextL)
open Go.Proofs.YtkjhnefbcnnjlaaGreat.Addr (RowAt)
theorem fit_was {n : NetT} (hf : FitN n) (hok : okN n = true) {r : Int} (hr : -9223372036854775808 ≤ r ∧ r ≤ 9223372036854775807) : FitRo (wasN n.ros r) := by
  obtain ⟨_, _, p3, _⟩ := pos_parts n.ros r (ros_up hok)
  cases hi : isN n.ros r with
  | true => exact hf.ros _ (p3 hi).1
  | false =>
    have : wasN n.ros r = (makeRo r).1 := by unfold wasN; rw [hi]; rfl
    rw [this]
    unfold makeRo zeroRo
    split
    · exact ⟨hr, (fun x hx => by cases hx), (fun x hx => by cases hx)⟩
    · exact ⟨by decide, (fun x hx => by cases hx), (fun x hx => by cases hx)⟩
theorem parted_r (L : List Ro) (gf : Nat) (so lo : Option Addr) (sn sc ln lc : Nat) (id : Int) (w : World) (hf : RowAt w gf [.slice so sn sc, .slice lo ln lc] 54) (hl : HasRos w (.slice lo ln lc) L) :
    Calls Tryz.prog 32 #[.pointer (some ⟨gf, 0, none⟩), .int .i64 id] w (PartR (L.take (posN L id)) (L.drop (if isN L id then posN L id + 1 else posN L id)) (wasN L id) w) := by
  obtain ⟨M, eM, _, c⟩ := parted_any L gf so lo sn sc ln lc id w hf hl
  refine c.mono ?_
  rintro e w' ⟨oa, na, ca, o1, n1, c1, o2, n2, c2, ob, nb, cb, e1, h1, h2, h3, h4⟩
  refine ⟨oa, na, ca, o1, n1, c1, o2, n2, c2, ob, nb, cb, e1, ⟨_, ?_, h1⟩, ⟨_, ?_, h2⟩, h3.1, h3.2, h4⟩
  · rw [← eM]; unfold rosOf; rw [List.map_take]
  · rw [← eM]; unfold rosOf; rw [List.map_drop]
theorem concat_r (A B : List Ro) (Q : Ro) (hA : A.length ≤ 1000) (hB : B.length ≤ 1000) (W : World) (b : Nat) (oa : Option Addr) (na ca : Nat) (ob : Option Addr) (nb cb : Nat) (oc : Option Addr) (nc cc : Nat) (hb : b < W.heap.size) (h0 : W.cell? ⟨b, 0, none⟩ = some (.slice oa na ca)) (h1 : W.cell? ⟨b, 1, none⟩ = some (.slice ob nb cb)) (h2 : W.cell? ⟨b, 2, none⟩ = some (.slice oc nc cc)) (r0 : HasRos W (.slice oa na ca) A) (r1 : HasRos W (.slice ob nb cb) [Q]) (r2 : HasRos W (.slice oc nc cc) B) :
    Calls Tryz.prog 34 #[.slice (some ⟨b, 0, none⟩) 3 3] W fun e w' => ∃ o n m, e = .returned (.slice o n m) ∧ HasRos w' (.slice o n m) (A ++ ([Q] ++ B)) ∧ Below W.heap.size W w' := by
  obtain ⟨Ma, ea, ha⟩ := r0
  obtain ⟨Mb, eb, hbb⟩ := r1
  obtain ⟨Mc, ec, hc⟩ := r2
  have la : Ma.length = A.length := by rw [← ea]; simp [rosOf]
  have lb : Mb.length = 1 := by have := congrArg List.length eb; simpa [rosOf] using this
  have lc : Mc.length = B.length := by rw [← ec]; simp [rosOf]
  obtain ⟨_, _, e1, _⟩ := Lk.HasRow.slice ha.1
  obtain ⟨_, _, e2, _⟩ := Lk.HasRow.slice hbb.1
  obtain ⟨_, _, e3, _⟩ := Lk.HasRow.slice hc.1
  injection e1 with _ e1 _
  injection e2 with _ e2 _
  injection e3 with _ e3 _
  refine (concat_any b Ma Mb Mc oa ob oc na nb nc ca cb cc W hb h0 h1 h2 e1 e2 e3 ha hbb hc (by omega) (by omega) (by omega)).mono ?_
  rintro e w' ⟨v, rfl, ho, hbl⟩
  have hh : HasRos w' v (A ++ ([Q] ++ B)) := by
    refine ⟨Ma ++ (Mb ++ Mc), ?_, hasRow_own ho, fun m hm => ?_⟩
    · rw [← ea, ← eb, ← ec]; unfold rosOf; rw [List.map_append, List.map_append]
    · simp only [List.mem_append] at hm
      rcases hm with hm | hm | hm
      · exact (ha.2 m hm).keep hbl
      · exact (hbb.2 m hm).keep hbl
      · exact (hc.2 m hm).keep hbl
  obtain ⟨o, c, rfl, _⟩ := HasRos.slice hh
  exact ⟨_, _, _, rfl, hh, hbl⟩
theorem take_any (n : NetT) (e : Ev) (h : Int) (gf : Nat) (so lo : Option Addr) (sn sc ln lc : Nat) (w : World) (rf : RowAt w gf [.slice so sn sc, .slice lo ln lc] 54) (hS : HasSts w (.slice so sn sc) n.seats) (hL : HasRos w (.slice lo ln lc) n.ros) (hok : okN n = true) (hf : FitN n) (he : FitE e) :
    Calls Tryz.prog 15 #[.pointer (some ⟨gf, 0, none⟩), evV e, .int .i64 h] w (FabIs gf (takeN n e h).1 (takeN n e h).2 w) := by
  obtain ⟨S, L⟩ := n
  simp only at hS hL
  have c1 : ∀ W, HasSts W (.slice so sn sc) S → Calls Tryz.prog 31 #[.slice so sn sc, evV e, .int .i64 h] W fun x w' => ∃ o n m, x = .returned (.tuple #[.slice o n m, .int .i64 (nextL S e h).2]) ∧ HasSts w' (.slice o n m) (nextL S e h).1 ∧ Below W.heap.size W w' := fun W hW => (Ord.next_any S _ e h W hW he).mono (fun x w' ⟨u, e1, ⟨e2, _⟩, e3⟩ => by
    obtain ⟨o, c, rfl, _⟩ := Ord.HasRow.slice e2
    exact ⟨_, _, _, e1, e2, e3⟩)
  have c2 := fun W (r : RowAt W gf [.slice so sn sc, .slice lo ln lc] 54) (hl : HasRos W (.slice lo ln lc) L) => parted_r L gf so lo sn sc ln lc e.router W r hl
  by_cases h1 : (nextL S e h).2 = 0
  · have hE := (next_okE h1).2.1
    rw [h1] at c1
    have hfw := fit_was hf hok he.router
    have c3 := fun W x y h1 h2 => Fib.apply_any (wasN L e.router) e x y W h1 h2 hfw he
    by_cases h2 : (applyRo (wasN L e.router) e).2 = 0
    · have hQ : okRo (applyRo (wasN L e.router) e).1 = true := by
        rcases apply_cases (wasN L e.router) e with g | g | g
        · exact g.2.2.2.2.2.1
        · rw [g.1] at h2; exact absurd h2 (by decide)
        · exact absurd h2 g.1
      rw [h2] at c3
      have hll := ros_len hok
      simp only at hll
      have c4 := concat_r (L.take (posN L e.router)) (L.drop (if isN L e.router then posN L e.router + 1 else posN L e.router)) (applyRo (wasN L e.router) e).1 (by rw [List.length_take]; omega) (by rw [List.length_drop]; omega)
      obtain ⟨q1, q2⟩ := put_ok hok (r := e.router) hQ
      have c5 := fun W v h => size_any (putN L e.router (applyRo (wasN L e.router) e).1) v W h (by simp only at q1; omega) (fun R hR => (okRo_many (q2 R hR)).1)
      by_cases h3 : 1024 < sizeN (putN L e.router (applyRo (wasN L e.router) e).1)
      · have et : takeN ⟨S, L⟩ e h = (⟨S, L⟩, 8) := by unfold takeN; simp only [if_pos h1, if_pos h2, if_pos h3]
        rw [et]
        exact take_full gf so lo sn sc ln lc _ _ _ _ _ _ _ _ _ _ _ _ h S (nextL S e h).1 L _ _ _ (wasN L e.router) (applyRo (wasN L e.router) e).1 0 0 _ w rf hS hL (by omega) c1 c2 c3 c4 c5
      · have et : takeN ⟨S, L⟩ e h = (⟨(nextL S e h).1, putN L e.router (applyRo (wasN L e.router) e).1⟩, 0) := by unfold takeN; simp only [if_pos h1, if_pos h2, if_neg h3]
        rw [et]
        exact take_ok gf so lo sn sc ln lc _ _ _ _ _ _ _ _ _ _ _ _ h S (nextL S e h).1 L _ _ _ (wasN L e.router) (applyRo (wasN L e.router) e).1 0 0 _ w rf hS hL (by omega) c1 c2 c3 c4 c5
    · have et : takeN ⟨S, L⟩ e h = (⟨S, L⟩, (applyRo (wasN L e.router) e).2) := by unfold takeN; simp only [if_pos h1, if_neg h2]
      rw [et]
      exact take_fib gf so lo sn sc ln lc _ _ _ _ _ _ _ _ _ _ _ _ h S (nextL S e h).1 L _ _ [] (wasN L e.router) (applyRo (wasN L e.router) e).1 0 _ 0 w rf hS hL h2 c1 c2 c3
  · have et : takeN ⟨S, L⟩ e h = (⟨S, L⟩, (nextL S e h).2) := by unfold takeN; simp only [if_neg h1]
    rw [et]
    exact take_seat gf so lo sn sc ln lc _ _ _ _ _ _ _ _ _ _ _ _ h S (nextL S e h).1 L [] [] [] zeroRo zeroRo _ 0 0 w rf hS hL h1 c1
theorem fit_next {l : List St} {e : Ev} {h : Int} (hf : ∀ s ∈ l, Ord.FitS s) (he : FitE e) : ∀ s ∈ (nextL l e h).1, Ord.FitS s := by
  intro s hs
  unfold nextL at hs
  split at hs
  · split at hs
    · unfold Ord.seatedL Ord.ahead Ord.behind at hs
      simp only [List.mem_append, List.mem_singleton, List.mem_filter] at hs
      rcases hs with hs | rfl | hs
      · exact hf s hs.1
      · exact ⟨he.router, he.seq, he.time⟩
      · exact hf s hs.1
    · exact hf s hs
  · cases hs
theorem fit_take {n : NetT} {e : Ev} {h : Int} (hf : FitN n) (hok : okN n = true) (he : FitE e) : FitN (takeN n e h).1 := by
  unfold takeN
  split
  · split
    · split
      · exact hf
      · refine ⟨fit_next hf.seats he, fun R hR => ?_⟩
        simp only at hR
        rw [put_parts hok] at hR
        simp only [List.mem_append, List.mem_singleton, List.mem_filter] at hR
        rcases hR with hR | rfl | hR
        · exact hf.ros _ hR.1
        · exact fit_apply (fit_was hf hok he.router) he
        · exact hf.ros _ hR.1
    · exact hf
  · exact hf
end Go.Proofs.YtkjhnefbcnnjlaaGreat.Nt
namespace Go.Proofs.YtkjhnefbcnnjlaaGreat.Ord
open Go.RowKit
open Go.Proofs.YtkjhnefbcnnjlaaGreat.Msg (Ev evC)
open Go.Proofs.YtkjhnefbcnnjlaaGreat.Addr (hiN loN)
def evCs (l : List Ev) : List Value := l.flatMap evC
theorem evCs_len (l : List Ev) : (evCs l).length = l.length * 12 := by
  induction l with
  | nil => rfl
  | cons s l ih =>
    show (evC s ++ evCs l).length = _
    rw [List.length_append, ih, List.length_cons]
    show 12 + _ = _
    omega
/-- rows of events -/
def HasEvs (W : World) (v : Value) (l : List Ev) : Prop := HasRow W v 12 l.length (evCs l)
theorem HasEvs.keep {W W' : World} {v : Value} {l : List Ev} (h : HasEvs W v l) (hb : Below W.heap.size W W') : HasEvs W' v l := HasRow.keep h hb
theorem evCs_at (l : List Ev) : ∀ j (h : j < l.length), (evCs l)[12 * j]? = some (.int .u8 (l[j].kind : Int)) ∧ (evCs l)[12 * j + 1]? = some (.int .i64 l[j].router) ∧ (evCs l)[12 * j + 2]? = some (.int .u64 (l[j].seq : Int)) ∧ (evCs l)[12 * j + 3]? = some (.int .i64 l[j].time) ∧ (evCs l)[12 * j + 4]? = some (.bool l[j].pf.six) ∧ (evCs l)[12 * j + 5]? = some (.int .u64 (hiN l[j].pf.n : Int)) ∧ (evCs l)[12 * j + 6]? = some (.int .u64 (loN l[j].pf.n : Int)) ∧ (evCs l)[12 * j + 7]? = some (.int .i64 l[j].pf.len) ∧ (evCs l)[12 * j + 8]? = some (.int .u8 (l[j].act.k : Int)) ∧ (evCs l)[12 * j + 9]? = some (.int .i64 l[j].act.i) ∧ (evCs l)[12 * j + 10]? = some (.int .i64 l[j].iface) ∧ (evCs l)[12 * j + 11]? = some (.int .i64 l[j].peer) := by
  induction l with
  | nil => intro j h; simp at h
  | cons p ps ih =>
    intro j h
    cases j with
    | zero => exact ⟨rfl, rfl, rfl, rfl, rfl, rfl, rfl, rfl, rfl, rfl, rfl, rfl⟩
    | succ j =>
      have := ih j (by simpa using h)
      rw [show evCs (p :: ps) = .int .u8 (p.kind : Int) :: .int .i64 p.router :: .int .u64 (p.seq : Int) :: .int .i64 p.time :: .bool p.pf.six :: .int .u64 (hiN p.pf.n : Int) :: .int .u64 (loN p.pf.n : Int) :: .int .i64 p.pf.len :: .int .u8 (p.act.k : Int) :: .int .i64 p.act.i :: .int .i64 p.iface :: .int .i64 p.peer :: evCs ps from rfl, show 12 * (j + 1) = 12 * j + 1 + 1 + 1 + 1 + 1 + 1 + 1 + 1 + 1 + 1 + 1 + 1 by omega]
      simp only [List.getElem?_cons_succ, List.getElem_cons_succ]
      exact this
theorem HasEvs.cell {W : World} {o : Option Addr} {m cap : Nat} {l : List Ev} (h : HasEvs W (.slice o m cap) l) (j : Nat) (hj : j < l.length) : ∃ b i, o = some ⟨b, i, none⟩ ∧ b < W.heap.size ∧ W.cell? ⟨b, i + j * 12, none⟩ = some (.int .u8 (l[j].kind : Int)) ∧ W.cell? ⟨b, i + j * 12 + 1, none⟩ = some (.int .i64 l[j].router) ∧ W.cell? ⟨b, i + j * 12 + 2, none⟩ = some (.int .u64 (l[j].seq : Int)) ∧ W.cell? ⟨b, i + j * 12 + 3, none⟩ = some (.int .i64 l[j].time) ∧ W.cell? ⟨b, i + j * 12 + 4, none⟩ = some (.bool l[j].pf.six) ∧ W.cell? ⟨b, i + j * 12 + 5, none⟩ = some (.int .u64 (hiN l[j].pf.n : Int)) ∧ W.cell? ⟨b, i + j * 12 + 6, none⟩ = some (.int .u64 (loN l[j].pf.n : Int)) ∧ W.cell? ⟨b, i + j * 12 + 7, none⟩ = some (.int .i64 l[j].pf.len) ∧ W.cell? ⟨b, i + j * 12 + 8, none⟩ = some (.int .u8 (l[j].act.k : Int)) ∧ W.cell? ⟨b, i + j * 12 + 9, none⟩ = some (.int .i64 l[j].act.i) ∧ W.cell? ⟨b, i + j * 12 + 10, none⟩ = some (.int .i64 l[j].iface) ∧ W.cell? ⟨b, i + j * 12 + 11, none⟩ = some (.int .i64 l[j].peer) := by
  obtain ⟨_, b, i, e, hb, hc⟩ := HasRow.at h (by omega)
  obtain ⟨h0, h1, h2, h3, h4, h5, h6, h7, h8, h9, h10, h11⟩ := evCs_at l j hj
  refine ⟨b, i, e, hb, ?_, ?_, ?_, ?_, ?_, ?_, ?_, ?_, ?_, ?_, ?_, ?_⟩
  · rw [hc (j * 12) (by omega), Nat.mul_comm]; exact h0
  · rw [Nat.add_assoc, hc (j * 12 + 1) (by omega), Nat.mul_comm]; exact h1
  · rw [Nat.add_assoc, hc (j * 12 + 2) (by omega), Nat.mul_comm]; exact h2
  · rw [Nat.add_assoc, hc (j * 12 + 3) (by omega), Nat.mul_comm]; exact h3
  · rw [Nat.add_assoc, hc (j * 12 + 4) (by omega), Nat.mul_comm]; exact h4
  · rw [Nat.add_assoc, hc (j * 12 + 5) (by omega), Nat.mul_comm]; exact h5
  · rw [Nat.add_assoc, hc (j * 12 + 6) (by omega), Nat.mul_comm]; exact h6
  · rw [Nat.add_assoc, hc (j * 12 + 7) (by omega), Nat.mul_comm]; exact h7
  · rw [Nat.add_assoc, hc (j * 12 + 8) (by omega), Nat.mul_comm]; exact h8
  · rw [Nat.add_assoc, hc (j * 12 + 9) (by omega), Nat.mul_comm]; exact h9
  · rw [Nat.add_assoc, hc (j * 12 + 10) (by omega), Nat.mul_comm]; exact h10
  · rw [Nat.add_assoc, hc (j * 12 + 11) (by omega), Nat.mul_comm]; exact h11
end Go.Proofs.YtkjhnefbcnnjlaaGreat.Ord
