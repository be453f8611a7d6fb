/- Events that were taken in a row: how many of a router, and when; plain. -/
import Derived.Test.YtbglbegljkgknaaGreatNq15
import Derived.Test.YtbglbegljkgknaaGreatNq07
import Derived.Test.YtbglbegljkgknaaGreatNq08
import Derived.Test.YtbglbegljkgknaaGreatNq31
set_option linter.unusedVariables false
namespace Go.Proofs.YtbglbegljkgknaaGreat.Msg
open Go.RowKit
open Go.Proofs.YtbglbegljkgknaaGreat.Addr (Pf okP checkP wideN firstN kP hiN loN adV pfV RowAt below2 below_drew below_new bset RowAt.lt RowAt.cell RowAt.frozen RowAt.below RowAt.drew RowAt.new RowAt.alloc gdrew gset gbelow galloc grefl cells2 cells4 results_cell Bl bl_ne wp_region_bl bl_call bl_same)

def actB (a : Ac) : List UInt8 := if a.k = 1 then UInt8.ofNat a.k :: putL a.i.toNat else [UInt8.ofNat a.k]
theorem byte_k (k : Nat) (h : k ≤ 255) : ((UInt8.ofNat k).toNat : Int) = (k : Int) := by rw [UInt8.toNat_ofNat_of_lt' (by show k < 256; omega)]
theorem okA_bd {a : Ac} (h : okA a = true) : (1 ≤ a.k ∧ a.k ≤ 3) ∧ (0 ≤ a.i ∧ a.i ≤ 65536) ∧ (a.k = 1 ∨ a.i = 0) := by
  unfold okA at h
  simpa [and_assoc] using h
end Go.Proofs.YtbglbegljkgknaaGreat.Msg
namespace Go.Proofs.YtbglbegljkgknaaGreat.Msg
open Go.RowKit
open Go.Proofs.YtbglbegljkgknaaGreat.Addr (Pf okP checkP wideN firstN kP hiN loN adV pfV RowAt below2 below_drew below_new bset RowAt.lt RowAt.cell RowAt.frozen RowAt.below RowAt.drew RowAt.new RowAt.alloc gdrew gset gbelow galloc grefl cells2 cells4 results_cell Bl bl_ne wp_region_bl bl_call bl_same)

/-- the bytes of an event that are of its kind alone -/
def restB (e : Ev) : List UInt8 := if e.kind = 3 then prefB e.pf ++ actB e.act else if e.kind = 4 then prefB e.pf else if e.kind = 5 then putL e.iface.toNat ++ putL e.peer.toNat else if e.kind = 6 then putL e.iface.toNat else []
def evB (e : Ev) : List UInt8 := [UInt8.ofNat e.kind] ++ putL e.router.toNat ++ putL e.seq ++ putL e.time.toNat ++ restB e
theorem okE_bd {e : Ev} (h : okE e = true) : ((1 ≤ e.kind ∧ e.kind ≤ 6) ∧ (0 ≤ e.router ∧ e.router ≤ 1048576) ∧ (1 ≤ e.seq ∧ e.seq ≤ 1099511627776) ∧ (0 ≤ e.time ∧ e.time ≤ 1099511627776)) ∧ (okP e.pf = true ∧ (0 ≤ e.iface ∧ e.iface ≤ 65536) ∧ (0 ≤ e.peer ∧ e.peer ≤ 1048576) ∧ (e.kind = 3 → okA e.act = true)) ∧ unN e = zeroE := by
  unfold okE headB partsB at h
  simp only [Bool.and_eq_true, decide_eq_true_eq, Bool.or_eq_true, and_assoc] at h
  obtain ⟨h1, h2, h3, h4, h5, h6, h7, h8, h9, h10, h11, h12, h13, h14, h15⟩ := h
  refine ⟨⟨⟨h1, h2⟩, ⟨h3, h4⟩, ⟨h5, h6⟩, ⟨h7, h8⟩⟩, ⟨h9, ⟨h10, h11⟩, ⟨h12, h13⟩, fun hk => ?_⟩, (eqE_iff _ _).1 h15⟩
  rcases h14 with h | h
  · exact absurd hk h
  · exact h
theorem prefB_le (p : Pf) : (prefB p).length ≤ 18 := by
  unfold prefB
  rw [List.length_append, List.length_take, be_len]
  have : wB p.six ≤ 16 := by cases p.six <;> decide
  simp only [List.length_cons, List.length_nil]
  omega
theorem actB_le (a : Ac) (h : a.i ≤ 65536) : (actB a).length ≤ 11 := by
  unfold actB
  split
  · have := putL_le a.i.toNat (by omega); rw [List.length_cons]; omega
  · simp
end Go.Proofs.YtbglbegljkgknaaGreat.Msg
namespace Go.Proofs.YtbglbegljkgknaaGreat.Ord
open Go.Proofs.YtbglbegljkgknaaGreat.Msg (Ev okE okE_bd)

def Up (l : List St) : Prop := l.Pairwise (fun a b => a.router < b.router)
theorem rise_iff (l : List St) : ∀ p : Option Int, rise p l = true ↔ (∀ s ∈ l, okS s = true) ∧ Up l ∧ ∀ r, p = some r → ∀ s ∈ l, r < s.router := by
  induction l with
  | nil => intro p; simp [rise, Up]
  | cons x t ih =>
    intro p
    have hx := ih (some x.router)
    have key : rise p (x :: t) = true ↔ (okS x = true ∧ (∀ r, p = some r → r < x.router)) ∧ rise (some x.router) t = true := by
      cases p with
      | none => simp [rise]
      | some r => simp [rise]
    rw [key, hx]
    unfold Up
    rw [List.pairwise_cons]
    constructor
    · rintro ⟨⟨h1, h2⟩, h3, h4, h5⟩
      refine ⟨?_, ⟨fun s hs => h5 _ rfl s hs, h4⟩, ?_⟩
      · intro s hs
        rcases List.mem_cons.1 hs with rfl | hs
        · exact h1
        · exact h3 s hs
      · intro r hr s hs
        rcases List.mem_cons.1 hs with rfl | hs
        · exact h2 r hr
        · exact Int.lt_trans (h2 r hr) (h5 _ rfl s hs)
    · rintro ⟨h1, ⟨h2, h3⟩, h4⟩
      refine ⟨⟨h1 x (by simp), fun r hr => h4 r hr x (by simp)⟩, fun s hs => h1 s (by simp [hs]), h3, ?_⟩
      intro r hr s hs
      injection hr with hr
      subst hr
      exact h2 s hs
theorem okL_iff (l : List St) : okL l = true ↔ l.length ≤ 64 ∧ (∀ s ∈ l, okS s = true) ∧ Up l := by
  unfold okL
  rw [Bool.and_eq_true, decide_eq_true_eq, rise_iff]
  constructor
  · rintro ⟨h1, h2, h3, _⟩; exact ⟨h1, h2, h3⟩
  · rintro ⟨h1, h2, h3⟩; exact ⟨h1, h2, h3, fun r hr => by cases hr⟩
theorem find_mem {l : List St} (h : Up l) : ∀ {s : St}, s ∈ l → findL l s.router = some s := by
  induction l with
  | nil => intro s hs; cases hs
  | cons x t ih =>
    intro s hs
    unfold Up at h
    rw [List.pairwise_cons] at h
    unfold findL
    rw [List.find?_cons]
    rcases List.mem_cons.1 hs with rfl | hs
    · simp
    · have hlt := h.1 s hs
      have hd : decide (x.router = s.router) = false := decide_eq_false (by omega)
      rw [hd]
      exact ih h.2 hs
theorem find_has {l : List St} {r : Int} {s : St} (h : findL l r = some s) : s ∈ l ∧ s.router = r := by
  refine ⟨List.mem_of_find?_eq_some h, ?_⟩
  have := List.find?_some h
  simpa using this
theorem up_len {l : List St} (h : Up l) (r : Int) : l.length = (ahead l r).length + (behind l r).length + (if isIn l r = true then 1 else 0) := by
  induction l with
  | nil => rfl
  | cons x t ih =>
    have h0 := h
    unfold Up at h
    rw [List.pairwise_cons] at h
    have iht := ih h.2
    by_cases h1 : x.router < r
    · have e1 : ahead (x :: t) r = x :: ahead t r := by unfold ahead; rw [List.filter_cons_of_pos (by simpa using h1)]
      have e2 : behind (x :: t) r = behind t r := by unfold behind; rw [List.filter_cons_of_neg (by simp; omega)]
      have e3 : isIn (x :: t) r = isIn t r := by
        unfold isIn findL
        rw [List.find?_cons, decide_eq_false (by omega)]
      rw [e1, e2, e3, List.length_cons, List.length_cons, iht]
      omega
    · have e1 : ahead (x :: t) r = [] := by
        unfold ahead
        rw [List.filter_eq_nil_iff]
        intro s hs
        rcases List.mem_cons.1 hs with rfl | hs
        · simp; omega
        · have := h.1 s hs; simp; omega
      by_cases h2 : x.router = r
      · have e2 : behind (x :: t) r = t := by
          unfold behind
          rw [List.filter_cons_of_neg (by simp; omega), List.filter_eq_self]
          intro s hs
          have := h.1 s hs
          simp; omega
        have e3 : isIn (x :: t) r = true := by
          unfold isIn findL
          rw [List.find?_cons, decide_eq_true h2]
          rfl
        rw [e1, e2, e3, List.length_cons]
        simp
      · have e2 : behind (x :: t) r = x :: t := by
          unfold behind
          rw [List.filter_eq_self]
          intro s hs
          rcases List.mem_cons.1 hs with rfl | hs
          · simp; omega
          · have := h.1 s hs; simp; omega
        have e3 : isIn (x :: t) r = false := by
          unfold isIn findL
          rw [List.find?_eq_none.2]
          · rfl
          · intro s hs
            rcases List.mem_cons.1 hs with rfl | hs
            · simpa using h2
            · have := h.1 s hs; simp; omega
        rw [e1, e2, e3]
        simp
theorem up_seated {l : List St} (h : Up l) (s : St) : Up (seatedL l s) := by
  unfold seatedL Up
  rw [List.pairwise_append]
  refine ⟨List.Pairwise.filter _ h, ?_, ?_⟩
  · rw [List.pairwise_append]
    refine ⟨by simp, List.Pairwise.filter _ h, ?_⟩
    intro a ha b hb
    simp only [List.mem_cons, List.not_mem_nil, or_false] at ha
    subst ha
    unfold behind at hb
    simpa using (List.mem_filter.1 hb).2
  · intro a ha b hb
    have h1 : a.router < s.router := by unfold ahead at ha; simpa using (List.mem_filter.1 ha).2
    rcases List.mem_append.1 hb with hb | hb
    · simp only [List.mem_cons, List.not_mem_nil, or_false] at hb
      subst hb; exact h1
    · have : s.router < b.router := by unfold behind at hb; simpa using (List.mem_filter.1 hb).2
      omega
theorem mem_seated {l : List St} {s t : St} (ht : t ∈ l) (hne : t.router ≠ s.router) : t ∈ seatedL l s := by
  unfold seatedL ahead behind
  rw [List.mem_append, List.mem_append]
  by_cases h : t.router < s.router
  · exact .inl (List.mem_filter.2 ⟨ht, by simpa using h⟩)
  · exact .inr (.inr (List.mem_filter.2 ⟨ht, by simp; omega⟩))
theorem own_seated (l : List St) (s : St) : s ∈ seatedL l s := by
  unfold seatedL
  simp
def aloneL (l : List St) (r : Int) : List St := match findL l r with
  | some s => [s]
  | none => []
theorem next_may (l : List St) (e : Ev) (h : Int) : (nextL l e h).2 = mayL l e h := by
  unfold nextL mayL
  by_cases ha : askL l e h = 0
  · rw [if_pos ha, if_pos ha]
    by_cases hm : misL l e h = 0
    · rw [if_pos hm, hm]
    · rw [if_neg hm]
  · rw [if_neg ha, if_neg ha]
theorem alone_may {l : List St} (hok : okL l = true) (e : Ev) (h : Int) : mayL (aloneL l e.router) e h = mayL l e h ∨ mayL l e h = 8 := by
  have hkey : okL (aloneL l e.router) = true ∧ findL (aloneL l e.router) e.router = findL l e.router ∧ (aloneL l e.router).length ≤ 1 := by
    unfold aloneL
    cases hf : findL l e.router with
    | none => exact ⟨rfl, rfl, by simp⟩
    | some s =>
      obtain ⟨hm, hr⟩ := find_has hf
      refine ⟨?_, ?_, by simp⟩
      · rw [okL_iff]
        refine ⟨by simp, fun t ht => ?_, by unfold Up; simp⟩
        simp only [List.mem_cons, List.not_mem_nil, or_false] at ht
        subst ht
        exact ((okL_iff l).1 hok).2.1 _ hm
      · show List.find? _ [s] = _
        rw [List.find?_cons, decide_eq_true hr]
  obtain ⟨h1, h2, h3⟩ := hkey
  have e1 : askL (aloneL l e.router) e h = askL l e h := by unfold askL; rw [h1, hok]
  have e2 : isIn (aloneL l e.router) e.router = isIn l e.router := by unfold isIn; rw [h2]
  have e3 : seatOf (aloneL l e.router) e.router = seatOf l e.router := by unfold seatOf; rw [h2]
  unfold mayL
  rw [e1]
  by_cases ha : askL l e h = 0
  · rw [if_pos ha, if_pos ha]
    unfold misL
    rw [e2, e3]
    split
    · exact .inl rfl
    · split
      · exact .inl rfl
      · split
        · exact .inl rfl
        · split
          · exact .inl rfl
          · rw [if_neg (show ¬ (isIn l e.router = false ∧ (aloneL l e.router).length = 64) by omega)]
            split
            · exact .inr rfl
            · exact .inl rfl
  · rw [if_neg ha, if_neg ha]
    exact .inl rfl
/-- what is so where an event was taken -/
theorem taken {l : List St} {e : Ev} {h : Int} (hy : (nextL l e h).2 = 0) :
    okL (nextL l e h).1 = true ∧ (nextL l e h).1.length + (aloneL l e.router).length = l.length + 1 ∧
    (∀ s ∈ l, isIn (nextL l e h).1 s.router = true ∧ (s.router ≠ e.router → seatOf (nextL l e h).1 s.router = s)) := by
  have ha : askL l e h = 0 := by
    by_cases ha : askL l e h = 0
    · exact ha
    · unfold nextL at hy; rw [if_neg ha] at hy; exact absurd hy ha
  have hm : misL l e h = 0 := by
    by_cases hm : misL l e h = 0
    · exact hm
    · unfold nextL at hy; rw [if_pos ha, if_neg hm] at hy; exact absurd hy hm
  obtain ⟨hok, hoe, hh1, hh2⟩ := ask_ok ha
  obtain ⟨hl64, hall, hup⟩ := (okL_iff l).1 hok
  obtain ⟨⟨_, ⟨r1, r2⟩, ⟨q1, q2⟩, ⟨t1, t2⟩⟩, _, _⟩ := okE_bd hoe
  have e1 : (nextL l e h).1 = seatedL l ⟨e.router, e.seq, e.time, decide (e.kind ≠ 2)⟩ := by unfold nextL; rw [if_pos ha, if_pos hm]
  rw [e1]
  generalize hs : (⟨e.router, e.seq, e.time, decide (e.kind ≠ 2)⟩ : St) = s0
  have hr0 : s0.router = e.router := by rw [← hs]
  have hok0 : okS s0 = true := by
    rw [← hs]
    unfold okS
    simp only [Bool.and_eq_true, decide_eq_true_eq]
    omega
  have hu := up_seated hup s0
  have hlen := up_len hup e.router
  have hlm : (seatedL l s0).length = (ahead l e.router).length + (behind l e.router).length + 1 := by
    unfold seatedL
    rw [hr0]
    simp only [List.length_append, List.length_cons, List.length_nil]
    omega
  have hal : (aloneL l e.router).length = if isIn l e.router = true then 1 else 0 := by
    unfold aloneL isIn
    cases findL l e.router <;> rfl
  have hfull : ¬ (isIn l e.router = false ∧ l.length = 64) := by
    intro c
    unfold misL at hm
    split at hm
    · exact absurd hm (by decide)
    · split at hm
      · exact absurd hm (by decide)
      · split at hm
        · exact absurd hm (by decide)
        · split at hm
          · exact absurd hm (by decide)
          · exact absurd hm (by decide)
  refine ⟨?_, by rw [hlm, hal]; omega, ?_⟩
  · rw [okL_iff]
    refine ⟨?_, ?_, hu⟩
    · cases hi : isIn l e.router with
      | true => rw [hi] at hlen; simp only [if_true] at hlen; omega
      | false =>
        have : l.length ≠ 64 := fun c => hfull ⟨hi, c⟩
        rw [hi] at hlen
        simp only [Bool.false_eq_true, if_false] at hlen
        omega
    · intro s hs'
      unfold seatedL at hs'
      rcases List.mem_append.1 hs' with hs' | hs'
      · exact hall s ((List.mem_filter.1 hs').1)
      · rcases List.mem_append.1 hs' with hs' | hs'
        · simp only [List.mem_cons, List.not_mem_nil, or_false] at hs'
          subst hs'; exact hok0
        · exact hall s ((List.mem_filter.1 hs').1)
  · intro s hsl
    by_cases hne : s.router = e.router
    · refine ⟨?_, fun c => absurd hne c⟩
      have := find_mem hu (own_seated l s0)
      unfold isIn
      rw [hne, ← hr0, this]
      rfl
    · have := find_mem hu (mem_seated (s := s0) hsl (by rw [hr0]; exact hne))
      refine ⟨?_, fun _ => ?_⟩
      · unfold isIn; rw [this]; rfl
      · unfold seatOf; rw [this]; rfl
theorem next_keeps {l : List St} {e : Ev} {h : Int} (hok : okL l = true) (hy : (nextL l e h).2 ≠ 0) : (nextL l e h).2 = 2 ∨ (nextL l e h).2 = 1 ∨ (nextL l e h).1 = l := by
  unfold nextL at hy ⊢
  by_cases ha : askL l e h = 0
  · rw [if_pos ha] at hy ⊢
    by_cases hm : misL l e h = 0
    · rw [if_pos hm] at hy; exact absurd rfl hy
    · rw [if_neg hm]; exact .inr (.inr rfl)
  · rw [if_neg ha]
    unfold askL
    split
    · split
      · exact .inr (.inl rfl)
      · rename_i h1 h2
        exfalso
        apply ha
        unfold askL
        rw [if_pos h1, if_neg h2]
    · exact .inl rfl
theorem next_wrong {l : List St} {e : Ev} {h : Int} (hok : okL l = false) : (nextL l e h).2 = 2 := by
  have : askL l e h = 2 := by unfold askL; rw [hok]; rfl
  unfold nextL
  rw [if_neg (by rw [this]; decide), this]
end Go.Proofs.YtbglbegljkgknaaGreat.Ord
namespace Go.Proofs.YtbglbegljkgknaaGreat.Ord
open Go.Proofs.YtbglbegljkgknaaGreat.Msg (Ev okE okE_bd)

def ofR (r : Int) (l : List Ev) : List Ev := l.filter (fun e => decide (e.router = r))
def cntR (r : Int) (l : List Ev) : Nat := (ofR r l).length
def lastR (r : Int) (l : List Ev) : Int := match (ofR r l).getLast? with
  | some e => e.time
  | none => -1
theorem of_snoc (r : Int) (l : List Ev) (e : Ev) : ofR r (l ++ [e]) = if e.router = r then ofR r l ++ [e] else ofR r l := by
  unfold ofR
  rw [List.filter_append, List.filter_cons, List.filter_nil]
  by_cases h : e.router = r
  · rw [if_pos h, if_pos (by simpa using h)]
  · rw [if_neg h, if_neg (by simpa using h), List.append_nil]
theorem cnt_snoc (r : Int) (l : List Ev) (e : Ev) : cntR r (l ++ [e]) = if e.router = r then cntR r l + 1 else cntR r l := by
  unfold cntR
  rw [of_snoc]
  split
  · rw [List.length_append]; rfl
  · rfl
theorem last_snoc (r : Int) (l : List Ev) (e : Ev) : lastR r (l ++ [e]) = if e.router = r then e.time else lastR r l := by
  unfold lastR
  rw [of_snoc]
  by_cases h : e.router = r
  · rw [if_pos h, if_pos h, List.getLast?_append]; rfl
  · rw [if_neg h, if_neg h]
theorem last_none {r : Int} {l : List Ev} (h : cntR r l = 0) : lastR r l = -1 := by
  unfold lastR
  rw [List.eq_nil_of_length_eq_zero h]
  rfl
theorem cnt_mono (r : Int) (l : List Ev) (i j : Nat) (h : i ≤ j) : cntR r (l.take i) ≤ cntR r (l.take j) := by
  unfold cntR ofR
  have e : l.take i = (l.take j).take i := by rw [List.take_take, Nat.min_eq_left h]
  rw [e]
  exact ((List.take_sublist i (l.take j)).filter _).length_le
structure Inv (l : List St) (pre : List Ev) : Prop where
  ok : okL l = true
  seat : ∀ r, (findL l r = none ∧ cntR r pre = 0) ∨ ∃ s, findL l r = some s ∧ s.seq = cntR r pre ∧ s.time = lastR r pre ∧ 0 < cntR r pre
theorem inv_nil : Inv [] [] := ⟨rfl, fun r => .inl ⟨rfl, rfl⟩⟩
theorem find_seated {l : List St} (h : Up l) (s : St) (r : Int) : findL (seatedL l s) r = if r = s.router then some s else findL l r := by
  have hu := up_seated h s
  by_cases hr : r = s.router
  · rw [if_pos hr, hr]
    exact find_mem hu (own_seated l s)
  · rw [if_neg hr]
    cases hf : findL l r with
    | some t =>
      obtain ⟨ht, htr⟩ := find_has hf
      have := find_mem hu (mem_seated (s := s) ht (by rw [htr]; exact hr))
      rw [htr] at this
      exact this
    | none =>
      cases hg : findL (seatedL l s) r with
      | none => rfl
      | some t =>
        exfalso
        obtain ⟨ht, htr⟩ := find_has hg
        have htl : t ∈ l := by
          unfold seatedL ahead behind at ht
          rcases List.mem_append.1 ht with ht | ht
          · exact (List.mem_filter.1 ht).1
          · rcases List.mem_append.1 ht with ht | ht
            · simp only [List.mem_cons, List.not_mem_nil, or_false] at ht
              subst ht
              exact absurd htr.symm hr
            · exact (List.mem_filter.1 ht).1
        have := find_mem h htl
        rw [htr, hf] at this
        cases this
theorem mis_zero {l : List St} {e : Ev} {h : Int} (hm : misL l e h = 0) : e.seq = (seatOf l e.router).seq + 1 ∧ (seatOf l e.router).time ≤ e.time := by
  unfold misL at hm
  split at hm
  · exact absurd hm (by decide)
  · split at hm
    · exact absurd hm (by decide)
    · split at hm
      · exact absurd hm (by decide)
      · omega
theorem next_zero {l : List St} {e : Ev} {h : Int} (hy : (nextL l e h).2 = 0) : askL l e h = 0 ∧ misL l e h = 0 := by
  have ha : askL l e h = 0 := by
    by_cases ha : askL l e h = 0
    · exact ha
    · unfold nextL at hy; rw [if_neg ha] at hy; exact absurd hy ha
  refine ⟨ha, ?_⟩
  by_cases hm : misL l e h = 0
  · exact hm
  · unfold nextL at hy; rw [if_pos ha, if_neg hm] at hy; exact absurd hy hm
theorem inv_step {l : List St} {pre : List Ev} {e : Ev} {h : Int} (hi : Inv l pre) (hy : (nextL l e h).2 = 0) :
    Inv (nextL l e h).1 (pre ++ [e]) ∧ e.seq = cntR e.router pre + 1 ∧ lastR e.router pre ≤ e.time := by
  obtain ⟨ha, hm⟩ := next_zero hy
  obtain ⟨hok, hoe, _, _⟩ := ask_ok ha
  obtain ⟨⟨_, ⟨r1, r2⟩, ⟨q1, q2⟩, ⟨t1, t2⟩⟩, _, _⟩ := okE_bd hoe
  obtain ⟨m1, m2⟩ := mis_zero hm
  have e1 : (nextL l e h).1 = seatedL l ⟨e.router, e.seq, e.time, decide (e.kind ≠ 2)⟩ := by unfold nextL; rw [if_pos ha, if_pos hm]
  have hs : e.seq = cntR e.router pre + 1 ∧ lastR e.router pre ≤ e.time := by
    rcases hi.seat e.router with ⟨h1, h2⟩ | ⟨s, h1, h2, h3, h4⟩
    · have : seatOf l e.router = zeroS := by unfold seatOf; rw [h1]; rfl
      rw [this] at m1
      refine ⟨by rw [m1, h2]; rfl, by rw [last_none h2]; omega⟩
    · have : seatOf l e.router = s := by unfold seatOf; rw [h1]; rfl
      rw [this] at m1 m2
      exact ⟨by rw [m1, h2], by rw [← h3]; exact m2⟩
  refine ⟨⟨(taken hy).1, fun r => ?_⟩, hs⟩
  rw [e1, find_seated ((okL_iff l).1 hok).2.2, cnt_snoc, last_snoc]
  by_cases hr : r = e.router
  · rw [if_pos hr, if_pos hr.symm, if_pos hr.symm]
    refine .inr ⟨_, rfl, ?_, rfl, by omega⟩
    rw [hr]
    exact hs.1
  · rw [if_neg hr, if_neg (fun c => hr c.symm), if_neg (fun c => hr c.symm)]
    exact hi.seat r
theorem all_inv (h : Int) : ∀ (es : List Ev) (l : List St) (pre : List Ev) (k : Nat), Inv l pre → ∃ j, j ≤ es.length ∧ (allL h l es k).2.1 = k + j ∧ Inv (allL h l es k).1 (pre ++ es.take j) ∧ ∀ (i : Nat) (hi : i < j) (hi2 : i < es.length), es[i].seq = cntR es[i].router (pre ++ es.take i) + 1 ∧ lastR es[i].router (pre ++ es.take i) ≤ es[i].time := by
  intro es
  induction es with
  | nil =>
    intro l pre k hi
    refine ⟨0, Nat.le_refl _, rfl, ?_, fun i hi2 _ => absurd hi2 (by omega)⟩
    show Inv l (pre ++ [])
    rw [List.append_nil]
    exact hi
  | cons e t ih =>
    intro l pre k hi
    unfold allL
    by_cases hy : (nextL l e h).2 = 0
    · rw [if_pos hy]
      obtain ⟨hi', hs1, hs2⟩ := inv_step hi hy
      obtain ⟨j, hj, h1, h2, h3⟩ := ih (nextL l e h).1 (pre ++ [e]) (k + 1) hi'
      refine ⟨j + 1, by simp; omega, by rw [h1]; omega, ?_, ?_⟩
      · rw [List.take_succ_cons]
        simpa using h2
      · intro i hij hil
        cases i with
        | zero => simpa using ⟨hs1, hs2⟩
        | succ i =>
          have := h3 i (by omega) (by simpa using hil)
          rw [List.take_succ_cons]
          simpa using this
    · rw [if_neg hy]
      refine ⟨0, by omega, rfl, ?_, fun i hi2 _ => absurd hi2 (by omega)⟩
      show Inv l (pre ++ [])
      rw [List.append_nil]
      exact hi
/-- what OrderOnce asks for -/
theorem once (h : Int) (es : List Ev) : ∃ j, j ≤ es.length ∧ (allL h [] es 0).2.1 = j ∧
    (∀ (i : Nat) (hi : i < j) (hi2 : i < es.length), mayL (allL h [] es 0).1 es[i] h ≠ 0 ∧ es[i].seq = cntR es[i].router (es.take i) + 1 ∧ lastR es[i].router (es.take i) ≤ es[i].time) ∧
    (∀ r, isIn (allL h [] es 0).1 r = decide (0 < cntR r (es.take j)) ∧ (0 < cntR r (es.take j) → (seatOf (allL h [] es 0).1 r).seq = cntR r (es.take j) ∧ (seatOf (allL h [] es 0).1 r).time = lastR r (es.take j))) := by
  obtain ⟨j, hj, h1, h2, h3⟩ := all_inv h es [] [] 0 inv_nil
  rw [Nat.zero_add] at h1
  simp only [List.nil_append] at h2 h3
  have hseat : ∀ r, isIn (allL h [] es 0).1 r = decide (0 < cntR r (es.take j)) ∧ (0 < cntR r (es.take j) → (seatOf (allL h [] es 0).1 r).seq = cntR r (es.take j) ∧ (seatOf (allL h [] es 0).1 r).time = lastR r (es.take j)) := by
    intro r
    rcases h2.seat r with ⟨a1, a2⟩ | ⟨s, a1, a2, a3, a4⟩
    · unfold isIn
      rw [a1, a2]
      exact ⟨rfl, fun c => absurd c (by omega)⟩
    · unfold isIn seatOf
      rw [a1]
      exact ⟨by rw [decide_eq_true a4]; rfl, fun _ => ⟨a2, a3⟩⟩
  refine ⟨j, hj, h1, fun i hi hi2 => ?_, hseat⟩
  obtain ⟨b1, b2⟩ := h3 i hi hi2
  refine ⟨?_, b1, b2⟩
  intro hc
  have hm : misL (allL h [] es 0).1 es[i] h = 0 := by
    unfold mayL at hc
    by_cases ha : askL (allL h [] es 0).1 es[i] h = 0
    · rw [if_pos ha] at hc; exact hc
    · rw [if_neg ha] at hc; exact absurd hc ha
  have hz := (mis_zero hm).1
  have hcnt : cntR es[i].router (es.take (i + 1)) = cntR es[i].router (es.take i) + 1 := by
    rw [List.take_succ_eq_append_getElem hi2, cnt_snoc, if_pos rfl]
  have hmono := cnt_mono es[i].router es (i + 1) j hi
  have := ((hseat es[i].router).2 (by omega)).1
  omega
end Go.Proofs.YtbglbegljkgknaaGreat.Ord
