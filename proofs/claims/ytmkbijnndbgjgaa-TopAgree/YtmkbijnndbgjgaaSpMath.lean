/- Spans and rows of them, plain: a row is known by its members; what is put together, in common, and not in a row. -/
import Derived.Test.YtmkbijnndbgjgaaAddrMath2
set_option linter.unusedVariables false
namespace Go.Proofs.Ytmkbijnndbgjgaa.Sp
open Go.Proofs.Ytmkbijnndbgjgaa.Addr (wideN rightB)
abbrev Sp := Nat × Nat
def okS (six : Bool) (s : Sp) : Bool := rightB six s.1 && (rightB six s.2 && decide (s.1 ≤ s.2))
def Row (six : Bool) (l : List Sp) : Prop := (∀ s ∈ l, okS six s = true) ∧ l.Pairwise (fun r s => r.2 + 1 < s.1)
def rowB (six : Bool) : List Sp → Bool
  | [] => true
  | s :: l => okS six s && (l.all (fun t => decide (s.2 + 1 < t.1)) && rowB six l)
def hasS (s : Sp) (x : Nat) : Bool := decide (s.1 ≤ x) && decide (x ≤ s.2)
def inB (l : List Sp) (x : Nat) : Bool := l.any (fun s => hasS s x)
def topN (six : Bool) : Nat := 2 ^ wideN six - 1
theorem hasS_iff {s : Sp} {x : Nat} : hasS s x = true ↔ s.1 ≤ x ∧ x ≤ s.2 := by unfold hasS; simp
theorem inB_iff {l : List Sp} {x : Nat} : inB l x = true ↔ ∃ s ∈ l, s.1 ≤ x ∧ x ≤ s.2 := by
  unfold inB; rw [List.any_eq_true]; simp only [hasS_iff]
theorem inB_app (a b : List Sp) (x : Nat) : inB (a ++ b) x = (inB a x || inB b x) := by unfold inB; rw [List.any_append]
theorem inB_one (s : Sp) (x : Nat) : inB [s] x = hasS s x := by unfold inB; simp
theorem inB_nil (x : Nat) : inB [] x = false := rfl
theorem inB_take {l : List Sp} {k : Nat} (h : k < l.length) (x : Nat) : inB (l.take (k + 1)) x = (inB (l.take k) x || hasS l[k] x) := by
  rw [List.take_succ_eq_append_getElem h, inB_app, inB_one]
theorem top_lt (six : Bool) (x : Nat) : rightB six x = true ↔ x ≤ topN six := by
  unfold rightB topN
  have := Nat.two_pow_pos (wideN six)
  rw [decide_eq_true_iff]; omega
theorem okS_iff {six : Bool} {s : Sp} : okS six s = true ↔ s.1 ≤ s.2 ∧ s.2 ≤ topN six := by
  unfold okS
  simp only [Bool.and_eq_true, decide_eq_true_eq, top_lt]
  omega
theorem top_big (six : Bool) : topN six < 2 ^ 128 := by cases six <;> decide
theorem ok_fit {six : Bool} {s : Sp} (h : okS six s = true) : s.1 < 2 ^ 128 ∧ s.2 < 2 ^ 128 := by
  have := okS_iff.1 h; have := top_big six; omega
theorem rowB_iff {six : Bool} {l : List Sp} : rowB six l = true ↔ Row six l := by
  induction l with
  | nil => simp [rowB, Row]
  | cons s l ih =>
    rw [show rowB six (s :: l) = (okS six s && (l.all (fun t => decide (s.2 + 1 < t.1)) && rowB six l)) from rfl]
    simp only [Bool.and_eq_true, ih, List.all_eq_true, decide_eq_true_eq, Row, List.pairwise_cons, List.mem_cons, forall_eq_or_imp]
    constructor
    · rintro ⟨h1, h2, h3, h4⟩; exact ⟨⟨h1, h3⟩, h2, h4⟩
    · rintro ⟨⟨h1, h3⟩, h2, h4⟩; exact ⟨h1, h2, h3, h4⟩
theorem row_nil (six : Bool) : Row six [] := ⟨by simp, List.Pairwise.nil⟩
theorem row_app {six : Bool} {R : List Sp} {s : Sp} (h : Row six R) (hs : okS six s = true) (hg : ∀ q ∈ R, q.2 + 1 < s.1) : Row six (R ++ [s]) := by
  refine ⟨fun q hq => ?_, List.pairwise_append.2 ⟨h.2, List.pairwise_singleton _ _, fun q hq t ht => ?_⟩⟩
  · rcases List.mem_append.1 hq with hq | hq
    · exact h.1 q hq
    · rw [List.mem_singleton.1 hq]; exact hs
  · rw [List.mem_singleton.1 ht]; exact hg q hq
theorem row_front {six : Bool} {R : List Sp} {q : Sp} (h : Row six (R ++ [q])) : Row six R ∧ okS six q = true ∧ ∀ r ∈ R, r.2 + 1 < q.1 :=
  ⟨⟨fun s hs => h.1 s (List.mem_append_left _ hs), (List.pairwise_append.1 h.2).1⟩, h.1 q (by simp), fun r hr => (List.pairwise_append.1 h.2).2.2 r hr q (by simp)⟩
theorem row_take {six : Bool} {l : List Sp} (h : Row six l) (k : Nat) : Row six (l.take k) := ⟨fun s hs => h.1 s (List.mem_of_mem_take hs), h.2.sublist (List.take_sublist k l)⟩
theorem row_drop {six : Bool} {l : List Sp} (h : Row six l) (k : Nat) : Row six (l.drop k) := ⟨fun s hs => h.1 s (List.mem_of_mem_drop hs), h.2.sublist (List.drop_sublist k l)⟩
theorem row_lt {six : Bool} {l : List Sp} (h : Row six l) {i j : Nat} (hij : i < j) (hj : j < l.length) : l[i].2 + 1 < l[j].1 := List.pairwise_iff_getElem.1 h.2 i j (by omega) hj hij
theorem row_at {six : Bool} {l : List Sp} (h : Row six l) {i : Nat} (hi : i < l.length) : l[i].1 ≤ l[i].2 ∧ l[i].2 ≤ topN six := okS_iff.1 (h.1 _ (List.getElem_mem hi))
/-- a row is right just if each span is, and each is apart from the one ahead of it -/
theorem row_step {six : Bool} {l : List Sp} {k : Nat} (hk : k < l.length) (h : Row six (l.take k)) (hs : okS six l[k] = true) (hg : ∀ (h0 : 0 < k), (l[k - 1]'(by omega)).2 + 1 < l[k].1) : Row six (l.take (k + 1)) := by
  rw [List.take_succ_eq_append_getElem hk]
  refine row_app h hs (fun q hq => ?_)
  obtain ⟨j, hj, rfl⟩ := List.getElem_of_mem hq
  have hjk : j < k := by rw [List.length_take] at hj; omega
  rw [List.getElem_take]
  have h1 := hg (by omega)
  by_cases e : j = k - 1
  · subst e; exact h1
  · have hl : (l.take k).length = k := by rw [List.length_take]; omega
    have h2 := row_lt h (i := j) (j := k - 1) (by omega) (by omega)
    rw [List.getElem_take, List.getElem_take] at h2
    have h3 := row_at h (i := k - 1) (by omega)
    rw [List.getElem_take] at h3
    omega
theorem row_bad1 {six : Bool} {l : List Sp} {k : Nat} (hk : k < l.length) (hs : okS six l[k] = false) : rowB six l = false := by
  rw [Bool.eq_false_iff]
  intro h
  have := (rowB_iff.1 h).1 _ (List.getElem_mem hk)
  rw [hs] at this; cases this
theorem row_bad2 {six : Bool} {l : List Sp} {k : Nat} (hk : k + 1 < l.length) (hs : ¬ l[k].2 + 1 < l[k + 1].1) : rowB six l = false := by
  rw [Bool.eq_false_iff]
  intro h
  exact hs (row_lt (rowB_iff.1 h) (Nat.lt_add_one k) hk)
/-- the members of a row that begins with a span -/
theorem row_head {six : Bool} {s : Sp} {l : List Sp} (h : Row six (s :: l)) : okS six s = true ∧ Row six l ∧ ∀ t ∈ l, s.2 + 1 < t.1 :=
  ⟨h.1 s (by simp), ⟨fun t ht => h.1 t (by simp [ht]), (List.pairwise_cons.1 h.2).2⟩, (List.pairwise_cons.1 h.2).1⟩
theorem row_ext {six : Bool} : ∀ {a b : List Sp}, Row six a → Row six b → (∀ x, inB a x = inB b x) → a = b := by
  intro a
  induction a with
  | nil =>
    intro b _ hb h
    cases b with
    | nil => rfl
    | cons t b =>
      have h1 := okS_iff.1 (row_head hb).1
      have h2 := h t.1
      rw [inB_nil] at h2
      have : inB (t :: b) t.1 = true := inB_iff.2 ⟨t, by simp, by omega⟩
      rw [this] at h2; cases h2
  | cons s a ih =>
    intro b ha hb h
    cases b with
    | nil =>
      have h1 := okS_iff.1 (row_head ha).1
      have h2 := h s.1
      rw [inB_nil] at h2
      have : inB (s :: a) s.1 = true := inB_iff.2 ⟨s, by simp, by omega⟩
      rw [this] at h2; cases h2
    | cons t b =>
      obtain ⟨a1, a2, a3⟩ := row_head ha
      obtain ⟨b1, b2, b3⟩ := row_head hb
      have a1 := okS_iff.1 a1
      have b1 := okS_iff.1 b1
      have ina : ∀ x, inB (s :: a) x = true ↔ (s.1 ≤ x ∧ x ≤ s.2) ∨ inB a x = true := fun x => by
        show (hasS s x || inB a x) = true ↔ _
        rw [Bool.or_eq_true, hasS_iff]
      have inb : ∀ x, inB (t :: b) x = true ↔ (t.1 ≤ x ∧ x ≤ t.2) ∨ inB b x = true := fun x => by
        show (hasS t x || inB b x) = true ↔ _
        rw [Bool.or_eq_true, hasS_iff]
      have ga : ∀ x, inB a x = true → s.2 + 1 < x := fun x hx => by
        obtain ⟨q, hq, h1, h2⟩ := inB_iff.1 hx
        have := a3 q hq; omega
      have gb : ∀ x, inB b x = true → t.2 + 1 < x := fun x hx => by
        obtain ⟨q, hq, h1, h2⟩ := inB_iff.1 hx
        have := b3 q hq; omega
      have hx : ∀ x, ((s.1 ≤ x ∧ x ≤ s.2) ∨ inB a x = true) ↔ ((t.1 ≤ x ∧ x ≤ t.2) ∨ inB b x = true) := fun x => by rw [← ina, ← inb, h x]
      have f1 : s.1 = t.1 := by
        have p1 := (hx s.1).1 (.inl (by omega))
        have p2 := (hx t.1).2 (.inl (by omega))
        have p3 := gb s.1
        have p4 := ga t.1
        rcases p1 with p1 | p1
        · rcases p2 with p2 | p2
          · omega
          · have := p4 p2; omega
        · have := p3 p1
          rcases p2 with p2 | p2
          · omega
          · have := p4 p2; omega
      have f2 : s.2 = t.2 := by
        rcases Nat.lt_trichotomy s.2 t.2 with hlt | he | hlt
        · rcases (hx (s.2 + 1)).2 (.inl (by omega)) with p | p
          · omega
          · have := ga _ p; omega
        · exact he
        · rcases (hx (t.2 + 1)).1 (.inl (by omega)) with p | p
          · omega
          · have := gb _ p; omega
      have hst : s = t := Prod.ext f1 f2
      subst hst
      congr 1
      refine ih a2 b2 (fun x => ?_)
      rw [Bool.eq_iff_iff]
      constructor
      · intro hq
        rcases (hx x).1 (.inr hq) with p | p
        · have := ga x hq; omega
        · exact p
      · intro hq
        rcases (hx x).2 (.inr hq) with p | p
        · have := gb x hq; omega
        · exact p
theorem row_in {six : Bool} {l : List Sp} (h : Row six l) {x : Nat} (hx : inB l x = true) : x ≤ topN six := by
  obtain ⟨s, hs, h1, h2⟩ := inB_iff.1 hx
  have := okS_iff.1 (h.1 s hs); omega
/-- or: the state behind k sorted spans -/
def OrI (six : Bool) (D : List Sp) (k : Nat) (R : List Sp) : Prop := Row six R ∧ (∀ x, inB R x = inB (D.take k) x) ∧ (∀ q ∈ R, ∀ j (h : j < D.length), k ≤ j → q.1 ≤ D[j].1) ∧ R.length ≤ k
def Ris (D : List Sp) : Prop := D.Pairwise (fun r s => r.1 ≤ s.1)
theorem or_start (six : Bool) (D : List Sp) : OrI six D 0 [] := ⟨row_nil _, fun x => rfl, by simp, by simp⟩
theorem or_new {six : Bool} {D R : List Sp} {k : Nat} (h : OrI six D k R) (hD : Ris D) (hk : k < D.length) (hok : okS six D[k] = true) (hg : ∀ q, R.getLast? = some q → q.2 + 1 < D[k].1) : OrI six D (k + 1) (R ++ [D[k]]) := by
  obtain ⟨h1, h2, h3, h4⟩ := h
  have hga : ∀ q ∈ R, q.2 + 1 < D[k].1 := fun q hq => by
    rcases List.eq_nil_or_concat R with e | ⟨P, z, e⟩
    · subst e; cases hq
    · rw [List.concat_eq_append] at e
      subst e
      have hz := hg z (by simp)
      rcases List.mem_append.1 hq with hp | hp
      · have := (row_front h1).2.2 q hp
        have := okS_iff.1 (row_front h1).2.1
        omega
      · rw [List.mem_singleton.1 hp]; exact hz
  refine ⟨row_app h1 hok hga, fun x => ?_, fun q hq j hj hkj => ?_, by simp; omega⟩
  · rw [inB_app, inB_one, h2, inB_take hk]
  · rcases List.mem_append.1 hq with hp | hp
    · exact h3 q hp j hj (by omega)
    · rw [List.mem_singleton.1 hp]; exact List.pairwise_iff_getElem.1 hD k j hk hj (by omega)
theorem or_old {six : Bool} {D P : List Sp} {q : Sp} {k : Nat} (h : OrI six D k (P ++ [q])) (hD : Ris D) (hk : k < D.length) (hok : okS six D[k] = true) (hg : ¬ q.2 + 1 < D[k].1) (t : Nat) (ht : t = if q.2 < D[k].2 then D[k].2 else q.2) : OrI six D (k + 1) (P ++ [(q.1, t)]) := by
  obtain ⟨h1, h2, h3, h4⟩ := h
  obtain ⟨r1, r2, r3⟩ := row_front h1
  have r2 := okS_iff.1 r2
  have hok := okS_iff.1 hok
  have hq := h3 q (by simp) k hk (Nat.le_refl _)
  have htq : q.2 ≤ t ∧ D[k].2 ≤ t ∧ (t = q.2 ∨ t = D[k].2) := by rw [ht]; split <;> omega
  clear ht
  refine ⟨row_app r1 (okS_iff.2 ?_) r3, fun x => ?_, fun z hz j hj hkj => ?_, by simpa using Nat.le_succ_of_le h4⟩
  · show q.1 ≤ t ∧ t ≤ _; omega
  · have h5 := h2 x
    rw [inB_app, inB_one] at h5
    rw [inB_app, inB_one, inB_take hk, ← h5, Bool.or_assoc]
    congr 1
    rw [Bool.eq_iff_iff, Bool.or_eq_true, hasS_iff, hasS_iff, hasS_iff]
    show q.1 ≤ x ∧ x ≤ t ↔ _
    omega
  · rcases List.mem_append.1 hz with hp | hp
    · exact h3 z (List.mem_append_left _ hp) j hj (by omega)
    · rw [List.mem_singleton.1 hp]
      exact h3 q (by simp) j hj (by omega)
theorem or_end {six : Bool} {D R : List Sp} (h : OrI six D D.length R) : Row six R ∧ (∀ x, inB R x = inB D x) ∧ R.length ≤ D.length := ⟨h.1, fun x => by rw [h.2.1, List.take_length], h.2.2.2⟩
theorem inB_perm {a b : List Sp} (h : ∀ s, s ∈ a ↔ s ∈ b) (x : Nat) : inB a x = inB b x := by
  rw [Bool.eq_iff_iff, inB_iff, inB_iff]
  constructor
  · rintro ⟨s, hs, h2⟩; exact ⟨s, (h s).1 hs, h2⟩
  · rintro ⟨s, hs, h2⟩; exact ⟨s, (h s).2 hs, h2⟩
/-- what two spans have in common -/
def comS (r s : Sp) : Sp := (if r.1 < s.1 then s.1 else r.1, if s.2 < r.2 then s.2 else r.2)
theorem com_has (r s : Sp) (x : Nat) : hasS (comS r s) x = (hasS r x && hasS s x) := by
  rw [Bool.eq_iff_iff, Bool.and_eq_true, hasS_iff, hasS_iff, hasS_iff]
  unfold comS
  constructor
  · intro h
    simp only at h
    split at h <;> split at h <;> omega
  · intro h
    simp only
    split <;> split <;> omega
theorem com_ok {six : Bool} {r s : Sp} (hr : okS six r = true) (hs : okS six s = true) : okS six (comS r s) = decide ((comS r s).1 ≤ (comS r s).2) := by
  rw [Bool.eq_iff_iff, okS_iff, decide_eq_true_iff]
  have := okS_iff.1 hr
  have := okS_iff.1 hs
  refine ⟨fun h => h.1, fun h => ⟨h, ?_⟩⟩
  unfold comS
  simp only
  split <;> omega
/-- and: the state at the i-th span of a and the j-th one of b -/
def AndI (six : Bool) (a b : List Sp) (i j : Nat) (R : List Sp) : Prop := Row six R ∧ j ≤ b.length ∧
  (∀ x, inB R x = true ↔ (inB (a.take i) x = true ∧ inB b x = true) ∨ (∃ h : i < a.length, hasS a[i] x = true ∧ inB (b.take j) x = true)) ∧
  (∀ q ∈ R, ∀ (hi : i < a.length) (hj : j < b.length), q.2 + 1 < a[i].1 ∨ q.2 + 1 < b[j].1) ∧ (∀ p (_ : p < j) (hp : p < b.length) (hi : i < a.length), b[p].2 ≤ a[i].2) ∧ R.length ≤ i + j
theorem and_start (six : Bool) (a b : List Sp) : AndI six a b 0 0 [] := ⟨row_nil _, by omega, fun x => by rw [show inB ([] : List Sp) x = false from rfl, List.take_zero, List.take_zero, show inB ([] : List Sp) x = false from rfl]; simp, by simp, by omega, by simp⟩
theorem and_mem {six : Bool} {a b R : List Sp} {i j : Nat} (h : AndI six a b i j R) (ha : Row six a) (hb : Row six b) (hi : i < a.length) (hj : j < b.length) :
    ∀ q ∈ R, q.2 + 1 < (comS a[i] b[j]).1 := fun q hq => by
  have h1 := h.2.2.2.1 q hq hi hj
  unfold comS
  simp only
  split <;> omega
/-- what is in common is put behind, or is nothing -/
theorem and_put {six : Bool} {a b R : List Sp} {i j : Nat} (h : AndI six a b i j R) (ha : Row six a) (hb : Row six b) (hi : i < a.length) (hj : j < b.length) (S : List Sp)
    (hS : (okS six (comS a[i] b[j]) = true ∧ S = R ++ [comS a[i] b[j]]) ∨ (okS six (comS a[i] b[j]) = false ∧ S = R)) :
    (¬ a[i].2 < b[j].2 → AndI six a b i (j + 1) S) ∧ (a[i].2 < b[j].2 → AndI six a b (i + 1) j S) := by
  have hm := and_mem h ha hb hi hj
  obtain ⟨h1, h2, h3, h4, h45, h5⟩ := h
  have oka := ha.1 _ (List.getElem_mem hi)
  have okb := hb.1 _ (List.getElem_mem hj)
  have hc := com_ok oka okb
  have hrow : Row six S := by
    rcases hS with ⟨e, rfl⟩ | ⟨e, rfl⟩
    · exact row_app h1 e hm
    · exact h1
  have hin : ∀ x, inB S x = true ↔ inB R x = true ∨ (hasS a[i] x = true ∧ hasS b[j] x = true) := fun x => by
    have hch := com_has a[i] b[j] x
    rcases hS with ⟨e, rfl⟩ | ⟨e, rfl⟩
    · rw [inB_app, inB_one, hch, Bool.or_eq_true, Bool.and_eq_true]
    · constructor
      · exact .inl
      · rintro (h | h)
        · exact h
        · rw [← Bool.and_eq_true, ← hch, hasS_iff] at h
          rw [e] at hc
          have := of_decide_eq_false hc.symm
          omega
  have hlen : S.length ≤ i + j + 1 := by
    rcases hS with ⟨e, rfl⟩ | ⟨e, rfl⟩
    · rw [List.length_append, List.length_singleton]; omega
    · omega
  have hla := row_at ha hi
  have hlb := row_at hb hj
  have hq2 : ∀ q ∈ S, q.2 ≤ (comS a[i] b[j]).2 ∧ q ∉ R ∨ q ∈ R := fun q hq => by
    rcases hS with ⟨e, rfl⟩ | ⟨e, rfl⟩
    · rcases List.mem_append.1 hq with hq | hq
      · exact .inr hq
      · by_cases hr : q ∈ R
        · exact .inr hr
        · rw [List.mem_singleton.1 hq]; rw [List.mem_singleton.1 hq] at hr; exact .inl ⟨Nat.le_refl _, hr⟩
    · exact .inr hq
  have hc2 : (comS a[i] b[j]).2 ≤ a[i].2 ∧ (comS a[i] b[j]).2 ≤ b[j].2 := by
    unfold comS; simp only; split <;> omega
  constructor
  · intro hab
    refine ⟨hrow, by omega, fun x => ?_, fun q hq hi2 hj2 => ?_, fun p hpj hp hi2 => ?_, by omega⟩
    · rw [hin, h3, inB_take hj]
      constructor
      · rintro ((h | ⟨h, h6, h7⟩) | ⟨h6, h7⟩)
        · exact .inl h
        · exact .inr ⟨h, h6, by rw [h7]; rfl⟩
        · exact .inr ⟨hi, h6, by rw [h7]; simp⟩
      · rintro (h | ⟨h, h6, h7⟩)
        · exact .inl (.inl h)
        · rcases (Bool.or_eq_true _ _).mp h7 with h8 | h8
          · exact .inl (.inr ⟨h, h6, h8⟩)
          · exact .inr ⟨h6, h8⟩
    · have hb2 := row_lt hb (Nat.lt_add_one j) hj2
      rcases hq2 q hq with ⟨hq3, _⟩ | hq3
      · right; omega
      · rcases h4 q hq3 hi hj with h6 | h6
        · exact .inl h6
        · right; omega
    · by_cases e : p = j
      · subst e; omega
      · exact h45 p (by omega) hp hi2
  · intro hab
    refine ⟨hrow, h2, fun x => ?_, fun q hq hi2 hj2 => ?_, fun p hpj hp hi2 => ?_, by omega⟩
    · have hrest : hasS a[i] x = true → inB b x = true → inB (b.take j) x = true ∨ hasS b[j] x = true := fun hx hbx => by
        obtain ⟨s, hs, hs1, hs2⟩ := inB_iff.1 hbx
        obtain ⟨p, hp, rfl⟩ := List.getElem_of_mem hs
        rw [hasS_iff] at hx
        rcases Nat.lt_trichotomy p j with hlt | he | hlt
        · left
          refine inB_iff.2 ⟨b[p], ?_, hs1, hs2⟩
          exact List.mem_take_iff_getElem.2 ⟨p, by omega, rfl⟩
        · subst he; right; rw [hasS_iff]; exact ⟨hs1, hs2⟩
        · have := row_lt hb hlt hp; omega
      rw [hin, h3, inB_take hi]
      constructor
      · rintro ((⟨h6, h7⟩ | ⟨h, h6, h7⟩) | ⟨h6, h7⟩)
        · exact .inl ⟨by rw [h6]; rfl, h7⟩
        · refine .inl ⟨by rw [h6]; simp, ?_⟩
          obtain ⟨s, hs, hs1⟩ := inB_iff.1 h7
          exact inB_iff.2 ⟨s, List.mem_of_mem_take hs, hs1⟩
        · exact .inl ⟨by rw [h6]; simp, inB_iff.2 ⟨b[j], List.getElem_mem hj, hasS_iff.1 h7⟩⟩
      · rintro (⟨h6, h7⟩ | ⟨h, h6, h7⟩)
        · rcases (Bool.or_eq_true _ _).mp h6 with h8 | h8
          · exact .inl (.inl ⟨h8, h7⟩)
          · rcases hrest h8 h7 with h9 | h9
            · exact .inl (.inr ⟨hi, h8, h9⟩)
            · exact .inr ⟨h8, h9⟩
        · exfalso
          obtain ⟨s, hs, hs1, hs2⟩ := inB_iff.1 h7
          obtain ⟨p, hp, he⟩ := List.mem_take_iff_getElem.1 hs
          have hpj : p < j := by omega
          rw [hasS_iff] at h6
          have h9 := row_lt ha (Nat.lt_add_one i) h
          have h10 := row_lt hb hpj hj
          subst he
          have h11 := h45 p hpj (by omega) hi
          omega
    · have ha2 := row_lt ha (Nat.lt_add_one i) hi2
      rcases hq2 q hq with ⟨hq3, _⟩ | hq3
      · left; omega
      · rcases h4 q hq3 hi hj with h6 | h6
        · left; omega
        · exact .inr h6
    · have ha2 := row_lt ha (Nat.lt_add_one i) hi2
      have := row_at ha hi2
      have := h45 p hpj hp hi
      omega
/-- nothing is left of b -/
theorem and_skip {six : Bool} {a b R : List Sp} {i j : Nat} (h : AndI six a b i j R) (ha : Row six a) (hi : i < a.length) (hj : j = b.length) : AndI six a b (i + 1) j R := by
  obtain ⟨h1, h2, h3, h4, h45, h5⟩ := h
  have hbj : ∀ x, inB (b.take j) x = inB b x := fun x => by rw [hj, List.take_length]
  refine ⟨h1, h2, fun x => ?_, fun q hq hi2 hj2 => absurd hj2 (by omega), fun p hpj hp hi2 => ?_, by omega⟩
  · rw [h3, inB_take hi, hbj]
    constructor
    · rintro (⟨h6, h7⟩ | ⟨h, h6, h7⟩)
      · exact .inl ⟨by rw [h6]; rfl, h7⟩
      · exact .inl ⟨by rw [h6]; simp, h7⟩
    · rintro (⟨h6, h7⟩ | ⟨h, h6, h7⟩)
      · rcases (Bool.or_eq_true _ _).mp h6 with h8 | h8
        · exact .inl ⟨h8, h7⟩
        · exact .inr ⟨hi, h8, h7⟩
      · exfalso
        obtain ⟨s, hs, hs1, hs2⟩ := inB_iff.1 h7
        obtain ⟨p, hp, rfl⟩ := List.getElem_of_mem hs
        rw [hasS_iff] at h6
        have h9 := row_lt ha (Nat.lt_add_one i) h
        have h11 := h45 p (by omega) hp hi
        omega
  · have ha2 := row_lt ha (Nat.lt_add_one i) hi2
    have := row_at ha hi2
    have := h45 p hpj hp hi
    omega
theorem and_end {six : Bool} {a b R : List Sp} {j : Nat} (h : AndI six a b a.length j R) : Row six R ∧ (∀ x, inB R x = (inB a x && inB b x)) ∧ R.length ≤ a.length + b.length := by
  obtain ⟨h1, h2, h3, h4, h45, h5⟩ := h
  refine ⟨h1, fun x => ?_, by omega⟩
  rw [Bool.eq_iff_iff, Bool.and_eq_true, h3, List.take_length]
  constructor
  · rintro (h | ⟨h, _⟩)
    · exact h
    · omega
  · exact .inl
/-- not: the state behind k spans: the next address that may be out of the set, and whether there is one -/
def NotI (six : Bool) (l : List Sp) (k : Nat) (R : List Sp) (f : Nat) (more : Bool) : Prop := Row six R ∧ R.length ≤ k ∧
  (∀ x, inB R x = true ↔ (x < (if more then f else topN six + 1) ∧ inB (l.take k) x = false)) ∧
  (more = true → f ≤ topN six ∧ (k = 0 → f = 0) ∧ ∀ (h : 0 < k) (hk : k ≤ l.length), f = (l[k - 1]'(by omega)).2 + 1) ∧ (more = false → f = 0 ∧ k = l.length)
theorem not_start (six : Bool) (l : List Sp) : NotI six l 0 [] 0 true := ⟨row_nil _, by simp, fun x => by rw [show inB ([] : List Sp) x = false from rfl, if_pos rfl]; simp, fun _ => ⟨by omega, fun _ => rfl, fun h => absurd h (by omega)⟩, by simp⟩
theorem not_step {six : Bool} {l R : List Sp} {k f : Nat} (h : NotI six l k R f true) (hl : Row six l) (hk : k < l.length) (S : List Sp) (f2 : Nat) (m2 : Bool)
    (hS : (0 < l[k].1 ∧ f ≤ l[k].1 - 1 ∧ S = R ++ [(f, l[k].1 - 1)]) ∨ (¬ (0 < l[k].1 ∧ f ≤ l[k].1 - 1) ∧ S = R))
    (hf : (l[k].2 = topN six ∧ f2 = 0 ∧ m2 = false) ∨ (¬ l[k].2 = topN six ∧ f2 = l[k].2 + 1 ∧ m2 = true)) : NotI six l (k + 1) S f2 m2 := by
  obtain ⟨h1, h2, h3, h4, h5⟩ := h
  obtain ⟨e1, e2, e3⟩ := h4 rfl
  simp only [if_pos] at h3
  have hlk := row_at hl hk
  have hprev : ∀ s ∈ l.take k, s.2 + 1 ≤ f := fun s hs => by
    obtain ⟨p, hp, rfl⟩ := List.mem_take_iff_getElem.1 hs
    have h6 := e3 (by omega) (by omega)
    by_cases e : p = k - 1
    · subst e; omega
    · have h7 := row_lt hl (i := p) (j := k - 1) (by omega) (by omega)
      have h8 := row_at hl (i := k - 1) (by omega)
      omega
  have hfl : f ≤ l[k].1 := by
    rcases Nat.eq_zero_or_pos k with h0 | h0
    · rw [e2 h0]; omega
    · have h6 := e3 h0 (by omega)
      have h7 := row_lt hl (i := k - 1) (j := k) (by omega) hk
      omega
  have hR : ∀ q ∈ R, q.2 + 1 < f ∨ (q.2 + 1 = f ∧ False) ∨ q.2 < f := fun q hq => by
    have hq1 := okS_iff.1 (h1.1 q hq)
    have := (h3 q.2).1 (inB_iff.2 ⟨q, hq, by omega⟩)
    omega
  have hRf : ∀ q ∈ R, 0 < k ∧ q.2 + 1 < f := fun q hq => by
    have hq1 := okS_iff.1 (h1.1 q hq)
    have h6 := (h3 q.2).1 (inB_iff.2 ⟨q, hq, by omega⟩)
    have hk0 : 0 < k := by
      rcases Nat.eq_zero_or_pos k with h0 | h0
      · rw [e2 h0] at h6; omega
      · exact h0
    refine ⟨hk0, ?_⟩
    have h7 := e3 hk0 (by omega)
    have h8 := row_at hl (i := k - 1) (by omega)
    have h9 : inB (l.take k) (l[k - 1]).2 = true := inB_iff.2 ⟨l[k - 1], List.mem_take_iff_getElem.2 ⟨k - 1, by omega, rfl⟩, by omega⟩
    by_cases e : q.2 = (l[k - 1]).2
    · rw [e, h9] at h6; cases h6.2
    · omega
  have hin : ∀ x, inB S x = true ↔ inB R x = true ∨ (f ≤ x ∧ x < l[k].1) := fun x => by
    rcases hS with ⟨a1, a2, rfl⟩ | ⟨a1, rfl⟩
    · rw [inB_app, inB_one, Bool.or_eq_true, hasS_iff]
      show _ ∨ (f ≤ x ∧ x ≤ l[k].1 - 1) ↔ _
      constructor <;> (rintro (h | h); exact .inl h; exact .inr (by omega))
    · constructor
      · exact .inl
      · rintro (h | h)
        · exact h
        · omega
  refine ⟨?_, ?_, fun x => ?_, fun hm => ?_, fun hm => ?_⟩
  · rcases hS with ⟨a1, a2, rfl⟩ | ⟨a1, rfl⟩
    · exact row_app h1 (okS_iff.2 (by show f ≤ l[k].1 - 1 ∧ l[k].1 - 1 ≤ _; omega)) (fun q hq => (hRf q hq).2)
    · exact h1
  · rcases hS with ⟨a1, a2, rfl⟩ | ⟨a1, rfl⟩
    · rw [List.length_append, List.length_singleton]; omega
    · omega
  · have hX : (if m2 = true then f2 else topN six + 1) = l[k].2 + 1 := by
      rcases hf with ⟨g1, g2, g3⟩ | ⟨g1, g2, g3⟩
      · rw [g3, g1]; rfl
      · rw [g3, g2]; rfl
    rw [hX, hin, h3, inB_take hk]
    have hnt : inB (l.take k) x = true → x < f := fun h => by
      obtain ⟨s, hs, s1, s2⟩ := inB_iff.1 h
      have := hprev s hs; omega
    have hk3 : hasS l[k] x = false ↔ ¬ (l[k].1 ≤ x ∧ x ≤ l[k].2) := by rw [← hasS_iff]; simp
    rw [Bool.or_eq_false_iff, hk3]
    constructor
    · rintro (⟨h6, h7⟩ | h6)
      · exact ⟨by omega, h7, by omega⟩
      · refine ⟨by omega, ?_, by omega⟩
        rw [Bool.eq_false_iff]; intro h; have := hnt h; omega
    · rintro ⟨h6, h7, h8⟩
      by_cases e : x < f
      · exact .inl ⟨e, h7⟩
      · exact .inr (by omega)
  · rcases hf with ⟨g1, g2, g3⟩ | ⟨g1, g2, g3⟩
    · rw [g3] at hm; cases hm
    · exact ⟨by omega, fun h => absurd h (by omega), fun _ _ => by rw [g2]; simp⟩
  · rcases hf with ⟨g1, g2, g3⟩ | ⟨g1, g2, g3⟩
    · refine ⟨g2, ?_⟩
      rcases Nat.lt_or_ge (k + 1) l.length with h9 | h9
      · have := row_lt hl (Nat.lt_add_one k) h9
        have := row_at hl h9
        omega
      · omega
    · rw [g3] at hm; cases hm
theorem not_end {six : Bool} {l R S : List Sp} {f : Nat} {more : Bool} (h : NotI six l l.length R f more) (hl : Row six l) (hS : S = if more then R ++ [(f, topN six)] else R) : Row six S ∧ (∀ x, inB S x = (decide (x ≤ topN six) && !inB l x)) ∧ S.length ≤ l.length + 1 := by
  obtain ⟨h1, h2, h3, h4, h5⟩ := h
  rw [List.take_length] at h3
  have hup : ∀ x, inB l x = true → x ≤ topN six := fun x hx => row_in hl hx
  cases more
  · simp only [Bool.false_eq_true, if_false] at hS h3
    subst hS
    refine ⟨h1, fun x => ?_, by omega⟩
    rw [Bool.eq_iff_iff, h3, Bool.and_eq_true, decide_eq_true_iff, Bool.not_eq_true']
    exact ⟨fun h => ⟨by omega, h.2⟩, fun h => ⟨by omega, h.2⟩⟩
  · simp only [if_true] at hS h3
    subst hS
    obtain ⟨e1, e2, e3⟩ := h4 rfl
    have hlast : ∀ x, inB l x = true → x < f := fun x hx => by
      obtain ⟨s, hs, s1, s2⟩ := inB_iff.1 hx
      obtain ⟨p, hp, rfl⟩ := List.getElem_of_mem hs
      have h6 := e3 (by omega) (Nat.le_refl _)
      by_cases e : p = l.length - 1
      · subst e; omega
      · have h7 := row_lt hl (i := p) (j := l.length - 1) (by omega) (by omega)
        have h8 := row_at hl (i := l.length - 1) (by omega)
        omega
    refine ⟨row_app h1 (okS_iff.2 ⟨e1, Nat.le_refl _⟩) (fun q hq => ?_), fun x => ?_, by simp; omega⟩
    · have hq1 := okS_iff.1 (h1.1 q hq)
      have h6 := (h3 q.2).1 (inB_iff.2 ⟨q, hq, by omega⟩)
      have hk0 : 0 < l.length := by
        rcases Nat.eq_zero_or_pos l.length with h0 | h0
        · rw [e2 h0] at h6; omega
        · exact h0
      have h7 := e3 hk0 (Nat.le_refl _)
      have h8 := row_at hl (i := l.length - 1) (by omega)
      have h9 : inB l (l[l.length - 1]).2 = true := inB_iff.2 ⟨l[l.length - 1], List.getElem_mem _, by omega⟩
      show q.2 + 1 < f
      by_cases e : q.2 = (l[l.length - 1]).2
      · rw [e, h9] at h6; cases h6.2
      · omega
    · rw [Bool.eq_iff_iff, inB_app, inB_one, Bool.or_eq_true, h3, hasS_iff, Bool.and_eq_true, decide_eq_true_iff, Bool.not_eq_true']
      show (x < f ∧ _) ∨ (f ≤ x ∧ x ≤ topN six) ↔ _
      constructor
      · rintro (⟨h6, h7⟩ | h6)
        · exact ⟨by omega, h7⟩
        · refine ⟨h6.2, ?_⟩
          rw [Bool.eq_false_iff]; intro h; have := hlast x h; omega
      · rintro ⟨h6, h7⟩
        by_cases e : x < f
        · exact .inl ⟨e, h7⟩
        · exact .inr (by omega)
end Go.Proofs.Ytmkbijnndbgjgaa.Sp
