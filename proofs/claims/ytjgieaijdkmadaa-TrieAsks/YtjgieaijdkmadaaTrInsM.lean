/- What a put makes of routes, plain. -/
import Derived.Test.YtjgieaijdkmadaaTrPutM
import Derived.Test.YtjgieaijdkmadaaTrMath
set_option linter.unusedVariables false
namespace Go.Proofs.Ytjgieaijdkmadaa.Tr
open Go.Proofs.Ytjgieaijdkmadaa.Addr (Pf okP checkP wideN rightB hasB coversB cmpN kP hiN loN adV pfV firstN lastN freeN)
theorem othersT_len (l : List Rt) (p : Pf) : (othersT l p).length = (aheadT l p).length + (behindT l p).length := by
  unfold othersT aheadT behindT
  induction l with
  | nil => rfl
  | cons x l ih =>
    rcases Int.lt_trichotomy (ordP x.pf p) 0 with h | h | h
    · rw [List.filter_cons_of_pos (by simp; omega), List.filter_cons_of_pos (by simp; omega), List.filter_cons_of_neg (by simp; omega), List.length_cons, List.length_cons, ih]; omega
    · rw [List.filter_cons_of_neg (by simp; omega), List.filter_cons_of_neg (by simp; omega), List.filter_cons_of_neg (by simp; omega), ih]
    · rw [List.filter_cons_of_pos (by simp; omega), List.filter_cons_of_neg (by simp; omega), List.filter_cons_of_pos (by simp; omega), List.length_cons, List.length_cons, ih]; omega
theorem insT_len (l : List Rt) (r : Rt) : (insT l r).length = (othersT l r.pf).length + 1 := by
  unfold insT
  rw [othersT_len]
  simp only [List.length_append, List.length_cons, List.length_nil]
  omega
theorem insT_mem {l : List Rt} {r x : Rt} (h : x ∈ insT l r) : x = r ∨ x ∈ l := by
  unfold insT aheadT behindT at h
  simp only [List.mem_append, List.mem_filter, List.mem_singleton] at h
  rcases h with h | h | h
  · exact .inr h.1
  · exact .inl h
  · exact .inr h.1
theorem mem_insT (l : List Rt) (r : Rt) : r ∈ insT l r := by unfold insT; simp
theorem insT_up {l : List Rt} {r : Rt} (h : Up l) : Up (insT l r) := by
  unfold insT
  refine List.pairwise_append.2 ⟨h.filter _, List.pairwise_append.2 ⟨List.pairwise_singleton _ _, h.filter _, fun a ha b hb => ?_⟩, fun a ha b hb => ?_⟩
  · rw [List.mem_singleton] at ha
    subst ha
    have := (List.mem_filter.1 hb).2
    simp only [decide_eq_true_eq] at this
    exact (ordP_gt _ _).1 this
  · have h1 := (List.mem_filter.1 ha).2
    simp only [decide_eq_true_eq] at h1
    have h1 := (ordP_lt _ _).1 h1
    rcases List.mem_append.1 hb with hb | hb
    · rw [List.mem_singleton] at hb
      subst hb
      exact h1
    · have := (List.mem_filter.1 hb).2
      simp only [decide_eq_true_eq] at this
      exact ltP_trans h1 ((ordP_gt _ _).1 this)
theorem othersT_le (l : List Rt) (p : Pf) : (othersT l p).length ≤ l.length := List.length_filter_le _ _
theorem putT_ok {l : List Rt} {r : Rt} (h : (putT l r).2 = 0) : okT l = true ∧ okR r = true ∧ (putT l r).1 = insT l r ∧ okT (insT l r) = true := by
  unfold putT at h ⊢
  cases h1 : okT l && okR r with
  | false => rw [h1] at h; simp at h
  | true =>
    rw [h1] at h
    simp only [if_true] at h ⊢
    rw [Bool.and_eq_true] at h1
    by_cases h2 : (othersT l r.pf).length = 256
    · rw [if_pos h2] at h; simp at h
    · rw [if_neg h2]
      obtain ⟨k1, k2, k3⟩ := (okT_iff l).1 h1.1
      refine ⟨h1.1, h1.2, rfl, (okT_iff _).2 ⟨?_, fun x hx => ?_, insT_up k3⟩⟩
      · rw [insT_len]; have := othersT_le l r.pf; omega
      · rcases insT_mem hx with rfl | hx
        · exact h1.2
        · exact k2 x hx
/-- of two prefixes that have one address the later one is longer, and covered -/
theorem later_long {p q : Pf} {six : Bool} {a : Nat} (hl : ltP p q) (hp : hasB p six a = true) (hq : hasB q six a = true) : p.len < q.len ∧ coversB p q = true := by
  have o1 := has_ok hp
  have o2 := has_ok hq
  obtain ⟨e1, e2, e3, e4⟩ := (has_iff o1 _ _).1 hp
  obtain ⟨f1, f2, f3, f4⟩ := (has_iff o2 _ _).1 hq
  have hs : q.six = p.six := f1.trans e1.symm
  have hc : coversB p q = true := by
    cases hc : coversB p q with
    | true => rfl
    | false => have := apart_of o1 o2 hl hc hs; omega
  refine ⟨?_, hc⟩
  obtain ⟨_, c2, c3⟩ := covers_parts hc
  rcases Int.lt_or_eq_of_le c2 with h | h
  · exact h
  · exfalso
    obtain ⟨g1, g2, g3, g4⟩ := (has_iff o1 _ _).1 c3
    have hk : kP p = kP q := by unfold kP; rw [hs, h]
    have hn : p.n < q.n := by
      unfold ltP at hl
      rcases hl with ⟨h1, h2⟩ | ⟨_, h3⟩
      · rw [hs, h1] at h2; cases h2
      · rcases h3 with h3 | h3
        · exact h3
        · omega
    have := mult_apart (ok_parts o1).2.2.2 (by rw [hk]; exact (ok_parts o2).2.2.2) hn
    omega
theorem up_last {l : List Rt} (hu : Up l) {r : Rt} (hr : r ∈ l) : ∃ x, l.getLast? = some x ∧ x ∈ l ∧ (x = r ∨ ltP r.pf x.pf) := by
  have hne : l ≠ [] := fun h => by rw [h] at hr; cases hr
  refine ⟨l.getLast hne, List.getLast?_eq_some_getLast hne, List.getLast_mem hne, ?_⟩
  rw [List.getLast_eq_getElem]
  obtain ⟨j, hj, rfl⟩ := List.getElem_of_mem hr
  rcases Nat.lt_or_ge j (l.length - 1) with h | h
  · exact .inr (List.pairwise_iff_getElem.1 hu j (l.length - 1) hj (by omega) h)
  · have : j = l.length - 1 := by omega
    subst this
    exact .inl rfl
end Go.Proofs.Ytjgieaijdkmadaa.Tr
