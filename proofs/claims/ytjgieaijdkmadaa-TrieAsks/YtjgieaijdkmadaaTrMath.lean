/- Prefixes as ranges of numbers; rows of routes under one another, plain. -/
import Derived.Test.YtjgieaijdkmadaaTrBase
set_option linter.unusedVariables false
namespace Go.Proofs.Ytjgieaijdkmadaa.Tr
open Go.Proofs.Ytjgieaijdkmadaa.Addr (Pf okP checkP wideN rightB hasB coversB cmpN kP hiN loN adV pfV firstN lastN freeN)
theorem first_iff {k n a : Nat} (hn : n % 2 ^ k = 0) : firstN k a = n ↔ n ≤ a ∧ a < n + 2 ^ k := by
  unfold firstN
  have hp : 0 < 2 ^ k := Nat.pow_pos (by decide)
  have h1 := Nat.mod_lt a hp
  have h2 := Nat.div_add_mod a (2 ^ k)
  have h3 := Nat.div_add_mod n (2 ^ k)
  rw [hn, Nat.add_zero] at h3
  constructor
  · intro h; omega
  · rintro ⟨h4, h5⟩
    have h6 : a / 2 ^ k = n / 2 ^ k := by
      refine Nat.div_eq_of_lt_le ?_ ?_
      · rw [Nat.mul_comm, h3]; exact h4
      · rw [Nat.add_mul, Nat.one_mul, Nat.mul_comm, h3]; exact h5
    rw [h6, h3] at h2
    omega
theorem ok_parts {p : Pf} (h : okP p = true) : 0 ≤ p.len ∧ p.len ≤ (wideN p.six : Int) ∧ p.n < 2 ^ wideN p.six ∧ p.n % 2 ^ kP p = 0 := by
  unfold okP rightB at h
  simp only [Bool.and_eq_true, decide_eq_true_eq] at h
  exact ⟨h.1.1, h.1.2, h.2.1, h.2.2⟩
theorem has_iff {p : Pf} (h : okP p = true) (six : Bool) (a : Nat) : hasB p six a = true ↔ p.six = six ∧ a < 2 ^ wideN six ∧ p.n ≤ a ∧ a < p.n + 2 ^ kP p := by
  unfold hasB rightB
  rw [h]
  simp only [Bool.true_and, Bool.and_eq_true, decide_eq_true_eq]
  rw [first_iff (ok_parts h).2.2.2]
theorem has_ok {p : Pf} {six : Bool} {a : Nat} (h : hasB p six a = true) : okP p = true := by
  unfold hasB at h
  simp only [Bool.and_eq_true] at h
  exact h.1
theorem covers_parts {p q : Pf} (h : coversB p q = true) : okP q = true ∧ p.len ≤ q.len ∧ hasB p q.six q.n = true := by
  unfold coversB at h
  simp only [Bool.and_eq_true, decide_eq_true_eq] at h
  exact ⟨h.1, h.2.1, h.2.2⟩
theorem kP_le {p q : Pf} (hs : p.six = q.six) (hl : p.len ≤ q.len) : kP q ≤ kP p := by
  unfold kP
  rw [hs]
  omega
theorem mul_of_mod {n k : Nat} (h : n % 2 ^ k = 0) : ∃ m, n = 2 ^ k * m := ⟨n / 2 ^ k, by have := Nat.div_add_mod n (2 ^ k); omega⟩
theorem mod_of_le {n j k : Nat} (hjk : j ≤ k) (h : n % 2 ^ k = 0) : n % 2 ^ j = 0 := by
  obtain ⟨m, rfl⟩ := mul_of_mod h
  obtain ⟨d, rfl⟩ : ∃ d, k = j + d := ⟨k - j, by omega⟩
  rw [Nat.pow_add, Nat.mul_assoc, Nat.mul_mod_right]
/-- two multiples, the one below the other, lie apart by the size -/
theorem mult_apart {a b k : Nat} (ha : a % 2 ^ k = 0) (hb : b % 2 ^ k = 0) (h : a < b) : a + 2 ^ k ≤ b := by
  obtain ⟨x, rfl⟩ := mul_of_mod ha
  obtain ⟨y, rfl⟩ := mul_of_mod hb
  have hxy : x < y := by
    rcases Nat.lt_or_ge x y with h1 | h1
    · exact h1
    · have := Nat.mul_le_mul_left (2 ^ k) h1; omega
  have := Nat.mul_le_mul_left (2 ^ k) (show x + 1 ≤ y from hxy)
  rw [Nat.mul_add, Nat.mul_one] at this
  exact this
theorem covers_has {p q : Pf} {six : Bool} {a : Nat} (h : coversB p q = true) (ha : hasB q six a = true) : hasB p six a = true := by
  obtain ⟨h1, h2, h3⟩ := covers_parts h
  have hp := has_ok h3
  obtain ⟨e1, e2, e3, e4⟩ := (has_iff hp _ _).1 h3
  obtain ⟨f1, f2, f3, f4⟩ := (has_iff h1 _ _).1 ha
  refine (has_iff hp _ _).2 ⟨e1.trans f1, f2, by omega, ?_⟩
  have hk := kP_le e1 h2
  have hm1 := (ok_parts h1).2.2.2
  have hm2 := mod_of_le hk (ok_parts hp).2.2.2
  have hm3 : (p.n + 2 ^ kP p) % 2 ^ kP q = 0 := by
    rw [Nat.add_mod, hm2, mod_of_le hk (Nat.mod_self _)]
    simp
  have := mult_apart hm1 hm3 e4
  omega
theorem covers_trans {p q r : Pf} (h1 : coversB p q = true) (h2 : coversB q r = true) : coversB p r = true := by
  obtain ⟨a1, a2, a3⟩ := covers_parts h1
  obtain ⟨b1, b2, b3⟩ := covers_parts h2
  unfold coversB
  rw [b1, covers_has h1 b3, decide_eq_true (show p.len ≤ r.len by omega)]
  rfl
theorem covers_six {p q : Pf} (h : coversB p q = true) : q.six = p.six := by
  obtain ⟨_, _, h3⟩ := covers_parts h
  exact ((has_iff (has_ok h3) _ _).1 h3).1.symm
/-- one that stands behind, and is not covered, begins behind the end -/
theorem apart_of {p q : Pf} (hp : okP p = true) (hq : okP q = true) (hl : ltP p q) (hc : coversB p q = false) (hs : q.six = p.six) : p.n + 2 ^ kP p ≤ q.n := by
  rcases Nat.lt_or_ge q.n (p.n + 2 ^ kP p) with h | h
  · exfalso
    unfold ltP at hl
    rcases hl with ⟨h1, h2⟩ | ⟨_, h3⟩
    · rw [hs, h1] at h2; cases h2
    · have hpq : p.n ≤ q.n := by omega
      have hh : hasB p q.six q.n = true := (has_iff hp _ _).2 ⟨hs.symm, by have := (ok_parts hq).2.2.1; exact this, hpq, h⟩
      have hlen : q.len < p.len := by
        rcases Int.lt_or_le q.len p.len with h5 | h5
        · exact h5
        · unfold coversB at hc
          rw [hq, hh, decide_eq_true h5] at hc
          cases hc
      have hk := kP_le (p := q) (q := p) hs (Int.le_of_lt hlen)
      have hm := mod_of_le hk (ok_parts hq).2.2.2
      have hne : p.n < q.n := by
        rcases h3 with h3 | h3
        · exact h3
        · omega
      have := mult_apart (ok_parts hp).2.2.2 hm hne
      omega
  · exact h
/-- rows of routes, each with those under it -/
abbrev Seg : Type := Rt × List Rt
def flat (s : List Seg) : List Rt := s.flatMap (fun x => x.1 :: x.2)
structure Good (s : List Seg) (six : Bool) : Prop where
  cov : ∀ x ∈ s, ∀ y ∈ x.2, coversB x.1.pf y.pf = true
  six : ∀ x ∈ s, x.1.pf.six = six
  ok : ∀ x ∈ s, okP x.1.pf = true
  up : s.Pairwise (fun x y => x.1.pf.n + 2 ^ kP x.1.pf ≤ y.1.pf.n)
theorem good_nil (six : Bool) : Good [] six := ⟨by simp, by simp, by simp, List.Pairwise.nil⟩
def hasR (six : Bool) (a : Nat) (r : Rt) : Bool := hasB r.pf six a
theorem filter_seg {x : Seg} {six : Bool} {a : Nat} (hc : ∀ y ∈ x.2, coversB x.1.pf y.pf = true) (h : hasB x.1.pf six a = false) : (x.1 :: x.2).filter (hasR six a) = [] := by
  rw [List.filter_eq_nil_iff]
  intro y hy
  rcases List.mem_cons.1 hy with rfl | hy
  · unfold hasR; rw [h]; simp
  · intro h2
    have := covers_has (hc y hy) (show hasB y.pf six a = true from h2)
    rw [h] at this
    cases this
theorem flat_none {s : List Seg} {six : Bool} {a : Nat} (hc : ∀ x ∈ s, ∀ y ∈ x.2, coversB x.1.pf y.pf = true) (h : ∀ x ∈ s, hasB x.1.pf six a = false) : (flat s).filter (hasR six a) = [] := by
  induction s with
  | nil => rfl
  | cons x s ih =>
    show ((x.1 :: x.2) ++ flat s).filter _ = _
    rw [List.filter_append, filter_seg (hc x List.mem_cons_self) (h x List.mem_cons_self), ih (fun y hy => hc y (List.mem_cons_of_mem _ hy)) (fun y hy => h y (List.mem_cons_of_mem _ hy))]
    rfl
/-- those of a row that do not begin behind an address are in front: k of them -/
def Cut (s : List Seg) (a k : Nat) : Prop := k ≤ s.length ∧ (∀ j (h : j < s.length), j < k → s[j].1.pf.n ≤ a) ∧ ∀ j (h : j < s.length), k ≤ j → a < s[j].1.pf.n
theorem over_none {s : List Seg} {six : Bool} {a k : Nat} (hg : Good s six) (hk : Cut s a k) (h : k = 0 ∨ ∀ h : k - 1 < s.length, hasB s[k - 1].1.pf six a = false) : (flat s).filter (hasR six a) = [] := by
  refine flat_none hg.cov (fun x hx => ?_)
  cases hb : hasB x.1.pf six a with
  | false => rfl
  | true =>
    exfalso
    obtain ⟨j, hj, rfl⟩ := List.getElem_of_mem hx
    obtain ⟨e1, e2, e3, e4⟩ := (has_iff (hg.ok _ hx) _ _).1 hb
    have hjk : j < k := by
      rcases Nat.lt_or_ge j k with h1 | h1
      · exact h1
      · have := hk.2.2 j hj h1; omega
    have hk1 : k - 1 < s.length := by have := hk.1; omega
    have hje : j = k - 1 := by
      rcases Nat.lt_or_ge j (k - 1) with h1 | h1
      · have h2 := List.pairwise_iff_getElem.1 hg.up j (k - 1) hj hk1 h1
        have h3 := hk.2.1 (k - 1) hk1 (by omega)
        omega
      · omega
    rcases h with h | h
    · omega
    · have h4 := h hk1
      subst hje
      rw [h4] at hb
      cases hb
theorem over_some {s : List Seg} {six : Bool} {a k : Nat} (hg : Good s six) (hk : Cut s a k) (h0 : 0 < k) (hk1 : k - 1 < s.length) (hb : hasB s[k - 1].1.pf six a = true) : (flat s).filter (hasR six a) = s[k - 1].1 :: s[k - 1].2.filter (hasR six a) := by
  have hsp : s = s.take (k - 1) ++ (s[k - 1] :: s.drop k) := by
    have := (List.take_append_drop (k - 1) s).symm
    rw [List.drop_eq_getElem_cons hk1, show k - 1 + 1 = k by omega] at this
    exact this
  have hfa : flat s = flat (s.take (k - 1)) ++ ((s[k - 1].1 :: s[k - 1].2) ++ flat (s.drop k)) := by
    have h1 : flat s = flat (s.take (k - 1) ++ (s[k - 1] :: s.drop k)) := congrArg flat hsp
    rw [h1]
    unfold flat
    rw [List.flatMap_append, List.flatMap_cons]
  obtain ⟨e1, e2, e3, e4⟩ := (has_iff (hg.ok _ (List.getElem_mem hk1)) _ _).1 hb
  rw [hfa, List.filter_append, List.filter_append, flat_none (s := s.take (k - 1)) (fun x hx => hg.cov x (List.mem_of_mem_take hx)) (fun x hx => ?_), flat_none (s := s.drop k) (fun x hx => hg.cov x (List.mem_of_mem_drop hx)) (fun x hx => ?_), List.nil_append, List.append_nil, List.filter_cons_of_pos (show hasR six a s[k - 1].1 = true from hb)]
  · cases hc : hasB x.1.pf six a with
    | false => rfl
    | true =>
      obtain ⟨j, hj, rfl⟩ := List.getElem_of_mem hx
      rw [List.length_drop] at hj
      rw [List.getElem_drop] at hc
      obtain ⟨f1, f2, f3, f4⟩ := (has_iff (hg.ok _ (List.getElem_mem _)) _ _).1 hc
      have := hk.2.2 (k + j) (by omega) (by omega)
      omega
  · cases hc : hasB x.1.pf six a with
    | false => rfl
    | true =>
      obtain ⟨j, hj, rfl⟩ := List.getElem_of_mem hx
      rw [List.length_take] at hj
      rw [List.getElem_take] at hc
      obtain ⟨f1, f2, f3, f4⟩ := (has_iff (hg.ok _ (List.getElem_mem _)) _ _).1 hc
      have := List.pairwise_iff_getElem.1 hg.up j (k - 1) (by omega) hk1 (by omega)
      omega
end Go.Proofs.Ytjgieaijdkmadaa.Tr
