/- Plain mathematics of prefixes: what lies between, what covers, the halves. -/
import Derived.Test.YtmkbijnndbgjgaaAddrMath
set_option linter.unusedVariables false
namespace Go.Proofs.Ytmkbijnndbgjgaa.Addr

theorem first_between {k n a : Nat} (h : n % 2 ^ k = 0) : firstN k a = n ↔ n ≤ a ∧ a ≤ n + freeN k := by
  have hp := Nat.two_pow_pos k
  unfold firstN freeN
  generalize 2 ^ k = q at *
  have h1 := Nat.div_add_mod a q
  have h2 := Nat.mod_lt a hp
  have h3 := Nat.div_add_mod n q
  constructor
  · intro he; omega
  · rintro ⟨ha, hb⟩
    have e1 : n / q = a / q := by
      apply Nat.le_antisymm
      · exact Nat.div_le_div_right ha
      · have : a / q < n / q + 1 := Nat.div_lt_of_lt_mul (by rw [Nat.mul_add]; omega)
        omega
    rw [e1] at h3
    omega
theorem okP_len {p : Pf} (h : okP p = true) : kP p ≤ wideN p.six ∧ p.len = (wideN p.six : Int) - (kP p : Int) := by
  have := (okP_iff.1 h).1
  unfold kP
  omega
theorem okP_zero {p : Pf} (h : okP p = true) : p.n % 2 ^ kP p = 0 := (okP_iff.1 h).2.2
theorem okP_lt {p : Pf} (h : okP p = true) : p.n < 2 ^ wideN p.six := (okP_iff.1 h).2.1
theorem mult_room {q r n : Nat} (h0 : n % q = 0) (hd : r % q = 0) (hq : 0 < q) (h : n < r) : n + q ≤ r := by
  have h1 := Nat.div_add_mod n q
  have h2 := Nat.div_add_mod r q
  have e : n / q < r / q := by
    apply Nat.lt_of_mul_lt_mul_left (a := q)
    omega
  have := Nat.mul_le_mul_left q (show n / q + 1 ≤ r / q from e)
  rw [Nat.mul_add] at this
  omega
theorem pow_mod (a b : Nat) (h : a ≤ b) : 2 ^ b % 2 ^ a = 0 := Nat.mod_eq_zero_of_dvd (Nat.pow_dvd_pow 2 h)
theorem last_lt {p : Pf} (h : okP p = true) : lastN p < 2 ^ wideN p.six := by
  have h1 := mult_room (okP_zero h) (pow_mod _ _ (okP_len h).1) (Nat.two_pow_pos _) (okP_lt h)
  have hp := Nat.two_pow_pos (kP p)
  unfold lastN freeN
  omega
theorem has_between {p : Pf} (h : okP p = true) (a : Nat) (ha : rightB p.six a = true) : hasB p p.six a = (decide (p.n ≤ a) && decide (a ≤ lastN p)) := by
  unfold hasB
  rw [h, ha]
  have := first_between (a := a) (okP_zero h)
  by_cases hc : firstN (kP p) a = p.n
  · have h2 := this.1 hc
    unfold lastN
    simp [hc, h2]
  · have h2 : ¬ (p.n ≤ a ∧ a ≤ lastN p) := fun hh => hc (this.2 hh)
    simp only [hc]
    simp
    intro h3
    omega
theorem cmp_le {n m : Nat} : decide (cmpN n m ≤ 0) = decide (n ≤ m) := by
  unfold cmpN
  split
  · simp; omega
  · split
    · subst n; simp
    · have : ¬ n ≤ m := by omega
      simp [this]
theorem has_other {p : Pf} (a : Nat) : hasB p (!p.six) a = false := by
  unfold hasB
  cases p.six <;> simp
theorem has_bad {p : Pf} (h : okP p = false) (six : Bool) (a : Nat) : hasB p six a = false := by unfold hasB; rw [h]; rfl
theorem has_wrong {p : Pf} {six : Bool} {a : Nat} (h : rightB six a = false) : hasB p six a = false := by unfold hasB; rw [h]; simp
theorem covers_bad1 {p q : Pf} (h : okP q = false) : coversB p q = false := by unfold coversB; rw [h]; rfl
theorem covers_bad2 {p q : Pf} (h : okP p = false) : coversB p q = false := by unfold coversB; rw [has_bad h]; simp
theorem covers_kind {p q : Pf} (h : q.six ≠ p.six) : coversB p q = false := by
  unfold coversB hasB
  rw [decide_eq_false (p := p.six = q.six) (fun hc => h hc.symm)]
  simp
theorem right_of {six : Bool} {n : Nat} (h : n < 2 ^ wideN six) : rightB six n = true := decide_eq_true h
theorem has_lift {p q : Pf} (hp : okP p = true) (hq : okP q = true) (hs : q.six = p.six) (hk : kP q ≤ kP p) (hc : firstN (kP p) q.n = p.n) : firstN (kP p) (lastN q) = p.n := by
  have b1 := (first_between (okP_zero hp)).1 hc
  apply (first_between (okP_zero hp)).2
  have z1 : p.n % 2 ^ kP q = 0 := by
    have := okP_zero hp
    exact Nat.mod_eq_zero_of_dvd (Nat.dvd_trans (Nat.pow_dvd_pow 2 hk) (Nat.dvd_of_mod_eq_zero this))
  have hpp := Nat.two_pow_pos (kP p)
  have hqq := Nat.two_pow_pos (kP q)
  have z2 : (p.n + 2 ^ kP p) % 2 ^ kP q = 0 := by rw [Nat.add_mod, z1, pow_mod _ _ hk]; simp
  have h1 := mult_room (okP_zero hq) z2 hqq (by unfold freeN at b1; omega)
  unfold lastN freeN at *
  omega
theorem has_len {p q : Pf} (hp : okP p = true) (hq : okP q = true) (hs : q.six = p.six) (h1 : firstN (kP p) q.n = p.n) (h2 : firstN (kP p) (lastN q) = p.n) : p.len ≤ q.len := by
  have b1 := (first_between (okP_zero hp)).1 h1
  have b2 := (first_between (okP_zero hp)).1 h2
  have e1 := (okP_len hp).2
  have e2 := (okP_len hq).2
  rw [hs] at e2
  apply Classical.byContradiction
  intro hn
  have hk : kP p < kP q := by omega
  have hlt : 2 ^ kP p < 2 ^ kP q := Nat.pow_lt_pow_right (by decide) hk
  have hpp := Nat.two_pow_pos (kP p)
  unfold lastN freeN at *
  omega
theorem covers_ends {p q : Pf} (hp : okP p = true) (hq : okP q = true) (hs : q.six = p.six) : coversB p q = (hasB p p.six q.n && hasB p p.six (lastN q)) := by
  have r1 : rightB p.six q.n = true := right_of (by have := okP_lt hq; rwa [hs] at this)
  have r2 : rightB p.six (lastN q) = true := right_of (by have := last_lt hq; rwa [hs] at this)
  unfold coversB hasB
  rw [hp, hq, hs, r1, r2]
  have e1 := okP_len hp
  have e2 := okP_len hq
  rw [hs] at e2
  by_cases hc : firstN (kP p) q.n = p.n
  · by_cases hl : firstN (kP p) (lastN q) = p.n
    · have := has_len hp hq hs hc hl
      simp [hc, hl, this]
    · have : ¬ p.len ≤ q.len := fun h => hl (has_lift hp hq hs (by omega) hc)
      simp [hc, hl, this]
  · simp [hc]
theorem covers_len {p q : Pf} (h : coversB p q = true) : p.len ≤ q.len := by
  unfold coversB at h
  simp only [Bool.and_eq_true, decide_eq_true_eq] at h
  exact h.2.1

/- ### halves -/
theorem halves_ok {p : Pf} (h : okP p = true) (hl : p.len ≠ (wideN p.six : Int)) : halvesE p = (⟨p.six, p.n, p.len + 1⟩, ⟨p.six, p.n + 2 ^ (kP p - 1), p.len + 1⟩, 0) := by
  unfold halvesE; rw [if_pos h, if_neg hl]
theorem half_facts {p : Pf} (h : okP p = true) (hl : p.len ≠ (wideN p.six : Int)) : 1 ≤ kP p ∧ (p.n % 2 ^ (kP p - 1) = 0) ∧ 2 ^ kP p = 2 ^ (kP p - 1) + 2 ^ (kP p - 1) ∧ p.n + 2 ^ kP p ≤ 2 ^ wideN p.six := by
  have e := okP_len h
  have h1 : 1 ≤ kP p := by omega
  refine ⟨h1, ?_, ?_, ?_⟩
  · exact Nat.mod_eq_zero_of_dvd (Nat.dvd_trans (Nat.pow_dvd_pow 2 (by omega)) (Nat.dvd_of_mod_eq_zero (okP_zero h)))
  · rw [← Nat.two_mul, show (2 : Nat) * 2 ^ (kP p - 1) = 2 ^ (kP p - 1 + 1) by rw [Nat.pow_succ, Nat.mul_comm], show kP p - 1 + 1 = kP p by omega]
  · exact mult_room (okP_zero h) (pow_mod _ _ e.1) (Nat.two_pow_pos _) (okP_lt h)
theorem half_k (p : Pf) (h : okP p = true) (hl : p.len ≠ (wideN p.six : Int)) (n : Nat) : kP ⟨p.six, n, p.len + 1⟩ = kP p - 1 := by
  have e := okP_len h
  have e0 := (okP_iff.1 h).1
  show wideN p.six - (p.len + 1).toNat = wideN p.six - p.len.toNat - 1
  omega
theorem half_lo_ok {p : Pf} (h : okP p = true) (hl : p.len ≠ (wideN p.six : Int)) : okP ⟨p.six, p.n, p.len + 1⟩ = true := by
  have f := half_facts h hl
  have e0 := (okP_iff.1 h)
  have ek := half_k p h hl p.n
  refine okP_iff.2 ⟨by show 0 ≤ p.len + 1 ∧ p.len + 1 ≤ (wideN p.six : Int); omega, e0.2.1, ?_⟩
  show p.n % 2 ^ (kP ⟨p.six, p.n, p.len + 1⟩) = 0
  rw [ek]; exact f.2.1
theorem half_hi_ok {p : Pf} (h : okP p = true) (hl : p.len ≠ (wideN p.six : Int)) : okP ⟨p.six, p.n + 2 ^ (kP p - 1), p.len + 1⟩ = true := by
  have f := half_facts h hl
  have e0 := (okP_iff.1 h)
  have ek := half_k p h hl (p.n + 2 ^ (kP p - 1))
  have hp := Nat.two_pow_pos (kP p - 1)
  refine okP_iff.2 ⟨by show 0 ≤ p.len + 1 ∧ p.len + 1 ≤ (wideN p.six : Int); omega, by show p.n + 2 ^ (kP p - 1) < 2 ^ wideN p.six; omega, ?_⟩
  show (p.n + 2 ^ (kP p - 1)) % 2 ^ (kP ⟨p.six, p.n + 2 ^ (kP p - 1), p.len + 1⟩) = 0
  rw [ek, Nat.add_mod, f.2.1, Nat.mod_self]; rfl
theorem half_last {p : Pf} (h : okP p = true) (hl : p.len ≠ (wideN p.six : Int)) : lastN ⟨p.six, p.n, p.len + 1⟩ + 1 = p.n + 2 ^ (kP p - 1) ∧ lastN ⟨p.six, p.n + 2 ^ (kP p - 1), p.len + 1⟩ = lastN p := by
  have f := half_facts h hl
  have hp := Nat.two_pow_pos (kP p - 1)
  unfold lastN
  rw [half_k p h hl, half_k p h hl]
  unfold freeN
  simp only
  omega
theorem half_has {p : Pf} (h : okP p = true) (hl : p.len ≠ (wideN p.six : Int)) (a : Nat) :
    hasB p p.six a = (hasB ⟨p.six, p.n, p.len + 1⟩ p.six a || hasB ⟨p.six, p.n + 2 ^ (kP p - 1), p.len + 1⟩ p.six a) ∧ (hasB ⟨p.six, p.n, p.len + 1⟩ p.six a && hasB ⟨p.six, p.n + 2 ^ (kP p - 1), p.len + 1⟩ p.six a) = false := by
  have l := half_last h hl
  have f := half_facts h hl
  have hp := Nat.two_pow_pos (kP p - 1)
  cases hr : rightB p.six a
  · rw [has_wrong hr, has_wrong hr, has_wrong hr]; exact ⟨rfl, rfl⟩
  · have e1 := has_between h a hr
    have e2 := has_between (half_lo_ok h hl) a hr
    have e3 := has_between (half_hi_ok h hl) a hr
    simp only at e2 e3
    rw [e1, e2, e3]
    have l2 := l.2
    rw [l2]
    have l1 := l.1
    have l3 : lastN p = p.n + (2 ^ kP p - 1) := rfl
    generalize lastN ⟨p.six, p.n, p.len + 1⟩ = L1 at *
    generalize lastN p = L at *
    rw [f.2.2.1] at l3
    generalize 2 ^ (kP p - 1) = q at *
    constructor
    · by_cases c1 : p.n ≤ a
      · by_cases c2 : a ≤ L
        · by_cases c3 : a ≤ L1
          · simp [c1, c2, c3]
          · have : p.n + q ≤ a := by omega
            simp [c1, c2, c3, this]
        · have : ¬ a ≤ L1 := by omega
          simp [c2, this]
      · have : ¬ p.n + q ≤ a := by omega
        simp [c1, this]
    · by_cases c3 : a ≤ L1
      · have : ¬ p.n + q ≤ a := by omega
        simp [this]
      · simp [c3]
theorem last_eq_iff {p : Pf} (h : okP p = true) : lastN p = p.n ↔ p.len = (wideN p.six : Int) := by
  have e := okP_len h
  unfold lastN freeN
  have hp := Nat.two_pow_pos (kP p)
  constructor
  · intro hh
    have h1 : 2 ^ kP p = 1 := by omega
    have h0 : kP p = 0 := by
      apply Classical.byContradiction
      intro hn
      have : 2 ^ 1 ≤ 2 ^ kP p := Nat.pow_le_pow_right (by decide) (by omega)
      omega
    omega
  · intro hh
    have : kP p = 0 := by omega
    rw [this]; rfl
theorem half_first {p : Pf} (h : okP p = true) (hl : p.len ≠ (wideN p.six : Int)) : firstN (kP p - 1) (lastN p) = p.n + 2 ^ (kP p - 1) := by
  have f := half_facts h hl
  have hp := Nat.two_pow_pos (kP p - 1)
  apply (first_between (by rw [Nat.add_mod, f.2.1, Nat.mod_self]; rfl)).2
  unfold lastN freeN
  omega
end Go.Proofs.Ytmkbijnndbgjgaa.Addr
