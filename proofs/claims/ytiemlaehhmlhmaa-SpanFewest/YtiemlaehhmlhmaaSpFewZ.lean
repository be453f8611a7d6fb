/- What the law of the fewest prefixes asks, of prefE. -/
import Derived.Test.YtiemlaehhmlhmaaSpPref
set_option linter.unusedVariables false
namespace Go.Proofs.Ytiemlaehhmlhmaa.Sp
open Go.RowKit
open Go.Proofs.Ytiemlaehhmlhmaa.Addr (Pf okP okP_iff lastN freeN kP wideN rightB)
def pfK (six : Bool) (k n : Nat) : Pf := ⟨six, n, (wideN six : Int) - (k : Int)⟩
def covB (k n : Nat) (s : Sp) : Bool := decide (s.1 ≤ n) && decide (n + 2 ^ k ≤ s.2 + 1)
def metB (k n : Nat) (s : Sp) : Bool := decide (s.1 < n + 2 ^ k) && decide (n ≤ s.2)
theorem cov_iff {k n : Nat} {s : Sp} : covB k n s = true ↔ s.1 ≤ n ∧ n + 2 ^ k ≤ s.2 + 1 := by unfold covB; simp
theorem met_iff {k n : Nat} {s : Sp} : metB k n s = true ↔ s.1 < n + 2 ^ k ∧ n ≤ s.2 := by unfold metB; simp
theorem cov_met {k n : Nat} {s : Sp} (h : covB k n s = true) : metB k n s = true := by
  have := cov_iff.1 h
  have := Nat.two_pow_pos k
  exact met_iff.2 ⟨by omega, by omega⟩
def WL (six : Bool) (l : List Sp) : Nat → Nat → List Pf
  | 0, n => if l.any (covB 0 n) then [pfK six 0 n] else []
  | k + 1, n => if l.any (covB (k + 1) n) then [pfK six (k + 1) n] else (if l.any (metB (k + 1) n) then WL six l k n ++ WL six l k (n + 2 ^ k) else [])
theorem wl_cov {six : Bool} {l : List Sp} {k n : Nat} (h : l.any (covB k n) = true) : WL six l k n = [pfK six k n] := by
  cases k <;> (unfold WL; rw [if_pos h])
theorem wl_off {six : Bool} {l : List Sp} {k n : Nat} (h : l.any (metB k n) = false) : WL six l k n = [] := by
  have hc : l.any (covB k n) = false := by
    rw [List.any_eq_false] at h ⊢
    intro s hs hc
    exact h s hs (cov_met hc)
  cases k
  · unfold WL; rw [hc]; rfl
  · unfold WL; rw [hc, h]; rfl
theorem wl_two {six : Bool} {l : List Sp} {k n : Nat} (h : l.any (covB (k + 1) n) = false) : WL six l (k + 1) n = WL six l k n ++ WL six l k (n + 2 ^ k) := by
  cases hm : l.any (metB (k + 1) n)
  · rw [wl_off hm]
    have e : (2 : Nat) ^ (k + 1) = 2 ^ k + 2 ^ k := by rw [Nat.pow_succ]; omega
    have hpos := Nat.two_pow_pos k
    rw [List.any_eq_false] at hm
    have h1 : l.any (metB k n) = false := by
      rw [List.any_eq_false]; intro s hs h2
      have := met_iff.1 h2
      exact hm s hs (met_iff.2 ⟨by omega, this.2⟩)
    have h2 : l.any (metB k (n + 2 ^ k)) = false := by
      rw [List.any_eq_false]; intro s hs h2
      have := met_iff.1 h2
      exact hm s hs (met_iff.2 ⟨by omega, by omega⟩)
    rw [wl_off h1, wl_off h2]; rfl
  · conv => lhs; unfold WL
    rw [h, hm]; rfl
theorem flat_two {α β : Type} (L R : α → List β) (l : List α) (h : l.Pairwise (fun s s' => R s = [] ∨ L s' = [])) : l.flatMap (fun s => L s ++ R s) = l.flatMap L ++ l.flatMap R := by
  induction l with
  | nil => rfl
  | cons s l ih =>
    have hp := List.pairwise_cons.1 h
    rw [List.flatMap_cons, List.flatMap_cons, List.flatMap_cons, ih hp.2]
    by_cases hr : R s = []
    · rw [hr]; simp
    · have hl : l.flatMap L = [] := List.flatMap_eq_nil_iff.2 fun s' hs' => by
        rcases hp.1 s' hs' with h1 | h1
        · exact absurd h1 hr
        · exact h1
      rw [hl]; simp
theorem flat_congr {α β : Type} {f g : α → List β} (l : List α) (h : ∀ s ∈ l, f s = g s) : l.flatMap f = l.flatMap g := by
  induction l with
  | nil => rfl
  | cons s l ih => rw [List.flatMap_cons, List.flatMap_cons, h s List.mem_cons_self, ih (fun t ht => h t (List.mem_cons_of_mem _ ht))]
theorem any_one (f : Sp → Bool) (s : Sp) : [s].any f = f s := by simp
/-- span by span -/
theorem wl_flat {six : Bool} {l : List Sp} (hl : l.Pairwise (fun r s => r.2 + 1 < s.1)) (hs : ∀ s ∈ l, s.1 ≤ s.2) : ∀ k n, WL six l k n = l.flatMap (fun s => WL six [s] k n) := by
  intro k
  induction k with
  | zero =>
    intro n
    cases hc : l.any (covB 0 n)
    · have h0 : l.any (metB 0 n) = false := by
        rw [List.any_eq_false] at hc ⊢
        intro s hs2 h2
        have := met_iff.1 h2
        exact hc s hs2 (cov_iff.2 ⟨by omega, by omega⟩)
      rw [wl_off h0, Eq.comm, List.flatMap_eq_nil_iff]
      intro s hs2
      exact wl_off (by rw [any_one]; rw [List.any_eq_false] at h0; simpa using h0 s hs2)
    · rw [wl_cov hc]
      obtain ⟨s0, hm, h0⟩ := List.any_eq_true.1 hc
      obtain ⟨A, B, e⟩ := List.append_of_mem hm
      have hc0 := cov_iff.1 h0
      rw [e] at hl
      have hp := List.pairwise_append.1 hl
      have hpb := List.pairwise_cons.1 hp.2.1
      have hA : A.flatMap (fun s => WL six [s] 0 n) = [] := List.flatMap_eq_nil_iff.2 fun s hs2 => wl_off (by
        have := hp.2.2 s hs2 s0 List.mem_cons_self
        rw [any_one, ← Bool.not_eq_true, met_iff]; omega)
      have hB : B.flatMap (fun s => WL six [s] 0 n) = [] := List.flatMap_eq_nil_iff.2 fun s hs2 => wl_off (by
        have := hpb.1 s hs2
        rw [any_one, ← Bool.not_eq_true, met_iff]; omega)
      rw [e, List.flatMap_append, List.flatMap_cons, hA, hB, wl_cov (by rw [any_one]; exact h0)]; rfl
  | succ k ih =>
    intro n
    have e2 : (2 : Nat) ^ (k + 1) = 2 ^ k + 2 ^ k := by rw [Nat.pow_succ]; omega
    have hpos := Nat.two_pow_pos k
    cases hc : l.any (covB (k + 1) n)
    · rw [wl_two hc, ih, ih, ← flat_two]
      · rw [List.any_eq_false] at hc
        refine flat_congr l fun s hs2 => ?_
        rw [wl_two (by rw [any_one]; simpa using hc s hs2)]
      · refine List.Pairwise.imp_of_mem (fun {s s'} h1 h2 h3 => ?_) hl
        cases hm : metB k (n + 2 ^ k) s
        · exact .inl (wl_off (by rw [any_one]; exact hm))
        · refine .inr (wl_off ?_)
          have := met_iff.1 hm
          rw [any_one, ← Bool.not_eq_true, met_iff]; omega
    · rw [wl_cov hc]
      obtain ⟨s0, hm, h0⟩ := List.any_eq_true.1 hc
      obtain ⟨A, B, e⟩ := List.append_of_mem hm
      have hc0 := cov_iff.1 h0
      rw [e] at hl
      have hp := List.pairwise_append.1 hl
      have hpb := List.pairwise_cons.1 hp.2.1
      have hA : A.flatMap (fun s => WL six [s] (k + 1) n) = [] := List.flatMap_eq_nil_iff.2 fun s hs2 => wl_off (by
        have := hp.2.2 s hs2 s0 List.mem_cons_self
        rw [any_one, ← Bool.not_eq_true, met_iff]; omega)
      have hB : B.flatMap (fun s => WL six [s] (k + 1) n) = [] := List.flatMap_eq_nil_iff.2 fun s hs2 => wl_off (by
        have := hpb.1 s hs2
        rw [any_one, ← Bool.not_eq_true, met_iff]; omega)
      rw [e, List.flatMap_append, List.flatMap_cons, hA, hB, wl_cov (by rw [any_one]; exact h0)]; rfl
/-- where a span begins ahead of a block matters not -/
theorem wl_empty {six : Bool} {f t : Nat} (h : t < f) : ∀ k n, WL six [(f, t)] k n = [] := by
  have hcov : ∀ k n, covB k n (f, t) = false := fun k n => by
    rw [← Bool.not_eq_true, cov_iff]
    have := Nat.two_pow_pos k
    simp only; omega
  intro k
  induction k with
  | zero => intro n; unfold WL; rw [any_one, hcov]; rfl
  | succ k ih => intro n; rw [wl_two (by rw [any_one]; exact hcov _ _), ih, ih]; rfl
theorem wl_same {six : Bool} {f f' t : Nat} : ∀ k n, f ≤ n → f' ≤ n → WL six [(f, t)] k n = WL six [(f', t)] k n := by
  intro k
  have hcov : ∀ k n, f ≤ n → f' ≤ n → covB k n (f, t) = covB k n (f', t) := fun k n h1 h2 => by
    unfold covB; rw [decide_eq_true h1, decide_eq_true h2]
  induction k with
  | zero => intro n h1 h2; unfold WL; rw [any_one, any_one, hcov 0 n h1 h2]
  | succ k ih =>
    intro n h1 h2
    have hpos := Nat.two_pow_pos k
    cases hc : covB (k + 1) n (f, t)
    · rw [wl_two (by rw [any_one]; exact hc), wl_two (by rw [any_one, ← hcov (k + 1) n h1 h2]; exact hc), ih n h1 h2, ih (n + 2 ^ k) (by omega) (by omega)]
    · rw [wl_cov (by rw [any_one]; exact hc), wl_cov (by rw [any_one, ← hcov (k + 1) n h1 h2]; exact hc)]
/-- the first of a span's, and what is left -/
theorem wl_first {six : Bool} {f t : Nat} (hft : f ≤ t) : ∀ k n, n % 2 ^ k = 0 → n ≤ f → f < n + 2 ^ k → ∃ j, j ≤ k ∧ f % 2 ^ j = 0 ∧ f + 2 ^ j ≤ t + 1 ∧ f + 2 ^ j ≤ n + 2 ^ k ∧ (∀ i, j < i → i ≤ k → f % 2 ^ i = 0 → ¬ f + 2 ^ i ≤ t + 1) ∧ WL six [(f, t)] k n = pfK six j f :: WL six [(f + 2 ^ j, t)] k n := by
  intro k
  induction k with
  | zero =>
    intro n hn h1 h2
    have e : f = n := by simp at h2; omega
    subst e
    refine ⟨0, Nat.le_refl _, hn, by simpa using hft, Nat.le_refl _, fun i h3 h4 => by omega, ?_⟩
    rw [wl_cov (by rw [any_one]; exact cov_iff.2 ⟨Nat.le_refl _, by simpa using hft⟩), wl_off (by rw [any_one, ← Bool.not_eq_true, met_iff]; simp)]
  | succ k ih =>
    intro n hn h1 h2
    have e2 : (2 : Nat) ^ (k + 1) = 2 ^ k + 2 ^ k := by rw [Nat.pow_succ]; omega
    have hpos := Nat.two_pow_pos k
    have hnk : n % 2 ^ k = 0 := Nat.mod_eq_zero_of_dvd (Nat.dvd_trans (Nat.pow_dvd_pow 2 (Nat.le_succ k)) (Nat.dvd_of_mod_eq_zero hn))
    cases hc : covB (k + 1) n (f, t)
    · have hnc : ¬ (f ≤ n ∧ n + 2 ^ (k + 1) ≤ t + 1) := fun h => by rw [cov_iff.2 h] at hc; cases hc
      have hmax : f % 2 ^ (k + 1) = 0 → ¬ f + 2 ^ (k + 1) ≤ t + 1 := fun h3 h4 => by
        obtain ⟨c, hcc⟩ := Nat.dvd_of_mod_eq_zero h3
        obtain ⟨d, hd⟩ := Nat.dvd_of_mod_eq_zero hn
        have : c = d := by
          rw [hcc, hd] at h1 h2
          have h5 : d ≤ c := Nat.le_of_mul_le_mul_left h1 (Nat.two_pow_pos _)
          have h6 : c < d + 1 := by
            rw [← Nat.mul_succ] at h2
            exact Nat.lt_of_mul_lt_mul_left h2
          omega
        subst this
        exact hnc ⟨by omega, by omega⟩
      rw [wl_two (by rw [any_one]; exact hc)]
      have hrest : ∀ j, 0 < 2 ^ j → WL six [(f + 2 ^ j, t)] (k + 1) n = WL six [(f + 2 ^ j, t)] k n ++ WL six [(f + 2 ^ j, t)] k (n + 2 ^ k) := fun j hj => wl_two (by rw [any_one, ← Bool.not_eq_true, cov_iff]; simp only; omega)
      by_cases hf : f < n + 2 ^ k
      · obtain ⟨j, j1, j2, j3, j4, j5, j6⟩ := ih n hnk h1 hf
        refine ⟨j, by omega, j2, j3, by omega, fun i h3 h4 h5 => ?_, ?_⟩
        · by_cases hi : i = k + 1
          · subst hi; exact hmax h5
          · exact j5 i h3 (by omega) h5
        · rw [hrest j (Nat.two_pow_pos j), j6, List.cons_append, wl_same (f := f) (f' := f + 2 ^ j) k (n + 2 ^ k) (by omega) (by omega)]
      · have hn2 : (n + 2 ^ k) % 2 ^ k = 0 := by rw [Nat.add_mod_right]; exact hnk
        obtain ⟨j, j1, j2, j3, j4, j5, j6⟩ := ih (n + 2 ^ k) hn2 (by omega) (by omega)
        refine ⟨j, by omega, j2, j3, by omega, fun i h3 h4 h5 => ?_, ?_⟩
        · by_cases hi : i = k + 1
          · subst hi; exact hmax h5
          · exact j5 i h3 (by omega) h5
        · have hl0 : WL six [(f, t)] k n = [] := wl_off (by rw [any_one, ← Bool.not_eq_true, met_iff]; simp only; omega)
          have hl1 : WL six [(f + 2 ^ j, t)] k n = [] := wl_off (by rw [any_one, ← Bool.not_eq_true, met_iff]; simp only; have := Nat.two_pow_pos j; omega)
          rw [hrest j (Nat.two_pow_pos j), hl0, hl1, List.nil_append, List.nil_append, j6]
    · have hcc := cov_iff.1 hc
      have e : f = n := by have := hcc.1; simp only at this; omega
      subst e
      refine ⟨k + 1, Nat.le_refl _, hn, hcc.2, Nat.le_refl _, fun i h3 h4 => by omega, ?_⟩
      rw [wl_cov (by rw [any_one]; exact hc), wl_off (by rw [any_one, ← Bool.not_eq_true, met_iff]; simp only; have := Nat.two_pow_pos (k + 1); omega)]
theorem wid_of {six : Bool} {f t j : Nat} (hft : f ≤ t) (ht : t ≤ topN six) (hj : j ≤ wideN six) (h1 : f % 2 ^ j = 0) (h2 : f + 2 ^ j ≤ t + 1) (h3 : ∀ i, j < i → i ≤ wideN six → f % 2 ^ i = 0 → ¬ f + 2 ^ i ≤ t + 1) : wid six f t = wideN six - j ∧ lastN ⟨six, f, (wid six f t : Int)⟩ + 1 = f + 2 ^ j := by
  have hp := Nat.two_pow_pos (wideN six)
  have hkp : ∀ i, i ≤ wideN six → kP ⟨six, f, ((wideN six - i : Nat) : Int)⟩ = i := fun i hi => by unfold kP; simp only [Int.toNat_natCast]; omega
  have hft2 : f < 2 ^ wideN six := by unfold topN at ht; omega
  have hw : wid six f t = wideN six - j := by
    refine wid_at (by omega) ?_ (fun i hi => ?_)
    · unfold wT
      rw [Bool.and_eq_true, decide_eq_true_iff]
      refine ⟨okP_iff.2 ⟨⟨by simp only; omega, by simp only; omega⟩, hft2, ?_⟩, ?_⟩
      · have := hkp j hj; unfold kP at this; rw [this]; exact h1
      · unfold lastN freeN; rw [hkp j hj]; have := Nat.two_pow_pos j; simp only; omega
    · rw [← Bool.not_eq_true]
      intro hT
      unfold wT at hT
      rw [Bool.and_eq_true, decide_eq_true_iff] at hT
      have hi2 : i = wideN six - (wideN six - i) := by omega
      rw [hi2] at hT
      have hok := (okP_iff.1 hT.1).2.2
      have hk2 := hkp (wideN six - i) (by omega)
      unfold kP at hk2
      rw [hk2] at hok
      have hlast := hT.2
      unfold lastN freeN at hlast
      rw [hkp (wideN six - i) (by omega)] at hlast
      have := Nat.two_pow_pos (wideN six - i)
      exact h3 (wideN six - i) (by omega) (by omega) hok (by simp only at hlast; omega)
  refine ⟨hw, ?_⟩
  rw [hw]
  unfold lastN freeN
  rw [hkp j hj]
  have := Nat.two_pow_pos j
  simp only; omega
theorem prefS_take {six : Bool} {t : Nat} (ht : t ≤ topN six) : ∀ fuel f, f ≤ t → prefS six fuel f t = (WL six [(f, t)] (wideN six) 0).take fuel := by
  intro fuel
  induction fuel with
  | zero => intro f _; rfl
  | succ fuel ih =>
    intro f hft
    have hp := Nat.two_pow_pos (wideN six)
    obtain ⟨j, j1, j2, j3, j4, j5, j6⟩ := wl_first (six := six) hft (wideN six) 0 (Nat.zero_mod _) (Nat.zero_le _) (by unfold topN at ht; omega)
    obtain ⟨w1, w2⟩ := wid_of hft ht j1 j2 j3 j5
    have hpf : (⟨six, f, (wid six f t : Int)⟩ : Pf) = pfK six j f := by
      rw [w1]; unfold pfK
      rw [show ((wideN six - j : Nat) : Int) = (wideN six : Int) - (j : Int) by omega]
    rw [j6, List.take_succ_cons, ← hpf]
    show ⟨six, f, (wid six f t : Int)⟩ :: (if lastN ⟨six, f, (wid six f t : Int)⟩ = t then [] else prefS six fuel (lastN ⟨six, f, (wid six f t : Int)⟩ + 1) t) = _
    congr 1
    by_cases hl : lastN ⟨six, f, (wid six f t : Int)⟩ = t
    · rw [if_pos hl, wl_empty (by omega)]; simp
    · rw [if_neg hl, ih _ (by omega), w2]
theorem take_flat {α β : Type} (F : α → List β) (c : Nat) (l : List α) : (l.flatMap (fun s => (F s).take c)).length ≤ (l.flatMap F).length ∧ ((l.flatMap (fun s => (F s).take c)).length < c → l.flatMap (fun s => (F s).take c) = l.flatMap F) := by
  induction l with
  | nil => exact ⟨Nat.le_refl _, fun _ => rfl⟩
  | cons s l ih =>
    rw [List.flatMap_cons, List.flatMap_cons, List.length_append, List.length_append, List.length_take]
    refine ⟨by have := ih.1; omega, fun h => ?_⟩
    rw [ih.2 (by omega), List.take_of_length_le (by omega)]
theorem prefL_WL {six : Bool} {l : List Sp} (h : Row six l) : (prefL six l).length ≤ (WL six l (wideN six) 0).length ∧ ((prefL six l).length ≤ 4096 → prefL six l = WL six l (wideN six) 0) := by
  have hs : ∀ s ∈ l, s.1 ≤ s.2 := fun s hs => (okS_iff.1 (h.1 s hs)).1
  have e : prefL six l = l.flatMap (fun s => (WL six [s] (wideN six) 0).take 4097) := by
    unfold prefL
    exact flat_congr l fun s hs2 => prefS_take (okS_iff.1 (h.1 s hs2)).2 4097 s.1 (hs s hs2)
  rw [wl_flat h.2 hs, e]
  have := take_flat (fun s => WL six [s] (wideN six) 0) 4097 l
  exact ⟨this.1, fun h2 => this.2 (by omega)⟩
theorem prefE_WL {six : Bool} {l : List Sp} : prefE six l = if okB six l then (if 4096 < (WL six l (wideN six) 0).length then ([], 11) else (WL six l (wideN six) 0, 0)) else ([], 2) := by
  unfold prefE
  cases hok : okB six l
  · rfl
  · obtain ⟨h1, h2⟩ := prefL_WL (okB_iff.1 hok).2
    simp only [if_true]
    by_cases hl : 4096 < (prefL six l).length
    · rw [if_pos hl, if_pos (by omega)]
    · have e := h2 (by omega)
      rw [if_neg hl, if_neg (by rw [← e]; exact hl), e]
/-- as many as are put, where no more than a bound are wanted -/
def docW (six : Bool) (l : List Sp) : Nat → Nat → List Pf → List Pf
  | 0, n, out => if l.any (covB 0 n) then out ++ [pfK six 0 n] else out
  | k + 1, n, out => if l.any (covB (k + 1) n) then out ++ [pfK six (k + 1) n] else (if l.any (metB (k + 1) n) && decide (out.length ≤ 4096) then docW six l k (n + 2 ^ k) (docW six l k n out) else out)
theorem docW_is (six : Bool) (l : List Sp) : ∀ k n out, ((docW six l k n out).length ≤ 4096 → docW six l k n out = out ++ WL six l k n) ∧ (4096 < (docW six l k n out).length → 4096 < out.length + (WL six l k n).length) ∧ (4096 < out.length → (docW six l k n out).length ≤ out.length + 1) ∧ (out.length ≤ 4096 → (docW six l k n out).length ≤ 4097 + k) ∧ out.length ≤ (docW six l k n out).length := by
  intro k
  have hcov : ∀ k n out, l.any (covB k n) = true → docW six l k n out = out ++ WL six l k n := fun k n out h => by
    rw [wl_cov h]
    cases k <;> (unfold docW; rw [if_pos h])
  have one : ∀ k n (out : List Pf), l.any (covB k n) = true → (out ++ WL six l k n).length = out.length + 1 := fun k n out h => by rw [wl_cov h, List.length_append]; rfl
  induction k with
  | zero =>
    intro n out
    cases hc : l.any (covB 0 n)
    · have e : docW six l 0 n out = out := by unfold docW; rw [hc]; rfl
      have e2 : WL six l 0 n = [] := by unfold WL; rw [hc]; rfl
      rw [e, e2]
      exact ⟨fun _ => by simp, fun h => by simpa using h, fun _ => by omega, fun _ => by omega, Nat.le_refl _⟩
    · have h1 := one 0 n out hc
      rw [hcov 0 n out hc]
      exact ⟨fun _ => rfl, fun h => by rw [List.length_append] at h; exact h, fun _ => by omega, fun _ => by omega, by omega⟩
  | succ k ih =>
    intro n out
    cases hc : l.any (covB (k + 1) n)
    · cases hm : l.any (metB (k + 1) n)
      · have e : docW six l (k + 1) n out = out := by unfold docW; rw [hc, hm]; rfl
        rw [e, wl_off hm]
        exact ⟨fun _ => by simp, fun h => by simpa using h, fun _ => by omega, fun _ => by omega, Nat.le_refl _⟩
      · by_cases ho : out.length ≤ 4096
        · have e : docW six l (k + 1) n out = docW six l k (n + 2 ^ k) (docW six l k n out) := by
            conv => lhs; unfold docW
            rw [hc, hm, decide_eq_true ho]; rfl
          obtain ⟨a1, a2, a3, a4, a5⟩ := ih n out
          obtain ⟨b1, b2, b3, b4, b5⟩ := ih (n + 2 ^ k) (docW six l k n out)
          rw [e, wl_two hc, List.length_append]
          refine ⟨fun h => ?_, fun h => ?_, fun h => by omega, fun _ => ?_, by omega⟩
          · rw [b1 h, a1 (by omega), List.append_assoc]
          · by_cases hx : (docW six l k n out).length ≤ 4096
            · have := b2 h
              rw [a1 hx, List.length_append] at this
              omega
            · have := a2 (by omega)
              omega
          · have := a4 ho
            by_cases hx : (docW six l k n out).length ≤ 4096
            · have := b4 hx; omega
            · have := b3 (by omega); omega
        · have e : docW six l (k + 1) n out = out := by
            conv => lhs; unfold docW
            rw [hc, hm, decide_eq_false ho]; rfl
          rw [e]
          exact ⟨fun h => absurd h ho, fun h => by omega, fun _ => by omega, fun _ => by omega, Nat.le_refl _⟩
    · have h1 := one (k + 1) n out hc
      rw [hcov (k + 1) n out hc]
      exact ⟨fun _ => rfl, fun h => by rw [List.length_append] at h; exact h, fun _ => by omega, fun _ => by omega, by omega⟩
end Go.Proofs.Ytiemlaehhmlhmaa.Sp
namespace Go.Proofs.Ytiemlaehhmlhmaa.Sp
open Go.RowKit
open Go.Proofs.Ytiemlaehhmlhmaa.Addr (Pf okP okP_iff lastN freeN kP firstN hasB coversB wideN wideN_le rightB)
def spP (p : Pf) : Sp := (p.n, lastN p)
theorem last_pfK {six : Bool} {k n : Nat} (hk : k ≤ wideN six) : lastN (pfK six k n) + 1 = n + 2 ^ k := by
  have hp := Nat.two_pow_pos k
  have e : kP (pfK six k n) = k := by unfold kP pfK; simp only; omega
  unfold lastN freeN; rw [e]; show n + _ + 1 = _; omega
theorem ok_pfK {six : Bool} {k n : Nat} (hk : k ≤ wideN six) (h1 : n % 2 ^ k = 0) (h2 : n + 2 ^ k ≤ 2 ^ wideN six) : okP (pfK six k n) = true := by
  have hp := Nat.two_pow_pos k
  have e : kP (pfK six k n) = k := by unfold kP pfK; simp only; omega
  unfold kP at e
  refine okP_iff.2 ⟨⟨by unfold pfK; simp only; omega, by unfold pfK; simp only; omega⟩, by show n < 2 ^ wideN six; omega, ?_⟩
  rw [e]; exact h1
theorem mod_half {n k : Nat} (h : n % 2 ^ (k + 1) = 0) : n % 2 ^ k = 0 := Nat.mod_eq_zero_of_dvd (Nat.dvd_trans (Nat.pow_dvd_pow 2 (Nat.le_succ k)) (Nat.dvd_of_mod_eq_zero h))
theorem mem_WL {six : Bool} {l : List Sp} : ∀ k n (p : Pf), n % 2 ^ k = 0 → p ∈ WL six l k n → ∃ j m, j ≤ k ∧ p = pfK six j m ∧ m % 2 ^ j = 0 ∧ n ≤ m ∧ m + 2 ^ j ≤ n + 2 ^ k ∧ l.any (covB j m) = true ∧ (j < k → m % 2 ^ (j + 1) = 0 → l.any (covB (j + 1) m) = false) := by
  intro k
  induction k with
  | zero =>
    intro n p hn hp
    cases hc : l.any (covB 0 n)
    · unfold WL at hp; rw [hc] at hp; simp at hp
    · rw [wl_cov hc, List.mem_singleton] at hp
      exact ⟨0, n, Nat.le_refl _, hp, hn, Nat.le_refl _, Nat.le_refl _, hc, fun h => absurd h (Nat.lt_irrefl _)⟩
  | succ k ih =>
    intro n p hn hp
    have e2 : (2 : Nat) ^ (k + 1) = 2 ^ k + 2 ^ k := by rw [Nat.pow_succ]; omega
    have hpos := Nat.two_pow_pos k
    have hnk := mod_half hn
    cases hc : l.any (covB (k + 1) n)
    · rw [wl_two hc, List.mem_append] at hp
      rcases hp with hp | hp
      · obtain ⟨j, m, h1, h2, h3, h4, h5, h6, h7⟩ := ih n p hnk hp
        refine ⟨j, m, by omega, h2, h3, h4, by omega, h6, fun hj hm => ?_⟩
        by_cases hjk : j < k
        · exact h7 hjk hm
        · obtain rfl : j = k := by omega
          obtain rfl : m = n := by omega
          exact hc
      · obtain ⟨j, m, h1, h2, h3, h4, h5, h6, h7⟩ := ih (n + 2 ^ k) p (by rw [Nat.add_mod_right]; exact hnk) hp
        refine ⟨j, m, by omega, h2, h3, by omega, by omega, h6, fun hj hm => ?_⟩
        by_cases hjk : j < k
        · exact h7 hjk hm
        · obtain rfl : j = k := by omega
          obtain rfl : m = n + 2 ^ j := by omega
          rw [Nat.add_mod, hn, Nat.zero_add, Nat.mod_mod, Nat.mod_eq_of_lt (by omega)] at hm
          omega
    · rw [wl_cov hc, List.mem_singleton] at hp
      exact ⟨k + 1, n, Nat.le_refl _, hp, hn, Nat.le_refl _, Nat.le_refl _, hc, fun h => absurd h (Nat.lt_irrefl _)⟩
theorem pair_WL {six : Bool} {l : List Sp} : ∀ k n, k ≤ wideN six → n % 2 ^ k = 0 → (WL six l k n).Pairwise (fun p q => lastN p < q.n) := by
  intro k
  induction k with
  | zero =>
    intro n _ hn
    unfold WL
    cases l.any (covB 0 n) <;> simp
  | succ k ih =>
    intro n hk hn
    have hnk := mod_half hn
    cases hc : l.any (covB (k + 1) n)
    · rw [wl_two hc, List.pairwise_append]
      refine ⟨ih n (by omega) hnk, ih (n + 2 ^ k) (by omega) (by rw [Nat.add_mod_right]; exact hnk), fun p hp q hq => ?_⟩
      obtain ⟨j, m, h1, rfl, h3, h4, h5, _⟩ := mem_WL k n p hnk hp
      obtain ⟨j2, m2, g1, rfl, g3, g4, g5, _⟩ := mem_WL k (n + 2 ^ k) q (by rw [Nat.add_mod_right]; exact hnk) hq
      have := last_pfK (six := six) (k := j) (n := m) (by omega)
      show lastN (pfK six j m) < m2
      omega
    · rw [wl_cov hc]; simp
theorem has_met {s : Sp} {x : Nat} : hasS s x = metB 0 x s := by
  rw [Bool.eq_iff_iff, met_iff]
  unfold hasS
  simp
  omega
theorem inB_WL {six : Bool} {l : List Sp} (x : Nat) : ∀ k n, k ≤ wideN six → inB ((WL six l k n).map spP) x = (inB l x && (decide (n ≤ x) && decide (x < n + 2 ^ k))) := by
  have cov : ∀ k n, k ≤ wideN six → l.any (covB k n) = true → inB ((WL six l k n).map spP) x = (inB l x && (decide (n ≤ x) && decide (x < n + 2 ^ k))) := fun k n hk hc => by
    have hL := last_pfK (six := six) (k := k) (n := n) hk
    obtain ⟨s, hs, h1⟩ := List.any_eq_true.1 hc
    have hc2 := cov_iff.1 h1
    rw [wl_cov hc, Bool.eq_iff_iff]
    have e0 : spP (pfK six k n) = (n, lastN (pfK six k n)) := rfl
    simp only [List.map_cons, List.map_nil, e0, Bool.and_eq_true, decide_eq_true_eq, inB_iff, List.mem_singleton]
    constructor
    · rintro ⟨r, rfl, h2, h3⟩
      exact ⟨⟨s, hs, by omega, by omega⟩, by omega, by omega⟩
    · rintro ⟨_, h2, h3⟩
      exact ⟨_, rfl, by simp only; omega, by simp only; omega⟩
  intro k
  induction k with
  | zero =>
    intro n hk
    cases hc : l.any (covB 0 n)
    · have hm : l.any (metB 0 n) = false := by
        rw [List.any_eq_false] at hc ⊢
        intro s hs h2
        have := met_iff.1 h2
        exact hc s hs (cov_iff.2 ⟨by omega, by omega⟩)
      rw [wl_off hm]
      have hnil : inB ([] : List Sp) x = false := rfl
      rw [List.map_nil, hnil, Eq.comm, Bool.and_eq_false_iff]
      by_cases hx : x = n
      · left
        rw [hx, ← Bool.not_eq_true, inB_iff]
        rintro ⟨s, hs, h1, h2⟩
        rw [List.any_eq_false] at hm
        exact hm s hs (met_iff.2 ⟨by omega, by omega⟩)
      · right
        rw [← Bool.not_eq_true, Bool.and_eq_true, decide_eq_true_eq, decide_eq_true_eq]
        simp; omega
    · exact cov 0 n hk hc
  | succ k ih =>
    intro n hk
    have e2 : (2 : Nat) ^ (k + 1) = 2 ^ k + 2 ^ k := by rw [Nat.pow_succ]; omega
    cases hc : l.any (covB (k + 1) n)
    · rw [wl_two hc, List.map_append, inB_app, ih n (by omega), ih (n + 2 ^ k) (by omega), Bool.eq_iff_iff]
      simp only [Bool.or_eq_true, Bool.and_eq_true, decide_eq_true_eq]
      constructor
      · rintro (⟨h1, h2, h3⟩ | ⟨h1, h2, h3⟩)
        · exact ⟨h1, by omega, by omega⟩
        · exact ⟨h1, by omega, by omega⟩
      · rintro ⟨h1, h2, h3⟩
        by_cases hx : x < n + 2 ^ k
        · exact .inl ⟨h1, h2, hx⟩
        · exact .inr ⟨h1, by omega, by omega⟩
    · exact cov (k + 1) n hk hc
/-- how many -/
theorem len_left {six : Bool} {f t : Nat} : ∀ k n, f ≤ n → (WL six [(f, t)] k n).length ≤ k + 1 := by
  intro k
  induction k with
  | zero => intro n _; unfold WL; cases [(f, t)].any (covB 0 n) <;> simp
  | succ k ih =>
    intro n hf
    have hpos := Nat.two_pow_pos k
    cases hc : covB (k + 1) n (f, t)
    · rw [wl_two (by rw [any_one]; exact hc), List.length_append]
      by_cases ht : n + 2 ^ k ≤ t + 1
      · rw [wl_cov (k := k) (n := n) (by rw [any_one]; exact cov_iff.2 ⟨hf, ht⟩)]
        have := ih (n + 2 ^ k) (by omega)
        simp only [List.length_singleton]; omega
      · rw [wl_off (k := k) (n := n + 2 ^ k) (by rw [any_one, ← Bool.not_eq_true, met_iff]; simp only; omega)]
        have := ih n hf
        simp only [List.length_nil]; omega
    · rw [wl_cov (by rw [any_one]; exact hc)]; simp
theorem len_right {six : Bool} {f t : Nat} : ∀ k n, n + 2 ^ k ≤ t + 1 → (WL six [(f, t)] k n).length ≤ k + 1 := by
  intro k
  induction k with
  | zero => intro n _; unfold WL; cases [(f, t)].any (covB 0 n) <;> simp
  | succ k ih =>
    intro n ht
    have e2 : (2 : Nat) ^ (k + 1) = 2 ^ k + 2 ^ k := by rw [Nat.pow_succ]; omega
    have hpos := Nat.two_pow_pos k
    cases hc : covB (k + 1) n (f, t)
    · rw [wl_two (by rw [any_one]; exact hc), List.length_append]
      by_cases hf : f ≤ n + 2 ^ k
      · rw [wl_cov (k := k) (n := n + 2 ^ k) (by rw [any_one]; exact cov_iff.2 ⟨hf, by simp only; omega⟩)]
        have := ih n (by omega)
        simp only [List.length_singleton]; omega
      · rw [wl_off (k := k) (n := n) (by rw [any_one, ← Bool.not_eq_true, met_iff]; simp only; omega)]
        have := ih (n + 2 ^ k) (by omega)
        simp only [List.length_nil]; omega
    · rw [wl_cov (by rw [any_one]; exact hc)]; simp
theorem len_any {six : Bool} {f t : Nat} : ∀ k n, (WL six [(f, t)] k n).length ≤ 2 * k + 1 := by
  intro k
  induction k with
  | zero => intro n; unfold WL; cases [(f, t)].any (covB 0 n) <;> simp
  | succ k ih =>
    intro n
    have hpos := Nat.two_pow_pos k
    cases hc : covB (k + 1) n (f, t)
    · rw [wl_two (by rw [any_one]; exact hc), List.length_append]
      by_cases h1 : n + 2 ^ k ≤ f
      · rw [wl_off (k := k) (n := n) (by rw [any_one, ← Bool.not_eq_true, met_iff]; simp only; omega)]
        have := ih (n + 2 ^ k)
        simp only [List.length_nil]; omega
      · by_cases h2 : t + 1 ≤ n + 2 ^ k
        · rw [wl_off (k := k) (n := n + 2 ^ k) (by rw [any_one, ← Bool.not_eq_true, met_iff]; simp only; omega)]
          have := ih n
          simp only [List.length_nil]; omega
        · have a := len_right (six := six) (f := f) (t := t) k n (by omega)
          have b := len_left (six := six) (f := f) (t := t) k (n + 2 ^ k) (by omega)
          omega
    · rw [wl_cov (by rw [any_one]; exact hc)]; simp
theorem flat_len {α β : Type} (F : α → List β) (c : Nat) (l : List α) (h : ∀ s ∈ l, (F s).length ≤ c) : (l.flatMap F).length ≤ l.length * c := by
  induction l with
  | nil => simp
  | cons s l ih =>
    rw [List.flatMap_cons, List.length_append, List.length_cons, Nat.succ_mul]
    have := h s List.mem_cons_self
    have := ih (fun t ht => h t (List.mem_cons_of_mem _ ht))
    omega
theorem few_WL {six : Bool} {l : List Sp} (h : Row six l) (hl : l.length ≤ 10) : (WL six l (wideN six) 0).length ≤ 4096 := by
  have hs : ∀ s ∈ l, s.1 ≤ s.2 := fun s hs => (okS_iff.1 (h.1 s hs)).1
  rw [wl_flat h.2 hs]
  have := flat_len (fun s => WL six [s] (wideN six) 0) 257 l (fun s _ => by
    have hw := wideN_le six
    have := len_any (six := six) (f := s.1) (t := s.2) (wideN six) 0
    have e : (s.1, s.2) = s := rfl
    rw [e] at this
    show (WL six [s] _ _).length ≤ _
    omega)
  omega
theorem cov_two {six : Bool} {l : List Sp} (h : Row six l) {j m : Nat} (h1 : l.any (covB j m) = true) (h2 : l.any (covB j (m + 2 ^ j)) = true) : l.any (covB (j + 1) m) = true := by
  have e2 : (2 : Nat) ^ (j + 1) = 2 ^ j + 2 ^ j := by rw [Nat.pow_succ]; omega
  have hpos := Nat.two_pow_pos j
  obtain ⟨s, hs, c1⟩ := List.any_eq_true.1 h1
  obtain ⟨r, hr, c2⟩ := List.any_eq_true.1 h2
  have d1 := cov_iff.1 c1
  have d2 := cov_iff.1 c2
  obtain ⟨a, ha, rfl⟩ := List.mem_iff_getElem.1 hs
  obtain ⟨b, hb, rfl⟩ := List.mem_iff_getElem.1 hr
  have hp := List.pairwise_iff_getElem.1 h.2
  rcases Nat.lt_trichotomy a b with hab | hab | hab
  · have := hp a b ha hb hab; omega
  · subst hab
    exact List.any_eq_true.2 ⟨_, hs, cov_iff.2 ⟨d1.1, by omega⟩⟩
  · have := hp b a hb ha hab; omega
/-- what the law asks of the prefixes -/
structure FewP (six : Bool) (l : List Sp) (P : List Pf) : Prop where
  ok : ∀ i (h : i < P.length), okP P[i] = true ∧ P[i].six = six ∧ 0 ≤ P[i].len ∧ P[i].len ≤ 128 ∧ P[i].n < 2 ^ 128 ∧ lastN P[i] < 2 ^ 128
  up : ∀ i (h : i + 1 < P.length), lastN P[i] < P[i + 1].n
  no : ∀ i (h : i + 1 < P.length), P[i + 1].len = P[i].len → coversB ⟨six, P[i].n, P[i].len - 1⟩ P[i + 1] = false
  sp : ∀ x, inB (P.map spP) x = inB l x
  all : (P.map spP).all (okS six) = true
theorem few_of {six : Bool} {l : List Sp} (h : Row six l) : FewP six l (WL six l (wideN six) 0) := by
  have hw := wideN_le six
  have hpw : 2 ^ wideN six ≤ 2 ^ 128 := Nat.pow_le_pow_right (by decide) hw
  have hm := fun p => mem_WL (six := six) (l := l) (wideN six) 0 p (Nat.zero_mod _)
  have hpair := List.pairwise_iff_getElem.1 (pair_WL (six := six) (l := l) (wideN six) 0 (Nat.le_refl _) (Nat.zero_mod _))
  refine ⟨fun i hi => ?_, fun i hi => hpair i (i + 1) (by omega) hi (by omega), fun i hi he => ?_, fun x => ?_, ?_⟩
  · obtain ⟨j, m, h1, h2, h3, h4, h5, _⟩ := hm _ (List.getElem_mem hi)
    rw [h2]
    have hL := last_pfK (six := six) (k := j) (n := m) h1
    have hp := Nat.two_pow_pos j
    refine ⟨ok_pfK h1 h3 (by omega), rfl, by unfold pfK; simp only; omega, by unfold pfK; simp only; omega, by show m < _; omega, by omega⟩
  · obtain ⟨j, m, h1, h2, h3, h4, h5, h6, h7⟩ := hm _ (List.getElem_mem (by omega : i < (WL six l (wideN six) 0).length))
    obtain ⟨j2, m2, g1, g2, g3, g4, g5, g6, g7⟩ := hm _ (List.getElem_mem hi)
    have hlt := hpair i (i + 1) (by omega) hi (by omega)
    rw [h2, g2] at he hlt ⊢
    have hL := last_pfK (six := six) (k := j) (n := m) h1
    have hjj : j2 = j := by unfold pfK at he; simp only at he; omega
    subst hjj
    have hp := Nat.two_pow_pos j2
    rw [← Bool.not_eq_true]
    intro hcov
    unfold coversB hasB at hcov
    simp only [Bool.and_eq_true, decide_eq_true_eq] at hcov
    obtain ⟨_, _, hok, _, _, hfirst⟩ := hcov
    have hok2 := okP_iff.1 hok
    have h0 : (pfK six j2 m).len = (wideN six : Int) - (j2 : Int) := rfl
    simp only [h0] at hok2 hfirst
    have hj : j2 + 1 ≤ wideN six := by omega
    have hk : kP ⟨six, (pfK six j2 m).n, (wideN six : Int) - (j2 : Int) - 1⟩ = j2 + 1 := by unfold kP; simp only; omega
    have hk2 := hk
    unfold kP at hk2
    simp only at hk2
    rw [hk2] at hok2
    rw [hk] at hfirst
    unfold firstN at hfirst
    have hm1 : m % 2 ^ (j2 + 1) = 0 := hok2.2.2
    have e2 : (2 : Nat) ^ (j2 + 1) = 2 ^ j2 + 2 ^ j2 := by rw [Nat.pow_succ]; omega
    have hlt2 : m + 2 ^ j2 ≤ m2 := by show _; have : lastN (pfK six j2 m) < m2 := hlt; omega
    have hf2 : m2 - m2 % 2 ^ (j2 + 1) = m := hfirst
    have hmod := Nat.mod_lt m2 (Nat.two_pow_pos (j2 + 1))
    have hle := Nat.mod_le m2 (2 ^ (j2 + 1))
    obtain ⟨c, hc⟩ := Nat.dvd_of_mod_eq_zero g3
    obtain ⟨d, hd⟩ := Nat.dvd_of_mod_eq_zero h3
    have hmm : m2 = m + 2 ^ j2 := by
      have a1 : 2 ^ j2 * (d + 1) ≤ 2 ^ j2 * c := by rw [Nat.mul_succ, ← hd, ← hc]; exact hlt2
      have a2 : 2 ^ j2 * c < 2 ^ j2 * (d + 2) := by rw [← hc, Nat.mul_add, ← hd]; omega
      have b1 : d + 1 ≤ c := Nat.le_of_mul_le_mul_left a1 hp
      have b2 : c < d + 2 := Nat.lt_of_mul_lt_mul_left a2
      have b3 : c = d + 1 := by omega
      rw [hc, b3, Nat.mul_succ, ← hd]
    rw [hmm] at g6
    have := h7 (by omega) hm1
    rw [cov_two h h6 g6] at this
    cases this
  · rw [inB_WL x (wideN six) 0 (Nat.le_refl _)]
    rw [Bool.eq_iff_iff]
    simp only [Bool.and_eq_true, decide_eq_true_eq]
    constructor
    · exact fun h => h.1
    · intro hx
      refine ⟨hx, Nat.zero_le _, ?_⟩
      obtain ⟨s, hs, _, h2⟩ := inB_iff.1 hx
      have h3 := (okS_iff.1 (h.1 s hs)).2
      unfold topN at h3
      have := Nat.two_pow_pos (wideN six)
      omega
  · rw [List.all_eq_true]
    intro s hs
    obtain ⟨p, hp, rfl⟩ := List.mem_map.1 hs
    obtain ⟨j, m, h1, rfl, h3, h4, h5, _⟩ := hm p hp
    have hL := last_pfK (six := six) (k := j) (n := m) h1
    have hp := Nat.two_pow_pos j
    refine okS_iff.2 ⟨?_, ?_⟩
    · show m ≤ lastN (pfK six j m); omega
    · show lastN (pfK six j m) ≤ topN six
      unfold topN; omega
end Go.Proofs.Ytiemlaehhmlhmaa.Sp
namespace Go.Proofs.Ytiemlaehhmlhmaa.Sp
open Go.RowKit
open Go.Proofs.Ytiemlaehhmlhmaa.Addr (Pf okP okP_iff lastN wideN)
theorem few_pref (six : Bool) (l : List Sp) : prefE six l = ([], 2) ∨ (prefE six l = ([], 11) ∧ 10 < l.length) ∨ ∃ P, prefE six l = (P, 0) ∧ FewP six l P ∧ Row six l ∧ P.length ≤ 4096 := by
  rw [prefE_WL]
  cases hok : okB six l
  · exact .inl rfl
  · have hr := (okB_iff.1 hok).2
    right
    by_cases h : 4096 < (WL six l (wideN six) 0).length
    · left
      rw [if_pos rfl, if_pos h]
      refine ⟨rfl, ?_⟩
      by_cases h2 : l.length ≤ 10
      · have := few_WL hr h2; omega
      · omega
    · right
      rw [if_pos rfl, if_neg h]
      exact ⟨_, rfl, few_of hr, hr, by omega⟩
theorem take_map_succ {P : List Pf} {k : Nat} (hk : k < P.length) : (P.take (k + 1)).map spP = (P.take k).map spP ++ [spP P[k]] := by
  rw [List.take_succ_eq_append_getElem hk, List.map_append]; rfl
end Go.Proofs.Ytiemlaehhmlhmaa.Sp
