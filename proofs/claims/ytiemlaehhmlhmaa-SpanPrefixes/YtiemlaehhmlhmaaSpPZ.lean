/- What the document's Prefixes answers. -/
import Derived.Test.YtiemlaehhmlhmaaSpPref
import Derived.Test.YtiemlaehhmlhmaaSpRY
set_option linter.unusedVariables false
namespace Go.Proofs.Ytiemlaehhmlhmaa.Sp
open Go.RowKit
open Go.Proofs.Ytiemlaehhmlhmaa.Addr (Pf okP okP_iff lastN freeN kP wideN rightB)
def pfK (six : Bool) (k n : Nat) : Pf := ⟨six, n, (wideN six : Int) - (k : Int)⟩
def covB (k n : Nat) (s : Sp) : Bool := decide (s.1 ≤ n) && decide (n + 2 ^ k ≤ s.2 + 1)
def metB (k n : Nat) (s : Sp) : Bool := decide (s.1 < n + 2 ^ k) && decide (n ≤ s.2)
theorem cov_iff {k n : Nat} {s : Sp} : covB k n s = true ↔ s.1 ≤ n ∧ n + 2 ^ k ≤ s.2 + 1 := by unfold covB; simp
theorem met_iff {k n : Nat} {s : Sp} : metB k n s = true ↔ s.1 < n + 2 ^ k ∧ n ≤ s.2 := by unfold metB; simp
theorem cov_met {k n : Nat} {s : Sp} (h : covB k n s = true) : metB k n s = true := by
  have := cov_iff.1 h
  have := Nat.two_pow_pos k
  exact met_iff.2 ⟨by omega, by omega⟩
def WL (six : Bool) (l : List Sp) : Nat → Nat → List Pf
  | 0, n => if l.any (covB 0 n) then [pfK six 0 n] else []
  | k + 1, n => if l.any (covB (k + 1) n) then [pfK six (k + 1) n] else (if l.any (metB (k + 1) n) then WL six l k n ++ WL six l k (n + 2 ^ k) else [])
theorem wl_cov {six : Bool} {l : List Sp} {k n : Nat} (h : l.any (covB k n) = true) : WL six l k n = [pfK six k n] := by
  cases k <;> (unfold WL; rw [if_pos h])
theorem wl_off {six : Bool} {l : List Sp} {k n : Nat} (h : l.any (metB k n) = false) : WL six l k n = [] := by
  have hc : l.any (covB k n) = false := by
    rw [List.any_eq_false] at h ⊢
    intro s hs hc
    exact h s hs (cov_met hc)
  cases k
  · unfold WL; rw [hc]; rfl
  · unfold WL; rw [hc, h]; rfl
theorem wl_two {six : Bool} {l : List Sp} {k n : Nat} (h : l.any (covB (k + 1) n) = false) : WL six l (k + 1) n = WL six l k n ++ WL six l k (n + 2 ^ k) := by
  cases hm : l.any (metB (k + 1) n)
  · rw [wl_off hm]
    have e : (2 : Nat) ^ (k + 1) = 2 ^ k + 2 ^ k := by rw [Nat.pow_succ]; omega
    have hpos := Nat.two_pow_pos k
    rw [List.any_eq_false] at hm
    have h1 : l.any (metB k n) = false := by
      rw [List.any_eq_false]; intro s hs h2
      have := met_iff.1 h2
      exact hm s hs (met_iff.2 ⟨by omega, this.2⟩)
    have h2 : l.any (metB k (n + 2 ^ k)) = false := by
      rw [List.any_eq_false]; intro s hs h2
      have := met_iff.1 h2
      exact hm s hs (met_iff.2 ⟨by omega, by omega⟩)
    rw [wl_off h1, wl_off h2]; rfl
  · conv => lhs; unfold WL
    rw [h, hm]; rfl
theorem flat_two {α β : Type} (L R : α → List β) (l : List α) (h : l.Pairwise (fun s s' => R s = [] ∨ L s' = [])) : l.flatMap (fun s => L s ++ R s) = l.flatMap L ++ l.flatMap R := by
  induction l with
  | nil => rfl
  | cons s l ih =>
    have hp := List.pairwise_cons.1 h
    rw [List.flatMap_cons, List.flatMap_cons, List.flatMap_cons, ih hp.2]
    by_cases hr : R s = []
    · rw [hr]; simp
    · have hl : l.flatMap L = [] := List.flatMap_eq_nil_iff.2 fun s' hs' => by
        rcases hp.1 s' hs' with h1 | h1
        · exact absurd h1 hr
        · exact h1
      rw [hl]; simp
theorem flat_congr {α β : Type} {f g : α → List β} (l : List α) (h : ∀ s ∈ l, f s = g s) : l.flatMap f = l.flatMap g := by
  induction l with
  | nil => rfl
  | cons s l ih => rw [List.flatMap_cons, List.flatMap_cons, h s List.mem_cons_self, ih (fun t ht => h t (List.mem_cons_of_mem _ ht))]
theorem any_one (f : Sp → Bool) (s : Sp) : [s].any f = f s := by simp
/-- span by span -/
theorem wl_flat {six : Bool} {l : List Sp} (hl : l.Pairwise (fun r s => r.2 + 1 < s.1)) (hs : ∀ s ∈ l, s.1 ≤ s.2) : ∀ k n, WL six l k n = l.flatMap (fun s => WL six [s] k n) := by
  intro k
  induction k with
  | zero =>
    intro n
    cases hc : l.any (covB 0 n)
    · have h0 : l.any (metB 0 n) = false := by
        rw [List.any_eq_false] at hc ⊢
        intro s hs2 h2
        have := met_iff.1 h2
        exact hc s hs2 (cov_iff.2 ⟨by omega, by omega⟩)
      rw [wl_off h0, Eq.comm, List.flatMap_eq_nil_iff]
      intro s hs2
      exact wl_off (by rw [any_one]; rw [List.any_eq_false] at h0; simpa using h0 s hs2)
    · rw [wl_cov hc]
      obtain ⟨s0, hm, h0⟩ := List.any_eq_true.1 hc
      obtain ⟨A, B, e⟩ := List.append_of_mem hm
      have hc0 := cov_iff.1 h0
      rw [e] at hl
      have hp := List.pairwise_append.1 hl
      have hpb := List.pairwise_cons.1 hp.2.1
      have hA : A.flatMap (fun s => WL six [s] 0 n) = [] := List.flatMap_eq_nil_iff.2 fun s hs2 => wl_off (by
        have := hp.2.2 s hs2 s0 List.mem_cons_self
        rw [any_one, ← Bool.not_eq_true, met_iff]; omega)
      have hB : B.flatMap (fun s => WL six [s] 0 n) = [] := List.flatMap_eq_nil_iff.2 fun s hs2 => wl_off (by
        have := hpb.1 s hs2
        rw [any_one, ← Bool.not_eq_true, met_iff]; omega)
      rw [e, List.flatMap_append, List.flatMap_cons, hA, hB, wl_cov (by rw [any_one]; exact h0)]; rfl
  | succ k ih =>
    intro n
    have e2 : (2 : Nat) ^ (k + 1) = 2 ^ k + 2 ^ k := by rw [Nat.pow_succ]; omega
    have hpos := Nat.two_pow_pos k
    cases hc : l.any (covB (k + 1) n)
    · rw [wl_two hc, ih, ih, ← flat_two]
      · rw [List.any_eq_false] at hc
        refine flat_congr l fun s hs2 => ?_
        rw [wl_two (by rw [any_one]; simpa using hc s hs2)]
      · refine List.Pairwise.imp_of_mem (fun {s s'} h1 h2 h3 => ?_) hl
        cases hm : metB k (n + 2 ^ k) s
        · exact .inl (wl_off (by rw [any_one]; exact hm))
        · refine .inr (wl_off ?_)
          have := met_iff.1 hm
          rw [any_one, ← Bool.not_eq_true, met_iff]; omega
    · rw [wl_cov hc]
      obtain ⟨s0, hm, h0⟩ := List.any_eq_true.1 hc
      obtain ⟨A, B, e⟩ := List.append_of_mem hm
      have hc0 := cov_iff.1 h0
      rw [e] at hl
      have hp := List.pairwise_append.1 hl
      have hpb := List.pairwise_cons.1 hp.2.1
      have hA : A.flatMap (fun s => WL six [s] (k + 1) n) = [] := List.flatMap_eq_nil_iff.2 fun s hs2 => wl_off (by
        have := hp.2.2 s hs2 s0 List.mem_cons_self
        rw [any_one, ← Bool.not_eq_true, met_iff]; omega)
      have hB : B.flatMap (fun s => WL six [s] (k + 1) n) = [] := List.flatMap_eq_nil_iff.2 fun s hs2 => wl_off (by
        have := hpb.1 s hs2
        rw [any_one, ← Bool.not_eq_true, met_iff]; omega)
      rw [e, List.flatMap_append, List.flatMap_cons, hA, hB, wl_cov (by rw [any_one]; exact h0)]; rfl
/-- where a span begins ahead of a block matters not -/
theorem wl_empty {six : Bool} {f t : Nat} (h : t < f) : ∀ k n, WL six [(f, t)] k n = [] := by
  have hcov : ∀ k n, covB k n (f, t) = false := fun k n => by
    rw [← Bool.not_eq_true, cov_iff]
    have := Nat.two_pow_pos k
    simp only; omega
  intro k
  induction k with
  | zero => intro n; unfold WL; rw [any_one, hcov]; rfl
  | succ k ih => intro n; rw [wl_two (by rw [any_one]; exact hcov _ _), ih, ih]; rfl
theorem wl_same {six : Bool} {f f' t : Nat} : ∀ k n, f ≤ n → f' ≤ n → WL six [(f, t)] k n = WL six [(f', t)] k n := by
  intro k
  have hcov : ∀ k n, f ≤ n → f' ≤ n → covB k n (f, t) = covB k n (f', t) := fun k n h1 h2 => by
    unfold covB; rw [decide_eq_true h1, decide_eq_true h2]
  induction k with
  | zero => intro n h1 h2; unfold WL; rw [any_one, any_one, hcov 0 n h1 h2]
  | succ k ih =>
    intro n h1 h2
    have hpos := Nat.two_pow_pos k
    cases hc : covB (k + 1) n (f, t)
    · rw [wl_two (by rw [any_one]; exact hc), wl_two (by rw [any_one, ← hcov (k + 1) n h1 h2]; exact hc), ih n h1 h2, ih (n + 2 ^ k) (by omega) (by omega)]
    · rw [wl_cov (by rw [any_one]; exact hc), wl_cov (by rw [any_one, ← hcov (k + 1) n h1 h2]; exact hc)]
/-- the first of a span's, and what is left -/
theorem wl_first {six : Bool} {f t : Nat} (hft : f ≤ t) : ∀ k n, n % 2 ^ k = 0 → n ≤ f → f < n + 2 ^ k → ∃ j, j ≤ k ∧ f % 2 ^ j = 0 ∧ f + 2 ^ j ≤ t + 1 ∧ f + 2 ^ j ≤ n + 2 ^ k ∧ (∀ i, j < i → i ≤ k → f % 2 ^ i = 0 → ¬ f + 2 ^ i ≤ t + 1) ∧ WL six [(f, t)] k n = pfK six j f :: WL six [(f + 2 ^ j, t)] k n := by
  intro k
  induction k with
  | zero =>
    intro n hn h1 h2
    have e : f = n := by simp at h2; omega
    subst e
    refine ⟨0, Nat.le_refl _, hn, by simpa using hft, Nat.le_refl _, fun i h3 h4 => by omega, ?_⟩
    rw [wl_cov (by rw [any_one]; exact cov_iff.2 ⟨Nat.le_refl _, by simpa using hft⟩), wl_off (by rw [any_one, ← Bool.not_eq_true, met_iff]; simp)]
  | succ k ih =>
    intro n hn h1 h2
    have e2 : (2 : Nat) ^ (k + 1) = 2 ^ k + 2 ^ k := by rw [Nat.pow_succ]; omega
    have hpos := Nat.two_pow_pos k
    have hnk : n % 2 ^ k = 0 := Nat.mod_eq_zero_of_dvd (Nat.dvd_trans (Nat.pow_dvd_pow 2 (Nat.le_succ k)) (Nat.dvd_of_mod_eq_zero hn))
    cases hc : covB (k + 1) n (f, t)
    · have hnc : ¬ (f ≤ n ∧ n + 2 ^ (k + 1) ≤ t + 1) := fun h => by rw [cov_iff.2 h] at hc; cases hc
      have hmax : f % 2 ^ (k + 1) = 0 → ¬ f + 2 ^ (k + 1) ≤ t + 1 := fun h3 h4 => by
        obtain ⟨c, hcc⟩ := Nat.dvd_of_mod_eq_zero h3
        obtain ⟨d, hd⟩ := Nat.dvd_of_mod_eq_zero hn
        have : c = d := by
          rw [hcc, hd] at h1 h2
          have h5 : d ≤ c := Nat.le_of_mul_le_mul_left h1 (Nat.two_pow_pos _)
          have h6 : c < d + 1 := by
            rw [← Nat.mul_succ] at h2
            exact Nat.lt_of_mul_lt_mul_left h2
          omega
        subst this
        exact hnc ⟨by omega, by omega⟩
      rw [wl_two (by rw [any_one]; exact hc)]
      have hrest : ∀ j, 0 < 2 ^ j → WL six [(f + 2 ^ j, t)] (k + 1) n = WL six [(f + 2 ^ j, t)] k n ++ WL six [(f + 2 ^ j, t)] k (n + 2 ^ k) := fun j hj => wl_two (by rw [any_one, ← Bool.not_eq_true, cov_iff]; simp only; omega)
      by_cases hf : f < n + 2 ^ k
      · obtain ⟨j, j1, j2, j3, j4, j5, j6⟩ := ih n hnk h1 hf
        refine ⟨j, by omega, j2, j3, by omega, fun i h3 h4 h5 => ?_, ?_⟩
        · by_cases hi : i = k + 1
          · subst hi; exact hmax h5
          · exact j5 i h3 (by omega) h5
        · rw [hrest j (Nat.two_pow_pos j), j6, List.cons_append, wl_same (f := f) (f' := f + 2 ^ j) k (n + 2 ^ k) (by omega) (by omega)]
      · have hn2 : (n + 2 ^ k) % 2 ^ k = 0 := by rw [Nat.add_mod_right]; exact hnk
        obtain ⟨j, j1, j2, j3, j4, j5, j6⟩ := ih (n + 2 ^ k) hn2 (by omega) (by omega)
        refine ⟨j, by omega, j2, j3, by omega, fun i h3 h4 h5 => ?_, ?_⟩
        · by_cases hi : i = k + 1
          · subst hi; exact hmax h5
          · exact j5 i h3 (by omega) h5
        · have hl0 : WL six [(f, t)] k n = [] := wl_off (by rw [any_one, ← Bool.not_eq_true, met_iff]; simp only; omega)
          have hl1 : WL six [(f + 2 ^ j, t)] k n = [] := wl_off (by rw [any_one, ← Bool.not_eq_true, met_iff]; simp only; have := Nat.two_pow_pos j; omega)
          rw [hrest j (Nat.two_pow_pos j), hl0, hl1, List.nil_append, List.nil_append, j6]
    · have hcc := cov_iff.1 hc
      have e : f = n := by have := hcc.1; simp only at this; omega
      subst e
      refine ⟨k + 1, Nat.le_refl _, hn, hcc.2, Nat.le_refl _, fun i h3 h4 => by omega, ?_⟩
      rw [wl_cov (by rw [any_one]; exact hc), wl_off (by rw [any_one, ← Bool.not_eq_true, met_iff]; simp only; have := Nat.two_pow_pos (k + 1); omega)]
theorem wid_of {six : Bool} {f t j : Nat} (hft : f ≤ t) (ht : t ≤ topN six) (hj : j ≤ wideN six) (h1 : f % 2 ^ j = 0) (h2 : f + 2 ^ j ≤ t + 1) (h3 : ∀ i, j < i → i ≤ wideN six → f % 2 ^ i = 0 → ¬ f + 2 ^ i ≤ t + 1) : wid six f t = wideN six - j ∧ lastN ⟨six, f, (wid six f t : Int)⟩ + 1 = f + 2 ^ j := by
  have hp := Nat.two_pow_pos (wideN six)
  have hkp : ∀ i, i ≤ wideN six → kP ⟨six, f, ((wideN six - i : Nat) : Int)⟩ = i := fun i hi => by unfold kP; simp only [Int.toNat_natCast]; omega
  have hft2 : f < 2 ^ wideN six := by unfold topN at ht; omega
  have hw : wid six f t = wideN six - j := by
    refine wid_at (by omega) ?_ (fun i hi => ?_)
    · unfold wT
      rw [Bool.and_eq_true, decide_eq_true_iff]
      refine ⟨okP_iff.2 ⟨⟨by simp only; omega, by simp only; omega⟩, hft2, ?_⟩, ?_⟩
      · have := hkp j hj; unfold kP at this; rw [this]; exact h1
      · unfold lastN freeN; rw [hkp j hj]; have := Nat.two_pow_pos j; simp only; omega
    · rw [← Bool.not_eq_true]
      intro hT
      unfold wT at hT
      rw [Bool.and_eq_true, decide_eq_true_iff] at hT
      have hi2 : i = wideN six - (wideN six - i) := by omega
      rw [hi2] at hT
      have hok := (okP_iff.1 hT.1).2.2
      have hk2 := hkp (wideN six - i) (by omega)
      unfold kP at hk2
      rw [hk2] at hok
      have hlast := hT.2
      unfold lastN freeN at hlast
      rw [hkp (wideN six - i) (by omega)] at hlast
      have := Nat.two_pow_pos (wideN six - i)
      exact h3 (wideN six - i) (by omega) (by omega) hok (by simp only at hlast; omega)
  refine ⟨hw, ?_⟩
  rw [hw]
  unfold lastN freeN
  rw [hkp j hj]
  have := Nat.two_pow_pos j
  simp only; omega
theorem prefS_take {six : Bool} {t : Nat} (ht : t ≤ topN six) : ∀ fuel f, f ≤ t → prefS six fuel f t = (WL six [(f, t)] (wideN six) 0).take fuel := by
  intro fuel
  induction fuel with
  | zero => intro f _; rfl
  | succ fuel ih =>
    intro f hft
    have hp := Nat.two_pow_pos (wideN six)
    obtain ⟨j, j1, j2, j3, j4, j5, j6⟩ := wl_first (six := six) hft (wideN six) 0 (Nat.zero_mod _) (Nat.zero_le _) (by unfold topN at ht; omega)
    obtain ⟨w1, w2⟩ := wid_of hft ht j1 j2 j3 j5
    have hpf : (⟨six, f, (wid six f t : Int)⟩ : Pf) = pfK six j f := by
      rw [w1]; unfold pfK
      rw [show ((wideN six - j : Nat) : Int) = (wideN six : Int) - (j : Int) by omega]
    rw [j6, List.take_succ_cons, ← hpf]
    show ⟨six, f, (wid six f t : Int)⟩ :: (if lastN ⟨six, f, (wid six f t : Int)⟩ = t then [] else prefS six fuel (lastN ⟨six, f, (wid six f t : Int)⟩ + 1) t) = _
    congr 1
    by_cases hl : lastN ⟨six, f, (wid six f t : Int)⟩ = t
    · rw [if_pos hl, wl_empty (by omega)]; simp
    · rw [if_neg hl, ih _ (by omega), w2]
theorem take_flat {α β : Type} (F : α → List β) (c : Nat) (l : List α) : (l.flatMap (fun s => (F s).take c)).length ≤ (l.flatMap F).length ∧ ((l.flatMap (fun s => (F s).take c)).length < c → l.flatMap (fun s => (F s).take c) = l.flatMap F) := by
  induction l with
  | nil => exact ⟨Nat.le_refl _, fun _ => rfl⟩
  | cons s l ih =>
    rw [List.flatMap_cons, List.flatMap_cons, List.length_append, List.length_append, List.length_take]
    refine ⟨by have := ih.1; omega, fun h => ?_⟩
    rw [ih.2 (by omega), List.take_of_length_le (by omega)]
theorem prefL_WL {six : Bool} {l : List Sp} (h : Row six l) : (prefL six l).length ≤ (WL six l (wideN six) 0).length ∧ ((prefL six l).length ≤ 4096 → prefL six l = WL six l (wideN six) 0) := by
  have hs : ∀ s ∈ l, s.1 ≤ s.2 := fun s hs => (okS_iff.1 (h.1 s hs)).1
  have e : prefL six l = l.flatMap (fun s => (WL six [s] (wideN six) 0).take 4097) := by
    unfold prefL
    exact flat_congr l fun s hs2 => prefS_take (okS_iff.1 (h.1 s hs2)).2 4097 s.1 (hs s hs2)
  rw [wl_flat h.2 hs, e]
  have := take_flat (fun s => WL six [s] (wideN six) 0) 4097 l
  exact ⟨this.1, fun h2 => this.2 (by omega)⟩
theorem prefE_WL {six : Bool} {l : List Sp} : prefE six l = if okB six l then (if 4096 < (WL six l (wideN six) 0).length then ([], 11) else (WL six l (wideN six) 0, 0)) else ([], 2) := by
  unfold prefE
  cases hok : okB six l
  · rfl
  · obtain ⟨h1, h2⟩ := prefL_WL (okB_iff.1 hok).2
    simp only [if_true]
    by_cases hl : 4096 < (prefL six l).length
    · rw [if_pos hl, if_pos (by omega)]
    · have e := h2 (by omega)
      rw [if_neg hl, if_neg (by rw [← e]; exact hl), e]
/-- as many as are put, where no more than a bound are wanted -/
def docW (six : Bool) (l : List Sp) : Nat → Nat → List Pf → List Pf
  | 0, n, out => if l.any (covB 0 n) then out ++ [pfK six 0 n] else out
  | k + 1, n, out => if l.any (covB (k + 1) n) then out ++ [pfK six (k + 1) n] else (if l.any (metB (k + 1) n) && decide (out.length ≤ 4096) then docW six l k (n + 2 ^ k) (docW six l k n out) else out)
theorem docW_is (six : Bool) (l : List Sp) : ∀ k n out, ((docW six l k n out).length ≤ 4096 → docW six l k n out = out ++ WL six l k n) ∧ (4096 < (docW six l k n out).length → 4096 < out.length + (WL six l k n).length) ∧ (4096 < out.length → (docW six l k n out).length ≤ out.length + 1) ∧ (out.length ≤ 4096 → (docW six l k n out).length ≤ 4097 + k) ∧ out.length ≤ (docW six l k n out).length := by
  intro k
  have hcov : ∀ k n out, l.any (covB k n) = true → docW six l k n out = out ++ WL six l k n := fun k n out h => by
    rw [wl_cov h]
    cases k <;> (unfold docW; rw [if_pos h])
  have one : ∀ k n (out : List Pf), l.any (covB k n) = true → (out ++ WL six l k n).length = out.length + 1 := fun k n out h => by rw [wl_cov h, List.length_append]; rfl
  induction k with
  | zero =>
    intro n out
    cases hc : l.any (covB 0 n)
    · have e : docW six l 0 n out = out := by unfold docW; rw [hc]; rfl
      have e2 : WL six l 0 n = [] := by unfold WL; rw [hc]; rfl
      rw [e, e2]
      exact ⟨fun _ => by simp, fun h => by simpa using h, fun _ => by omega, fun _ => by omega, Nat.le_refl _⟩
    · have h1 := one 0 n out hc
      rw [hcov 0 n out hc]
      exact ⟨fun _ => rfl, fun h => by rw [List.length_append] at h; exact h, fun _ => by omega, fun _ => by omega, by omega⟩
  | succ k ih =>
    intro n out
    cases hc : l.any (covB (k + 1) n)
    · cases hm : l.any (metB (k + 1) n)
      · have e : docW six l (k + 1) n out = out := by unfold docW; rw [hc, hm]; rfl
        rw [e, wl_off hm]
        exact ⟨fun _ => by simp, fun h => by simpa using h, fun _ => by omega, fun _ => by omega, Nat.le_refl _⟩
      · by_cases ho : out.length ≤ 4096
        · have e : docW six l (k + 1) n out = docW six l k (n + 2 ^ k) (docW six l k n out) := by
            conv => lhs; unfold docW
            rw [hc, hm, decide_eq_true ho]; rfl
          obtain ⟨a1, a2, a3, a4, a5⟩ := ih n out
          obtain ⟨b1, b2, b3, b4, b5⟩ := ih (n + 2 ^ k) (docW six l k n out)
          rw [e, wl_two hc, List.length_append]
          refine ⟨fun h => ?_, fun h => ?_, fun h => by omega, fun _ => ?_, by omega⟩
          · rw [b1 h, a1 (by omega), List.append_assoc]
          · by_cases hx : (docW six l k n out).length ≤ 4096
            · have := b2 h
              rw [a1 hx, List.length_append] at this
              omega
            · have := a2 (by omega)
              omega
          · have := a4 ho
            by_cases hx : (docW six l k n out).length ≤ 4096
            · have := b4 hx; omega
            · have := b3 (by omega); omega
        · have e : docW six l (k + 1) n out = out := by
            conv => lhs; unfold docW
            rw [hc, hm, decide_eq_false ho]; rfl
          rw [e]
          exact ⟨fun h => absurd h ho, fun h => by omega, fun _ => by omega, fun _ => by omega, Nat.le_refl _⟩
    · have h1 := one (k + 1) n out hc
      rw [hcov (k + 1) n out hc]
      exact ⟨fun _ => rfl, fun h => by rw [List.length_append] at h; exact h, fun _ => by omega, fun _ => by omega, by omega⟩
end Go.Proofs.Ytiemlaehhmlhmaa.Sp
namespace Go.Proofs.Ytiemlaehhmlhmaa.Sp
open Go.RowKit Go.Shelf
open Go.Proofs.Ytiemlaehhmlhmaa.Lk (HasRow hasRow_own addr_add)
open Go.Proofs.Ytiemlaehhmlhmaa.Addr (Pf pfV okP okP_iff lastN freeN kP halvesE rhalves_any rcmp_any cmp_le wideN wideN_le rightB hiN loN adV cmpN RowAt below2 below_drew below_new bset RowAt.lt RowAt.cell RowAt.frozen RowAt.below RowAt.drew RowAt.new RowAt.alloc RowAt.gkeep cells2 cells4 results_cell gset grefl)
attribute [-go_sem] Builtin.append_
/-- what is kept where a list is drawn out -/
def Kept (W W' : World) (u u' : Value) : Prop := ∀ b cs t, RowAt W b cs t → some b ≠ u.ownBlock → RowAt W' b cs t ∧ some b ≠ u'.ownBlock
theorem PfO.app2 {w W : World} {u : Value} {P : List Pf} (h : PfO w W u P) (p : Pf) (hb : P.length ≤ 1000000) :
    ∃ v' w3, (∀ ty, (Builtin.append_ #[45, 45] ty #[u, .slice (some ⟨W.heap.size, 0, none⟩) 1 1]).run Try.prog (W.alloc (.cells #[.bool p.six, .int .u64 (hiN p.n : Int), .int .u64 (loN p.n : Int), .int .i64 p.len] 27)) = .ok v' w3) ∧ PfO w w3 v' (P ++ [p]) ∧ Kept W w3 u v' := by
  obtain ⟨i0, hi0, hz0, hz1, hz2⟩ := info_parts info_P
  have hk := h.below (below_new (Below.refl _ W) (.cells #[.bool p.six, .int .u64 (hiN p.n : Int), .int .u64 (loN p.n : Int), .int .i64 p.len] 27))
  have hr0 := RowAt.new W (pfC p) 27
  obtain ⟨g, c2, w3, hrun, k1, k2, k3, k4⟩ := run_append_lies (P := Try.prog) (w := W.alloc (.cells #[.bool p.six, .int .u64 (hiN p.n : Int), .int .u64 (loN p.n : Int), .int .i64 p.len] 27)) 45 0 w.heap.size 27 i0 (.agg #[.bool false, .int .u64 0, .int .u64 0, .int .i64 0]) 4 32 Try.underlying45 hi0 hz0 hz1 hz2 rfl (by decide) u P.length (pfCs P) hk.ou ⟨W.heap.size, 0, none⟩ 1 1 (pfC p) rfl
    (fun j y hj => by rw [addr_add, Nat.zero_add]; exact (hr0.cell j).trans hj) (by have := one_pfs [p]; rw [pfCs_one] at this; exact this) (by decide) (by unfold maxLen; omega) (by omega) hk.bl.size _ rfl
  refine ⟨_, w3, fun ty => hrun, ⟨by rw [show (P ++ [p]).length = P.length + 1 by simp, pfCs_app, pfCs_one]; exact k1, hk.bl.grown k2 hk.bl.size (fun k e => (hk.ou.lt k e).1)⟩, fun b cs t hr hne => ⟨RowAt.gkeep (hr.alloc _) k2 hne, ?_⟩⟩
  rcases k3 with k3 | k3
  · intro e; exact hne (e.trans k3.symm)
  · intro e
    have e2 : b = g := by simpa [Value.ownBlock] using e
    have := hr.lt
    rw [World.size_alloc] at k3
    omega
theorem Kept.refl (W : World) (u : Value) : Kept W W u u := fun _ _ _ h hne => ⟨h, hne⟩
theorem Kept.below {W W1 W' : World} {u u' : Value} (hb : Below W.heap.size W W1) (h : Kept W1 W' u u') : Kept W W' u u' := fun b cs t hr hne => h b cs t (hr.below hb) hne
theorem Kept.tail {W W1 W' : World} {u u' : Value} (h : Kept W W1 u u') (hb : Below W1.heap.size W1 W') : Kept W W' u u' := fun b cs t hr hne => ⟨((h b cs t hr hne).1).below hb, (h b cs t hr hne).2⟩
theorem Kept.trans {W W1 W2 : World} {u u1 u2 : Value} (h : Kept W W1 u u1) (h2 : Kept W1 W2 u1 u2) : Kept W W2 u u2 := fun b cs t hr hne => h2 b cs t (h b cs t hr hne).1 (h b cs t hr hne).2
theorem PfO.ne {w W : World} {u : Value} {P : List Pf} (h : PfO w W u P) {b : Nat} (hb : W.heap.size ≤ b) : some b ≠ u.ownBlock := fun e => by
  have := (h.ou.lt b e.symm).2
  omega
theorem lastN_pfK {six : Bool} {k n : Nat} (hk : k ≤ wideN six) : lastN (pfK six k n) + 1 = n + 2 ^ k := by
  have hp := Nat.two_pow_pos k
  have e : kP (pfK six k n) = k := by unfold kP pfK; simp only; omega
  unfold lastN freeN; rw [e]; show n + _ + 1 = _; omega
theorem okP_pfK {six : Bool} {k n : Nat} (hk : k ≤ wideN six) (h1 : n % 2 ^ k = 0) (h2 : n + 2 ^ k ≤ 2 ^ wideN six) : okP (pfK six k n) = true := by
  have hp := Nat.two_pow_pos k
  have e : kP (pfK six k n) = k := by unfold kP pfK; simp only; omega
  unfold kP at e
  refine okP_iff.2 ⟨⟨by unfold pfK; simp only; omega, by unfold pfK; simp only; omega⟩, by show n < 2 ^ wideN six; omega, ?_⟩
  rw [e]; exact h1
theorem halves_pfK {six : Bool} {k n : Nat} (hk : k + 1 ≤ wideN six) (h1 : n % 2 ^ (k + 1) = 0) (h2 : n + 2 ^ (k + 1) ≤ 2 ^ wideN six) : halvesE (pfK six (k + 1) n) = (pfK six k n, pfK six k (n + 2 ^ k), 0) := by
  have e : kP (pfK six (k + 1) n) = k + 1 := by unfold kP pfK; simp only; omega
  unfold halvesE
  rw [if_pos (okP_pfK hk h1 h2), if_neg (by unfold pfK; simp only; omega), e]
  have e2 : ((wideN six : Int) - ((k + 1 : Nat) : Int)) + 1 = (wideN six : Int) - (k : Int) := by omega
  unfold pfK
  simp only [e2, Nat.add_sub_cancel]
theorem docW_hit {six : Bool} {l : List Sp} {k n : Nat} {out : List Pf} (h : l.any (covB k n) = true) : docW six l k n out = out ++ [pfK six k n] := by
  cases k <;> (unfold docW; rw [if_pos h])
theorem met0 {l : List Sp} {n : Nat} (hc : l.any (covB 0 n) = false) : l.any (metB 0 n) = false := by
  rw [List.any_eq_false] at hc ⊢
  intro s hs h2
  have := met_iff.1 h2
  exact hc s hs (cov_iff.2 ⟨by omega, by omega⟩)
theorem docW_off {six : Bool} {l : List Sp} {k n : Nat} {out : List Pf} (h : l.any (covB k n) = false) (h2 : l.any (metB k n) = false ∨ 4096 < out.length) : docW six l k n out = out := by
  cases k with
  | zero => unfold docW; rw [h]; rfl
  | succ k =>
    unfold docW; rw [h]
    have : (l.any (metB (k + 1) n) && decide (out.length ≤ 4096)) = false := by
      rcases h2 with h2 | h2
      · rw [h2]; rfl
      · rw [decide_eq_false (by omega)]; simp
    rw [this]; rfl
theorem docW_on {six : Bool} {l : List Sp} {k n : Nat} {out : List Pf} (h : l.any (covB (k + 1) n) = false) (h2 : l.any (metB (k + 1) n) = true) (h3 : out.length ≤ 4096) : docW six l (k + 1) n out = docW six l k (n + 2 ^ k) (docW six l k n out) := by
  conv => lhs; unfold docW
  rw [h, h2, decide_eq_true h3]; rfl
theorem any_take {f : Sp → Bool} {l : List Sp} {j : Nat} (hj : j < l.length) : (l.take (j + 1)).any f = ((l.take j).any f || f l[j]) := by
  rw [List.take_succ_eq_append_getElem hj, List.any_append]; simp
theorem cov_cmp {k n L : Nat} {s : Sp} (hL : L + 1 = n + 2 ^ k) : covB k n s = (decide (cmpN s.1 n ≤ 0) && decide (cmpN L s.2 ≤ 0)) := by
  have h1 : decide (cmpN s.1 n ≤ 0) = decide (s.1 ≤ n) := cmp_le
  have h2 : decide (cmpN L s.2 ≤ 0) = decide (L ≤ s.2) := cmp_le
  rw [h1, h2]; unfold covB
  rw [show decide (n + 2 ^ k ≤ s.2 + 1) = decide (L ≤ s.2) from decide_eq_decide.2 ⟨fun h => by omega, fun h => by omega⟩]
theorem met_cmp {k n L : Nat} {s : Sp} (hL : L + 1 = n + 2 ^ k) : metB k n s = (decide (cmpN s.1 L ≤ 0) && decide (cmpN n s.2 ≤ 0)) := by
  have h1 : decide (cmpN s.1 L ≤ 0) = decide (s.1 ≤ L) := cmp_le
  have h2 : decide (cmpN n s.2 ≤ 0) = decide (n ≤ s.2) := cmp_le
  rw [h1, h2]; unfold metB
  rw [show decide (s.1 < n + 2 ^ k) = decide (s.1 ≤ L) from decide_eq_decide.2 ⟨fun h => by omega, fun h => by omega⟩]
/-- the contract -/
def WCall (six : Bool) (l : List Sp) (w0 : World) (v : Value) (k : Nat) : Prop := ∀ (n : Nat) (P : List Pf) (u : Value) (W : World), n % 2 ^ k = 0 → n + 2 ^ k ≤ 2 ^ wideN six → P.length ≤ 4500 → PfO w0 W u P →
  Calls Try.prog 57 #[u, v, pfV (pfK six k n)] W fun e W' => ∃ u', e = .returned u' ∧ PfO w0 W' u' (docW six l k n P) ∧ Kept W W' u u'
end Go.Proofs.Ytiemlaehhmlhmaa.Sp
namespace Go.Proofs.Ytiemlaehhmlhmaa.Sp
open Go.RowKit Go.Shelf
open Go.Proofs.Ytiemlaehhmlhmaa.Lk (HasRow hasRow_own addr_add)
open Go.Proofs.Ytiemlaehhmlhmaa.Addr (Pf pfV okP okP_iff lastN freeN kP halvesE rhalves_any rcmp_any cmp_le wideN wideN_le rightB hiN loN adV cmpN RowAt below2 below_drew below_new bset RowAt.lt RowAt.cell RowAt.frozen RowAt.below RowAt.drew RowAt.new RowAt.alloc RowAt.gkeep cells2 cells4 results_cell gset grefl)
attribute [-go_sem] Builtin.append_
set_option maxHeartbeats 16000000 in
set_option maxRecDepth 20000 in
theorem within_step (six : Bool) (l : List Sp) (w0 : World) (v : Value) (hs : HasSps w0 v l) (hf : ∀ s ∈ l, FitS s) (k : Nat) (hk : k ≤ wideN six) (ih : ∀ k', k = k' + 1 → WCall six l w0 v k') : WCall six l w0 v k := by
  intro n P u W h1 h2 hPl hO
  have hw128 := wideN_le six
  have hpw : 2 ^ wideN six ≤ 2 ^ 128 := Nat.pow_le_pow_right (by decide) hw128
  have hpk := Nat.two_pow_pos k
  have hokp := okP_pfK hk h1 h2
  have hL := lastN_pfK (six := six) (n := n) hk
  obtain ⟨L, hLd⟩ : ∃ L, L = lastN (pfK six k n) := ⟨_, rfl⟩
  rw [← hLd] at hL
  have hlen : -9223372036854775808 ≤ (pfK six k n).len ∧ (pfK six k n).len ≤ 9223372036854775807 := by unfold pfK; simp only; omega
  have co := fun (W : World) => rof10_any (pfK six k n) W hlen (show n < 2 ^ 128 by omega)
  rw [if_pos hokp, ← hLd, hokp] at co
  have hc0 : chk true = 0 := rfl
  rw [hc0] at co
  have HHV : Hid (∀ k', k = k' + 1 → ∀ W, Calls Try.prog 84 #[pfV (pfK six k n)] W fun e w' => e = .returned (.tuple #[pfV (pfK six k' n), pfV (pfK six k' (n + 2 ^ k')), .int .i64 0]) ∧ Below W.heap.size W w') := fun k' e W => by
    subst e
    have := rhalves_any (pfK six (k' + 1) n) W hlen (show n < 2 ^ 128 by omega)
    rw [halves_pfK hk h1 h2] at this
    exact this
  have HIH : Hid (∀ k', k = k' + 1 → ∀ P u W, P.length ≤ 4500 → PfO w0 W u P → (Calls Try.prog 57 #[u, v, pfV (pfK six k' n)] W fun e W' => ∃ u', e = .returned u' ∧ PfO w0 W' u' (docW six l k' n P) ∧ Kept W W' u u') ∧ Calls Try.prog 57 #[u, v, pfV (pfK six k' (n + 2 ^ k'))] W fun e W' => ∃ u', e = .returned u' ∧ PfO w0 W' u' (docW six l k' (n + 2 ^ k') P) ∧ Kept W W' u u') := fun k' e P u W hl hO => by
    have hh := ih k' e
    subst e
    have e2 : (2 : Nat) ^ (k' + 1) = 2 ^ k' + 2 ^ k' := by rw [Nat.pow_succ]; omega
    have hnk : n % 2 ^ k' = 0 := Nat.mod_eq_zero_of_dvd (Nat.dvd_trans (Nat.pow_dvd_pow 2 (Nat.le_succ k')) (Nat.dvd_of_mod_eq_zero h1))
    exact ⟨hh n P u W hnk (by omega) hl hO, hh (n + 2 ^ k') P u W (by rw [Nat.add_mod_right]; exact hnk) (by omega) hl hO⟩
  have HAP : Hid (∀ W', Below W.heap.size W W' → ∃ v' w3, (∀ ty, (Builtin.append_ #[45, 45] ty #[u, .slice (some ⟨W'.heap.size, 0, none⟩) 1 1]).run Try.prog (W'.alloc (.cells #[.bool six, .int .u64 (hiN n : Int), .int .u64 (loN n : Int), .int .i64 (pfK six k n).len] 27)) = .ok v' w3) ∧ PfO w0 w3 v' (P ++ [pfK six k n]) ∧ Kept W w3 u v') := fun W' hq => by
    obtain ⟨v', w3, hr, ho, hk2⟩ := (hO.below hq).app2 (pfK six k n) (by omega)
    exact ⟨v', w3, hr, ho, hk2.below hq⟩
  have HKK : Hid (∀ W', Below W.heap.size W W' → PfO w0 W' u P ∧ Kept W W' u u) := fun W' hq => ⟨hO.below hq, fun b cs t hr hne => ⟨hr.below hq, hne⟩⟩
  have HBD : Hid (k ≤ 128 ∧ P.length ≤ 4500) := ⟨by omega, hPl⟩
  have HHI : Hid (∀ b, W.heap.size ≤ b → some b ≠ u.ownBlock) := fun b hb => hO.ne hb
  obtain ⟨o, c, rfl, hc1, hc2⟩ := HasRow.slice hs
  obtain ⟨ou, cu, rfl⟩ := hO.slice
  have HR : Hid (∀ wr, Below W.heap.size W wr → HasSps wr (.slice o l.length c) l) := fun wr hb => hs.keep (below2 hO.bl hb)
  have HF : Hid (∀ s ∈ l, FitS s) := hf
  have HL : Hid (L + 1 = n + 2 ^ k) := hL
  have HLb : Hid (n < 2 ^ 128 ∧ L < 2 ^ 128) := ⟨by omega, by omega⟩
  obtain ⟨nn, hnn⟩ : ∃ n, n = l.length := ⟨_, rfl⟩
  have HN : Hid (nn = l.length) := hnn
  rw [← hnn] at HR hc1 HIH ⊢
  obtain ⟨q, hq⟩ : ∃ q, q = P.length := ⟨_, rfl⟩
  have HQ : Hid (q = P.length) := hq
  rw [← hq] at HKK HAP HHI ⊢
  have hni : (nn : Int) ≤ 9223372036854775807 := by omega
  have hqi : (q : Int) ≤ 4500 := by omega
  clear ih hs hf hO hnn hPl hL hLd hokp hq hc0 hw128 hpw hpk h1 h2 hlen hk
  have HPV : Hid (pfV (pfK six k n) = .agg #[.bool six, .int .u64 (hiN n : Int), .int .u64 (loN n : Int), .int .i64 (pfK six k n).len]) := rfl
  obtain ⟨ln, hln⟩ : ∃ z, z = (pfK six k n).len := ⟨_, rfl⟩
  rw [← hln] at HPV HAP
  rw [HPV.out] at HHV co ⊢
  obtain ⟨V, hV⟩ : ∃ V, V = docW six l k n P := ⟨_, rfl⟩
  have HV : Hid (V = docW six l k n P) := hV
  rw [← hV]
  unfold spV at co
  simp only at co
  have h0n : (pfK six k n).n = n := rfl
  rw [h0n] at co
  have HC : Hid (∀ s : Sp, FitS s → (∀ W, Calls Try.prog 44 #[adV s.1, adV n] W fun e w' => e = .returned (.int .i64 (cmpN s.1 n)) ∧ Below W.heap.size W w') ∧ (∀ W, Calls Try.prog 44 #[adV L, adV s.2] W fun e w' => e = .returned (.int .i64 (cmpN L s.2)) ∧ Below W.heap.size W w') ∧ (∀ W, Calls Try.prog 44 #[adV s.1, adV L] W fun e w' => e = .returned (.int .i64 (cmpN s.1 L)) ∧ Below W.heap.size W w') ∧ (∀ W, Calls Try.prog 44 #[adV n, adV s.2] W fun e w' => e = .returned (.int .i64 (cmpN n s.2)) ∧ Below W.heap.size W w')) := fun s hs => ⟨fun W => rcmp_any s.1 n W hs.1 HLb.out.1, fun W => rcmp_any L s.2 W HLb.out.2 hs.2, fun W => rcmp_any s.1 L W hs.1 HLb.out.2, fun W => rcmp_any n s.2 W HLb.out.1 hs.2⟩
  unfold adV at HC
  obtain ⟨ha, hha⟩ : ∃ z, z = hiN n := ⟨_, rfl⟩
  obtain ⟨la, hla⟩ : ∃ z, z = loN n := ⟨_, rfl⟩
  obtain ⟨hb, hhb⟩ : ∃ z, z = hiN L := ⟨_, rfl⟩
  obtain ⟨lb, hlb⟩ : ∃ z, z = loN L := ⟨_, rfl⟩
  rw [← hha, ← hla] at HHV HAP ⊢
  rw [← hha, ← hla, ← hhb, ← hlb] at co HC
  clear hha hla hhb hlb hln h0n HPV HLb hV
  obtain ⟨g0, hg0⟩ : ∃ z, z = W.heap.size := ⟨_, rfl⟩
  obtain ⟨X0, hX0⟩ : ∃ X, X = W.alloc (.cells #[.bool six, .int .u64 (ha : Int), .int .u64 (la : Int), .int .i64 ln] 27) := ⟨_, rfl⟩
  have hB0 : Below W.heap.size W X0 := by rw [hX0]; exact below_new (Below.refl _ _) _
  have rp : RowAt X0 W.heap.size [.bool six, .int .u64 (ha : Int), .int .u64 (la : Int), .int .i64 ln] 27 := by rw [hX0]; exact RowAt.new _ _ _
  rw [← hg0] at rp
  go_enter Try.func57, Try.ntmps57
  go_upto_region 1 with fail
  rw [← hX0, ← hg0]
  clear hX0 hg0
  obtain ⟨p0, p1, p2, p3, pf⟩ := cells4 rp
  go_wp2_with fail
  go_at_call 14; refine (co _).mono ?_; rintro e w2 ⟨rfl, hb'⟩
  replace rp := rp.below hb'
  replace hB0 := below2 hB0 hb'
  clear p0 p1 p2 p3 pf hb' co
  go_upto_region 2 with fail
  obtain ⟨X, hX⟩ : ∃ X, X = w2.alloc (.cells #[.int .u64 (ha : Int), .int .u64 (la : Int), .int .u64 (hb : Int), .int .u64 (lb : Int)] 34) := ⟨_, rfl⟩
  have hbX : Below w2.heap.size w2 X := by rw [hX]; exact below_new (Below.refl _ _) _
  have rb : RowAt X w2.heap.size [.int .u64 (ha : Int), .int .u64 (la : Int), .int .u64 (hb : Int), .int .u64 (lb : Int)] 34 := by rw [hX]; exact RowAt.new _ _ _
  rw [← hX]
  replace hB0 := below2 hB0 hbX
  replace rp := rp.below hbX
  clear hX hbX
  obtain ⟨g2, hg2⟩ : ∃ z, z = w2.heap.size := ⟨_, rfl⟩
  rw [← hg2] at rb ⊢
  clear hg2
  go_wp2_with fail
  have HB : Hid (∀ wr, Below X.heap.size X wr → Below W.heap.size W wr ∧ RowAt wr g0 [.bool six, .int .u64 (ha : Int), .int .u64 (la : Int), .int .i64 ln] 27 ∧ RowAt wr g2 [.int .u64 (ha : Int), .int .u64 (la : Int), .int .u64 (hb : Int), .int .u64 (lb : Int)] 34) := fun wr hq => ⟨below2 hB0 hq, rp.below hq, rb.below hq⟩
  clear hB0 rp rb
  go_loopw [9, 22] (fun m i wr => ∃ (j : Nat) (mb : Bool), j ≤ nn ∧ m = .bool mb ∧ i = .int .i64 j ∧ Below X.heap.size X wr ∧ Hid (mb = (l.take j).any (metB k n) ∧ (l.take j).any (covB k n) = false)) (fun _ i _ => nn - (intOf i).toNat)
  case atStart => exact ⟨0, false, by omega, rfl, rfl, Below.refl _ _, by constructor <;> simp⟩
  case round =>
    obtain ⟨j, mb, hj, rfl, rfl, hBX, HG⟩ := hrel
    obtain ⟨hBW, rp, rb⟩ := HB.out _ hBX
    by_cases hlt : j < nn
    · have hjz : j < l.length := by rw [← HN.out]; exact hlt
      obtain ⟨g1, i1, rfl, hg1, a0, a1, a2, a3⟩ := HasSps.cell (HR.out _ hBW) j hjz
      obtain ⟨c1, c2, c3, c4⟩ := HC.out _ (HF.out _ (List.getElem_mem hjz))
      have hji : (j : Int) < (nn : Int) := by omega
      have HH1 : Hid ((decide (cmpN l[j].1 n ≤ 0) && decide (cmpN L l[j].2 ≤ 0)) = true → V = P ++ [pfK six k n]) := fun h => by
        rw [HV.out]; exact docW_hit (List.any_eq_true.2 ⟨_, List.getElem_mem hjz, by rw [cov_cmp HL.out]; exact h⟩)
      have HN1 : Hid (∀ cb m2, (decide (cmpN l[j].1 n ≤ 0) && decide (cmpN L l[j].2 ≤ 0)) = cb → (mb || (decide (cmpN l[j].1 L ≤ 0) && decide (cmpN n l[j].2 ≤ 0))) = m2 → cb = false → (m2 = (l.take (j + 1)).any (metB k n) ∧ (l.take (j + 1)).any (covB k n) = false)) := fun cb m2 e1 e2 e3 => by
        rw [any_take hjz, any_take hjz, ← HG.out.1, HG.out.2, cov_cmp HL.out, met_cmp HL.out, e2, e1, e3]
        exact ⟨rfl, rfl⟩
      obtain ⟨sj, hsj⟩ : ∃ s, s = l[j] := ⟨_, rfl⟩
      rw [← hsj] at a0 a1 a2 a3 c1 c2 c3 c4 HH1 HN1
      obtain ⟨s1, s2⟩ := sj
      clear hsj HG
      simp only at a0 a1 a2 a3 c1 c2 c3 c4 HH1 HN1
      generalize cmpN s1 n = m1 at *
      generalize cmpN L s2 = m2 at *
      generalize cmpN s1 L = m3 at *
      generalize cmpN n s2 = m4 at *
      generalize hiN s1 = xa at *
      generalize loN s1 = xb at *
      generalize hiN s2 = xc at *
      generalize loN s2 = xd at *
      go_upto_region 6 with fail
      obtain ⟨Y, hY⟩ : ∃ X, X = wr.alloc (.cells #[.int .u64 (xa : Int), .int .u64 (xb : Int), .int .u64 (xc : Int), .int .u64 (xd : Int)] 34) := ⟨_, rfl⟩
      have hbY : Below wr.heap.size wr Y := by rw [hY]; exact below_new (Below.refl _ _) _
      have rx : RowAt Y wr.heap.size [.int .u64 (xa : Int), .int .u64 (xb : Int), .int .u64 (xc : Int), .int .u64 (xd : Int)] 34 := by rw [hY]; exact RowAt.new _ _ _
      rw [← hY]
      replace hBX := below2 hBX hbY
      replace rb := rb.below hbY
      clear hY hbY hBW rp
      obtain ⟨gs, hgs⟩ : ∃ g, g = wr.heap.size := ⟨_, rfl⟩
      rw [← hgs] at rx ⊢
      clear hgs a0 a1 a2 a3 hg1
      obtain ⟨x0, x1, x2, x3, xf⟩ := cells4 rx
      obtain ⟨y0, y1, y2, y3, yf⟩ := cells4 rb
      go_wp2_with fail
      go_at_call 44; refine (c1 _).mono ?_; rintro e w3 ⟨rfl, hb'⟩
      replace rx := rx.below hb'
      replace rb := rb.below hb'
      replace hBX := below2 hBX hb'
      clear x0 x1 x2 x3 xf y0 y1 y2 y3 yf hb'
      obtain ⟨x0, x1, x2, x3, xf⟩ := cells4 rx
      obtain ⟨y0, y1, y2, y3, yf⟩ := cells4 rb
      by_cases h1 : m1 ≤ 0
      · have hA1 : decide (m1 ≤ 0) = true := decide_eq_true h1
        rw [hA1] at HN1 HH1
        go_wp2_with fail
        go_at_call 44; refine (c2 _).mono ?_; rintro e w3 ⟨rfl, hb'⟩
        replace rx := rx.below hb'
        replace rb := rb.below hb'
        replace hBX := below2 hBX hb'
        clear x0 x1 x2 x3 xf y0 y1 y2 y3 yf hb'
        obtain ⟨x0, x1, x2, x3, xf⟩ := cells4 rx
        obtain ⟨y0, y1, y2, y3, yf⟩ := cells4 rb
        by_cases h2 : m2 ≤ 0
        · have hA2 : decide (m2 ≤ 0) = true := decide_eq_true h2
          rw [hA2] at HH1
          have HV2 : Hid (V = P ++ [pfK six k n]) := HH1.out rfl
          obtain ⟨hBW, rp, _⟩ := HB.out _ hBX
          obtain ⟨v', w3, hrun, hO2, hK2⟩ := HAP.out _ hBW
          have HF2 : Hid (PfO w0 w3 v' (P ++ [pfK six k n]) ∧ Kept W w3 (.slice ou q cu) v') := ⟨hO2, hK2⟩
          clear HN1 HH1 HV x0 x1 x2 x3 xf y0 y1 y2 y3 yf rx rb HAP hO2 hK2 hBW
          obtain ⟨p0, p1, p2, p3, pf⟩ := cells4 rp
          go_wp2_with fail
          go_ret
          exact ⟨_, rfl, by rw [HV2.out]; exact HF2.out.1, HF2.out.2⟩
        · have hA2 : decide (m2 ≤ 0) = false := decide_eq_false h2
          rw [hA2] at HN1
          replace HN1 : Hid (∀ m2, (mb || (decide (m3 ≤ 0) && decide (m4 ≤ 0))) = m2 → (m2 = (l.take (j + 1)).any (metB k n) ∧ (l.take (j + 1)).any (covB k n) = false)) := fun m2 e => HN1.out false m2 rfl e rfl
          cases mb
          · go_wp2_with fail
            go_at_call 44; refine (c3 _).mono ?_; rintro e w3 ⟨rfl, hb'⟩
            replace rx := rx.below hb'
            replace rb := rb.below hb'
            replace hBX := below2 hBX hb'
            clear x0 x1 x2 x3 xf y0 y1 y2 y3 yf hb'
            obtain ⟨x0, x1, x2, x3, xf⟩ := cells4 rx
            obtain ⟨y0, y1, y2, y3, yf⟩ := cells4 rb
            by_cases h3 : m3 ≤ 0
            · have hA3 : decide (m3 ≤ 0) = true := decide_eq_true h3
              rw [hA3] at HN1
              go_wp2_with fail
              go_at_call 44; refine (c4 _).mono ?_; rintro e w3 ⟨rfl, hb'⟩
              replace rx := rx.below hb'
              replace rb := rb.below hb'
              replace hBX := below2 hBX hb'
              clear x0 x1 x2 x3 xf y0 y1 y2 y3 yf hb'
              obtain ⟨x0, x1, x2, x3, xf⟩ := cells4 rx
              obtain ⟨y0, y1, y2, y3, yf⟩ := cells4 rb
              by_cases h4 : m4 ≤ 0
              · have hA4 : decide (m4 ≤ 0) = true := decide_eq_true h4
                rw [hA4] at HN1
                have HS : Hid (true = (l.take (j + 1)).any (metB k n) ∧ (l.take (j + 1)).any (covB k n) = false) := HN1.out _ (by first | exact rfl | simp)
                clear HN1 HH1 x0 x1 x2 x3 xf y0 y1 y2 y3 yf rx rb HAP
                go_wp2_with fail
                go_roundw
                case rel => exact ⟨j + 1, true, by omega, rfl, by go_num, hBX, HS⟩
                case measure => simp [intOf]; omega
              · have hA4 : decide (m4 ≤ 0) = false := decide_eq_false h4
                rw [hA4] at HN1
                have HS : Hid (false = (l.take (j + 1)).any (metB k n) ∧ (l.take (j + 1)).any (covB k n) = false) := HN1.out _ (by first | exact rfl | simp)
                clear HN1 HH1 x0 x1 x2 x3 xf y0 y1 y2 y3 yf rx rb HAP
                go_wp2_with fail
                go_roundw
                case rel => exact ⟨j + 1, false, by omega, rfl, by go_num, hBX, HS⟩
                case measure => simp [intOf]; omega
            · have hA3 : decide (m3 ≤ 0) = false := decide_eq_false h3
              rw [hA3] at HN1
              have HS : Hid (false = (l.take (j + 1)).any (metB k n) ∧ (l.take (j + 1)).any (covB k n) = false) := HN1.out _ (by first | exact rfl | simp)
              clear HN1 HH1 x0 x1 x2 x3 xf y0 y1 y2 y3 yf rx rb HAP
              go_wp2_with fail
              go_roundw
              case rel => exact ⟨j + 1, false, by omega, rfl, by go_num, hBX, HS⟩
              case measure => simp [intOf]; omega
          · have HS : Hid (true = (l.take (j + 1)).any (metB k n) ∧ (l.take (j + 1)).any (covB k n) = false) := HN1.out _ (by first | exact rfl | simp)
            clear HN1 HH1 x0 x1 x2 x3 xf y0 y1 y2 y3 yf rx rb HAP
            go_wp2_with fail
            go_roundw
            case rel => exact ⟨j + 1, true, by omega, rfl, by go_num, hBX, HS⟩
            case measure => simp [intOf]; omega
      · have hA1 : decide (m1 ≤ 0) = false := decide_eq_false h1
        rw [hA1] at HN1
        replace HN1 : Hid (∀ m2, (mb || (decide (m3 ≤ 0) && decide (m4 ≤ 0))) = m2 → (m2 = (l.take (j + 1)).any (metB k n) ∧ (l.take (j + 1)).any (covB k n) = false)) := fun m2 e => HN1.out false m2 rfl e rfl
        cases mb
        · go_wp2_with fail
          go_at_call 44; refine (c3 _).mono ?_; rintro e w3 ⟨rfl, hb'⟩
          replace rx := rx.below hb'
          replace rb := rb.below hb'
          replace hBX := below2 hBX hb'
          clear x0 x1 x2 x3 xf y0 y1 y2 y3 yf hb'
          obtain ⟨x0, x1, x2, x3, xf⟩ := cells4 rx
          obtain ⟨y0, y1, y2, y3, yf⟩ := cells4 rb
          by_cases h3 : m3 ≤ 0
          · have hA3 : decide (m3 ≤ 0) = true := decide_eq_true h3
            rw [hA3] at HN1
            go_wp2_with fail
            go_at_call 44; refine (c4 _).mono ?_; rintro e w3 ⟨rfl, hb'⟩
            replace rx := rx.below hb'
            replace rb := rb.below hb'
            replace hBX := below2 hBX hb'
            clear x0 x1 x2 x3 xf y0 y1 y2 y3 yf hb'
            obtain ⟨x0, x1, x2, x3, xf⟩ := cells4 rx
            obtain ⟨y0, y1, y2, y3, yf⟩ := cells4 rb
            by_cases h4 : m4 ≤ 0
            · have hA4 : decide (m4 ≤ 0) = true := decide_eq_true h4
              rw [hA4] at HN1
              have HS : Hid (true = (l.take (j + 1)).any (metB k n) ∧ (l.take (j + 1)).any (covB k n) = false) := HN1.out _ (by first | exact rfl | simp)
              clear HN1 HH1 x0 x1 x2 x3 xf y0 y1 y2 y3 yf rx rb HAP
              go_wp2_with fail
              go_roundw
              case rel => exact ⟨j + 1, true, by omega, rfl, by go_num, hBX, HS⟩
              case measure => simp [intOf]; omega
            · have hA4 : decide (m4 ≤ 0) = false := decide_eq_false h4
              rw [hA4] at HN1
              have HS : Hid (false = (l.take (j + 1)).any (metB k n) ∧ (l.take (j + 1)).any (covB k n) = false) := HN1.out _ (by first | exact rfl | simp)
              clear HN1 HH1 x0 x1 x2 x3 xf y0 y1 y2 y3 yf rx rb HAP
              go_wp2_with fail
              go_roundw
              case rel => exact ⟨j + 1, false, by omega, rfl, by go_num, hBX, HS⟩
              case measure => simp [intOf]; omega
          · have hA3 : decide (m3 ≤ 0) = false := decide_eq_false h3
            rw [hA3] at HN1
            have HS : Hid (false = (l.take (j + 1)).any (metB k n) ∧ (l.take (j + 1)).any (covB k n) = false) := HN1.out _ (by first | exact rfl | simp)
            clear HN1 HH1 x0 x1 x2 x3 xf y0 y1 y2 y3 yf rx rb HAP
            go_wp2_with fail
            go_roundw
            case rel => exact ⟨j + 1, false, by omega, rfl, by go_num, hBX, HS⟩
            case measure => simp [intOf]; omega
        · have HS : Hid (true = (l.take (j + 1)).any (metB k n) ∧ (l.take (j + 1)).any (covB k n) = false) := HN1.out _ (by first | exact rfl | simp)
          clear HN1 HH1 x0 x1 x2 x3 xf y0 y1 y2 y3 yf rx rb HAP
          go_wp2_with fail
          go_roundw
          case rel => exact ⟨j + 1, true, by omega, rfl, by go_num, hBX, HS⟩
          case measure => simp [intOf]; omega
    · have hkf : decide ((j : Int) < (nn : Int)) = false := decide_eq_false (by omega)
      have hte : l.take j = l := by have := HN.out; exact List.take_of_length_le (by omega)
      rw [hte] at HG
      clear hte
      cases mb
      · have HV2 : Hid (V = P) := by show _ = _; rw [HV.out]; exact docW_off HG.out.2 (.inl HG.out.1.symm)
        have HK2 := HKK.out _ hBW
        have HK3 : Hid (PfO w0 wr (.slice ou q cu) P ∧ Kept W wr (.slice ou q cu) (.slice ou q cu)) := HK2
        clear HV HG HAP HC HIH HHV HK2
        go_wp2_with fail
        go_ret
        exact ⟨_, rfl, by rw [HV2.out]; exact HK3.out.1, HK3.out.2⟩
      · by_cases hq4 : q ≤ 4096
        · have hqf : decide ((4096 : Int) < (q : Int)) = false := decide_eq_false (by omega)
          obtain ⟨k', hk'⟩ : ∃ k', k = k' + 1 := by
            cases k with
            | zero => have := met0 HG.out.2; rw [← HG.out.1] at this; exact absurd this (by decide)
            | succ k' => exact ⟨k', rfl⟩
          have HV2 : Hid (V = docW six l k' (n + 2 ^ k') (docW six l k' n P)) := by
            show _ = _
            have := HQ.out
            rw [HV.out]; subst hk'; exact docW_on HG.out.2 HG.out.1.symm (by omega)
          have HLn : Hid ((docW six l k' n P).length ≤ 4500) := by
            have h5 := (docW_is six l k' n P).2.2.2.1 (by have := HQ.out; omega)
            have h6 := HBD.out.1
            show _ ≤ _; omega
          have cH := HHV.out k' hk'
          have HI1 : Hid (∀ W, Below wr.heap.size wr W → True) := fun _ _ => trivial
          have hlo : pfV (pfK six k' n) = .agg #[.bool six, .int .u64 (hiN n : Int), .int .u64 (loN n : Int), .int .i64 (pfK six k' n).len] := rfl
          have hhi : pfV (pfK six k' (n + 2 ^ k')) = .agg #[.bool six, .int .u64 (hiN (n + 2 ^ k') : Int), .int .u64 (loN (n + 2 ^ k') : Int), .int .i64 (pfK six k' (n + 2 ^ k')).len] := rfl
          have HJ : Hid (∀ P u W, P.length ≤ 4500 → PfO w0 W u P → (Calls Try.prog 57 #[u, .slice o nn c, pfV (pfK six k' n)] W fun e W' => ∃ u', e = .returned u' ∧ PfO w0 W' u' (docW six l k' n P) ∧ Kept W W' u u') ∧ Calls Try.prog 57 #[u, .slice o nn c, pfV (pfK six k' (n + 2 ^ k'))] W fun e W' => ∃ u', e = .returned u' ∧ PfO w0 W' u' (docW six l k' (n + 2 ^ k') P) ∧ Kept W W' u u') := HIH.out k' hk'
          rw [hlo, hhi] at HJ cH
          clear HIH HHV hlo hhi HI1 hk' HG HAP HC HV
          obtain ⟨D1, hD1⟩ : ∃ z, z = docW six l k' n P := ⟨_, rfl⟩
          have HD1 : Hid (D1 = docW six l k' n P) := hD1
          obtain ⟨ma, hma⟩ : ∃ z, z = hiN n := ⟨_, rfl⟩
          obtain ⟨mb, hmb⟩ : ∃ z, z = loN n := ⟨_, rfl⟩
          obtain ⟨mc, hmc⟩ : ∃ z, z = (pfK six k' n).len := ⟨_, rfl⟩
          obtain ⟨na, hna⟩ : ∃ z, z = hiN (n + 2 ^ k') := ⟨_, rfl⟩
          obtain ⟨nb, hnb⟩ : ∃ z, z = loN (n + 2 ^ k') := ⟨_, rfl⟩
          obtain ⟨nc, hnc⟩ : ∃ z, z = (pfK six k' (n + 2 ^ k')).len := ⟨_, rfl⟩
          rw [← hma, ← hmb, ← hmc, ← hna, ← hnb, ← hnc] at HJ cH
          clear hma hmb hmc hna hnb hnc hD1
          obtain ⟨p0, p1, p2, p3, pf⟩ := cells4 rp
          clear rb HF HL HR HB
          go_wp2_with fail
          go_at_call 84; refine (cH _).mono ?_; rintro e w5 ⟨rfl, hb'⟩
          replace hBW := below2 hBW hb'
          clear p0 p1 p2 p3 pf hb' cH rp hBX
          go_upto_region 13 with fail
          obtain ⟨Z, hZ⟩ : ∃ X, X = (w5.alloc (.cells #[.bool six, .int .u64 (ma : Int), .int .u64 (mb : Int), .int .i64 mc] 27)).alloc (.cells #[.bool six, .int .u64 (na : Int), .int .u64 (nb : Int), .int .i64 nc] 27) := ⟨_, rfl⟩
          rw [← hZ]
          have hbZ : Below w5.heap.size w5 Z := by rw [hZ]; exact below_new (below_new (Below.refl _ _) _) _
          have r1 : RowAt Z w5.heap.size [.bool six, .int .u64 (ma : Int), .int .u64 (mb : Int), .int .i64 mc] 27 := by rw [hZ]; exact (RowAt.new _ _ _).alloc _
          have r2 : RowAt Z (w5.heap.size + 1) [.bool six, .int .u64 (na : Int), .int .u64 (nb : Int), .int .i64 nc] 27 := by
            rw [hZ, ← World.size_alloc w5 (.cells #[.bool six, .int .u64 (ma : Int), .int .u64 (mb : Int), .int .i64 mc] 27)]; exact RowAt.new _ _ _
          have hBZ := below2 hBW hbZ
          have hz5 := hBW.size
          have HNE : Hid (some (w5.heap.size + 1) ≠ (Value.slice ou q cu).ownBlock) := HHI.out _ (by omega)
          clear hZ hbZ hz5
          obtain ⟨gz, hgz⟩ : ∃ z, z = w5.heap.size := ⟨_, rfl⟩
          obtain ⟨gy, hgy⟩ : ∃ z, z = w5.heap.size + 1 := ⟨_, rfl⟩
          rw [← hgy] at r2 HNE ⊢
          rw [← hgz] at r1 ⊢
          clear hgz hgy hBW
          have HE1 : Hid (∀ W', Below Z.heap.size Z W' → Calls Try.prog 57 #[.slice ou q cu, .slice o nn c, .agg #[.bool six, .int .u64 (ma : Int), .int .u64 (mb : Int), .int .i64 mc]] W' fun e w6 => ∃ u6, e = .returned u6 ∧ Hid (PfO w0 w6 u6 D1 ∧ Kept W w6 (.slice ou q cu) u6) ∧ RowAt w6 gy [.bool six, .int .u64 (na : Int), .int .u64 (nb : Int), .int .i64 nc] 27) := fun W' hq => by
            have hx := below2 hBZ hq
            refine ((HJ.out P _ W' HBD.out.2 (HKK.out W' hx).1).1).mono ?_
            rintro e w6 ⟨u6, rfl, ho, hk⟩
            rw [← HD1.out] at ho
            exact ⟨u6, rfl, ⟨ho, hk.below hx⟩, (hk _ _ _ (r2.below hq) HNE.out).1⟩
          have HE2 : Hid (∀ w6 u6, Hid (PfO w0 w6 u6 D1 ∧ Kept W w6 (.slice ou q cu) u6) → ∀ W', Below w6.heap.size w6 W' → Calls Try.prog 57 #[u6, .slice o nn c, .agg #[.bool six, .int .u64 (na : Int), .int .u64 (nb : Int), .int .i64 nc]] W' fun e w7 => ∃ u7, e = .returned u7 ∧ Hid (PfO w0 w7 u7 V ∧ Kept W w7 (.slice ou q cu) u7)) := fun w6 u6 hh W' hq => by
            refine ((HJ.out D1 u6 W' (by rw [HD1.out]; exact HLn.out) (hh.out.1.below hq)).2).mono ?_
            rintro e w7 ⟨u7, rfl, ho, hk⟩
            rw [HD1.out, ← HV2.out] at ho
            exact ⟨u7, rfl, ho, (hh.out.2.tail hq).trans hk⟩
          clear HJ HKK HHI HD1 HV2 HLn HBD HN HQ HNE hBZ
          have ce1 := HE1.out
          have ce2 := HE2.out
          clear HE1 HE2
          obtain ⟨p0, p1, p2, p3, pf⟩ := cells4 r1
          obtain ⟨q0, q1, q2, q3, qf⟩ := cells4 r2
          go_region_with (first
            | (go_at_call 57
               with_reducible refine (ce1 _ (by (repeat' (first | exact Below.refl _ _ | refine Below.drew ?_)))).mono ?_
               rintro e w6 ⟨u9', rfl, hE6, r6⟩
               clear p0 p1 p2 p3 pf q0 q1 q2 q3 qf
               obtain ⟨q0, q1, q2, q3, qf⟩ := cells4 r6)
            | (go_at_call 57
               with_reducible refine (ce2 _ _ hE6 _ (by (repeat' (first | exact Below.refl _ _ | refine Below.drew ?_)))).mono ?_
               rintro e w7 ⟨u8', rfl, hE7⟩))
          all_goals go_wp2_with fail
          all_goals go_ret
          all_goals first
            | exact ⟨_, rfl, hE7.out.1, hE7.out.2⟩
            | exact ⟨_, rfl, (hE7.out.1).below (by (repeat' (first | exact Below.refl _ _ | refine Below.drew ?_))), (hE7.out.2).tail (by (repeat' (first | exact Below.refl _ _ | refine Below.drew ?_)))⟩
        · have hqf : decide ((4096 : Int) < (q : Int)) = true := decide_eq_true (by omega)
          have HV2 : Hid (V = P) := by show _ = _; rw [HV.out]; exact docW_off HG.out.2 (.inr (by have := HQ.out; omega))
          have HK2 := HKK.out _ hBW
          have HK3 : Hid (PfO w0 wr (.slice ou q cu) P ∧ Kept W wr (.slice ou q cu) (.slice ou q cu)) := HK2
          clear HV HG HAP HC HIH HHV HK2
          go_wp2_with fail
          go_ret
          exact ⟨_, rfl, by rw [HV2.out]; exact HK3.out.1, HK3.out.2⟩
theorem within_all (six : Bool) (l : List Sp) (w0 : World) (v : Value) (hs : HasSps w0 v l) (hf : ∀ s ∈ l, FitS s) : ∀ k, k ≤ wideN six → WCall six l w0 v k := by
  intro k
  induction k with
  | zero => exact fun hk => within_step six l w0 v hs hf 0 hk (fun k' e => by omega)
  | succ k ih => exact fun hk => within_step six l w0 v hs hf (k + 1) hk (fun k' e => by obtain rfl : k' = k := by omega
                                                                                         exact ih (by omega))
theorem within_any (six : Bool) (l : List Sp) (v : Value) (w : World) (hs : HasSps w v l) (hf : ∀ s ∈ l, FitS s) :
    Calls Try.prog 57 #[.slice none 0 0, v, .agg #[.bool six, .int .u64 0, .int .u64 0, .int .i64 0]] w fun e W' => ∃ u', e = .returned u' ∧ PfO w W' u' (docW six l (wideN six) 0 []) := by
  have hp := Nat.two_pow_pos (wideN six)
  have h := within_all six l w v hs hf (wideN six) (Nat.le_refl _) 0 [] (.slice none 0 0) w (Nat.zero_mod _) (by omega) (by decide) ⟨World.ownsRow_nil _ _ _ _, Below.refl _ _⟩
  have e : pfV (pfK six (wideN six) 0) = .agg #[.bool six, .int .u64 0, .int .u64 0, .int .i64 0] := by
    have e0 : (pfK six (wideN six) 0).len = 0 := by unfold pfK; simp only; omega
    show Value.agg #[.bool six, .int .u64 (hiN 0 : Int), .int .u64 (loN 0 : Int), .int .i64 (pfK six (wideN six) 0).len] = _
    rw [e0]; rfl
  rw [e] at h
  exact h.mono fun e W' ⟨u', a, b, _⟩ => ⟨u', a, b⟩
end Go.Proofs.Ytiemlaehhmlhmaa.Sp
namespace Go.Proofs.Ytiemlaehhmlhmaa.Sp
open Go.RowKit Go.Shelf
open Go.Proofs.Ytiemlaehhmlhmaa.Lk (HasRow hasRow_own addr_add)
open Go.Proofs.Ytiemlaehhmlhmaa.Addr (Pf pfV wideN wideN_le below2 below_drew below_new bset)
attribute [-go_sem] Builtin.append_
theorem within_from (six : Bool) (l : List Sp) (v : Value) (w0 W : World) (hs : HasSps w0 v l) (hf : ∀ s ∈ l, FitS s) (hb : Below w0.heap.size w0 W) :
    Calls Try.prog 57 #[.slice none 0 0, v, .agg #[.bool six, .int .u64 0, .int .u64 0, .int .i64 0]] W fun e W' => ∃ u', e = .returned u' ∧ PfO w0 W' u' (docW six l (wideN six) 0 []) := by
  have hp := Nat.two_pow_pos (wideN six)
  have h := within_all six l w0 v hs hf (wideN six) (Nat.le_refl _) 0 [] (.slice none 0 0) W (Nat.zero_mod _) (by omega) (by decide) ⟨World.ownsRow_nil _ _ _ _, hb⟩
  have e : pfV (pfK six (wideN six) 0) = .agg #[.bool six, .int .u64 0, .int .u64 0, .int .i64 0] := by
    have e0 : (pfK six (wideN six) 0).len = 0 := by unfold pfK; simp only; omega
    show Value.agg #[.bool six, .int .u64 (Go.Proofs.Ytiemlaehhmlhmaa.Addr.hiN 0 : Int), .int .u64 (Go.Proofs.Ytiemlaehhmlhmaa.Addr.loN 0 : Int), .int .i64 (pfK six (wideN six) 0).len] = _
    rw [e0]; rfl
  rw [e] at h
  exact h.mono fun e W' ⟨u', a, b, _⟩ => ⟨u', a, b⟩
theorem prefE_doc (six : Bool) (l : List Sp) (h : okB six l = true) : (docW six l (wideN six) 0 []).length ≤ 4500 ∧ ((docW six l (wideN six) 0 []).length ≤ 4096 → prefE six l = (docW six l (wideN six) 0 [], 0)) ∧ (4096 < (docW six l (wideN six) 0 []).length → prefE six l = ([], 11)) := by
  obtain ⟨d1, d2, _, d4, _⟩ := docW_is six l (wideN six) 0 []
  have hw := wideN_le six
  have h0 : ([] : List Pf).length = 0 := rfl
  refine ⟨by have := d4 (by omega); omega, fun hl => ?_, fun hl => ?_⟩
  · have e := d1 hl
    rw [List.nil_append] at e
    rw [prefE_WL, if_pos h, ← e, if_neg (by omega)]
  · have e := d2 hl
    rw [h0] at e
    rw [prefE_WL, if_pos h, if_pos (by omega)]
set_option maxHeartbeats 8000000 in
set_option maxRecDepth 20000 in
theorem rprefixes_any (six : Bool) (l : List Sp) (v : Value) (w : World) (h : HasSps w v l) (hf : ∀ s ∈ l, FitS s) :
    Calls Try.prog 27 #[.bool six, v] w fun e w' => ∃ u, e = .returned (.tuple #[u, .int .i64 (prefE six l).2]) ∧ PfO w w' u (prefE six l).1 := by
  have cc := rchk_any six l _ w h hf
  have cw := fun (W : World) (hb : Below w.heap.size w W) => within_from six l v w W h hf hb
  obtain ⟨o, c, rfl, hc1, hc2⟩ := HasRow.slice h
  have HE : Hid (∀ b, okB six l = b → (prefE six l) = if b then (if 4096 < (prefL six l).length then ([], 11) else (prefL six l, 0)) else ([], 2)) := fun b hb => by unfold prefE; rw [hb]
  have HP : Hid (okB six l = true → _) := prefE_doc six l
  generalize prefE six l = R at *
  generalize docW six l (wideN six) 0 [] = D at *
  cases hok : okB six l
  · have HV : Hid (R = ([], 2)) := HE.out false hok
    rw [hok] at cc
    unfold chk at cc
    simp only [Bool.false_eq_true, if_false] at cc
    generalize l.length = n at *
    clear h hf hok HE HP cw
    go_enter Try.func27, Try.ntmps27
    go_wp2_with fail
    go_at_call 17; refine cc.mono ?_; rintro e w2 ⟨rfl, hb2⟩
    go_wp2_with fail
    (try rw [Exit.noGoto_ret])
    go_ret2
    exact ⟨.slice none 0 0, by rw [HV.out]; rfl, by rw [HV.out]; exact ⟨World.ownsRow_nil _ _ _ _, hb2⟩⟩
  · rw [hok] at cc
    unfold chk at cc
    simp only [if_true] at cc
    obtain ⟨hd, hp1, hp2⟩ := HP.out hok
    have HP1 : Hid (D.length ≤ 4096 → R = (D, 0)) := hp1
    have HP2 : Hid (4096 < D.length → R = ([], 11)) := hp2
    generalize l.length = n at *
    clear h hf hok HE HP hp1 hp2
    go_enter Try.func27, Try.ntmps27
    go_wp2_with fail
    go_at_call 17; refine cc.mono ?_; rintro e w2 ⟨rfl, hb2⟩
    clear cc
    go_wp2_with fail
    go_at_call 57; refine (cw _ hb2).mono ?_; rintro e w3 ⟨u3, rfl, hO⟩
    obtain ⟨o3, c3, rfl⟩ := hO.slice
    have HO : Hid (PfO w w3 (.slice o3 D.length c3) D) := hO
    obtain ⟨q, hq⟩ : ∃ q, q = D.length := ⟨_, rfl⟩
    rw [← hq] at HO HP1 HP2 hd ⊢
    have hqi : (q : Int) ≤ 4500 := by omega
    clear hq cw hb2 hO
    by_cases hl : 4096 < q
    · have HV : Hid (R = ([], 11)) := HP2.out hl
      have hqf : decide ((4096 : Int) < (q : Int)) = true := decide_eq_true (by omega)
      clear HP1 HP2
      go_wp2_with fail
      (try rw [Exit.noGoto_ret])
      go_ret2
      exact ⟨.slice none 0 0, by rw [HV.out]; rfl, by rw [HV.out]; exact ⟨World.ownsRow_nil _ _ _ _, HO.out.bl⟩⟩
    · have HV : Hid (R = (D, 0)) := HP1.out (by omega)
      have hqf : decide ((4096 : Int) < (q : Int)) = false := decide_eq_false (by omega)
      clear HP1 HP2
      go_wp2_with fail
      (try rw [Exit.noGoto_ret])
      go_ret2
      exact ⟨_, by rw [HV.out]; rfl, by rw [HV.out]; exact HO.out⟩
end Go.Proofs.Ytiemlaehhmlhmaa.Sp
