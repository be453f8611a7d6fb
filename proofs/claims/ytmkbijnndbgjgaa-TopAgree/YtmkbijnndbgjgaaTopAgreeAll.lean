/- For any interval and two rows of eras: spoortop.TopAgree returns true, and changes nothing that was there. No condition. -/
import Derived.Test.YtmkbijnndbgjgaaLnZ1
import Derived.Test.YtmkbijnndbgjgaaLnZ3
import Derived.Test.YtmkbijnndbgjgaaIvZ1
import Derived.Test.YtmkbijnndbgjgaaRows
import Derived.Test.YtmkbijnndbgjgaaBgnZ
import Derived.ProofKit
import Derived.OpenShut
import Derived.ShutString
import Derived.SizedLaws
set_option linter.unusedVariables false
namespace Go.Proofs.Ytmkbijnndbgjgaa.Ln
open Go.RowKit
open Go.Proofs.Ytmkbijnndbgjgaa.Iv (Iv okI okI_iff)
def lastO : Option Vd → List Er → Option Vd
  | p, [] => p
  | _, y :: l => lastO (some y.v) l
theorem lastO_snoc (A : List Er) (x : Er) : ∀ p, lastO p (A ++ [x]) = some x.v := by
  induction A with
  | nil => intro p; rfl
  | cons y A ih => intro p; exact ih _
theorem goE_snoc {b : Int} (x : Er) : ∀ (l : List Er) (p : Option Vd) (n : Int), goE b p n (l ++ [x]) = match goE b p n l with | none => none | some m => if stepB b (lastO p l) m x then some (x.b + 1) else none := by
  intro l
  induction l with
  | nil => intro p n; rfl
  | cons y l ih =>
    intro p n
    show (if stepB b p n y then goE b (some y.v) (y.b + 1) (l ++ [x]) else none) = match (if stepB b p n y then goE b (some y.v) (y.b + 1) l else none) with | none => none | some m => if stepB b (lastO (some y.v) l) m x then some (x.b + 1) else none
    cases stepB b p n y
    · rfl
    · exact ih _ _
def wantM (l : List Mk) (t : Int) : Vd := l.foldl (fun v m => if m.t ≤ t then m.v else v) zV
theorem wantM_snoc (l : List Mk) (m : Mk) (t : Int) : wantM (l ++ [m]) t = if m.t ≤ t then m.v else wantM l t := by unfold wantM; rw [List.foldl_append]; rfl
theorem eqV_comm (u v : Vd) : eqV u v = eqV v u := Bool.eq_iff_iff.2 ⟨fun h => eqV_iff.2 (eqV_iff.1 h).symm, fun h => eqV_iff.2 (eqV_iff.1 h).symm⟩
/-- a line grows by times right behind it -/
theorem put_goE {b n c e : Int} {l : List Er} {v : Vd} (h : goE b none n l = some c) (h1 : c ≤ e) (h2 : e ≤ b) : goE b none n (putE l c e v) = some (e + 1) := by
  rcases List.eq_nil_or_concat l with rfl | ⟨A, x, rfl⟩
  · simp only [goE, Option.some.injEq] at h
    subst h
    show (if stepB b none n ⟨n, e, v⟩ then some (e + 1) else none) = _
    rw [if_pos]
    simp only [stepB, notP, Bool.and_eq_true, decide_eq_true_eq]
    exact ⟨trivial, h1, h2, trivial⟩
  · rw [List.concat_eq_append] at h ⊢
    rw [putE_snoc]
    rw [goE_snoc] at h
    cases hA : goE b none n A with
    | none => rw [hA] at h; cases h
    | some m =>
      rw [hA] at h
      simp only at h
      split at h
      · rename_i hs
        injection h with h
        have hs2 := hs
        simp only [stepB, Bool.and_eq_true, decide_eq_true_eq] at hs
        cases hv : eqV x.v v with
        | true =>
          rw [if_pos rfl, goE_snoc, hA]
          simp only
          rw [if_pos]
          simp only [stepB, Bool.and_eq_true, decide_eq_true_eq]
          exact ⟨hs.1, by omega, h2, hs.2.2.2⟩
        | false =>
          rw [if_neg Bool.false_ne_true, goE_snoc, goE_snoc, hA]
          simp only
          rw [if_pos hs2]
          simp only
          rw [if_pos, ]
          rw [lastO_snoc]
          simp only [stepB, notP, Bool.and_eq_true, decide_eq_true_eq]
          exact ⟨h.symm, h1, h2, by rw [eqV_comm, hv]; rfl⟩
      · cases h
theorem put_ok {l : List Er} {a e : Int} {v : Vd} (hl : ∀ x ∈ l, okV x.v = true) (hv : okV v = true) : ∀ x ∈ putE l a e v, okV x.v = true := by
  rcases List.eq_nil_or_concat l with rfl | ⟨A, y, rfl⟩
  · intro x hx
    have hx' : x ∈ [(⟨a, e, v⟩ : Er)] := hx
    rw [List.mem_singleton.1 hx']; exact hv
  · rw [List.concat_eq_append] at hl ⊢
    rw [putE_snoc]
    intro x hx
    split at hx
    · rcases List.mem_append.1 hx with hx | hx
      · exact hl x (List.mem_append.2 (.inl hx))
      · rw [List.mem_singleton.1 hx]; exact hl y (by simp)
    · rcases List.mem_append.1 hx with hx | hx
      · exact hl x hx
      · rw [List.mem_singleton.1 hx]; exact hv
theorem put_hold {b n c e : Int} {l : List Er} {v : Vd} (h : goE b none n l = some c) (h1 : c ≤ e) (h2 : e ≤ b) (t : Int) (ht : n ≤ t) (hte : t ≤ e) : holdL (putE l c e v) t = if c ≤ t then v else holdL l t := by
  have hg := put_goE (v := v) h h1 h2
  by_cases hct : c ≤ t
  · rw [if_pos hct]
    rcases List.eq_nil_or_concat l with rfl | ⟨A, x, rfl⟩
    · exact hold_in (x := ⟨c, e, v⟩) ⟨hct, hte⟩
    · rw [List.concat_eq_append] at h hg ⊢
      have hxb : x.a ≤ x.b ∧ x.b + 1 = c := by
        rw [goE_snoc] at h
        cases hA : goE b none n A with
        | none => rw [hA] at h; cases h
        | some m =>
          rw [hA] at h
          simp only at h
          split at h
          · rename_i hs
            injection h with h
            simp only [stepB, Bool.and_eq_true, decide_eq_true_eq] at hs
            exact ⟨hs.2.1, h⟩
          · cases h
      rw [putE_snoc] at hg ⊢
      cases hv : eqV x.v v with
      | true =>
        rw [hv, if_pos rfl] at hg
        rw [if_pos rfl, goE_hold _ _ _ _ t hg ⟨x.a, e, x.v⟩ (by simp) (by show x.a ≤ t; omega) hte]
        exact eqV_iff.1 hv
      | false =>
        rw [hv, if_neg Bool.false_ne_true] at hg
        rw [if_neg Bool.false_ne_true, goE_hold _ _ _ _ t hg ⟨c, e, v⟩ (by simp) hct hte]
  · rw [if_neg hct]
    obtain ⟨y, hy, hi⟩ := (goE_cover l none n c t h).2.2 ⟨ht, by omega⟩
    have hi2 := inT_iff.1 hi
    rw [goE_hold l _ _ _ t h y hy hi2.1 hi2.2]
    rcases List.eq_nil_or_concat l with rfl | ⟨A, x, rfl⟩
    · simp at hy
    · rw [List.concat_eq_append] at hy hg ⊢
      rw [putE_snoc] at hg ⊢
      cases hv : eqV x.v v with
      | true =>
        rw [hv, if_pos rfl] at hg
        rw [if_pos rfl]
        rcases List.mem_append.1 hy with hy | hy
        · exact goE_hold _ _ _ _ t hg y (List.mem_append.2 (.inl hy)) hi2.1 hi2.2
        · rw [List.mem_singleton.1 hy] at hi2 ⊢
          exact goE_hold _ _ _ _ t hg ⟨x.a, e, x.v⟩ (by simp) hi2.1 hte
      | false =>
        rw [hv, if_neg Bool.false_ne_true] at hg
        rw [if_neg Bool.false_ne_true]
        exact goE_hold _ _ _ _ t hg y (List.mem_append.2 (.inl hy)) hi2.1 hi2.2
/-- the time behind k marks' eras -/
def cT (w : Iv) (ms : List Mk) (k : Nat) : Int := match ms[k]? with | some m => m.t | none => w.2 + 1
theorem cT_at {w : Iv} {ms : List Mk} {k : Nat} (h : k < ms.length) : cT w ms k = ms[k].t := by unfold cT; rw [List.getElem?_eq_getElem h]
theorem cT_end {w : Iv} {ms : List Mk} {k : Nat} (h : ms.length ≤ k) : cT w ms k = w.2 + 1 := by unfold cT; rw [List.getElem?_eq_none h]
theorem endM_cT (w : Iv) (ms : List Mk) (k : Nat) : endM w.2 ms k = cT w ms (k + 1) - 1 := by
  unfold endM cT
  cases ms[k + 1]? with
  | none => show w.2 = w.2 + 1 - 1; omega
  | some m => rfl
theorem okM_rise {w : Iv} {ms : List Mk} (h : okM w ms = true) {k : Nat} (hk : k + 1 < ms.length) : ms[k].t < ms[k + 1].t := by
  have hm : marksB w.2 none ms = true := by
    cases ms with
    | nil => simp at hk
    | cons m l => simp only [okM, Bool.and_eq_true] at h; exact h.2
  have : ∀ (k : Nat) (p : Option Int) (l : List Mk), marksB w.2 p l = true → ∀ (hk : k + 1 < l.length), l[k].t < l[k + 1].t := by
    intro k
    induction k with
    | zero =>
      intro p l hl hk
      match l, hk with
      | a :: b :: l, _ =>
        simp only [marksB, stepM, gtP, Bool.and_eq_true, decide_eq_true_eq] at hl
        simp only [List.getElem_cons_zero, List.getElem_cons_succ]
        exact hl.2.1.2.2
    | succ k ih =>
      intro p l hl hk
      match l, hk with
      | a :: l, hk =>
        simp only [marksB, Bool.and_eq_true] at hl
        simp only [List.getElem_cons_succ]
        exact ih _ l hl.2 (by simpa using hk)
  exact this k none ms hm hk
theorem done_inv {w : Iv} {ms : List Mk} (hw : okI w = true) (hm : okM w ms = true) : ∀ k, k ≤ ms.length → goE w.2 none w.1 (doneE w.2 ms k) = some (cT w ms k) ∧ (∀ x ∈ doneE w.2 ms k, okV x.v = true) ∧ ∀ t, w.1 ≤ t → t < cT w ms k → holdL (doneE w.2 ms k) t = wantM (ms.take k) t := by
  intro k
  induction k with
  | zero =>
    intro _
    have hp := okM_pos hm
    have h0 : cT w ms 0 = w.1 := by
      rw [cT_at hp]
      cases ms with
      | nil => simp at hp
      | cons m l => simp only [okM, Bool.and_eq_true, decide_eq_true_eq] at hm; exact hm.1
    refine ⟨by rw [h0]; rfl, (fun x hx => by cases hx), fun t h1 h2 => by omega⟩
  | succ k ih =>
    intro hk
    have hkn : k < ms.length := by omega
    obtain ⟨i1, i2, i3⟩ := ih (by omega)
    have hat := okM_at hw hm k hkn
    rw [doneE_succ hkn, endM_cT]
    rw [cT_at hkn] at i1 i3
    have hc1 : ms[k].t ≤ cT w ms (k + 1) - 1 ∧ cT w ms (k + 1) - 1 ≤ w.2 := by
      by_cases h : k + 1 < ms.length
      · rw [cT_at h]
        have := okM_rise hm h
        have := okM_at hw hm (k + 1) h
        omega
      · rw [cT_end (by omega)]; omega
    refine ⟨?_, put_ok i2 hat.2.2.2, fun t h1 h2 => ?_⟩
    · rw [put_goE i1 hc1.1 hc1.2, show cT w ms (k + 1) - 1 + 1 = cT w ms (k + 1) by omega]
    · rw [put_hold i1 hc1.1 hc1.2 t h1 (by omega), List.take_succ_eq_append_getElem hkn, wantM_snoc]
      by_cases h : ms[k].t ≤ t
      · rw [if_pos h, if_pos h]
      · rw [if_neg h, if_neg h]; exact i3 t h1 (by omega)
/-- what was made is a line, and tells so -/
theorem make_tells {w : Iv} {ms : List Mk} {R : List Er} (h : (R, (0 : Int)) = mkL w ms) : okL w R = true ∧ ∀ t, atL w R t = if w.1 ≤ t ∧ t ≤ w.2 then (wantM ms t, 0) else (zV, 1) := by
  unfold mkL at h
  cases hw : okI w with
  | false => rw [hw] at h; simp at h
  | true =>
    cases hm : okM w ms with
    | false => rw [hw, hm] at h; simp at h
    | true =>
      rw [hw, hm] at h
      by_cases hl : (doneE w.2 ms ms.length).length ≤ 1024
      · rw [if_pos (show (true && true) = true from rfl), if_pos hl] at h
        injection h with h _
        subst h
        obtain ⟨i1, i2, i3⟩ := done_inv hw hm ms.length (Nat.le_refl _)
        rw [cT_end (Nat.le_refl _)] at i1 i3
        rw [List.take_length] at i3
        have hok : okL w (doneE w.2 ms ms.length) = true := by
          unfold okL
          simp only [Bool.and_eq_true, decide_eq_true_eq, List.all_eq_true, beq_iff_eq]
          exact ⟨hw, hl, i2, i1⟩
        refine ⟨hok, fun t => ?_⟩
        by_cases ht : w.1 ≤ t ∧ t ≤ w.2
        · rw [if_pos ht, atL_in hok ht, i3 t ht.1 (by omega)]
        · rw [if_neg ht, atL_out hok ht]
      · rw [if_pos (show (true && true) = true from rfl), if_neg hl] at h
        injection h with _ h
        cases h
theorem make_bad {w : Iv} {ms : List Mk} {R : List Er} {y : Int} (h : (R, y) = mkL w ms) (hy : y ≠ 0) : R = [] := by
  unfold mkL at h
  split at h
  · split at h
    · injection h with _ h; exact absurd h hy
    · injection h
  · injection h
end Go.Proofs.Ytmkbijnndbgjgaa.Ln
namespace Go.Proofs.Ytmkbijnndbgjgaa.Ln
open Go.RowKit
open Go.Proofs.Ytmkbijnndbgjgaa.Iv (Iv okI okI_iff okJ inI toS hasJ)
open Go.Proofs.Ytmkbijnndbgjgaa.Sp (okB okB_iff Row)
theorem cut_nil {b : Int} {p : Option Vd} {n m : Int} {l : List Er} {tw : Iv} (h : goE b p n l = some m) (hn : tw.2 < n) : cutL l tw = [] := by
  unfold cutL
  rw [List.filterMap_eq_nil_iff]
  intro x hx
  have := goE_bounds l _ _ _ h x hx
  unfold cut1
  rw [if_neg (by omega)]
theorem cut_go {b : Int} {tw : Iv} (ht : tw.1 ≤ tw.2) (hb : tw.2 ≤ b) : ∀ (l : List Er) (p p' : Option Vd) (n : Int), goE b p n l = some (b + 1) → (p' = none ∨ (tw.1 < n ∧ p' = p)) → (tw.1 < n → p' = p) → n ≤ tw.2 + 1 → goE tw.2 p' (max n tw.1) (cutL l tw) = some (tw.2 + 1) := by
  intro l
  induction l with
  | nil =>
    intro p p' n h hp hp2 hn
    simp only [goE, Option.some.injEq] at h
    show some (max n tw.1) = _
    congr 1
    omega
  | cons x l ih =>
    intro p p' n h hp hp2 hn
    have h0 := h
    simp only [goE] at h
    split at h
    · rename_i hs
      simp only [stepB, Bool.and_eq_true, decide_eq_true_eq] at hs
      by_cases h1 : tw.2 < n
      · rw [cut_nil h0 h1]
        show some (max n tw.1) = _
        congr 1
        omega
      · by_cases h2 : x.b < tw.1
        · have e : cutL (x :: l) tw = cutL l tw := by
            unfold cutL
            rw [List.filterMap_cons_none]
            unfold cut1
            rw [if_neg (by omega)]
          rw [e]
          have hpn : p' = none := by
            rcases hp with hp | ⟨hp, _⟩
            · exact hp
            · omega
          have := ih (some x.v) p' (x.b + 1) h (.inl hpn) (fun h => by omega) (by omega)
          rwa [show max n tw.1 = max (x.b + 1) tw.1 by omega]
        · have e : cutL (x :: l) tw = ⟨max x.a tw.1, min x.b tw.2, x.v⟩ :: cutL l tw := by
            unfold cutL
            rw [List.filterMap_cons_some]
            unfold cut1
            rw [if_pos (by omega)]
          rw [e]
          simp only [goE]
          have hst : stepB tw.2 p' (max n tw.1) ⟨max x.a tw.1, min x.b tw.2, x.v⟩ = true := by
            simp only [stepB, Bool.and_eq_true, decide_eq_true_eq]
            refine ⟨by omega, by omega, by omega, ?_⟩
            rcases hp with hp | ⟨_, hp⟩
            · rw [hp]; rfl
            · rw [hp]; exact hs.2.2.2
          rw [if_pos hst]
          by_cases h3 : x.b ≤ tw.2
          · have := ih (some x.v) (some x.v) (x.b + 1) h (.inr ⟨by omega, rfl⟩) (fun _ => rfl) (by omega)
            rwa [show min x.b tw.2 + 1 = max (x.b + 1) tw.1 by omega]
          · rw [cut_nil h (by omega)]
            show some (min x.b tw.2 + 1) = _
            congr 1
            omega
    · cases h
theorem cut_ok {w tw : Iv} {l : List Er} (h : okL w l = true) (h1 : okI tw = true) (h2 : w.1 ≤ tw.1) (h3 : tw.2 ≤ w.2) : okL tw (cutL l tw) = true ∧ ∀ t, tw.1 ≤ t → t ≤ tw.2 → holdL (cutL l tw) t = holdL l t := by
  obtain ⟨hw, hl, hv, hg⟩ := okL_go h
  have ht := okI_iff.1 h1
  have hc := cut_go ht.2.1 h3 l none none w.1 hg (.inl rfl) (fun _ => rfl) (by omega)
  rw [show max w.1 tw.1 = tw.1 by omega] at hc
  refine ⟨?_, fun t c1 c2 => ?_⟩
  · unfold okL
    simp only [Bool.and_eq_true, decide_eq_true_eq, List.all_eq_true, beq_iff_eq]
    refine ⟨h1, Nat.le_trans (cutL_len l tw) hl, fun y hy => ?_, hc⟩
    unfold cutL at hy
    obtain ⟨x, hx, hxy⟩ := List.mem_filterMap.1 hy
    unfold cut1 at hxy
    split at hxy
    · injection hxy with hxy
      rw [← hxy]; exact hv x hx
    · cases hxy
  · obtain ⟨x, hx, hi⟩ := (goE_cover l none w.1 (w.2 + 1) t hg).2.2 ⟨by omega, by omega⟩
    have hi2 := inT_iff.1 hi
    have hy : (⟨max x.a tw.1, min x.b tw.2, x.v⟩ : Er) ∈ cutL l tw := by
      unfold cutL
      refine List.mem_filterMap.2 ⟨x, hx, ?_⟩
      unfold cut1
      rw [if_pos (by omega)]
    rw [goE_hold l _ _ _ t hg x hx hi2.1 hi2.2, goE_hold _ _ _ _ t hc _ hy (by show max x.a tw.1 ≤ t; omega) (by show t ≤ min x.b tw.2; omega)]
theorem cut_tells {w tw : Iv} {l R : List Er} (h : okL w l = true) (hR : (R, (0 : Int)) = cutE w l tw) : okL tw R = true ∧ ∀ t, atL tw R t = if tw.1 ≤ t ∧ t ≤ tw.2 then (holdL l t, 0) else (zV, 1) := by
  cases hin : (okI tw && (decide (w.1 ≤ tw.1) && decide (tw.2 ≤ w.2))) with
  | false => rw [cutE_out h hin] at hR; injection hR with _ e; cases e
  | true =>
    rw [cutE_in h hin] at hR
    injection hR with e _
    subst e
    simp only [Bool.and_eq_true, decide_eq_true_eq] at hin
    obtain ⟨h1, h2⟩ := cut_ok h hin.1 hin.2.1 hin.2.2
    refine ⟨h1, fun t => ?_⟩
    by_cases ht : tw.1 ≤ t ∧ t ≤ tw.2
    · rw [if_pos ht, atL_in h1 ht, h2 t ht.1 ht.2]
    · rw [if_neg ht, atL_out h1 ht]
theorem cut_in {w tw : Iv} {l R : List Er} (h : okL w l = true) (hR : (R, (0 : Int)) = cutE w l tw) : w.1 ≤ tw.1 ∧ tw.2 ≤ w.2 := by
  cases hin : (okI tw && (decide (w.1 ≤ tw.1) && decide (tw.2 ≤ w.2))) with
  | false => rw [cutE_out h hin] at hR; injection hR with _ e; cases e
  | true =>
    simp only [Bool.and_eq_true, decide_eq_true_eq] at hin
    exact hin.2
theorem dif_has {w : Iv} {a b : List Er} (ha : okL w a = true) (hb : okL w b = true) : ((difL a b).length ≤ 1024 → okJ (difL a b) = true) ∧ ∀ t, inI (difL a b) t = (decide (w.1 ≤ t) && (decide (t ≤ w.2) && difD a b t)) := by
  have h0 := okI_iff.1 (okL_go ha).1
  have hd := tog_all ha hb
  obtain ⟨h1, h2, _⟩ := di_row hd h0.1 (by omega)
  refine ⟨fun hl => ?_, fun t => ?_⟩
  · unfold okJ
    rw [Bool.and_eq_true]
    exact ⟨h1, okB_iff.2 ⟨by rw [List.length_map]; exact hl, h2⟩⟩
  · apply Bool.eq_iff_iff.2
    have hm := hd.mem t
    unfold inI
    simp only [List.any_eq_true, Bool.and_eq_true, decide_eq_true_eq]
    constructor
    · rintro ⟨y, hy, c1, c2⟩
      unfold difL whenB at hy
      obtain ⟨x, hx, rfl⟩ := List.mem_map.1 hy
      have := hm.1 ⟨x, (List.mem_filter.1 hx).1, by simpa using (List.mem_filter.1 hx).2, c1, c2⟩
      exact ⟨this.1, by omega, this.2.2⟩
    · rintro ⟨c1, c2, c3⟩
      obtain ⟨x, hx, e1, e2, e3⟩ := hm.2 ⟨c1, by omega, c3⟩
      exact ⟨ivB x, List.mem_map.2 ⟨x, List.mem_filter.2 ⟨hx, e1⟩, rfl⟩, e2, e3⟩
theorem dif_len (a b : List Er) : (difL a b).length ≤ a.length + b.length := by
  have h1 := whenB_len (foldT [] (togL a b))
  have h2 := foldT_len (togL a b) []
  have h3 := tog_len (a.length + b.length) a b (Nat.le_refl _)
  simp only [List.length_nil] at h2
  show (whenB (foldT [] (togL a b))).length ≤ _
  omega
end Go.Proofs.Ytmkbijnndbgjgaa.Ln
namespace Go.Proofs.Ytmkbijnndbgjgaa.Ln
open Go.RowKit
open Go.Proofs.Ytmkbijnndbgjgaa.Iv (Iv okI okI_iff okJ toS ofS map_of_to)
open Go.Proofs.Ytmkbijnndbgjgaa.Sp (Sp Row inB inB_iff okB okB_iff row_ext)
def seenB (l : List Er) (i : Nat) (v : Vd) : Bool := (l.take i).any (fun y => eqV y.v v)
def lenE (x : Er) : Int := x.b - x.a + 1
def sumE (l : List Er) : Int := (l.map lenE).foldr (· + ·) 0
theorem sumE_nil : sumE [] = 0 := rfl
theorem sumE_cons (x : Er) (l : List Er) : sumE (x :: l) = lenE x + sumE l := rfl
def cntE (l : List Er) (i : Nat) : Int := sumE (l.filter (fun x => seenB l i x.v))
theorem seen_succ {l : List Er} {i : Nat} (h : i < l.length) (v : Vd) : seenB l (i + 1) v = (seenB l i v || eqV l[i].v v) := by
  unfold seenB
  rw [List.take_succ_eq_append_getElem h, List.any_append]
  simp
theorem seen_zero (l : List Er) (v : Vd) : seenB l 0 v = false := rfl
theorem seen_again {l : List Er} {i : Nat} (h : i < l.length) (hs : seenB l i l[i].v = true) (v : Vd) : seenB l (i + 1) v = seenB l i v := by
  rw [seen_succ h]
  cases he : eqV l[i].v v with
  | false => rw [Bool.or_false]
  | true => rw [← eqV_iff.1 he, hs]; rfl
theorem sum_split (p q : Er → Bool) (hd : ∀ x, p x = true → q x = false) : ∀ l : List Er, sumE (l.filter (fun x => p x || q x)) = sumE (l.filter p) + sumE (l.filter q) := by
  intro l
  induction l with
  | nil => rfl
  | cons x l ih =>
    cases hp : p x with
    | true =>
      have hq := hd x hp
      rw [List.filter_cons_of_pos (by rw [hp]; rfl), List.filter_cons_of_pos hp, List.filter_cons_of_neg (by rw [hq]; exact Bool.false_ne_true), sumE_cons, sumE_cons, ih]
      omega
    | false =>
      cases hq : q x with
      | true =>
        rw [List.filter_cons_of_pos (by rw [hq, Bool.or_true]), List.filter_cons_of_neg (by rw [hp]; exact Bool.false_ne_true), List.filter_cons_of_pos hq, sumE_cons, sumE_cons, ih]
        omega
      | false =>
        rw [List.filter_cons_of_neg (by rw [hp, hq]; exact Bool.false_ne_true), List.filter_cons_of_neg (by rw [hp]; exact Bool.false_ne_true), List.filter_cons_of_neg (by rw [hq]; exact Bool.false_ne_true), ih]
theorem cnt_again {l : List Er} {i : Nat} (h : i < l.length) (hs : seenB l i l[i].v = true) : cntE l (i + 1) = cntE l i := by
  unfold cntE
  rw [show (fun x : Er => seenB l (i + 1) x.v) = (fun x : Er => seenB l i x.v) from funext fun x => seen_again h hs x.v]
theorem cnt_new {l : List Er} {i : Nat} (h : i < l.length) (hs : seenB l i l[i].v = false) : cntE l (i + 1) = cntE l i + sumE (l.filter (fun x => eqV x.v l[i].v)) := by
  unfold cntE
  rw [show (fun x : Er => seenB l (i + 1) x.v) = (fun x : Er => seenB l i x.v || eqV x.v l[i].v) from funext fun x => by
    rw [seen_succ h]
    congr 1
    exact Bool.eq_iff_iff.2 ⟨fun h => eqV_iff.2 (eqV_iff.1 h).symm, fun h => eqV_iff.2 (eqV_iff.1 h).symm⟩]
  refine sum_split _ _ (fun x hx => ?_) l
  cases he : eqV x.v l[i].v with
  | false => rfl
  | true => rw [eqV_iff.1 he, hs] at hx; cases hx
theorem cnt_zero (l : List Er) : cntE l 0 = 0 := by
  unfold cntE
  rw [show l.filter (fun x => seenB l 0 x.v) = [] from List.filter_eq_nil_iff.2 (fun x _ => by rw [seen_zero]; exact Bool.false_ne_true)]
  rfl
theorem cnt_all (l : List Er) : cntE l l.length = sumE l := by
  unfold cntE
  rw [List.filter_eq_self.2]
  intro x hx
  unfold seenB
  rw [List.take_length]
  exact List.any_eq_true.2 ⟨x, hx, eqV_iff.2 rfl⟩
theorem goE_sum {b : Int} : ∀ (l : List Er) (p : Option Vd) (n m : Int), goE b p n l = some m → sumE l = m - n := by
  intro l
  induction l with
  | nil => intro p n m h; simp only [goE, Option.some.injEq] at h; rw [sumE_nil]; omega
  | cons x l ih =>
    intro p n m h
    simp only [goE] at h
    split at h
    · rename_i hs
      simp only [stepB, Bool.and_eq_true, decide_eq_true_eq] at hs
      have := ih _ _ _ h
      rw [sumE_cons, this]
      unfold lenE
      omega
    · cases h
/-- between two rounds: the row of the times of the verdicts that were met -/
def WI (w : Iv) (l : List Er) (i : Nat) (R : List Iv) : Prop := R.all okI = true ∧ Row true (R.map toS) ∧ R.length ≤ (l.filter (fun x => seenB l i x.v)).length ∧ ∀ x : Nat, inB (R.map toS) x = (decide (w.1 ≤ (x : Int)) && (decide ((x : Int) ≤ w.2) && seenB l i (holdL l x)))
theorem wi_start (w : Iv) (l : List Er) : WI w l 0 [] := by
  refine ⟨rfl, ⟨fun s hs => by simp at hs, List.Pairwise.nil⟩, by simp, fun x => ?_⟩
  rw [seen_zero, Bool.and_false, Bool.and_false]
  rfl
theorem wi_again {w : Iv} {l : List Er} {i : Nat} {R : List Iv} (h : i < l.length) (hs : seenB l i l[i].v = true) (hW : WI w l i R) : WI w l (i + 1) R := by
  obtain ⟨a1, a2, a3, a4⟩ := hW
  refine ⟨a1, a2, ?_, fun x => ?_⟩
  · rw [show (fun x : Er => seenB l (i + 1) x.v) = (fun x : Er => seenB l i x.v) from funext fun x => seen_again h hs x.v]; exact a3
  · rw [a4, seen_again h hs]
theorem when_has {w : Iv} {l : List Er} {v : Vd} (h : okL w l = true) (x : Nat) : inB ((whenL l v).map toS) x = (decide (w.1 ≤ (x : Int)) && (decide ((x : Int) ≤ w.2) && eqV v (holdL l x))) := by
  have hg := (okL_go h).2.2.2
  have h0 := okI_iff.1 (okL_go h).1
  apply Bool.eq_iff_iff.2
  rw [inB_iff]
  simp only [Bool.and_eq_true, decide_eq_true_eq]
  constructor
  · rintro ⟨s, hs, c1, c2⟩
    obtain ⟨y, hy, rfl⟩ := List.mem_map.1 hs
    unfold whenL at hy
    obtain ⟨e, he, rfl⟩ := List.mem_map.1 hy
    have hm := (List.mem_filter.1 he).1
    have hv := eqV_iff.1 (List.mem_filter.1 he).2
    have hb := goE_bounds l _ _ _ hg e hm
    have c1' : e.a.toNat ≤ x := c1
    have c2' : x ≤ e.b.toNat := c2
    refine ⟨by omega, by omega, ?_⟩
    rw [goE_hold l _ _ _ (x : Int) hg e hm (by omega) (by omega)]
    exact eqV_iff.2 hv.symm
  · rintro ⟨c1, c2, c3⟩
    obtain ⟨e, he, hi⟩ := (goE_cover l none w.1 (w.2 + 1) (x : Int) hg).2.2 ⟨c1, by omega⟩
    have hi2 := inT_iff.1 hi
    have hb := goE_bounds l _ _ _ hg e he
    have hh := goE_hold l _ _ _ (x : Int) hg e he hi2.1 hi2.2
    have hv := eqV_iff.1 c3
    refine ⟨toS (ivE e), List.mem_map.2 ⟨ivE e, ?_, rfl⟩, ?_, ?_⟩
    · unfold whenL
      exact List.mem_map.2 ⟨e, List.mem_filter.2 ⟨he, eqV_iff.2 (by rw [hv, hh])⟩, rfl⟩
    · show e.a.toNat ≤ x; omega
    · show x ≤ e.b.toNat; omega
theorem wi_end {w : Iv} {l : List Er} {R : List Iv} (h : okL w l = true) (hW : WI w l l.length R) : R = [w] := by
  obtain ⟨a1, a2, a3, a4⟩ := hW
  have hg := (okL_go h).2.2.2
  have hw := (okL_go h).1
  have h0 := okI_iff.1 hw
  have e : R.map toS = [w].map toS := by
    refine row_ext a2 ⟨fun s hs => ?_, List.pairwise_singleton _ _⟩ (fun x => ?_)
    · rw [List.mem_singleton.1 (show s ∈ [toS w] from hs)]; exact Iv.okS_to hw
    · rw [a4]
      apply Bool.eq_iff_iff.2
      rw [inB_iff]
      simp only [Bool.and_eq_true, decide_eq_true_eq]
      constructor
      · rintro ⟨c1, c2, _⟩
        exact ⟨toS w, by simp, by show w.1.toNat ≤ x; omega, by show x ≤ w.2.toNat; omega⟩
      · rintro ⟨s, hs, c1, c2⟩
        rw [List.mem_singleton.1 (show s ∈ [toS w] from hs)] at c1 c2
        have c1' : w.1.toNat ≤ x := c1
        have c2' : x ≤ w.2.toNat := c2
        refine ⟨by omega, by omega, ?_⟩
        obtain ⟨e, he, hi⟩ := (goE_cover l none w.1 (w.2 + 1) (x : Int) hg).2.2 ⟨by omega, by omega⟩
        have hi2 := inT_iff.1 hi
        rw [goE_hold l _ _ _ (x : Int) hg e he hi2.1 hi2.2]
        unfold seenB
        rw [List.take_length]
        exact List.any_eq_true.2 ⟨e, he, eqV_iff.2 rfl⟩
  rw [← map_of_to a1, e, map_of_to (show [w].all okI = true by simp [hw])]
theorem long_from (l : List Iv) : ∀ a : Int, l.foldl (fun s x => s + (x.2 - x.1 + 1)) a = a + (l.map (fun x => x.2 - x.1 + 1)).foldr (· + ·) 0 := by
  induction l with
  | nil => intro a; simp
  | cons x l ih =>
    intro a
    rw [List.foldl_cons, ih, List.map_cons, List.foldr_cons]
    omega
theorem long_when (l : List Er) (v : Vd) : Iv.longI (whenL l v) = sumE (l.filter (fun x => eqV x.v v)) := by
  unfold Iv.longI whenL sumE
  rw [long_from, List.map_map, Int.zero_add]
  rfl
theorem len_split (p q : Er → Bool) (hd : ∀ x, p x = true → q x = false) : ∀ l : List Er, (l.filter (fun x => p x || q x)).length = (l.filter p).length + (l.filter q).length := by
  intro l
  induction l with
  | nil => rfl
  | cons x l ih =>
    cases hp : p x with
    | true =>
      have hq := hd x hp
      rw [List.filter_cons_of_pos (by rw [hp]; rfl), List.filter_cons_of_pos hp, List.filter_cons_of_neg (by rw [hq]; exact Bool.false_ne_true), List.length_cons, List.length_cons, ih]
      omega
    | false =>
      cases hq : q x with
      | true =>
        rw [List.filter_cons_of_pos (by rw [hq, Bool.or_true]), List.filter_cons_of_neg (by rw [hp]; exact Bool.false_ne_true), List.filter_cons_of_pos hq, List.length_cons, List.length_cons, ih]
        omega
      | false =>
        rw [List.filter_cons_of_neg (by rw [hp, hq]; exact Bool.false_ne_true), List.filter_cons_of_neg (by rw [hp]; exact Bool.false_ne_true), List.filter_cons_of_neg (by rw [hq]; exact Bool.false_ne_true), ih]
theorem wi_okJ {w : Iv} {l : List Er} {i : Nat} {R : List Iv} (hl : l.length ≤ 200) (hW : WI w l i R) : okJ R = true ∧ R.length ≤ 200 := by
  obtain ⟨a1, a2, a3, a4⟩ := hW
  have := List.length_filter_le (fun x : Er => seenB l i x.v) l
  unfold okJ
  rw [Bool.and_eq_true]
  exact ⟨⟨a1, okB_iff.2 ⟨by rw [List.length_map]; omega, a2⟩⟩, by omega⟩
theorem when_okJ {w : Iv} {l : List Er} {v : Vd} (h : okL w l = true) (hl : l.length ≤ 200) : okJ (whenL l v) = true ∧ (whenL l v).length ≤ 200 := by
  have := whenL_len l v
  unfold okJ
  rw [Bool.and_eq_true]
  exact ⟨⟨when_okI h, okB_iff.2 ⟨by rw [List.length_map]; omega, when_row h⟩⟩, by omega⟩
theorem wi_new {w : Iv} {l : List Er} {i : Nat} {R : List Iv} {R' : List Sp} {why : Int} (h : okL w l = true) (hl : l.length ≤ 200) (hi : i < l.length) (hs : seenB l i l[i].v = false) (hW : WI w l i R) (hS : Iv.SetI true (fun x => inB (R.map toS) x || inB ((whenL l l[i].v).map toS) x) (R.length + (whenL l l[i].v).length) R' why) : why = 0 ∧ WI w l (i + 1) (R'.map ofS) := by
  have h1 := (wi_okJ hl hW).2
  have h2 := (when_okJ (v := l[i].v) h hl).2
  rcases hS.2 rfl with ⟨e1, e2, e3, e4, e5, e6⟩ | ⟨_, _, L, _, _, e5, e6⟩
  · refine ⟨e1, ?_, ?_, ?_, fun x => ?_⟩
    · refine List.all_eq_true.2 fun y hy => ?_
      obtain ⟨s, hs', rfl⟩ := List.mem_map.1 hy
      have := e3 s hs'
      have hM : Iv.MaxT = 1099511627776 := rfl
      exact okI_iff.2 ⟨by show (0 : Int) ≤ (s.1 : Int); omega, by show (s.1 : Int) ≤ (s.2 : Int); omega, by show (s.2 : Int) ≤ _; omega⟩
    · rw [List.map_map, show (toS ∘ ofS) = id from funext fun s => Iv.to_of s, List.map_id]; exact e2
    · rw [List.length_map]
      have e7 : (l.filter (fun x => seenB l (i + 1) x.v)).length = (l.filter (fun x => seenB l i x.v)).length + (l.filter (fun x => eqV x.v l[i].v)).length := by
        rw [show (fun x : Er => seenB l (i + 1) x.v) = (fun x : Er => seenB l i x.v || eqV x.v l[i].v) from funext fun x => by
          rw [seen_succ hi]
          congr 1
          exact Bool.eq_iff_iff.2 ⟨fun h => eqV_iff.2 (eqV_iff.1 h).symm, fun h => eqV_iff.2 (eqV_iff.1 h).symm⟩]
        refine len_split _ _ (fun x hx => ?_) l
        cases he : eqV x.v l[i].v with
        | false => rfl
        | true => rw [eqV_iff.1 he, hs] at hx; cases hx
      have e8 : (whenL l l[i].v).length = (l.filter (fun x => eqV x.v l[i].v)).length := by unfold whenL; rw [List.length_map]
      have := hW.2.2.1
      omega
    · rw [List.map_map, show (toS ∘ ofS) = id from funext fun s => Iv.to_of s, List.map_id, e4]
      show (inB (R.map toS) x || inB ((whenL l l[i].v).map toS) x) = _
      rw [hW.2.2.2 x, when_has h x, seen_succ hi]
      cases decide (w.1 ≤ (x : Int)) <;> cases decide ((x : Int) ≤ w.2) <;> simp
  · omega
theorem goE_apart {b : Int} : ∀ (l : List Er) (p : Option Vd) (n m : Int), goE b p n l = some m → ∀ i (h : i + 1 < l.length), eqV l[i].v l[i + 1].v = false := by
  intro l
  induction l with
  | nil => intro p n m h i hi; simp at hi
  | cons x l ih =>
    intro p n m h i hi
    simp only [goE] at h
    split at h
    · cases i with
      | zero =>
        match l, hi, h with
        | y :: l, _, h =>
          simp only [goE] at h
          split at h
          · rename_i hs
            simp only [stepB, notP, Bool.and_eq_true, Bool.not_eq_true'] at hs
            have h9 := hs.2.2.2
            simp only [List.getElem_cons_zero, List.getElem_cons_succ]
            cases he : eqV x.v y.v with
            | false => rfl
            | true =>
              have e := eqV_iff.1 he
              rw [e] at h9
              first | exact h9.symm.trans (eqV_iff.2 rfl ▸ rfl) | (have : eqV y.v y.v = true := eqV_iff.2 rfl; rw [this] at h9; cases h9)
          · cases h
      | succ i =>
        simp only [List.getElem_cons_succ]
        exact ih _ _ _ h i (by simpa using hi)
    · cases h
theorem cnt_bd {w : Iv} {l : List Er} (h : okL w l = true) (i : Nat) : 0 ≤ cntE l i ∧ cntE l i ≤ 1099511627777 := by
  have hg := (okL_go h).2.2.2
  have h0 := okI_iff.1 (okL_go h).1
  have hb := goE_bounds l _ _ _ hg
  have hs := goE_sum l _ _ _ hg
  have : ∀ (p : Er → Bool) (l' : List Er), (∀ x ∈ l', x.a ≤ x.b) → 0 ≤ sumE (l'.filter p) ∧ sumE (l'.filter p) ≤ sumE l' := by
    intro p l'
    induction l' with
    | nil => intro _; exact ⟨Int.le_refl _, Int.le_refl _⟩
    | cons x l' ih =>
      intro hx
      have h1 := ih (fun y hy => hx y (List.mem_cons_of_mem _ hy))
      have h2 := hx x List.mem_cons_self
      rw [sumE_cons]
      cases hp : p x with
      | true => rw [List.filter_cons_of_pos hp, sumE_cons]; unfold lenE; omega
      | false => rw [List.filter_cons_of_neg (by rw [hp]; exact Bool.false_ne_true)]; unfold lenE; omega
  have h3 := this (fun x => seenB l i x.v) l (fun x hx => (hb x hx).2.1)
  unfold cntE
  omega
theorem when_pos {l : List Er} {i : Nat} (h : i < l.length) : 0 < (whenL l l[i].v).length := by
  unfold whenL
  rw [List.length_map]
  exact List.length_pos_of_mem (List.mem_filter.2 ⟨List.getElem_mem h, eqV_iff.2 rfl⟩)
end Go.Proofs.Ytmkbijnndbgjgaa.Ln
namespace Go.Proofs.Ytmkbijnndbgjgaa.Ln
open Go.RowKit
open Go.Proofs.Ytmkbijnndbgjgaa.Iv (Iv okI okI_iff okJ toS ofS map_of_to SetI)
open Go.Proofs.Ytmkbijnndbgjgaa.Sp (Sp Row inB inB_iff okB okB_iff row_ext)
def foldF (f : Vd → Vd → Bool) (U : List Eb) (l : List Tg) : List Eb := l.foldl (fun U t => putB U t.lo t.hi (f t.u t.v)) U
theorem foldF_len (f : Vd → Vd → Bool) (l : List Tg) : ∀ U, (foldF f U l).length ≤ U.length + l.length := by
  induction l with
  | nil => intro U; exact Nat.le_refl _
  | cons t l ih =>
    intro U
    have h1 := ih (putB U t.lo t.hi (f t.u t.v))
    have h2 := putB_len U t.lo t.hi (f t.u t.v)
    show (foldF f (putB U t.lo t.hi (f t.u t.v)) l).length ≤ _
    rw [List.length_cons]
    omega
theorem starts_at {e : Int} {z : Er} {l : List Er} {z' : Er} {l' : List Er} (hg : goE e (some z.v) (z.b + 1) l = some (e + 1)) (hl : l = z' :: l') : z'.a = z.b + 1 := by
  subst hl
  simp only [goE] at hg
  split at hg
  · rename_i hs
    simp only [stepB, Bool.and_eq_true, decide_eq_true_eq] at hs
    exact hs.1
  · cases hg
theorem tog_diF {f : Vd → Vd → Bool} {D : Int → Bool} {n e : Int} : ∀ (k : Nat) (a b : List Er) (c : Int) (U : List Eb), a.length + b.length ≤ k → c ≤ e + 1 → Cov e c a → Cov e c b → (∀ x y a' b', a = x :: a' → b = y :: b' → max x.a y.a = c) → DI D n c U → (∀ t, c ≤ t → t ≤ e → D t = f (holdL a t) (holdL b t)) → DI D n (e + 1) (foldF f U (togL a b)) := by
  intro k
  induction k with
  | zero =>
    intro a b c U hk hce ha hb hm hI hD
    have h1 : a = [] := List.eq_nil_of_length_eq_zero (by omega)
    subst h1
    rw [tog_nil1]
    have : c = e + 1 := ha
    subst this
    exact hI
  | succ k ih =>
    intro a b c U hk hce ha hb hm hI hD
    cases a with
    | nil =>
      rw [tog_nil1]
      have : c = e + 1 := ha
      subst this
      exact hI
    | cons x a =>
      cases b with
      | nil =>
        rw [tog_nil2]
        have : c = e + 1 := hb
        subst this
        exact hI
      | cons y b =>
        obtain ⟨p1, p2, p3, p4⟩ := ha
        obtain ⟨q1, q2, q3, q4⟩ := hb
        have hmx := hm x y a b rfl rfl
        rw [tog_cons, hmx]
        have hi1 : DI D n (min x.b y.b + 1) (putB U c (min x.b y.b) (f x.v y.v)) := di_step hI (by omega) (fun t h1 h2 => by rw [hD t h1 (by omega), hold_in ⟨by omega, by omega⟩, hold_in ⟨by omega, by omega⟩])
        show DI D n (e + 1) (foldF f (putB U c (min x.b y.b) (f x.v y.v)) _)
        have hca : Cov e (min x.b y.b + 1) (if x.b ≤ y.b then a else x :: a) := by
          by_cases h : x.b ≤ y.b
          · rw [if_pos h, Int.min_eq_left h]; exact cov_next p4
          · rw [if_neg h]; exact ⟨by omega, by omega, p3, p4⟩
        have hcb : Cov e (min x.b y.b + 1) (if y.b ≤ x.b then b else y :: b) := by
          by_cases h : y.b ≤ x.b
          · rw [if_pos h, Int.min_eq_right h]; exact cov_next q4
          · rw [if_neg h]; exact ⟨by omega, by omega, q3, q4⟩
        have hha : ∀ t, min x.b y.b + 1 ≤ t → holdL (if x.b ≤ y.b then a else x :: a) t = holdL (x :: a) t := fun t ht => by
          by_cases h : x.b ≤ y.b
          · rw [if_pos h, hold_off (by omega)]
          · rw [if_neg h]
        have hhb : ∀ t, min x.b y.b + 1 ≤ t → holdL (if y.b ≤ x.b then b else y :: b) t = holdL (y :: b) t := fun t ht => by
          by_cases h : y.b ≤ x.b
          · rw [if_pos h, hold_off (by omega)]
          · rw [if_neg h]
        have hle := tog_less x y a b
        refine ih _ _ _ _ (by omega) (by omega) hca hcb ?_ hi1 (fun t h1 h2 => ?_)
        · intro x' y' a' b' e1 e2
          by_cases h : x.b ≤ y.b
          · rw [if_pos h] at e1
            have s1 := starts_at p4 e1
            by_cases h2 : y.b ≤ x.b
            · rw [if_pos h2] at e2
              have s2 := starts_at q4 e2
              omega
            · rw [if_neg h2] at e2
              injection e2 with e2 e3
              subst e2
              omega
          · rw [if_neg h] at e1
            rw [if_pos (by omega)] at e2
            have s2 := starts_at q4 e2
            injection e1 with e1 e3
            subst e1
            omega
        · rw [hha t h1, hhb t h1]
          exact hD t (by omega) h2
theorem tog_allF {w : Iv} {a b : List Er} (f : Vd → Vd → Bool) (ha : okL w a = true) (hb : okL w b = true) : DI (fun t => f (holdL a t) (holdL b t)) w.1 (w.2 + 1) (foldF f [] (togL a b)) := by
  have h0 := okI_iff.1 (okL_go ha).1
  refine tog_diF (a.length + b.length) a b w.1 [] (Nat.le_refl _) (by omega) (cov_start ha) (cov_start hb) ?_ (di_start _ _) (fun t _ _ => rfl)
  intro x y a' b' e1 e2
  have starts : ∀ (l : List Er) (z : Er) (l' : List Er), okL w l = true → l = z :: l' → z.a = w.1 := fun l z l' hl e => by
    subst e
    have hg := (okL_go hl).2.2.2
    simp only [goE] at hg
    split at hg
    · rename_i hs
      simp only [stepB, Bool.and_eq_true, decide_eq_true_eq] at hs
      exact hs.1
    · cases hg
  have s1 := starts a x a' ha e1
  have s2 := starts b y b' hb e2
  omega
/-- the row of the times at which both tell one verdict, of those that were met -/
def agF (l : List Er) (i : Nat) (u v : Vd) : Bool := seenB l i u && eqV u v
def agR (l m : List Er) (i : Nat) : List Iv := whenB (foldF (agF l i) [] (togL l m))
theorem ag_row {w : Iv} {l m : List Er} (hl : okL w l = true) (hm : okL w m = true) (i : Nat) : (agR l m i).all okI = true ∧ Row true ((agR l m i).map toS) ∧ (agR l m i).length ≤ l.length + m.length ∧ ∀ x : Nat, inB ((agR l m i).map toS) x = (decide (w.1 ≤ (x : Int)) && (decide ((x : Int) ≤ w.2) && agF l i (holdL l x) (holdL m x))) := by
  have h0 := okI_iff.1 (okL_go hl).1
  obtain ⟨h1, h2, h3⟩ := di_row (tog_allF (agF l i) hl hm) h0.1 (by omega)
  refine ⟨h1, h2, ?_, fun x => ?_⟩
  · have a1 := whenB_len (foldF (agF l i) [] (togL l m))
    have a2 := foldF_len (agF l i) (togL l m) []
    have a3 := tog_len (l.length + m.length) l m (Nat.le_refl _)
    simp only [List.length_nil] at a2
    show (whenB (foldF (agF l i) [] (togL l m))).length ≤ _
    omega
  · apply Bool.eq_iff_iff.2
    refine (h3 x).trans ?_
    simp only [Bool.and_eq_true, decide_eq_true_eq]
    constructor
    · intro ⟨c1, c2, c3⟩; exact ⟨c1, by omega, c3⟩
    · intro ⟨c1, c2, c3⟩; exact ⟨c1, by omega, c3⟩
theorem ag_is {w : Iv} {l m : List Er} (hl : okL w l = true) (hm : okL w m = true) (i : Nat) {R : List Sp} (hR : Row true R) (hx : ∀ x : Nat, inB R x = (decide (w.1 ≤ (x : Int)) && (decide ((x : Int) ≤ w.2) && agF l i (holdL l x) (holdL m x)))) : R = (agR l m i).map toS ∧ R.map ofS = agR l m i := by
  obtain ⟨h1, h2, _, h4⟩ := ag_row hl hm i
  have e : R = (agR l m i).map toS := row_ext hR h2 (fun x => by rw [hx, h4])
  exact ⟨e, by rw [e]; exact map_of_to h1⟩
theorem ag_zero {w : Iv} {l m : List Er} (hl : okL w l = true) (hm : okL w m = true) : agR l m 0 = [] := by
  have := (ag_is hl hm 0 (R := []) ⟨fun s hs => (List.not_mem_nil hs).elim, List.Pairwise.nil⟩ (fun x => by
    unfold agF
    rw [seen_zero, Bool.false_and, Bool.and_false, Bool.and_false]
    rfl)).2
  exact this.symm
theorem ag_or {w : Iv} {l m : List Er} (hl : okL w l = true) (hm : okL w m = true) (hsz : l.length + m.length ≤ 1024) {i : Nat} (hi : i < l.length) {C R : List Sp} {why : Int} {bd : Nat} (hC : ∀ x, inB C x = (inB ((whenL l l[i].v).map toS) x && inB ((whenL m l[i].v).map toS) x)) (hS : SetI true (fun x => inB ((agR l m i).map toS) x || inB C x) bd R why) : why = 0 ∧ R.map ofS = agR l m (i + 1) := by
  have hmem : ∀ x : Nat, (inB ((agR l m i).map toS) x || inB C x) = (decide (w.1 ≤ (x : Int)) && (decide ((x : Int) ≤ w.2) && agF l (i + 1) (holdL l x) (holdL m x))) := fun x => by
    rw [(ag_row hl hm i).2.2.2 x, hC, when_has hl, when_has hm]
    unfold agF
    rw [seen_succ hi]
    generalize hu : holdL l x = u
    generalize holdL m x = v
    have key : (eqV l[i].v u && eqV l[i].v v) = (eqV l[i].v u && eqV u v) := by
      cases he : eqV l[i].v u with
      | false => rfl
      | true => rw [eqV_iff.1 he]
    cases decide (w.1 ≤ (x : Int)) <;> cases decide ((x : Int) ≤ w.2) <;> simp only [Bool.true_and, Bool.false_and, Bool.or_false, Bool.and_false]
    rw [key]
    cases seenB l i u <;> cases eqV l[i].v u <;> cases eqV u v <;> rfl
  rcases hS.2 rfl with ⟨e1, e2, e3, e4, e5, e6⟩ | ⟨_, _, L, h3, h4, h5, _⟩
  · exact ⟨e1, (ag_is hl hm (i + 1) e2 (fun x => (e4 x).trans (hmem x))).2⟩
  · have hL := (ag_is hl hm (i + 1) h3 (fun x => (h4 x).trans (hmem x))).1
    have hlen := (ag_row hl hm (i + 1)).2.2.1
    rw [hL, List.length_map] at h5
    omega
theorem seen_all {w : Iv} {l : List Er} (h : okL w l = true) {x : Int} (h1 : w.1 ≤ x) (h2 : x ≤ w.2) : seenB l l.length (holdL l x) = true := by
  have hg := (okL_go h).2.2.2
  obtain ⟨e, he, hi⟩ := (goE_cover l none w.1 (w.2 + 1) x hg).2.2 ⟨h1, by omega⟩
  have hi2 := inT_iff.1 hi
  rw [goE_hold l _ _ _ x hg e he hi2.1 hi2.2]
  unfold seenB
  rw [List.take_length]
  exact List.any_eq_true.2 ⟨e, he, eqV_iff.2 rfl⟩
theorem dif_mem {w : Iv} {l m : List Er} (hl : okL w l = true) (hm : okL w m = true) (x : Nat) : inB ((difL l m).map toS) x = (decide (w.1 ≤ (x : Int)) && (decide ((x : Int) ≤ w.2) && difD l m x)) := by
  have h0 := okI_iff.1 (okL_go hl).1
  obtain ⟨_, _, h3⟩ := di_row (tog_all hl hm) h0.1 (by omega)
  apply Bool.eq_iff_iff.2
  refine (h3 x).trans ?_
  simp only [Bool.and_eq_true, decide_eq_true_eq]
  constructor
  · intro ⟨c1, c2, c3⟩; exact ⟨c1, by omega, c3⟩
  · intro ⟨c1, c2, c3⟩; exact ⟨c1, by omega, c3⟩
theorem not_mem {w : Iv} {l m : List Er} (hl : okL w l = true) (hm : okL w m = true) (x : Nat) : Iv.notM (difL l m) w x = (decide (w.1 ≤ (x : Int)) && (decide ((x : Int) ≤ w.2) && agF l l.length (holdL l x) (holdL m x))) := by
  have h0 := okI_iff.1 (okL_go hl).1
  unfold Iv.notM
  rw [dif_mem hl hm]
  have e1 : decide (w.1.toNat ≤ x) = decide (w.1 ≤ (x : Int)) := by
    apply Bool.eq_iff_iff.2
    simp only [decide_eq_true_eq]
    omega
  have e2 : decide (x ≤ w.2.toNat) = decide ((x : Int) ≤ w.2) := by
    apply Bool.eq_iff_iff.2
    simp only [decide_eq_true_eq]
    omega
  rw [e1, e2]
  by_cases h1 : w.1 ≤ (x : Int)
  · by_cases h2 : (x : Int) ≤ w.2
    · unfold agF difD
      rw [seen_all hl h1 h2, decide_eq_true h1, decide_eq_true h2]
      cases eqV (holdL l x) (holdL m x) <;> rfl
    · rw [decide_eq_false h2]; simp
  · rw [decide_eq_false h1]; simp
theorem ag_not {w : Iv} {l m : List Er} (hl : okL w l = true) (hm : okL w m = true) (hsz : l.length + m.length ≤ 1024) {R : List Sp} {why : Int} {bd : Nat} (hS : SetI true (Iv.notM (difL l m) w) bd R why) : why = 0 ∧ R.map ofS = agR l m l.length := by
  rcases hS.2 rfl with ⟨e1, e2, e3, e4, e5, e6⟩ | ⟨_, _, L, h3, h4, h5, _⟩
  · exact ⟨e1, (ag_is hl hm l.length e2 (fun x => (e4 x).trans (not_mem hl hm x))).2⟩
  · have hL := (ag_is hl hm l.length h3 (fun x => (h4 x).trans (not_mem hl hm x))).1
    have hlen := (ag_row hl hm l.length).2.2.1
    rw [hL, List.length_map] at h5
    omega
theorem row_none {R : List Sp} (h : Row true R) (hx : ∀ x, inB R x = false) : R = [] := row_ext h ⟨fun s hs => (List.not_mem_nil hs).elim, List.Pairwise.nil⟩ (fun x => by rw [hx]; rfl)
theorem ag_none {w : Iv} {l m : List Er} (hl : okL w l = true) (hm : okL w m = true) {R : List Sp} {why : Int} {bd : Nat} (hS : SetI true (fun x => inB ((difL l m).map toS) x && inB ((agR l m l.length).map toS) x) bd R why) : why = 0 ∧ R = [] := by
  have hno : ∀ x : Nat, (inB ((difL l m).map toS) x && inB ((agR l m l.length).map toS) x) = false := fun x => by
    rw [dif_mem hl hm, (ag_row hl hm l.length).2.2.2 x]
    unfold agF difD
    cases decide (w.1 ≤ (x : Int)) <;> cases decide ((x : Int) ≤ w.2) <;> cases eqV (holdL l x) (holdL m x) <;> simp
  rcases hS.2 rfl with ⟨e1, e2, _, e4, _⟩ | ⟨_, _, L, h3, h4, h5, _⟩
  · exact ⟨e1, row_none e2 (fun x => (e4 x).trans (hno x))⟩
  · rw [row_none h3 (fun x => (h4 x).trans (hno x))] at h5
    simp at h5
theorem ag_long {w : Iv} {l m : List Er} (hl : okL w l = true) (hm : okL w m = true) (hd : (difL l m).length ≤ 1024) : Iv.longI (difL l m) + Iv.longI (agR l m l.length) = w.2 - w.1 + 1 := by
  have hw := (okL_go hl).1
  have h0 := okI_iff.1 hw
  obtain ⟨h1, h2, h3, h4⟩ := ag_row hl hm l.length
  have := Iv.long_not ((dif_has hl hm).1 hd) hw h2 (Iv.tms_to h1) (fun x => by rw [h4, not_mem hl hm]) (fun x hx => by
    rw [dif_mem hl hm] at hx
    simp only [Bool.and_eq_true, decide_eq_true_eq] at hx
    omega)
  rwa [map_of_to h1] at this
theorem ag_okJ {w : Iv} {l m : List Er} (hl : okL w l = true) (hm : okL w m = true) (hsz : l.length + m.length ≤ 1024) (i : Nat) : okJ (agR l m i) = true := by
  obtain ⟨h1, h2, h3, _⟩ := ag_row hl hm i
  unfold okJ
  rw [Bool.and_eq_true]
  exact ⟨h1, okB_iff.2 ⟨by rw [List.length_map]; omega, h2⟩⟩
end Go.Proofs.Ytmkbijnndbgjgaa.Ln
namespace Go.Proofs.Ytmkbijnndbgjgaa
namespace topAgree
open Go.ChangeShapes Go.WideShapes Go.ChangeAt Go.RowKit
open Go.ChangeMaps (open_string shut_string)
open Go.Proofs.Ytmkbijnndbgjgaa.Ln
open Go.Proofs.Ytmkbijnndbgjgaa.Iv (Iv FitI FitT ivV HasI okI okI_iff longJ longI longI_any orI_any andI_any notI_any PostI SetI okJ toS ofS Tms iv_neqT)
open Go.Proofs.Ytmkbijnndbgjgaa.Lk (HasRow)
open Go.Proofs.Ytmkbijnndbgjgaa.Sp (chk)
open Go.Proofs.Ytmkbijnndbgjgaa.Addr (Bl bl_ne wp_region_bl bl_call RowAt below2 below_drew below_new bset RowAt.lt RowAt.cell RowAt.frozen RowAt.below RowAt.drew RowAt.new RowAt.alloc cells2 cells4)
theorem own : ownKnob Try.prog.godebug = none := by kernel_rfl
theorem laidOut : laidOutB Try.prog = true := by kernel_rfl
theorem dif_zero {w : Iv} {l m : List Er} {R : List Iv} (h : (R, (0 : Int)) = difE w l m) : okL w l = true ∧ okL w m = true ∧ R = difL l m ∧ (difL l m).length ≤ 1024 := by
  unfold difE at h
  cases hl : okL w l with
  | false => rw [hl] at h; simp at h
  | true =>
    cases hm : okL w m with
    | false => rw [hl, hm] at h; simp at h
    | true =>
      rw [hl, hm, if_pos (show (true && true) = true from rfl)] at h
      by_cases hb : (difL l m).length ≤ 1024
      · rw [if_pos hb] at h
        injection h with h _
        exact ⟨rfl, rfl, h, hb⟩
      · rw [if_neg hb] at h
        injection h with _ h
        cases h
theorem okJ_of {C : List Sp.Sp} (h : Sp.Row true C) (ht : Tms C) (hl : C.length ≤ 1024) : okJ (C.map ofS) = true := by
  unfold okJ
  rw [Bool.and_eq_true]
  refine ⟨List.all_eq_true.2 fun y hy => ?_, Sp.okB_iff.2 ⟨by rw [List.length_map, List.length_map]; exact hl, by rw [List.map_map, show (toS ∘ ofS) = id from funext fun s => Iv.to_of s, List.map_id]; exact h⟩⟩
  obtain ⟨s, hs, rfl⟩ := List.mem_map.1 hy
  have := ht s hs
  have hM : Iv.MaxT = 1099511627776 := rfl
  exact okI_iff.2 ⟨by show (0 : Int) ≤ (s.1 : Int); omega, by show (s.1 : Int) ≤ (s.2 : Int); omega, by show (s.2 : Int) ≤ _; omega⟩
set_option maxHeartbeats 16000000 in
set_option maxRecDepth 20000 in
theorem walk (wi : Iv) (v : Value) (l : List Er) (u : Value) (m : List Er) (w : World) (b0 : FitI wi) (b1 : HasE w v l) (b2 : HasE w u m) :
    Calls Try.prog 8 #[ivV wi, v, u] w fun e w' => e = .returned (.bool true) ∧ Below w.heap.size w w' := by
  have c0 := fun (W : World) => Frame.begins_any W
  have HDF : Hid (∀ (W : World), HasE W v l → HasE W u m → Calls Try.prog 21 #[.agg #[.int .i64 wi.1, .int .i64 wi.2], v, u] W fun e w' => ∃ u R why, e = .returned (.tuple #[u, .int .i64 why]) ∧ HasI w' u R ∧ Below W.heap.size W w' ∧ (R, why) = difE wi l m) := fun W h g => dif_any wi l m v u W h g
  have HW1 : Hid (∀ (vd : Vd) (W : World), HasE W v l → Calls Try.prog 17 #[.agg #[.int .i64 wi.1, .int .i64 wi.2], v, .agg #[.int .u8 vd.kind, .int .i64 vd.at']] W fun e w' => ∃ u R why, e = .returned (.tuple #[u, .int .i64 why]) ∧ HasI w' u R ∧ Below W.heap.size W w' ∧ (R, why) = whenE wi l vd) := fun vd W h => when_any wi l vd v W h
  have HW2 : Hid (∀ (vd : Vd) (W : World), HasE W u m → Calls Try.prog 17 #[.agg #[.int .i64 wi.1, .int .i64 wi.2], u, .agg #[.int .u8 vd.kind, .int .i64 vd.at']] W fun e w' => ∃ u R why, e = .returned (.tuple #[u, .int .i64 why]) ∧ HasI w' u R ∧ Below W.heap.size W w' ∧ (R, why) = whenE wi m vd) := fun vd W h => when_any wi m vd u W h
  have HZ : Hid (∀ R, (R, (0 : Int)) = difE wi l m → okL wi l = true ∧ okL wi m = true ∧ R = difL l m ∧ (difL l m).length ≤ 1024) := fun R h => dif_zero h
  have HNT : Hid (∀ (d : List Iv) (x : Value) (W : World), HasI W x d → Calls Try.prog 29 #[x, .agg #[.int .i64 wi.1, .int .i64 wi.2]] W (PostI W (SetI (okJ d && okI wi) (Iv.notM d wi) (d.length + 1)))) := fun d x W h => notI_any d wi x W h
  obtain ⟨wa, wb⟩ := wi
  show Calls Try.prog 8 #[.agg #[.int .i64 wa, .int .i64 wb], v, u] w _
  simp only at HDF HW1 HW2 HNT
  obtain ⟨X, hX⟩ : ∃ X, X = w.alloc (.cells #[.int .i64 wa, .int .i64 wb] 23) := ⟨_, rfl⟩
  have hB : Below w.heap.size w X := by rw [hX]; exact below_new (Below.refl _ _) _
  have r0 : RowAt X w.heap.size [.int .i64 wa, .int .i64 wb] 23 := by rw [hX]; exact RowAt.new _ _ _
  obtain ⟨g0, hg0⟩ : ∃ g, g = w.heap.size := ⟨_, rfl⟩
  rw [← hg0] at r0
  replace b1 := b1.keep hB
  replace b2 := b2.keep hB
  obtain ⟨o1, c1, rfl, hc1, hc2⟩ := HasRow.slice b1
  obtain ⟨o2, c2, rfl, _, _⟩ := HasRow.slice b2
  obtain ⟨n, hn⟩ : ∃ n, n = l.length := ⟨_, rfl⟩
  obtain ⟨n2, hn2⟩ : ∃ n, n = m.length := ⟨_, rfl⟩
  have HN : Hid (n = l.length) := hn
  have HN2 : Hid (n2 = m.length) := hn2
  rw [← hn] at b1 HDF HW1 hc1 ⊢
  rw [← hn2] at b2 HDF HW2 ⊢
  have HR : Hid (∀ W, Below X.heap.size X W → HasE W (.slice o1 n c1) l ∧ HasE W (.slice o2 n2 c2) m ∧ RowAt W g0 [.int .i64 wa, .int .i64 wb] 23 ∧ Below w.heap.size w W) := fun W hq => ⟨b1.keep hq, b2.keep hq, r0.below hq, below2 hB hq⟩
  clear b0 b1 b2 hB r0 hn hn2
  go_enter Try.func8, Try.ntmps8
  go_upto_region 1 with fail
  rw [← hX, ← hg0]
  clear hX hg0
  go_wp2_with fail
  go_at_call 27; refine (c0 _).mono ?_; rintro e w1 ⟨rfl, hb1⟩
  obtain ⟨b1, b2, r0, _⟩ := HR.out _ hb1
  obtain ⟨q0, q1, _⟩ := cells2 r0
  have cc := HDF.out w1 b1 b2
  clear c0 b1 b2 r0 HDF
  go_wp2_with fail
  go_at_call 21; refine cc.mono ?_; rintro e w2 ⟨u5, R5, y5, rfl, hI5, hb, hD5⟩
  have hb2 := below2 hb1 hb
  clear cc q0 q1 hb hb1
  have hBZ := (HR.out _ hb2).2.2.2
  obtain ⟨o5, c5, rfl, _, _⟩ := HasRow.slice hI5
  by_cases hy : y5 = 0
  · subst hy
    by_cases hbig : 100 < n
    · have d1 : decide ((100 : Int) < (n : Int)) = true := decide_eq_true (by omega)
      clear HR HW1 HW2 HZ HNT hI5 hD5
      go_wp2_with fail
      go_ret
      exact ⟨by first | rfl | simp, hBZ⟩
    · have d1 : decide ((100 : Int) < (n : Int)) = false := decide_eq_false (by omega)
      by_cases hbig2 : 100 < n2
      · have d2 : decide ((100 : Int) < (n2 : Int)) = true := decide_eq_true (by omega)
        clear HR HW1 HW2 HZ HNT hI5 hD5
        go_wp2_with fail
        go_ret
        exact ⟨by first | rfl | simp, hBZ⟩
      · have d2 : decide ((100 : Int) < (n2 : Int)) = false := decide_eq_false (by omega)
        obtain ⟨hl, hm, hR5, hd5⟩ := HZ.out R5 hD5
        subst hR5
        have hsz : l.length + m.length ≤ 1024 := by have := HN.out; have := HN2.out; omega
        have HOK : Hid (okL (wa, wb) l = true ∧ okL (wa, wb) m = true ∧ l.length + m.length ≤ 1024 ∧ l.length ≤ 200 ∧ m.length ≤ 200) := ⟨hl, hm, hsz, by have := HN.out; omega, by have := HN2.out; omega⟩
        have hw0 := okI_iff.1 (okL_go hl).1
        have HWI : Hid (okI (wa, wb) = true) := (okL_go hl).1
        have HDJ : Hid (okJ (difL l m) = true) := (dif_has hl hm).1 hd5
        have HLG : Hid (longI (difL l m) + longI (agR l m l.length) = wb - wa + 1) := ag_long hl hm hd5
        have HI5 : Hid (∀ W, Below w2.heap.size w2 W → HasI W (.slice o5 (difL l m).length c5) (difL l m)) := fun W hq => hI5.keep hq
        have H0 : Hid (HasI w2 (.slice none 0 0) (agR l m 0)) := by show HasI _ _ _; rw [ag_zero hl hm]; exact Lk.hasRow_nil _ 2
        simp only at hw0
        clear HZ hI5 hD5 hl hm hsz hd5 hBZ
        have hni : (n : Int) ≤ 100 := by omega
        go_wp2_with fail
        clear d1 d2
        go_loopw [9, 52] (fun u q wr => ∃ (k : Nat), k ≤ n ∧ q = .int .i64 k ∧ Below w2.heap.size w2 wr ∧ Hid (HasI wr u (agR l m k))) (fun _ q _ => n - (Go.RowKit.intOf q).toNat)
        case atStart => exact ⟨0, by omega, rfl, Below.refl _ _, H0⟩
        case round =>
          clear H0
          obtain ⟨k, hk, rfl, hBr, HI⟩ := hrel
          have hH := HI.out
          obtain ⟨hh, hh2, r0, hBW⟩ := HR.out _ (below2 hb2 hBr)
          by_cases hlt : k < n
          · have hkz : k < l.length := by rw [← HN.out]; exact hlt
            obtain ⟨g1, i1, rfl, hg1, a0, a1, a2, a3⟩ := HasE.cell hh k hkz
            have hki : (k : Int) < (n : Int) := by omega
            obtain ⟨s, hs⟩ : ∃ s : Er, s = l[k] := ⟨_, rfl⟩
            have HS : Hid (s = l[k]) := hs
            rw [← hs] at a0 a1 a2 a3
            clear hs HI hg1 hh hh2 r0 hBW
            go_upto_region 10 with fail
            obtain ⟨Y, hY⟩ : ∃ X, X = wr.alloc (.cells #[.int .i64 s.a, .int .i64 s.b, .int .u8 s.v.kind, .int .i64 s.v.at'] 49) := ⟨_, rfl⟩
            have hbY : Below wr.heap.size wr Y := by rw [hY]; exact below_new (Below.refl _ _) _
            have rx : RowAt Y wr.heap.size [.int .i64 s.a, .int .i64 s.b, .int .u8 s.v.kind, .int .i64 s.v.at'] 49 := by rw [hY]; exact RowAt.new _ _ _
            rw [← hY]
            replace hBr := below2 hBr hbY
            replace hH := hH.keep hbY
            obtain ⟨gs, hgs⟩ : ∃ g, g = wr.heap.size := ⟨_, rfl⟩
            rw [← hgs] at rx ⊢
            clear hY hbY a0 a1 a2 a3 hgs
            obtain ⟨hh, _, r0, _⟩ := HR.out _ (below2 hb2 hBr)
            obtain ⟨x0, x1, x2, x3, _⟩ := cells4 rx
            obtain ⟨q0, q1, _⟩ := cells2 r0
            have cc := HW1.out s.v Y hh
            clear hh r0
            go_wp2_with fail
            go_at_call 17; refine cc.mono ?_; rintro e w6 ⟨u6, R6, y6, rfl, hI6, hb6, hR6⟩
            unfold whenE at hR6
            rw [if_pos HOK.out.1] at hR6
            injection hR6 with e1 e2
            subst e1 e2
            obtain ⟨o6, c6, rfl, _, _⟩ := HasRow.slice hI6
            replace hBr := below2 hBr hb6
            replace hH := hH.keep hb6
            replace rx := rx.below hb6
            clear cc x0 x1 x2 x3 q0 q1 hb6
            obtain ⟨_, hh2, r0, _⟩ := HR.out _ (below2 hb2 hBr)
            obtain ⟨x0, x1, x2, x3, _⟩ := cells4 rx
            obtain ⟨q0, q1, _⟩ := cells2 r0
            have cc := HW2.out s.v w6 hh2
            clear hh2 r0 rx
            go_wp2_with fail
            go_at_call 17; refine cc.mono ?_; rintro e w7 ⟨u7, R7, y7, rfl, hI7, hb7, hR7⟩
            unfold whenE at hR7
            rw [if_pos HOK.out.2.1] at hR7
            injection hR7 with e1 e2
            subst e1 e2
            obtain ⟨o7, c7, rfl, _, _⟩ := HasRow.slice hI7
            replace hBr := below2 hBr hb7
            replace hH := hH.keep hb7
            replace hI6 := hI6.keep hb7
            have cc2 := andI_any (whenL l s.v) (whenL m s.v) _ _ w7 hI6 hI7
            rw [(when_okJ HOK.out.1 HOK.out.2.2.2.1).1, (when_okJ HOK.out.2.1 HOK.out.2.2.2.2).1] at cc2
            clear cc x0 x1 x2 x3 q0 q1 hb7 hI6 hI7
            go_wp2_with fail
            go_at_call 28; refine cc2.mono ?_; rintro e w8 ⟨u8, C8, y8, rfl, hI8, hb8, hS8⟩
            have hC : y8 = 0 ∧ Sp.Row true C8 ∧ Tms C8 ∧ C8.length ≤ 1024 ∧ ∀ x, Sp.inB C8 x = (Sp.inB ((whenL l s.v).map toS) x && Sp.inB ((whenL m s.v).map toS) x) := by
              have h1 := (when_okJ (v := s.v) HOK.out.1 HOK.out.2.2.2.1).2
              have h2 := (when_okJ (v := s.v) HOK.out.2.1 HOK.out.2.2.2.2).2
              rcases hS8.2 rfl with ⟨e1, e2, e3, e4, e5, e6⟩ | ⟨_, _, L, _, _, e5, e6⟩
              · exact ⟨e1, e2, e3, e5, e4⟩
              · omega
            obtain ⟨hy8, hC1, hC2, hC3, hC4⟩ := hC
            subst hy8
            replace hBr := below2 hBr hb8
            replace hH := hH.keep hb8
            obtain ⟨o8, c8, rfl, _, _⟩ := HasRow.slice hI8
            rw [List.length_map] at hI8
            obtain ⟨o9, c9, rfl, _, _⟩ := HasRow.slice hH
            have cc3 := orI_any (agR l m k) (C8.map ofS) _ _ w8 hH hI8
            rw [ag_okJ HOK.out.1 HOK.out.2.1 HOK.out.2.2.1 k, okJ_of hC1 hC2 hC3] at cc3
            clear cc2 hS8 hb8 hI8 hH
            go_wp2_with fail
            go_at_call 25; refine cc3.mono ?_; rintro e w9 ⟨u9, R9, y9, rfl, hI9, hb9, hS9⟩
            obtain ⟨bd9, hS10⟩ : ∃ bd, SetI true (fun x => Sp.inB ((agR l m k).map toS) x || Sp.inB C8 x) bd R9 y9 := by
              have e9 : (C8.map ofS).map toS = C8 := by rw [List.map_map, show (toS ∘ ofS) = id from funext fun s => Iv.to_of s, List.map_id]
              rw [e9] at hS9
              exact ⟨_, hS9⟩
            rw [HS.out] at hC4
            obtain ⟨hy9, hR9⟩ := ag_or HOK.out.1 HOK.out.2.1 HOK.out.2.2.1 hkz hC4 hS10
            subst hy9
            rw [hR9] at hI9
            have HV : Hid (HasI w9 u9 (agR l m (k + 1))) := hI9
            replace hBr := below2 hBr hb9
            clear cc3 hS9 hS10 hC1 hC2 hC3 hC4 hR9 hI9 hb9
            go_wp2_with fail
            go_roundw
            case rel => exact ⟨k + 1, by omega, by go_num, hBr, HV⟩
            case measure => simp [Go.RowKit.intOf]; omega
          · have hkn : decide ((k : Int) < (n : Int)) = false := decide_eq_false (by omega)
            obtain rfl : k = n := by omega
            have hke : agR l m k = agR l m l.length := by rw [← HN.out]
            rw [hke] at hH
            have hAJ := ag_okJ HOK.out.1 HOK.out.2.1 HOK.out.2.2.1 l.length
            have HNO : Hid (∀ R why bd, SetI true (Iv.notM (difL l m) (wa, wb)) bd R why → why = 0 ∧ R.map ofS = agR l m l.length) := fun R why bd h => ag_not HOK.out.1 HOK.out.2.1 HOK.out.2.2.1 h
            have HNN : Hid (∀ R why bd, SetI true (fun x => Sp.inB ((difL l m).map toS) x && Sp.inB ((agR l m l.length).map toS) x) bd R why → why = 0 ∧ R = []) := fun R why bd h => ag_none HOK.out.1 HOK.out.2.1 h
            clear HI hke hh hh2 HW1 HW2 HOK
            generalize agR l m l.length = G at *
            generalize difL l m = D at *
            have cc := HNT.out D _ wr (HI5.out wr hBr)
            rw [HDJ.out, HWI.out] at cc
            obtain ⟨q0, q1, _⟩ := cells2 r0
            clear r0 hBW
            go_wp2_with fail
            clear hkn hlt
            go_at_call 29; refine cc.mono ?_; rintro e w6 ⟨u6, R6, y6, rfl, hI6, hb6, hS6⟩
            obtain ⟨hy6, hR6⟩ := HNO.out _ _ _ hS6
            subst hy6
            rw [hR6] at hI6
            replace hBr := below2 hBr hb6
            replace hH := hH.keep hb6
            obtain ⟨o6, c6, rfl, _, _⟩ := HasRow.slice hI6
            obtain ⟨o9, c9, rfl, _, _⟩ := HasRow.slice hH
            have cc2 := andI_any D G _ _ w6 (HI5.out w6 hBr) hH
            rw [HDJ.out, hAJ] at cc2
            clear cc hS6 hR6 hb6 q0 q1 HNO HNT
            go_wp2_with fail
            go_at_call 28; refine cc2.mono ?_; rintro e w7 ⟨u7, R7, y7, rfl, hI7, hb7, hS7⟩
            obtain ⟨hy7, hR7⟩ := HNN.out _ _ _ hS7
            subst hy7 hR7
            obtain ⟨o7, c7, rfl, _, _⟩ := HasRow.slice hI7
            replace hBr := below2 hBr hb7
            replace hH := hH.keep hb7
            replace hI6 := hI6.keep hb7
            have cc3 := longI_any D _ w7 (HI5.out w7 hBr)
            rw [show longJ D = (longI D, 0) by unfold longJ; rw [if_pos HDJ.out]] at cc3
            clear cc2 hS7 hb7 hI7 HNN
            simp only at cc3
            have hLD := Iv.long_bd HDJ.out
            have hLG := Iv.long_bd hAJ
            have hsum := HLG.out
            have cG := fun (W : World) (x : Value) (h : HasI W x G) => longI_any G x W h
            rw [show longJ G = (longI G, 0) by unfold longJ; rw [if_pos hAJ]] at cG
            simp only at cG
            generalize longI D = ld at *
            generalize longI G = lg at *
            go_wp2_with fail
            go_at_call 24; refine cc3.mono ?_; rintro e w8 ⟨rfl, hb8⟩
            replace hBr := below2 hBr hb8
            replace hH := hH.keep hb8
            replace hI6 := hI6.keep hb8
            have cc4 := cG w8 _ hH
            clear cc3 hb8 cG
            go_wp2_with fail
            go_at_call 24; refine cc4.mono ?_; rintro e w9 ⟨rfl, hb9⟩
            replace hBr := below2 hBr hb9
            replace hH := hH.keep hb9
            replace hI6 := hI6.keep hb9
            obtain ⟨_, _, r0, hBW⟩ := HR.out _ (below2 hb2 hBr)
            obtain ⟨q0, q1, _⟩ := cells2 r0
            have hw4 : IntKind.i64.wrap (wb - wa) = wb - wa := by rw [IntKind.wrap_i64]; omega
            have hw5 : IntKind.i64.wrap (wb - wa + 1) = wb - wa + 1 := by rw [IntKind.wrap_i64]; omega
            have hw6 : IntKind.i64.wrap (ld + lg) = wb - wa + 1 := by rw [IntKind.wrap_i64]; omega
            have hGl : G.length ≤ 1024 := by
              have h9 := hAJ
              unfold okJ at h9
              rw [Bool.and_eq_true] at h9
              have := (Sp.okB_iff.1 h9.2).1
              rwa [List.length_map] at this
            have HG6 : Hid (∀ W, Below w9.heap.size w9 W → HasI W (.slice o6 G.length c6) G ∧ HasI W (.slice o9 G.length c9) G ∧ Below w.heap.size w W) := fun W hq => ⟨hI6.keep hq, hH.keep hq, below2 hBW hq⟩
            obtain ⟨ng, hng⟩ : ∃ n, n = G.length := ⟨_, rfl⟩
            have HNG : Hid (ng = G.length) := hng
            rw [← hng] at HG6 hGl ⊢
            have hgi : (ng : Int) ≤ 1024 := by omega
            clear cc4 hb9 hI6 hH r0 hBW hsum hLD hLG hAJ HLG HDJ HWI HI5 HR hBr hng
            go_wp2_with fail
            clear q0 q1 hw4 hw5 hw6
            go_loopw [162] (fun q wr => ∃ k : Nat, k ≤ ng ∧ q = .int .i64 k ∧ Below w9.heap.size w9 wr) (fun q _ => ng - (Go.RowKit.intOf q).toNat)
            case atStart => exact ⟨0, by omega, rfl, Below.refl _ _⟩
            case round =>
              obtain ⟨k2, hk2, rfl, hB9⟩ := hrel
              obtain ⟨h1, h2, hBZ⟩ := HG6.out _ hB9
              by_cases hlt2 : k2 < ng
              · have hkz : k2 < G.length := by rw [← HNG.out]; exact hlt2
                obtain ⟨ga, ia, rfl, hga, a0, a1⟩ := Iv.HasI.cell h1 k2 hkz
                obtain ⟨gb, ib, rfl, hgb, b0, b1⟩ := Iv.HasI.cell h2 k2 hkz
                have hki : (k2 : Int) < (ng : Int) := by omega
                have hneq := fun W => iv_neqT G[k2] W
                have hvg := iv_guard
                haveI := bl_ne wr
                have z0 : ∀ p : Bl wr, p.W.cell? ⟨ga, ia + k2 * 2, none⟩ = some (.int .i64 G[k2].1) := fun p => (p.h.cell (p := ⟨ga, ia + k2 * 2, none⟩) hga).trans a0
                have z1 : ∀ p : Bl wr, p.W.cell? ⟨ga, ia + k2 * 2 + 1, none⟩ = some (.int .i64 G[k2].2) := fun p => (p.h.cell (p := ⟨ga, ia + k2 * 2 + 1, none⟩) hga).trans a1
                have z2 : ∀ p : Bl wr, p.W.cell? ⟨gb, ib + k2 * 2, none⟩ = some (.int .i64 G[k2].1) := fun p => (p.h.cell (p := ⟨gb, ib + k2 * 2, none⟩) hgb).trans b0
                have z3 : ∀ p : Bl wr, p.W.cell? ⟨gb, ib + k2 * 2 + 1, none⟩ = some (.int .i64 G[k2].2) := fun p => (p.h.cell (p := ⟨gb, ib + k2 * 2 + 1, none⟩) hgb).trans b1
                generalize G[k2].1 = gx at *
                generalize G[k2].2 = gy at *
                clear h1 h2 a0 a1 b0 b1 hga hgb hBZ
                go_upto_region 27 with fail
                refine wp_region_bl (by kernel_rfl) (by kernel_rfl) ?_
                repeat (go_big_quiet_step (first | fail))
                refine wpQuiet_nil ?_
                intro wq hw'
                obtain ⟨⟨wz, hq⟩, hw2⟩ := hw'
                subst hw2
                have hBE := below2 hB9 hq
                clear z0 z1 z2 z3 hneq
                go_wp2_with fail
                go_roundw
                case rel => exact ⟨k2 + 1, by omega, by go_num, hBE⟩
                case measure => simp [Go.RowKit.intOf]; omega
              · have hkn : decide ((k2 : Int) < (ng : Int)) = false := decide_eq_false (by omega)
                clear h1 h2
                go_wp2_with fail
                go_ret
                exact ⟨by first | rfl | simp, hBZ⟩
  · have d1 : decide (y5 = 0) = false := decide_eq_false hy
    have d2 : (y5 == 0) = false := beq_eq_false_iff_ne.2 hy
    clear HR HW1 HW2 HZ HNT hI5 hD5
    go_wp2_with fail
    go_ret
    exact ⟨by first | rfl | simp, hBZ⟩
set_option maxRecDepth 100000 in
theorem lifted (os : Os) (started : os.Started) (H : Type) (enc : TypeId × Value → H) :
    ReturnsInHanded {} Try.checked os 8 .any (Rows.topAgreeSpec.pre6 enc Try.prog Try.f8 Rows.topAgreeRow.domain false) (Rows.topAgreeSpec.post enc Try.prog Try.f8 false true false false) := by
  refine returnsInHanded_of_change_sized (C := Try.checked) own started (by kernel_rfl) Try.func8
    (ChangeSpec.witness6 (enc := enc) (C := Try.checked) false ⟨#[], #[.agg #[.int .i64 0, .int .i64 0], .slice none 0 0, .slice none 0 0], []⟩ 8 (by kernel_rfl) (by kernel_rfl) (by kernel_rfl) (by kernel_rfl)) ?_
  intro W base args ds gs before hval0 hW _ hsz0 _
  have hsz : (DataW.weightsEach Try.prog (Try.f8.params.toList ++ Rows.topAgreeSpec.plain.varTypes Try.prog) (ds ++ gs)).all (· ≤ reachBytes) = true := hsz0
  clear hsz0
  have hval : ∀ (j : Nat) t v, Try.f8.params[j]? = some t → args[j]? = some v → Value.okWide Try.prog W .any base t v := hval0
  have hW' := hW
  obtain ⟨p, q, hA0, hV, rfl, hfz, hnd⟩ := hW
  have hA : DataW.TrodAll enc Try.prog W 0 (fun _ => true) true Try.f8.params.toList args.toList ds p := hA0
  rw [Try.params8] at hA hval hsz
  obtain ⟨v0, vs0, d0, ds0, p0, q0, hargs, rfl, rfl, h0, r0⟩ := trodAll_cons hA
  obtain ⟨v1, vs1, d1, ds1, p1, q1, rfl, rfl, rfl, h1, r1⟩ := trodAll_cons r0
  obtain ⟨v2, vs2, d2, ds2, p2, q2, rfl, rfl, rfl, h2, r2⟩ := trodAll_cons r1
  obtain ⟨rfl, rfl, rfl⟩ := trodAll_nil r2
  obtain rfl : args = #[v0, v1, v2] := by cases args; simp_all
  obtain ⟨rfl, rfl⟩ := trodVars_none hV
  have k0 := h0
  have lt0 : ∀ x ∈ p0, x.block < W.heap.size := by obtain ⟨m, hm⟩ := k0; exact DataW.trod_lt m _ _ _ hm
  obtain ⟨n0, rfl, b0⟩ := Iv.open_ivl (hval 0 23 v0 rfl rfl) h0
  obtain ⟨a1, len1, cap1, rfl⟩ := okWide_slice Try.underlying25 (hval 1 25 v1 rfl rfl)
  have k1 := h1
  have lt1 : ∀ x ∈ p1, x.block < W.heap.size := by obtain ⟨m, hm⟩ := k1; exact DataW.trod_lt m _ _ _ hm
  obtain ⟨fuel1, hf1⟩ := h1
  obtain ⟨z1, b1⟩ := Ln.open_eras hf1
  obtain ⟨a2, len2, cap2, rfl⟩ := okWide_slice Try.underlying25 (hval 2 25 v2 rfl rfl)
  have k2 := h2
  have lt2 : ∀ x ∈ p2, x.block < W.heap.size := by obtain ⟨m, hm⟩ := k2; exact DataW.trod_lt m _ _ _ hm
  obtain ⟨fuel2, hf2⟩ := h2
  obtain ⟨z2, b2⟩ := Ln.open_eras hf2
  clear hA0 hval0
  refine (walk n0 (.slice a1 len1 cap1) z1 (.slice a2 len2 cap2) z2 W b0 b1 b2).mono fun e W' ⟨he, bel⟩ => ?_
  subst he
  exact ⟨_, rfl, _, _, _, [], _, [], hW', trodAll_mk1 (shut_bool Try.underlying4 _), (trodAll_cons_mk (Below.trod laidOut (by kernel_rfl) (of_decide_eq_true (by kernel_rfl)) k0 bel lt0) (trodAll_cons_mk (Below.trod laidOut (by kernel_rfl) (of_decide_eq_true (by kernel_rfl)) k1 bel lt1) (trodAll_cons_mk (Below.trod laidOut (by kernel_rfl) (of_decide_eq_true (by kernel_rfl)) k2 bel lt2) trodAll_mk0))), rfl, bel.frame _, fun h => by cases h⟩

theorem over : Rows.topAgreeRow.holds Try.pinned (OpenSpec.ofChange Rows.topAgreeSpec) :=
  OpenClaim.holds_of_wide 8 Try.f8 rfl rfl rfl rfl rfl rfl rfl ⟨rfl, rfl, rfl, rfl, rfl⟩ rfl rfl rfl rfl rfl (by kernel_rfl) Try.func8 (by kernel_rfl)
    (of_decide_eq_true (by kernel_rfl)) (by unfold Func.isWrapper; first | (rw [if_pos (by decide +kernel)]; kernel_rfl) | (rw [if_neg (by decide +kernel)]; exact ⟨rfl, rfl⟩))
    (fun os started H enc _ => lifted os started H enc)
end topAgree
theorem top_agree_holds : Rows.TopAgreeSaid := topAgree.over
#print axioms top_agree_holds
end Go.Proofs.Ytmkbijnndbgjgaa
