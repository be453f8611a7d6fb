/- For any interval, eras, part and time: spoorlaw20.LineCut returns true, and changes nothing that was there. No condition. -/
import Derived.Test.YtmkbijnndbgjgaaLnZ1
import Derived.Test.YtmkbijnndbgjgaaLnZ3
import Derived.Test.YtmkbijnndbgjgaaIvZ1
import Derived.Test.YtmkbijnndbgjgaaRows
import Derived.Deep.DeepCutAuto
import Derived.ProofKit
import Derived.OpenShut
import Derived.ShutString
import Derived.SizedLaws
set_option linter.unusedVariables false
namespace Go.Proofs.Ytmkbijnndbgjgaa.Ln
open Go.RowKit
open Go.Proofs.Ytmkbijnndbgjgaa.Iv (Iv okI okI_iff)
def lastO : Option Vd → List Er → Option Vd
  | p, [] => p
  | _, y :: l => lastO (some y.v) l
theorem lastO_snoc (A : List Er) (x : Er) : ∀ p, lastO p (A ++ [x]) = some x.v := by
  induction A with
  | nil => intro p; rfl
  | cons y A ih => intro p; exact ih _
theorem goE_snoc {b : Int} (x : Er) : ∀ (l : List Er) (p : Option Vd) (n : Int), goE b p n (l ++ [x]) = match goE b p n l with | none => none | some m => if stepB b (lastO p l) m x then some (x.b + 1) else none := by
  intro l
  induction l with
  | nil => intro p n; rfl
  | cons y l ih =>
    intro p n
    show (if stepB b p n y then goE b (some y.v) (y.b + 1) (l ++ [x]) else none) = match (if stepB b p n y then goE b (some y.v) (y.b + 1) l else none) with | none => none | some m => if stepB b (lastO (some y.v) l) m x then some (x.b + 1) else none
    cases stepB b p n y
    · rfl
    · exact ih _ _
def wantM (l : List Mk) (t : Int) : Vd := l.foldl (fun v m => if m.t ≤ t then m.v else v) zV
theorem wantM_snoc (l : List Mk) (m : Mk) (t : Int) : wantM (l ++ [m]) t = if m.t ≤ t then m.v else wantM l t := by unfold wantM; rw [List.foldl_append]; rfl
theorem eqV_comm (u v : Vd) : eqV u v = eqV v u := Bool.eq_iff_iff.2 ⟨fun h => eqV_iff.2 (eqV_iff.1 h).symm, fun h => eqV_iff.2 (eqV_iff.1 h).symm⟩
/-- a line grows by times right behind it -/
theorem put_goE {b n c e : Int} {l : List Er} {v : Vd} (h : goE b none n l = some c) (h1 : c ≤ e) (h2 : e ≤ b) : goE b none n (putE l c e v) = some (e + 1) := by
  rcases List.eq_nil_or_concat l with rfl | ⟨A, x, rfl⟩
  · simp only [goE, Option.some.injEq] at h
    subst h
    show (if stepB b none n ⟨n, e, v⟩ then some (e + 1) else none) = _
    rw [if_pos]
    simp only [stepB, notP, Bool.and_eq_true, decide_eq_true_eq]
    exact ⟨trivial, h1, h2, trivial⟩
  · rw [List.concat_eq_append] at h ⊢
    rw [putE_snoc]
    rw [goE_snoc] at h
    cases hA : goE b none n A with
    | none => rw [hA] at h; cases h
    | some m =>
      rw [hA] at h
      simp only at h
      split at h
      · rename_i hs
        injection h with h
        have hs2 := hs
        simp only [stepB, Bool.and_eq_true, decide_eq_true_eq] at hs
        cases hv : eqV x.v v with
        | true =>
          rw [if_pos rfl, goE_snoc, hA]
          simp only
          rw [if_pos]
          simp only [stepB, Bool.and_eq_true, decide_eq_true_eq]
          exact ⟨hs.1, by omega, h2, hs.2.2.2⟩
        | false =>
          rw [if_neg Bool.false_ne_true, goE_snoc, goE_snoc, hA]
          simp only
          rw [if_pos hs2]
          simp only
          rw [if_pos, ]
          rw [lastO_snoc]
          simp only [stepB, notP, Bool.and_eq_true, decide_eq_true_eq]
          exact ⟨h.symm, h1, h2, by rw [eqV_comm, hv]; rfl⟩
      · cases h
theorem put_ok {l : List Er} {a e : Int} {v : Vd} (hl : ∀ x ∈ l, okV x.v = true) (hv : okV v = true) : ∀ x ∈ putE l a e v, okV x.v = true := by
  rcases List.eq_nil_or_concat l with rfl | ⟨A, y, rfl⟩
  · intro x hx
    have hx' : x ∈ [(⟨a, e, v⟩ : Er)] := hx
    rw [List.mem_singleton.1 hx']; exact hv
  · rw [List.concat_eq_append] at hl ⊢
    rw [putE_snoc]
    intro x hx
    split at hx
    · rcases List.mem_append.1 hx with hx | hx
      · exact hl x (List.mem_append.2 (.inl hx))
      · rw [List.mem_singleton.1 hx]; exact hl y (by simp)
    · rcases List.mem_append.1 hx with hx | hx
      · exact hl x hx
      · rw [List.mem_singleton.1 hx]; exact hv
theorem put_hold {b n c e : Int} {l : List Er} {v : Vd} (h : goE b none n l = some c) (h1 : c ≤ e) (h2 : e ≤ b) (t : Int) (ht : n ≤ t) (hte : t ≤ e) : holdL (putE l c e v) t = if c ≤ t then v else holdL l t := by
  have hg := put_goE (v := v) h h1 h2
  by_cases hct : c ≤ t
  · rw [if_pos hct]
    rcases List.eq_nil_or_concat l with rfl | ⟨A, x, rfl⟩
    · exact hold_in (x := ⟨c, e, v⟩) ⟨hct, hte⟩
    · rw [List.concat_eq_append] at h hg ⊢
      have hxb : x.a ≤ x.b ∧ x.b + 1 = c := by
        rw [goE_snoc] at h
        cases hA : goE b none n A with
        | none => rw [hA] at h; cases h
        | some m =>
          rw [hA] at h
          simp only at h
          split at h
          · rename_i hs
            injection h with h
            simp only [stepB, Bool.and_eq_true, decide_eq_true_eq] at hs
            exact ⟨hs.2.1, h⟩
          · cases h
      rw [putE_snoc] at hg ⊢
      cases hv : eqV x.v v with
      | true =>
        rw [hv, if_pos rfl] at hg
        rw [if_pos rfl, goE_hold _ _ _ _ t hg ⟨x.a, e, x.v⟩ (by simp) (by show x.a ≤ t; omega) hte]
        exact eqV_iff.1 hv
      | false =>
        rw [hv, if_neg Bool.false_ne_true] at hg
        rw [if_neg Bool.false_ne_true, goE_hold _ _ _ _ t hg ⟨c, e, v⟩ (by simp) hct hte]
  · rw [if_neg hct]
    obtain ⟨y, hy, hi⟩ := (goE_cover l none n c t h).2.2 ⟨ht, by omega⟩
    have hi2 := inT_iff.1 hi
    rw [goE_hold l _ _ _ t h y hy hi2.1 hi2.2]
    rcases List.eq_nil_or_concat l with rfl | ⟨A, x, rfl⟩
    · simp at hy
    · rw [List.concat_eq_append] at hy hg ⊢
      rw [putE_snoc] at hg ⊢
      cases hv : eqV x.v v with
      | true =>
        rw [hv, if_pos rfl] at hg
        rw [if_pos rfl]
        rcases List.mem_append.1 hy with hy | hy
        · exact goE_hold _ _ _ _ t hg y (List.mem_append.2 (.inl hy)) hi2.1 hi2.2
        · rw [List.mem_singleton.1 hy] at hi2 ⊢
          exact goE_hold _ _ _ _ t hg ⟨x.a, e, x.v⟩ (by simp) hi2.1 hte
      | false =>
        rw [hv, if_neg Bool.false_ne_true] at hg
        rw [if_neg Bool.false_ne_true]
        exact goE_hold _ _ _ _ t hg y (List.mem_append.2 (.inl hy)) hi2.1 hi2.2
/-- the time behind k marks' eras -/
def cT (w : Iv) (ms : List Mk) (k : Nat) : Int := match ms[k]? with | some m => m.t | none => w.2 + 1
theorem cT_at {w : Iv} {ms : List Mk} {k : Nat} (h : k < ms.length) : cT w ms k = ms[k].t := by unfold cT; rw [List.getElem?_eq_getElem h]
theorem cT_end {w : Iv} {ms : List Mk} {k : Nat} (h : ms.length ≤ k) : cT w ms k = w.2 + 1 := by unfold cT; rw [List.getElem?_eq_none h]
theorem endM_cT (w : Iv) (ms : List Mk) (k : Nat) : endM w.2 ms k = cT w ms (k + 1) - 1 := by
  unfold endM cT
  cases ms[k + 1]? with
  | none => show w.2 = w.2 + 1 - 1; omega
  | some m => rfl
theorem okM_rise {w : Iv} {ms : List Mk} (h : okM w ms = true) {k : Nat} (hk : k + 1 < ms.length) : ms[k].t < ms[k + 1].t := by
  have hm : marksB w.2 none ms = true := by
    cases ms with
    | nil => simp at hk
    | cons m l => simp only [okM, Bool.and_eq_true] at h; exact h.2
  have : ∀ (k : Nat) (p : Option Int) (l : List Mk), marksB w.2 p l = true → ∀ (hk : k + 1 < l.length), l[k].t < l[k + 1].t := by
    intro k
    induction k with
    | zero =>
      intro p l hl hk
      match l, hk with
      | a :: b :: l, _ =>
        simp only [marksB, stepM, gtP, Bool.and_eq_true, decide_eq_true_eq] at hl
        simp only [List.getElem_cons_zero, List.getElem_cons_succ]
        exact hl.2.1.2.2
    | succ k ih =>
      intro p l hl hk
      match l, hk with
      | a :: l, hk =>
        simp only [marksB, Bool.and_eq_true] at hl
        simp only [List.getElem_cons_succ]
        exact ih _ l hl.2 (by simpa using hk)
  exact this k none ms hm hk
theorem done_inv {w : Iv} {ms : List Mk} (hw : okI w = true) (hm : okM w ms = true) : ∀ k, k ≤ ms.length → goE w.2 none w.1 (doneE w.2 ms k) = some (cT w ms k) ∧ (∀ x ∈ doneE w.2 ms k, okV x.v = true) ∧ ∀ t, w.1 ≤ t → t < cT w ms k → holdL (doneE w.2 ms k) t = wantM (ms.take k) t := by
  intro k
  induction k with
  | zero =>
    intro _
    have hp := okM_pos hm
    have h0 : cT w ms 0 = w.1 := by
      rw [cT_at hp]
      cases ms with
      | nil => simp at hp
      | cons m l => simp only [okM, Bool.and_eq_true, decide_eq_true_eq] at hm; exact hm.1
    refine ⟨by rw [h0]; rfl, (fun x hx => by cases hx), fun t h1 h2 => by omega⟩
  | succ k ih =>
    intro hk
    have hkn : k < ms.length := by omega
    obtain ⟨i1, i2, i3⟩ := ih (by omega)
    have hat := okM_at hw hm k hkn
    rw [doneE_succ hkn, endM_cT]
    rw [cT_at hkn] at i1 i3
    have hc1 : ms[k].t ≤ cT w ms (k + 1) - 1 ∧ cT w ms (k + 1) - 1 ≤ w.2 := by
      by_cases h : k + 1 < ms.length
      · rw [cT_at h]
        have := okM_rise hm h
        have := okM_at hw hm (k + 1) h
        omega
      · rw [cT_end (by omega)]; omega
    refine ⟨?_, put_ok i2 hat.2.2.2, fun t h1 h2 => ?_⟩
    · rw [put_goE i1 hc1.1 hc1.2, show cT w ms (k + 1) - 1 + 1 = cT w ms (k + 1) by omega]
    · rw [put_hold i1 hc1.1 hc1.2 t h1 (by omega), List.take_succ_eq_append_getElem hkn, wantM_snoc]
      by_cases h : ms[k].t ≤ t
      · rw [if_pos h, if_pos h]
      · rw [if_neg h, if_neg h]; exact i3 t h1 (by omega)
/-- what was made is a line, and tells so -/
theorem make_tells {w : Iv} {ms : List Mk} {R : List Er} (h : (R, (0 : Int)) = mkL w ms) : okL w R = true ∧ ∀ t, atL w R t = if w.1 ≤ t ∧ t ≤ w.2 then (wantM ms t, 0) else (zV, 1) := by
  unfold mkL at h
  cases hw : okI w with
  | false => rw [hw] at h; simp at h
  | true =>
    cases hm : okM w ms with
    | false => rw [hw, hm] at h; simp at h
    | true =>
      rw [hw, hm] at h
      by_cases hl : (doneE w.2 ms ms.length).length ≤ 1024
      · rw [if_pos (show (true && true) = true from rfl), if_pos hl] at h
        injection h with h _
        subst h
        obtain ⟨i1, i2, i3⟩ := done_inv hw hm ms.length (Nat.le_refl _)
        rw [cT_end (Nat.le_refl _)] at i1 i3
        rw [List.take_length] at i3
        have hok : okL w (doneE w.2 ms ms.length) = true := by
          unfold okL
          simp only [Bool.and_eq_true, decide_eq_true_eq, List.all_eq_true, beq_iff_eq]
          exact ⟨hw, hl, i2, i1⟩
        refine ⟨hok, fun t => ?_⟩
        by_cases ht : w.1 ≤ t ∧ t ≤ w.2
        · rw [if_pos ht, atL_in hok ht, i3 t ht.1 (by omega)]
        · rw [if_neg ht, atL_out hok ht]
      · rw [if_pos (show (true && true) = true from rfl), if_neg hl] at h
        injection h with _ h
        cases h
theorem make_bad {w : Iv} {ms : List Mk} {R : List Er} {y : Int} (h : (R, y) = mkL w ms) (hy : y ≠ 0) : R = [] := by
  unfold mkL at h
  split at h
  · split at h
    · injection h with _ h; exact absurd h hy
    · injection h
  · injection h
end Go.Proofs.Ytmkbijnndbgjgaa.Ln
namespace Go.Proofs.Ytmkbijnndbgjgaa.Ln
open Go.RowKit
open Go.Proofs.Ytmkbijnndbgjgaa.Iv (Iv okI okI_iff okJ inI toS hasJ)
open Go.Proofs.Ytmkbijnndbgjgaa.Sp (okB okB_iff Row)
theorem cut_nil {b : Int} {p : Option Vd} {n m : Int} {l : List Er} {tw : Iv} (h : goE b p n l = some m) (hn : tw.2 < n) : cutL l tw = [] := by
  unfold cutL
  rw [List.filterMap_eq_nil_iff]
  intro x hx
  have := goE_bounds l _ _ _ h x hx
  unfold cut1
  rw [if_neg (by omega)]
theorem cut_go {b : Int} {tw : Iv} (ht : tw.1 ≤ tw.2) (hb : tw.2 ≤ b) : ∀ (l : List Er) (p p' : Option Vd) (n : Int), goE b p n l = some (b + 1) → (p' = none ∨ (tw.1 < n ∧ p' = p)) → (tw.1 < n → p' = p) → n ≤ tw.2 + 1 → goE tw.2 p' (max n tw.1) (cutL l tw) = some (tw.2 + 1) := by
  intro l
  induction l with
  | nil =>
    intro p p' n h hp hp2 hn
    simp only [goE, Option.some.injEq] at h
    show some (max n tw.1) = _
    congr 1
    omega
  | cons x l ih =>
    intro p p' n h hp hp2 hn
    have h0 := h
    simp only [goE] at h
    split at h
    · rename_i hs
      simp only [stepB, Bool.and_eq_true, decide_eq_true_eq] at hs
      by_cases h1 : tw.2 < n
      · rw [cut_nil h0 h1]
        show some (max n tw.1) = _
        congr 1
        omega
      · by_cases h2 : x.b < tw.1
        · have e : cutL (x :: l) tw = cutL l tw := by
            unfold cutL
            rw [List.filterMap_cons_none]
            unfold cut1
            rw [if_neg (by omega)]
          rw [e]
          have hpn : p' = none := by
            rcases hp with hp | ⟨hp, _⟩
            · exact hp
            · omega
          have := ih (some x.v) p' (x.b + 1) h (.inl hpn) (fun h => by omega) (by omega)
          rwa [show max n tw.1 = max (x.b + 1) tw.1 by omega]
        · have e : cutL (x :: l) tw = ⟨max x.a tw.1, min x.b tw.2, x.v⟩ :: cutL l tw := by
            unfold cutL
            rw [List.filterMap_cons_some]
            unfold cut1
            rw [if_pos (by omega)]
          rw [e]
          simp only [goE]
          have hst : stepB tw.2 p' (max n tw.1) ⟨max x.a tw.1, min x.b tw.2, x.v⟩ = true := by
            simp only [stepB, Bool.and_eq_true, decide_eq_true_eq]
            refine ⟨by omega, by omega, by omega, ?_⟩
            rcases hp with hp | ⟨_, hp⟩
            · rw [hp]; rfl
            · rw [hp]; exact hs.2.2.2
          rw [if_pos hst]
          by_cases h3 : x.b ≤ tw.2
          · have := ih (some x.v) (some x.v) (x.b + 1) h (.inr ⟨by omega, rfl⟩) (fun _ => rfl) (by omega)
            rwa [show min x.b tw.2 + 1 = max (x.b + 1) tw.1 by omega]
          · rw [cut_nil h (by omega)]
            show some (min x.b tw.2 + 1) = _
            congr 1
            omega
    · cases h
theorem cut_ok {w tw : Iv} {l : List Er} (h : okL w l = true) (h1 : okI tw = true) (h2 : w.1 ≤ tw.1) (h3 : tw.2 ≤ w.2) : okL tw (cutL l tw) = true ∧ ∀ t, tw.1 ≤ t → t ≤ tw.2 → holdL (cutL l tw) t = holdL l t := by
  obtain ⟨hw, hl, hv, hg⟩ := okL_go h
  have ht := okI_iff.1 h1
  have hc := cut_go ht.2.1 h3 l none none w.1 hg (.inl rfl) (fun _ => rfl) (by omega)
  rw [show max w.1 tw.1 = tw.1 by omega] at hc
  refine ⟨?_, fun t c1 c2 => ?_⟩
  · unfold okL
    simp only [Bool.and_eq_true, decide_eq_true_eq, List.all_eq_true, beq_iff_eq]
    refine ⟨h1, Nat.le_trans (cutL_len l tw) hl, fun y hy => ?_, hc⟩
    unfold cutL at hy
    obtain ⟨x, hx, hxy⟩ := List.mem_filterMap.1 hy
    unfold cut1 at hxy
    split at hxy
    · injection hxy with hxy
      rw [← hxy]; exact hv x hx
    · cases hxy
  · obtain ⟨x, hx, hi⟩ := (goE_cover l none w.1 (w.2 + 1) t hg).2.2 ⟨by omega, by omega⟩
    have hi2 := inT_iff.1 hi
    have hy : (⟨max x.a tw.1, min x.b tw.2, x.v⟩ : Er) ∈ cutL l tw := by
      unfold cutL
      refine List.mem_filterMap.2 ⟨x, hx, ?_⟩
      unfold cut1
      rw [if_pos (by omega)]
    rw [goE_hold l _ _ _ t hg x hx hi2.1 hi2.2, goE_hold _ _ _ _ t hc _ hy (by show max x.a tw.1 ≤ t; omega) (by show t ≤ min x.b tw.2; omega)]
theorem cut_tells {w tw : Iv} {l R : List Er} (h : okL w l = true) (hR : (R, (0 : Int)) = cutE w l tw) : okL tw R = true ∧ ∀ t, atL tw R t = if tw.1 ≤ t ∧ t ≤ tw.2 then (holdL l t, 0) else (zV, 1) := by
  cases hin : (okI tw && (decide (w.1 ≤ tw.1) && decide (tw.2 ≤ w.2))) with
  | false => rw [cutE_out h hin] at hR; injection hR with _ e; cases e
  | true =>
    rw [cutE_in h hin] at hR
    injection hR with e _
    subst e
    simp only [Bool.and_eq_true, decide_eq_true_eq] at hin
    obtain ⟨h1, h2⟩ := cut_ok h hin.1 hin.2.1 hin.2.2
    refine ⟨h1, fun t => ?_⟩
    by_cases ht : tw.1 ≤ t ∧ t ≤ tw.2
    · rw [if_pos ht, atL_in h1 ht, h2 t ht.1 ht.2]
    · rw [if_neg ht, atL_out h1 ht]
theorem cut_in {w tw : Iv} {l R : List Er} (h : okL w l = true) (hR : (R, (0 : Int)) = cutE w l tw) : w.1 ≤ tw.1 ∧ tw.2 ≤ w.2 := by
  cases hin : (okI tw && (decide (w.1 ≤ tw.1) && decide (tw.2 ≤ w.2))) with
  | false => rw [cutE_out h hin] at hR; injection hR with _ e; cases e
  | true =>
    simp only [Bool.and_eq_true, decide_eq_true_eq] at hin
    exact hin.2
theorem dif_has {w : Iv} {a b : List Er} (ha : okL w a = true) (hb : okL w b = true) : ((difL a b).length ≤ 1024 → okJ (difL a b) = true) ∧ ∀ t, inI (difL a b) t = (decide (w.1 ≤ t) && (decide (t ≤ w.2) && difD a b t)) := by
  have h0 := okI_iff.1 (okL_go ha).1
  have hd := tog_all ha hb
  obtain ⟨h1, h2, _⟩ := di_row hd h0.1 (by omega)
  refine ⟨fun hl => ?_, fun t => ?_⟩
  · unfold okJ
    rw [Bool.and_eq_true]
    exact ⟨h1, okB_iff.2 ⟨by rw [List.length_map]; exact hl, h2⟩⟩
  · apply Bool.eq_iff_iff.2
    have hm := hd.mem t
    unfold inI
    simp only [List.any_eq_true, Bool.and_eq_true, decide_eq_true_eq]
    constructor
    · rintro ⟨y, hy, c1, c2⟩
      unfold difL whenB at hy
      obtain ⟨x, hx, rfl⟩ := List.mem_map.1 hy
      have := hm.1 ⟨x, (List.mem_filter.1 hx).1, by simpa using (List.mem_filter.1 hx).2, c1, c2⟩
      exact ⟨this.1, by omega, this.2.2⟩
    · rintro ⟨c1, c2, c3⟩
      obtain ⟨x, hx, e1, e2, e3⟩ := hm.2 ⟨c1, by omega, c3⟩
      exact ⟨ivB x, List.mem_map.2 ⟨x, List.mem_filter.2 ⟨hx, e1⟩, rfl⟩, e2, e3⟩
theorem dif_len (a b : List Er) : (difL a b).length ≤ a.length + b.length := by
  have h1 := whenB_len (foldT [] (togL a b))
  have h2 := foldT_len (togL a b) []
  have h3 := tog_len (a.length + b.length) a b (Nat.le_refl _)
  simp only [List.length_nil] at h2
  show (whenB (foldT [] (togL a b))).length ≤ _
  omega
end Go.Proofs.Ytmkbijnndbgjgaa.Ln
namespace Go.Proofs.Ytmkbijnndbgjgaa
namespace lineCut
open Go.ChangeShapes Go.WideShapes Go.ChangeAt Go.RowKit
open Go.ChangeMaps (open_string shut_string)
open Go.Proofs.Ytmkbijnndbgjgaa.Ln
open Go.Proofs.Ytmkbijnndbgjgaa.Iv (Iv FitI FitT ivV HasI okI hasJ inI okJ hasI_any)
open Go.Proofs.Ytmkbijnndbgjgaa.Lk (HasRow)
open Go.Proofs.Ytmkbijnndbgjgaa.Sp (chk)
open Go.Proofs.Ytmkbijnndbgjgaa.Addr (Bl bl_ne wp_region_bl bl_call RowAt below2 below_drew below_new bset RowAt.lt RowAt.cell RowAt.frozen RowAt.below RowAt.drew RowAt.new RowAt.alloc cells2 cells4)
theorem own : ownKnob Try.prog.godebug = none := by kernel_rfl
theorem laidOut : laidOutB Try.prog = true := by kernel_rfl
theorem neq_vd (a b c d : Int) (W : World) (E : Bool) (h : eqV ⟨a, b⟩ ⟨c, d⟩ = E) : (binOp .neq 35 (.agg #[.int .u8 a, .int .i64 b]) (.agg #[.int .u8 c, .int .i64 d])).run Try.prog W = .ok (.bool (!E)) W := by
  have h9 := vd_neq ⟨a, b⟩ ⟨c, d⟩ W
  rw [h] at h9
  exact h9
set_option maxHeartbeats 16000000 in
set_option maxRecDepth 20000 in
theorem walk (wi : Iv) (v : Value) (l : List Er) (u : Value) (m : List Er) (ti : Iv) (t : Int) (w : World) (b0 : FitI wi) (b1 : HasE w v l) (b2 : HasE w u m) (b3 : FitI ti) (b4 : FitT t) :
    Calls Try.prog 7 #[ivV wi, v, u, ivV ti, .int .i64 t] w fun e w' => e = .returned (.bool true) ∧ Below w.heap.size w w' := by
  have c0 := fun (W : World) => lives_any W
  have HCK : Hid (∀ (z : Iv) (R : List Er) (x : Value) (W : World), HasE W x R → Calls Try.prog 13 #[.agg #[.int .i64 z.1, .int .i64 z.2], x] W fun e w' => e = .returned (.int .i64 (chk (okL z R))) ∧ Below W.heap.size W w') := fun z R x W h => check_any z R x W h
  have HAT : Hid (∀ (z : Iv) (R : List Er) (x : Value) (W : World), HasE W x R → Calls Try.prog 15 #[.agg #[.int .i64 z.1, .int .i64 z.2], x, .int .i64 t] W fun e w' => ∃ k i why, e = .returned (.tuple #[.agg #[.int .u8 k, .int .i64 i], .int .i64 why]) ∧ Below W.heap.size W w' ∧ ((⟨k, i⟩ : Vd), why) = atL z R t) := fun z R x W h => at_any z R t x W h
  have HCT : Hid (∀ (W : World), HasE W v l → Calls Try.prog 19 #[.agg #[.int .i64 wi.1, .int .i64 wi.2], v, .agg #[.int .i64 ti.1, .int .i64 ti.2]] W fun e w' => ∃ u R why, e = .returned (.tuple #[u, .int .i64 why]) ∧ HasE w' u R ∧ Below W.heap.size W w' ∧ (R, why) = cutE wi l ti) := fun W h => cut_any wi l ti v W h
  have HDF : Hid (∀ (W : World), HasE W v l → HasE W u m → Calls Try.prog 21 #[.agg #[.int .i64 wi.1, .int .i64 wi.2], v, u] W fun e w' => ∃ u R why, e = .returned (.tuple #[u, .int .i64 why]) ∧ HasI w' u R ∧ Below W.heap.size W w' ∧ (R, why) = difE wi l m) := fun W h g => dif_any wi l m v u W h g
  have HHS : Hid (∀ (R : List Iv) (x : Value) (W : World), HasI W x R → Calls Try.prog 26 #[x, .int .i64 t] W fun e w' => e = .returned (.tuple #[.bool (hasJ R t).1, .int .i64 (hasJ R t).2]) ∧ Below W.heap.size W w') := fun R x W h => hasI_any R t x W h b4
  obtain ⟨wa, wb⟩ := wi
  obtain ⟨ta, tb⟩ := ti
  show Calls Try.prog 7 #[.agg #[.int .i64 wa, .int .i64 wb], v, u, .agg #[.int .i64 ta, .int .i64 tb], .int .i64 t] w _
  simp only at HCT HDF
  obtain ⟨X, hX⟩ : ∃ X, X = (w.alloc (.cells #[.int .i64 wa, .int .i64 wb] 23)).alloc (.cells #[.int .i64 ta, .int .i64 tb] 23) := ⟨_, rfl⟩
  have hB : Below w.heap.size w X := by rw [hX]; exact below_new (below_new (Below.refl _ _) _) _
  have r0 : RowAt X w.heap.size [.int .i64 wa, .int .i64 wb] 23 := by rw [hX]; exact (RowAt.new _ _ _).alloc _
  have r2 : RowAt X (w.heap.size + 1) [.int .i64 ta, .int .i64 tb] 23 := by rw [hX, ← World.size_alloc w (.cells #[.int .i64 wa, .int .i64 wb] 23)]; exact RowAt.new _ _ _
  obtain ⟨g0, hg0⟩ : ∃ g, g = w.heap.size := ⟨_, rfl⟩
  obtain ⟨g2, hg2⟩ : ∃ g, g = w.heap.size + 1 := ⟨_, rfl⟩
  rw [← hg0] at r0
  rw [← hg2] at r2
  replace b1 := b1.keep hB
  replace b2 := b2.keep hB
  obtain ⟨o1, c1, rfl, _, _⟩ := HasRow.slice b1
  obtain ⟨o2, c2, rfl, _, _⟩ := HasRow.slice b2
  obtain ⟨n1, hn1⟩ : ∃ n, n = l.length := ⟨_, rfl⟩
  obtain ⟨n2, hn2⟩ : ∃ n, n = m.length := ⟨_, rfl⟩
  have HN : Hid (n1 = l.length ∧ n2 = m.length) := ⟨hn1, hn2⟩
  rw [← hn1] at b1 HCT HDF ⊢
  rw [← hn2] at b2 HDF ⊢
  have HR : Hid (∀ W, Below X.heap.size X W → HasE W (.slice o1 n1 c1) l ∧ HasE W (.slice o2 n2 c2) m ∧ RowAt W g0 [.int .i64 wa, .int .i64 wb] 23 ∧ RowAt W g2 [.int .i64 ta, .int .i64 tb] 23 ∧ Below w.heap.size w W) := fun W hq => ⟨b1.keep hq, b2.keep hq, r0.below hq, r2.below hq, below2 hB hq⟩
  clear b0 b1 b2 b3 b4 hB r0 r2 hn1 hn2
  go_enter Try.func7, Try.ntmps7
  go_upto_region 1 with fail
  rw [← hX, ← hg2, ← hg0]
  clear hX hg0 hg2
  go_wp2_with fail
  go_at_call 11; refine (c0 _).mono ?_; rintro e w1 ⟨rfl, hbw1⟩
  obtain ⟨hl, hm, r0, r2, _⟩ := HR.out _ hbw1
  obtain ⟨q0, q1, _⟩ := cells2 r0
  obtain ⟨p0, p1, _⟩ := cells2 r2
  have cc := HCK.out (wa, wb) l _ w1 hl
  clear c0
  go_wp2_with fail
  go_at_call 13; refine cc.mono ?_; rintro e w2 ⟨rfl, hb⟩
  have hbw2 := below2 hbw1 hb
  clear q0 q1 p0 p1 hl hm r0 r2 cc hb hbw1
  cases hK : okL (wa, wb) l
  · have hck : chk false = 2 := rfl
    rw [hck]
    have hBZ := (HR.out _ hbw2).2.2.2.2
    clear HR HCK HAT HCT HDF HHS hK
    go_wp2_with fail
    go_ret
    exact ⟨by first | rfl | simp, hBZ⟩
  have hck : chk true = 0 := rfl
  rw [hck]
  have HOK : Hid (okL (wa, wb) l = true) := hK
  clear hK hck
  obtain ⟨hl, hm, r0, r2, _⟩ := HR.out _ hbw2
  obtain ⟨q0, q1, _⟩ := cells2 r0
  obtain ⟨p0, p1, _⟩ := cells2 r2
  have cc := HAT.out (wa, wb) l _ w2 hl
  go_wp2_with fail
  go_at_call 15; refine cc.mono ?_; rintro e w3 ⟨k1, i1, y1, rfl, hb, hA1⟩
  have hbw3 := below2 hbw2 hb
  clear q0 q1 p0 p1 hl hm r0 r2 cc hb hbw2
  have HA1 : Hid (((⟨k1, i1⟩ : Vd), y1) = atL (wa, wb) l t) := hA1
  clear hA1
  have e0 := (HR.out _ hbw3).2.2.1
  have e2 := (HR.out _ hbw3).2.2.2.1
  obtain ⟨f0, f1, _⟩ := cells2 e0
  obtain ⟨f2, f3, _⟩ := cells2 e2
  have f4 := RowAt.lt e0
  have f5 := RowAt.lt e2
  obtain ⟨w4, hw4⟩ : ∃ W, W = w3.alloc (.cells #[.int .u8 k1, .int .i64 i1] 35) := ⟨_, rfl⟩
  have hbl : Below w3.heap.size w3 w4 := by rw [hw4]; exact below_new (Below.refl _ _) _
  have r3 : RowAt w4 w3.heap.size [.int .u8 k1, .int .i64 i1] 35 := by rw [hw4]; exact RowAt.new _ _ _
  obtain ⟨g3, hg3⟩ : ∃ g, g = w3.heap.size := ⟨_, rfl⟩
  rw [← hg3] at r3
  have hbw4 := below2 hbw3 hbl
  obtain ⟨hl, hm, r0, r2, _⟩ := HR.out _ hbw4
  obtain ⟨q0, q1, _⟩ := cells2 r0
  obtain ⟨p0, p1, _⟩ := cells2 r2
  have cc := HCT.out w4 hl
  go_wp2_with fail
  rw [← hw4, ← hg3]
  clear hw4 hg3 e0 e2 f0 f1 f2 f3 f4 f5 hbl hbw3
  go_at_call 19; refine cc.mono ?_; rintro e w5 ⟨u5, R5, y5, rfl, hE5, hb, hC5⟩
  have hbw5 := below2 hbw4 hb
  replace r3 := r3.below hb
  clear q0 q1 p0 p1 hl hm r0 r2 cc hb hbw4
  obtain ⟨o5, c5, rfl, _, _⟩ := HasRow.slice hE5
  have HC5 : Hid ((R5, y5) = cutE (wa, wb) l (ta, tb)) := hC5
  have HE5 : Hid (∀ W, Below w5.heap.size w5 W → HasE W (.slice o5 R5.length c5) R5) := fun W hq => hE5.keep hq
  clear hC5 hE5
  go_upto_if 44 with fail
  go_cut [11] (fun p wc => p = .pointer (some ⟨g3, 0, none⟩) ∧ Below w5.heap.size w5 wc)
  case first =>
    by_cases hy : y5 = 0
    · subst hy
      have htl := cut_tells HOK.out HC5.out
      have hin := cut_in HOK.out HC5.out
      simp only at hin
      have hok5 := htl.1
      have hat5 := htl.2 t
      clear htl HC5
      have r2' := (HR.out _ hbw5).2.2.2.1
      obtain ⟨p0, p1, _⟩ := cells2 r2'
      have cc := HAT.out (ta, tb) R5 _ w5 (HE5.out w5 (Below.refl _ _))
      rw [hat5] at cc
      go_wp2_with fail
      go_at_call 15; refine cc.mono ?_; rintro e w6 ⟨k2, i2, y2, rfl, hb6, hA2⟩
      have hbw6 := below2 hbw5 hb6
      clear cc p0 p1 r2' hat5
      have e0 := (HR.out _ hbw6).2.2.1
      have e2 := (HR.out _ hbw6).2.2.2.1
      obtain ⟨f0, f1, _⟩ := cells2 e0
      obtain ⟨f2, f3, _⟩ := cells2 e2
      have f4 := RowAt.lt e0
      have f5 := RowAt.lt e2
      obtain ⟨w7, hw7⟩ : ∃ W, W = w6.alloc (.cells #[.int .u8 k2, .int .i64 i2] 35) := ⟨_, rfl⟩
      have hbl : Below w6.heap.size w6 w7 := by rw [hw7]; exact below_new (Below.refl _ _) _
      have r5 : RowAt w7 w6.heap.size [.int .u8 k2, .int .i64 i2] 35 := by rw [hw7]; exact RowAt.new _ _ _
      obtain ⟨g5, hg5⟩ : ∃ g, g = w6.heap.size := ⟨_, rfl⟩
      rw [← hg5] at r5
      have r3' := r3.below (below2 hb6 hbl)
      have hbw7 := below2 hbw6 hbl
      have cc := HCK.out (ta, tb) R5 _ w7 (HE5.out w7 (below2 hb6 hbl))
      rw [hok5] at cc
      obtain ⟨_, _, _, r2, _⟩ := HR.out _ hbw7
      obtain ⟨p0, p1, _⟩ := cells2 r2
      go_wp2_with fail
      rw [← hw7, ← hg5]
      clear hw7 hg5 e0 e2 f0 f1 f2 f3 f4 f5
      go_at_call 13; refine cc.mono ?_; rintro e w8 ⟨rfl, hb8⟩
      have hck : chk true = 0 := rfl
      rw [hck]
      have hb58 := below2 (below2 hb6 hbl) hb8
      have hbw8 := below2 hbw7 hb8
      replace r3' := r3'.below hb8
      replace r5 := r5.below hb8
      clear p0 p1 r2 cc hck hbw6 hbw7 hb6 hbl hb8 hok5
      obtain ⟨_, _, _, r2, _⟩ := HR.out _ hbw8
      obtain ⟨p0, p1, _⟩ := cells2 r2
      obtain ⟨s0, s1, _⟩ := cells2 r3'
      obtain ⟨x0, x1, _⟩ := cells2 r5
      clear r2 r3' r5
      by_cases ht : ta ≤ t ∧ t ≤ tb
      · rw [if_pos ht] at hA2
        injection hA2 with e1 e2
        have hA1 := HA1.out
        rw [atL_in HOK.out (show wa ≤ t ∧ t ≤ wb by omega)] at hA1
        injection hA1 with e3 e4
        rw [← e3] at e1
        injection e1 with e5 e6
        subst e2 e4 e5 e6
        have hneq := fun W => neq_vd k2 i2 k2 i2 W true (eqV_iff.2 rfl)
        have hvg := vd_guard
        clear HA1 e3 ht
        go_wp2_with fail
        go_meet
        exact ⟨rfl, hb58⟩
      · rw [if_neg ht] at hA2
        injection hA2 with e1 e2
        subst e2
        by_cases h4 : ta ≤ t
        · have d1 : decide (ta ≤ t) = true := decide_eq_true h4
          have h5 : ¬ t ≤ tb := fun h => ht ⟨h4, h⟩
          have d2 : decide (t ≤ tb) = false := decide_eq_false h5
          clear ht e1 HA1
          go_wp2_with fail
          go_meet
          exact ⟨rfl, hb58⟩
        · have d1 : decide (ta ≤ t) = false := decide_eq_false h4
          clear ht e1 HA1
          go_wp2_with fail
          go_meet
          exact ⟨rfl, hb58⟩
    · have d1 : decide (y5 = 0) = false := decide_eq_false hy
      have d2 : (y5 == 0) = false := beq_eq_false_iff_ne.2 hy
      go_wp2_with fail
      go_meet
      exact ⟨rfl, Below.refl _ _⟩
  case rest =>
  obtain ⟨rfl, hb5⟩ := hcut
  have hbwc := below2 hbw5 hb5
  replace r3 := r3.below hb5
  clear hbw5 hb5 HC5 HE5 HCT
  obtain ⟨hl, hm, r0, r2, _⟩ := HR.out _ hbwc
  obtain ⟨q0, q1, _⟩ := cells2 r0
  obtain ⟨p0, p1, _⟩ := cells2 r2
  have cc := HAT.out (wa, wb) m _ wc hm
  go_wp2_with fail
  go_at_call 15; refine cc.mono ?_; rintro e w6 ⟨k2, i2, y2, rfl, hb, hA2⟩
  have hbw6 := below2 hbwc hb
  replace r3 := r3.below hb
  clear q0 q1 p0 p1 hl hm r0 r2 cc hb hbwc HAT
  have HA2 : Hid (((⟨k2, i2⟩ : Vd), y2) = atL (wa, wb) m t) := hA2
  clear hA2
  have e0 := (HR.out _ hbw6).2.2.1
  have e2 := (HR.out _ hbw6).2.2.2.1
  obtain ⟨f0, f1, _⟩ := cells2 e0
  obtain ⟨f2, f3, _⟩ := cells2 e2
  have f4 := RowAt.lt e0
  have f5 := RowAt.lt e2
  obtain ⟨w7, hw7⟩ : ∃ W, W = w6.alloc (.cells #[.int .u8 k2, .int .i64 i2] 35) := ⟨_, rfl⟩
  have hbl : Below w6.heap.size w6 w7 := by rw [hw7]; exact below_new (Below.refl _ _) _
  have r4 : RowAt w7 w6.heap.size [.int .u8 k2, .int .i64 i2] 35 := by rw [hw7]; exact RowAt.new _ _ _
  obtain ⟨g4, hg4⟩ : ∃ g, g = w6.heap.size := ⟨_, rfl⟩
  rw [← hg4] at r4
  have hbw7 := below2 hbw6 hbl
  replace r3 := r3.below hbl
  obtain ⟨hl, hm, r0, r2, _⟩ := HR.out _ hbw7
  obtain ⟨q0, q1, _⟩ := cells2 r0
  obtain ⟨p0, p1, _⟩ := cells2 r2
  have cc := HDF.out w7 hl hm
  go_wp2_with fail
  rw [← hw7, ← hg4]
  clear hw7 hg4 e0 e2 f0 f1 f2 f3 f4 f5 hbl hbw6
  go_at_call 21; refine cc.mono ?_; rintro e w8 ⟨u8, R8, y8, rfl, hI8, hb, hD8⟩
  have hbw8 := below2 hbw7 hb
  replace r3 := r3.below hb
  replace r4 := r4.below hb
  clear q0 q1 p0 p1 hl hm r0 r2 cc hb hbw7 HDF
  have cc := HHS.out R8 u8 w8 hI8
  have HD8 : Hid ((R8, y8) = difE (wa, wb) l m) := hD8
  obtain ⟨o8, c8, rfl, _, _⟩ := HasRow.slice hI8
  clear hD8 hI8 HHS
  have HJ : Hid (∀ a b, (hasJ R8 t).1 = a → (hasJ R8 t).2 = b → hasJ R8 t = (a, b)) := fun a b h1 h2 => by rw [← h1, ← h2]
  generalize hj1 : (hasJ R8 t).1 = j1 at *
  generalize hj2 : (hasJ R8 t).2 = j2 at *
  have HJ2 : Hid (hasJ R8 t = (j1, j2)) := HJ.out _ _ (by simp) (by simp)
  clear HJ hj1 hj2
  go_wp2_with fail
  go_at_call 26; refine cc.mono ?_; rintro e w9 ⟨rfl, hb⟩
  have hbw9 := below2 hbw8 hb
  replace r3 := r3.below hb
  replace r4 := r4.below hb
  clear cc hb hbw8
  obtain ⟨hl, hm, r0, r2, _⟩ := HR.out _ hbw9
  obtain ⟨q0, q1, _⟩ := cells2 r0
  obtain ⟨p0, p1, _⟩ := cells2 r2
  have cc := HCK.out (wa, wb) m _ w9 hm
  go_wp2_with fail
  go_at_call 13; refine cc.mono ?_; rintro e wz ⟨rfl, hb⟩
  have hbwz := below2 hbw9 hb
  replace r3 := r3.below hb
  replace r4 := r4.below hb
  clear q0 q1 p0 p1 hl hm r0 r2 cc hb hbw9 HCK
  have hBZ := (HR.out _ hbwz).2.2.2.2
  clear HR hbwz
  cases hM : okL (wa, wb) m
  · have hD := HD8.out
    unfold difE at hD
    rw [hM, Bool.and_false, if_neg Bool.false_ne_true] at hD
    injection hD with _ hD
    subst hD
    have hck : chk false = 2 := rfl
    rw [hck]
    clear HD8 HJ2 HA1 HA2 HOK hM r3 r4
    go_wp2_with fail
    go_ret
    exact ⟨by first | rfl | simp, hBZ⟩
  have hck : chk true = 0 := rfl
  rw [hck]
  have hD := HD8.out
  unfold difE at hD
  rw [HOK.out, hM, if_pos (show (true && true) = true from rfl)] at hD
  have hla := (okL_go HOK.out).2.1
  have hlb := (okL_go hM).2.1
  rw [← HN.out.1] at hla
  rw [← HN.out.2] at hlb
  have hs := IntKind.wrap_i64 ((n1 : Int) + (n2 : Int))
  have hsw : IntKind.i64.wrap ((n1 : Int) + (n2 : Int)) = (n1 : Int) + (n2 : Int) := by rw [IntKind.wrap_i64]; omega
  clear hs
  obtain ⟨hJ0, hI0⟩ := dif_has HOK.out hM
  by_cases hbig : (difL l m).length ≤ 1024
  · rw [if_pos hbig] at hD
    injection hD with e1 e2
    subst e1 e2
    have hj := HJ2.out
    unfold hasJ at hj
    rw [if_pos (hJ0 hbig), hI0 t] at hj
    injection hj with e3 e4
    subst e3 e4
    simp only
    obtain ⟨s0, s1, _⟩ := cells2 r3
    obtain ⟨x0, x1, _⟩ := cells2 r4
    have hA1 := HA1.out
    have hA2 := HA2.out
    by_cases ht : wa ≤ t ∧ t ≤ wb
    · rw [atL_in HOK.out ht] at hA1
      rw [atL_in hM ht] at hA2
      injection hA1 with e5 e6
      injection hA2 with e7 e8
      have hneq := fun W => neq_vd k2 i2 k1 i1 W (eqV (holdL l t) (holdL m t)) (by rw [e5, e7, eqV_comm])
      have hvg := vd_guard
      have hE : difD l m t = !eqV (holdL l t) (holdL m t) := rfl
      rw [hE, decide_eq_true ht.1, decide_eq_true ht.2]
      subst e6 e8
      generalize eqV (holdL l t) (holdL m t) = E at *
      clear HD8 HJ2 HA1 HA2 HOK hM r3 r4 hJ0 hI0 e5 e7 hck hE hbig
      cases E
      · simp only [Bool.not_false] at hneq ⊢
        go_wp2_with fail
        go_ret
        exact ⟨by first | rfl | simp, hBZ⟩
      · simp only [Bool.not_true] at hneq ⊢
        go_wp2_with fail
        go_ret
        exact ⟨by first | rfl | simp, hBZ⟩
    · rw [atL_out HOK.out ht] at hA1
      injection hA1 with e5 e6
      have hF : (decide (wa ≤ t) && (decide (t ≤ wb) && difD l m t)) = false := by
        by_cases h1 : wa ≤ t
        · have h2 : ¬ t ≤ wb := fun h => ht ⟨h1, h⟩
          rw [decide_eq_false h2, Bool.false_and, Bool.and_false]
        · rw [decide_eq_false h1, Bool.false_and]
      rw [hF]
      subst e6
      clear HD8 HJ2 HA1 HA2 HOK hM r3 r4 hJ0 hI0 hck hF e5 hbig
      go_wp2_with fail
      go_ret
      exact ⟨by first | rfl | simp, hBZ⟩
  · rw [if_neg hbig] at hD
    injection hD with e1 e2
    subst e2
    have hln := dif_len l m
    rw [← HN.out.1, ← HN.out.2] at hln
    have d1 : decide ((1024 : Int) < (n1 : Int) + (n2 : Int)) = true := decide_eq_true (by omega)
    have d2 : decide (1024 < n1 + n2) = true := decide_eq_true (by omega)
    have d3 : (1024 : Int) < (n1 : Int) + (n2 : Int) := by omega
    clear HD8 HJ2 HA1 HA2 HOK hM r3 r4 hJ0 hI0 hck
    go_wp2_with fail
    go_ret
    exact ⟨by first | rfl | simp, hBZ⟩
set_option maxRecDepth 100000 in
theorem lifted (os : Os) (started : os.Started) (H : Type) (enc : TypeId × Value → H) :
    ReturnsInHanded {} Try.checked os 7 .any (Rows.lineCutSpec.pre6 enc Try.prog Try.f7 Rows.lineCutRow.domain false) (Rows.lineCutSpec.post enc Try.prog Try.f7 false true false false) := by
  refine returnsInHanded_of_change_sized (C := Try.checked) own started (by kernel_rfl) Try.func7
    (ChangeSpec.witness6 (enc := enc) (C := Try.checked) false ⟨#[], #[.agg #[.int .i64 0, .int .i64 0], .slice none 0 0, .slice none 0 0, .agg #[.int .i64 0, .int .i64 0], .int .i64 0], []⟩ 8 (by kernel_rfl) (by kernel_rfl) (by kernel_rfl) (by kernel_rfl)) ?_
  intro W base args ds gs before hval0 hW _ hsz0 _
  have hsz : (DataW.weightsEach Try.prog (Try.f7.params.toList ++ Rows.lineCutSpec.plain.varTypes Try.prog) (ds ++ gs)).all (· ≤ reachBytes) = true := hsz0
  clear hsz0
  have hval : ∀ (j : Nat) t v, Try.f7.params[j]? = some t → args[j]? = some v → Value.okWide Try.prog W .any base t v := hval0
  have hW' := hW
  obtain ⟨p, q, hA0, hV, rfl, hfz, hnd⟩ := hW
  have hA : DataW.TrodAll enc Try.prog W 0 (fun _ => true) true Try.f7.params.toList args.toList ds p := hA0
  rw [Try.params7] at hA hval hsz
  obtain ⟨v0, vs0, d0, ds0, p0, q0, hargs, rfl, rfl, h0, r0⟩ := trodAll_cons hA
  obtain ⟨v1, vs1, d1, ds1, p1, q1, rfl, rfl, rfl, h1, r1⟩ := trodAll_cons r0
  obtain ⟨v2, vs2, d2, ds2, p2, q2, rfl, rfl, rfl, h2, r2⟩ := trodAll_cons r1
  obtain ⟨v3, vs3, d3, ds3, p3, q3, rfl, rfl, rfl, h3, r3⟩ := trodAll_cons r2
  obtain ⟨v4, vs4, d4, ds4, p4, q4, rfl, rfl, rfl, h4, r4⟩ := trodAll_cons r3
  obtain ⟨rfl, rfl, rfl⟩ := trodAll_nil r4
  obtain rfl : args = #[v0, v1, v2, v3, v4] := by cases args; simp_all
  obtain ⟨rfl, rfl⟩ := trodVars_none hV
  have k0 := h0
  have lt0 : ∀ x ∈ p0, x.block < W.heap.size := by obtain ⟨m, hm⟩ := k0; exact DataW.trod_lt m _ _ _ hm
  obtain ⟨n0, rfl, b0⟩ := Iv.open_ivl (hval 0 23 v0 rfl rfl) h0
  obtain ⟨a1, len1, cap1, rfl⟩ := okWide_slice Try.underlying25 (hval 1 25 v1 rfl rfl)
  have k1 := h1
  have lt1 : ∀ x ∈ p1, x.block < W.heap.size := by obtain ⟨m, hm⟩ := k1; exact DataW.trod_lt m _ _ _ hm
  obtain ⟨fuel1, hf1⟩ := h1
  obtain ⟨z1, b1⟩ := Ln.open_eras hf1
  obtain ⟨a2, len2, cap2, rfl⟩ := okWide_slice Try.underlying25 (hval 2 25 v2 rfl rfl)
  have k2 := h2
  have lt2 : ∀ x ∈ p2, x.block < W.heap.size := by obtain ⟨m, hm⟩ := k2; exact DataW.trod_lt m _ _ _ hm
  obtain ⟨fuel2, hf2⟩ := h2
  obtain ⟨z2, b2⟩ := Ln.open_eras hf2
  have k3 := h3
  have lt3 : ∀ x ∈ p3, x.block < W.heap.size := by obtain ⟨m, hm⟩ := k3; exact DataW.trod_lt m _ _ _ hm
  obtain ⟨n3, rfl, b3⟩ := Iv.open_ivl (hval 3 23 v3 rfl rfl) h3
  obtain ⟨a4, rfl, rfl, rfl, w4⟩ := open_int Try.underlying2 (hval 4 2 v4 rfl rfl) h4
  have b4 : -9223372036854775808 ≤ a4 ∧ a4 ≤ 9223372036854775807 := by simpa [Lit.wf, IntKind.min, IntKind.max, IntKind.signed, IntKind.bits] using w4
  clear hA0 hval0
  refine (walk n0 (.slice a1 len1 cap1) z1 (.slice a2 len2 cap2) z2 n3 a4 W b0 b1 b2 b3 b4).mono fun e W' ⟨he, bel⟩ => ?_
  subst he
  exact ⟨_, rfl, _, _, _, [], _, [], hW', trodAll_mk1 (shut_bool Try.underlying4 _), (trodAll_cons_mk (Below.trod laidOut (by kernel_rfl) (of_decide_eq_true (by kernel_rfl)) k0 bel lt0) (trodAll_cons_mk (Below.trod laidOut (by kernel_rfl) (of_decide_eq_true (by kernel_rfl)) k1 bel lt1) (trodAll_cons_mk (Below.trod laidOut (by kernel_rfl) (of_decide_eq_true (by kernel_rfl)) k2 bel lt2) (trodAll_cons_mk (Below.trod laidOut (by kernel_rfl) (of_decide_eq_true (by kernel_rfl)) k3 bel lt3) (trodAll_cons_mk (shut_int Try.underlying2 w4) trodAll_mk0))))), rfl, bel.frame _, fun h => by cases h⟩

theorem over : Rows.lineCutRow.holds Try.pinned (OpenSpec.ofChange Rows.lineCutSpec) :=
  OpenClaim.holds_of_wide 7 Try.f7 rfl rfl rfl rfl rfl rfl rfl ⟨rfl, rfl, rfl, rfl, rfl⟩ rfl rfl rfl rfl rfl (by kernel_rfl) Try.func7 (by kernel_rfl)
    (of_decide_eq_true (by kernel_rfl)) (by unfold Func.isWrapper; first | (rw [if_pos (by decide +kernel)]; kernel_rfl) | (rw [if_neg (by decide +kernel)]; exact ⟨rfl, rfl⟩))
    (fun os started H enc _ => lifted os started H enc)
end lineCut
theorem line_cut_holds : Rows.LineCutSaid := lineCut.over
#print axioms line_cut_holds
end Go.Proofs.Ytmkbijnndbgjgaa
