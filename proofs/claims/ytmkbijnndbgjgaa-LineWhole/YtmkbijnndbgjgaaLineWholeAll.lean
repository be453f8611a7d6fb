/- For any interval and eras: spoorlaw20.LineWhole returns true, and changes nothing that was there. No condition. -/
import Derived.Test.YtmkbijnndbgjgaaLnZ3
import Derived.Test.YtmkbijnndbgjgaaIvZ1
import Derived.Test.YtmkbijnndbgjgaaRows
import Derived.Test.YtmkbijnndbgjgaaLnZ1
import Derived.ProofKit
import Derived.OpenShut
import Derived.ShutString
import Derived.SizedLaws
set_option linter.unusedVariables false
namespace Go.Proofs.Ytmkbijnndbgjgaa.Ln
open Go.RowKit
open Go.Proofs.Ytmkbijnndbgjgaa.Iv (Iv okI okI_iff okJ toS ofS map_of_to)
open Go.Proofs.Ytmkbijnndbgjgaa.Sp (Sp Row inB inB_iff okB okB_iff row_ext)
def seenB (l : List Er) (i : Nat) (v : Vd) : Bool := (l.take i).any (fun y => eqV y.v v)
def lenE (x : Er) : Int := x.b - x.a + 1
def sumE (l : List Er) : Int := (l.map lenE).foldr (· + ·) 0
theorem sumE_nil : sumE [] = 0 := rfl
theorem sumE_cons (x : Er) (l : List Er) : sumE (x :: l) = lenE x + sumE l := rfl
def cntE (l : List Er) (i : Nat) : Int := sumE (l.filter (fun x => seenB l i x.v))
theorem seen_succ {l : List Er} {i : Nat} (h : i < l.length) (v : Vd) : seenB l (i + 1) v = (seenB l i v || eqV l[i].v v) := by
  unfold seenB
  rw [List.take_succ_eq_append_getElem h, List.any_append]
  simp
theorem seen_zero (l : List Er) (v : Vd) : seenB l 0 v = false := rfl
theorem seen_again {l : List Er} {i : Nat} (h : i < l.length) (hs : seenB l i l[i].v = true) (v : Vd) : seenB l (i + 1) v = seenB l i v := by
  rw [seen_succ h]
  cases he : eqV l[i].v v with
  | false => rw [Bool.or_false]
  | true => rw [← eqV_iff.1 he, hs]; rfl
theorem sum_split (p q : Er → Bool) (hd : ∀ x, p x = true → q x = false) : ∀ l : List Er, sumE (l.filter (fun x => p x || q x)) = sumE (l.filter p) + sumE (l.filter q) := by
  intro l
  induction l with
  | nil => rfl
  | cons x l ih =>
    cases hp : p x with
    | true =>
      have hq := hd x hp
      rw [List.filter_cons_of_pos (by rw [hp]; rfl), List.filter_cons_of_pos hp, List.filter_cons_of_neg (by rw [hq]; exact Bool.false_ne_true), sumE_cons, sumE_cons, ih]
      omega
    | false =>
      cases hq : q x with
      | true =>
        rw [List.filter_cons_of_pos (by rw [hq, Bool.or_true]), List.filter_cons_of_neg (by rw [hp]; exact Bool.false_ne_true), List.filter_cons_of_pos hq, sumE_cons, sumE_cons, ih]
        omega
      | false =>
        rw [List.filter_cons_of_neg (by rw [hp, hq]; exact Bool.false_ne_true), List.filter_cons_of_neg (by rw [hp]; exact Bool.false_ne_true), List.filter_cons_of_neg (by rw [hq]; exact Bool.false_ne_true), ih]
theorem cnt_again {l : List Er} {i : Nat} (h : i < l.length) (hs : seenB l i l[i].v = true) : cntE l (i + 1) = cntE l i := by
  unfold cntE
  rw [show (fun x : Er => seenB l (i + 1) x.v) = (fun x : Er => seenB l i x.v) from funext fun x => seen_again h hs x.v]
theorem cnt_new {l : List Er} {i : Nat} (h : i < l.length) (hs : seenB l i l[i].v = false) : cntE l (i + 1) = cntE l i + sumE (l.filter (fun x => eqV x.v l[i].v)) := by
  unfold cntE
  rw [show (fun x : Er => seenB l (i + 1) x.v) = (fun x : Er => seenB l i x.v || eqV x.v l[i].v) from funext fun x => by
    rw [seen_succ h]
    congr 1
    exact Bool.eq_iff_iff.2 ⟨fun h => eqV_iff.2 (eqV_iff.1 h).symm, fun h => eqV_iff.2 (eqV_iff.1 h).symm⟩]
  refine sum_split _ _ (fun x hx => ?_) l
  cases he : eqV x.v l[i].v with
  | false => rfl
  | true => rw [eqV_iff.1 he, hs] at hx; cases hx
theorem cnt_zero (l : List Er) : cntE l 0 = 0 := by
  unfold cntE
  rw [show l.filter (fun x => seenB l 0 x.v) = [] from List.filter_eq_nil_iff.2 (fun x _ => by rw [seen_zero]; exact Bool.false_ne_true)]
  rfl
theorem cnt_all (l : List Er) : cntE l l.length = sumE l := by
  unfold cntE
  rw [List.filter_eq_self.2]
  intro x hx
  unfold seenB
  rw [List.take_length]
  exact List.any_eq_true.2 ⟨x, hx, eqV_iff.2 rfl⟩
theorem goE_sum {b : Int} : ∀ (l : List Er) (p : Option Vd) (n m : Int), goE b p n l = some m → sumE l = m - n := by
  intro l
  induction l with
  | nil => intro p n m h; simp only [goE, Option.some.injEq] at h; rw [sumE_nil]; omega
  | cons x l ih =>
    intro p n m h
    simp only [goE] at h
    split at h
    · rename_i hs
      simp only [stepB, Bool.and_eq_true, decide_eq_true_eq] at hs
      have := ih _ _ _ h
      rw [sumE_cons, this]
      unfold lenE
      omega
    · cases h
/-- between two rounds: the row of the times of the verdicts that were met -/
def WI (w : Iv) (l : List Er) (i : Nat) (R : List Iv) : Prop := R.all okI = true ∧ Row true (R.map toS) ∧ R.length ≤ (l.filter (fun x => seenB l i x.v)).length ∧ ∀ x : Nat, inB (R.map toS) x = (decide (w.1 ≤ (x : Int)) && (decide ((x : Int) ≤ w.2) && seenB l i (holdL l x)))
theorem wi_start (w : Iv) (l : List Er) : WI w l 0 [] := by
  refine ⟨rfl, ⟨fun s hs => by simp at hs, List.Pairwise.nil⟩, by simp, fun x => ?_⟩
  rw [seen_zero, Bool.and_false, Bool.and_false]
  rfl
theorem wi_again {w : Iv} {l : List Er} {i : Nat} {R : List Iv} (h : i < l.length) (hs : seenB l i l[i].v = true) (hW : WI w l i R) : WI w l (i + 1) R := by
  obtain ⟨a1, a2, a3, a4⟩ := hW
  refine ⟨a1, a2, ?_, fun x => ?_⟩
  · rw [show (fun x : Er => seenB l (i + 1) x.v) = (fun x : Er => seenB l i x.v) from funext fun x => seen_again h hs x.v]; exact a3
  · rw [a4, seen_again h hs]
theorem when_has {w : Iv} {l : List Er} {v : Vd} (h : okL w l = true) (x : Nat) : inB ((whenL l v).map toS) x = (decide (w.1 ≤ (x : Int)) && (decide ((x : Int) ≤ w.2) && eqV v (holdL l x))) := by
  have hg := (okL_go h).2.2.2
  have h0 := okI_iff.1 (okL_go h).1
  apply Bool.eq_iff_iff.2
  rw [inB_iff]
  simp only [Bool.and_eq_true, decide_eq_true_eq]
  constructor
  · rintro ⟨s, hs, c1, c2⟩
    obtain ⟨y, hy, rfl⟩ := List.mem_map.1 hs
    unfold whenL at hy
    obtain ⟨e, he, rfl⟩ := List.mem_map.1 hy
    have hm := (List.mem_filter.1 he).1
    have hv := eqV_iff.1 (List.mem_filter.1 he).2
    have hb := goE_bounds l _ _ _ hg e hm
    have c1' : e.a.toNat ≤ x := c1
    have c2' : x ≤ e.b.toNat := c2
    refine ⟨by omega, by omega, ?_⟩
    rw [goE_hold l _ _ _ (x : Int) hg e hm (by omega) (by omega)]
    exact eqV_iff.2 hv.symm
  · rintro ⟨c1, c2, c3⟩
    obtain ⟨e, he, hi⟩ := (goE_cover l none w.1 (w.2 + 1) (x : Int) hg).2.2 ⟨c1, by omega⟩
    have hi2 := inT_iff.1 hi
    have hb := goE_bounds l _ _ _ hg e he
    have hh := goE_hold l _ _ _ (x : Int) hg e he hi2.1 hi2.2
    have hv := eqV_iff.1 c3
    refine ⟨toS (ivE e), List.mem_map.2 ⟨ivE e, ?_, rfl⟩, ?_, ?_⟩
    · unfold whenL
      exact List.mem_map.2 ⟨e, List.mem_filter.2 ⟨he, eqV_iff.2 (by rw [hv, hh])⟩, rfl⟩
    · show e.a.toNat ≤ x; omega
    · show x ≤ e.b.toNat; omega
theorem wi_end {w : Iv} {l : List Er} {R : List Iv} (h : okL w l = true) (hW : WI w l l.length R) : R = [w] := by
  obtain ⟨a1, a2, a3, a4⟩ := hW
  have hg := (okL_go h).2.2.2
  have hw := (okL_go h).1
  have h0 := okI_iff.1 hw
  have e : R.map toS = [w].map toS := by
    refine row_ext a2 ⟨fun s hs => ?_, List.pairwise_singleton _ _⟩ (fun x => ?_)
    · rw [List.mem_singleton.1 (show s ∈ [toS w] from hs)]; exact Iv.okS_to hw
    · rw [a4]
      apply Bool.eq_iff_iff.2
      rw [inB_iff]
      simp only [Bool.and_eq_true, decide_eq_true_eq]
      constructor
      · rintro ⟨c1, c2, _⟩
        exact ⟨toS w, by simp, by show w.1.toNat ≤ x; omega, by show x ≤ w.2.toNat; omega⟩
      · rintro ⟨s, hs, c1, c2⟩
        rw [List.mem_singleton.1 (show s ∈ [toS w] from hs)] at c1 c2
        have c1' : w.1.toNat ≤ x := c1
        have c2' : x ≤ w.2.toNat := c2
        refine ⟨by omega, by omega, ?_⟩
        obtain ⟨e, he, hi⟩ := (goE_cover l none w.1 (w.2 + 1) (x : Int) hg).2.2 ⟨by omega, by omega⟩
        have hi2 := inT_iff.1 hi
        rw [goE_hold l _ _ _ (x : Int) hg e he hi2.1 hi2.2]
        unfold seenB
        rw [List.take_length]
        exact List.any_eq_true.2 ⟨e, he, eqV_iff.2 rfl⟩
  rw [← map_of_to a1, e, map_of_to (show [w].all okI = true by simp [hw])]
theorem long_from (l : List Iv) : ∀ a : Int, l.foldl (fun s x => s + (x.2 - x.1 + 1)) a = a + (l.map (fun x => x.2 - x.1 + 1)).foldr (· + ·) 0 := by
  induction l with
  | nil => intro a; simp
  | cons x l ih =>
    intro a
    rw [List.foldl_cons, ih, List.map_cons, List.foldr_cons]
    omega
theorem long_when (l : List Er) (v : Vd) : Iv.longI (whenL l v) = sumE (l.filter (fun x => eqV x.v v)) := by
  unfold Iv.longI whenL sumE
  rw [long_from, List.map_map, Int.zero_add]
  rfl
theorem len_split (p q : Er → Bool) (hd : ∀ x, p x = true → q x = false) : ∀ l : List Er, (l.filter (fun x => p x || q x)).length = (l.filter p).length + (l.filter q).length := by
  intro l
  induction l with
  | nil => rfl
  | cons x l ih =>
    cases hp : p x with
    | true =>
      have hq := hd x hp
      rw [List.filter_cons_of_pos (by rw [hp]; rfl), List.filter_cons_of_pos hp, List.filter_cons_of_neg (by rw [hq]; exact Bool.false_ne_true), List.length_cons, List.length_cons, ih]
      omega
    | false =>
      cases hq : q x with
      | true =>
        rw [List.filter_cons_of_pos (by rw [hq, Bool.or_true]), List.filter_cons_of_neg (by rw [hp]; exact Bool.false_ne_true), List.filter_cons_of_pos hq, List.length_cons, List.length_cons, ih]
        omega
      | false =>
        rw [List.filter_cons_of_neg (by rw [hp, hq]; exact Bool.false_ne_true), List.filter_cons_of_neg (by rw [hp]; exact Bool.false_ne_true), List.filter_cons_of_neg (by rw [hq]; exact Bool.false_ne_true), ih]
theorem wi_okJ {w : Iv} {l : List Er} {i : Nat} {R : List Iv} (hl : l.length ≤ 200) (hW : WI w l i R) : okJ R = true ∧ R.length ≤ 200 := by
  obtain ⟨a1, a2, a3, a4⟩ := hW
  have := List.length_filter_le (fun x : Er => seenB l i x.v) l
  unfold okJ
  rw [Bool.and_eq_true]
  exact ⟨⟨a1, okB_iff.2 ⟨by rw [List.length_map]; omega, a2⟩⟩, by omega⟩
theorem when_okJ {w : Iv} {l : List Er} {v : Vd} (h : okL w l = true) (hl : l.length ≤ 200) : okJ (whenL l v) = true ∧ (whenL l v).length ≤ 200 := by
  have := whenL_len l v
  unfold okJ
  rw [Bool.and_eq_true]
  exact ⟨⟨when_okI h, okB_iff.2 ⟨by rw [List.length_map]; omega, when_row h⟩⟩, by omega⟩
theorem wi_new {w : Iv} {l : List Er} {i : Nat} {R : List Iv} {R' : List Sp} {why : Int} (h : okL w l = true) (hl : l.length ≤ 200) (hi : i < l.length) (hs : seenB l i l[i].v = false) (hW : WI w l i R) (hS : Iv.SetI true (fun x => inB (R.map toS) x || inB ((whenL l l[i].v).map toS) x) (R.length + (whenL l l[i].v).length) R' why) : why = 0 ∧ WI w l (i + 1) (R'.map ofS) := by
  have h1 := (wi_okJ hl hW).2
  have h2 := (when_okJ (v := l[i].v) h hl).2
  rcases hS.2 rfl with ⟨e1, e2, e3, e4, e5, e6⟩ | ⟨_, _, L, _, _, e5, e6⟩
  · refine ⟨e1, ?_, ?_, ?_, fun x => ?_⟩
    · refine List.all_eq_true.2 fun y hy => ?_
      obtain ⟨s, hs', rfl⟩ := List.mem_map.1 hy
      have := e3 s hs'
      have hM : Iv.MaxT = 1099511627776 := rfl
      exact okI_iff.2 ⟨by show (0 : Int) ≤ (s.1 : Int); omega, by show (s.1 : Int) ≤ (s.2 : Int); omega, by show (s.2 : Int) ≤ _; omega⟩
    · rw [List.map_map, show (toS ∘ ofS) = id from funext fun s => Iv.to_of s, List.map_id]; exact e2
    · rw [List.length_map]
      have e7 : (l.filter (fun x => seenB l (i + 1) x.v)).length = (l.filter (fun x => seenB l i x.v)).length + (l.filter (fun x => eqV x.v l[i].v)).length := by
        rw [show (fun x : Er => seenB l (i + 1) x.v) = (fun x : Er => seenB l i x.v || eqV x.v l[i].v) from funext fun x => by
          rw [seen_succ hi]
          congr 1
          exact Bool.eq_iff_iff.2 ⟨fun h => eqV_iff.2 (eqV_iff.1 h).symm, fun h => eqV_iff.2 (eqV_iff.1 h).symm⟩]
        refine len_split _ _ (fun x hx => ?_) l
        cases he : eqV x.v l[i].v with
        | false => rfl
        | true => rw [eqV_iff.1 he, hs] at hx; cases hx
      have e8 : (whenL l l[i].v).length = (l.filter (fun x => eqV x.v l[i].v)).length := by unfold whenL; rw [List.length_map]
      have := hW.2.2.1
      omega
    · rw [List.map_map, show (toS ∘ ofS) = id from funext fun s => Iv.to_of s, List.map_id, e4]
      show (inB (R.map toS) x || inB ((whenL l l[i].v).map toS) x) = _
      rw [hW.2.2.2 x, when_has h x, seen_succ hi]
      cases decide (w.1 ≤ (x : Int)) <;> cases decide ((x : Int) ≤ w.2) <;> simp
  · omega
theorem goE_apart {b : Int} : ∀ (l : List Er) (p : Option Vd) (n m : Int), goE b p n l = some m → ∀ i (h : i + 1 < l.length), eqV l[i].v l[i + 1].v = false := by
  intro l
  induction l with
  | nil => intro p n m h i hi; simp at hi
  | cons x l ih =>
    intro p n m h i hi
    simp only [goE] at h
    split at h
    · cases i with
      | zero =>
        match l, hi, h with
        | y :: l, _, h =>
          simp only [goE] at h
          split at h
          · rename_i hs
            simp only [stepB, notP, Bool.and_eq_true, Bool.not_eq_true'] at hs
            have h9 := hs.2.2.2
            simp only [List.getElem_cons_zero, List.getElem_cons_succ]
            cases he : eqV x.v y.v with
            | false => rfl
            | true =>
              have e := eqV_iff.1 he
              rw [e] at h9
              first | exact h9.symm.trans (eqV_iff.2 rfl ▸ rfl) | (have : eqV y.v y.v = true := eqV_iff.2 rfl; rw [this] at h9; cases h9)
          · cases h
      | succ i =>
        simp only [List.getElem_cons_succ]
        exact ih _ _ _ h i (by simpa using hi)
    · cases h
theorem cnt_bd {w : Iv} {l : List Er} (h : okL w l = true) (i : Nat) : 0 ≤ cntE l i ∧ cntE l i ≤ 1099511627777 := by
  have hg := (okL_go h).2.2.2
  have h0 := okI_iff.1 (okL_go h).1
  have hb := goE_bounds l _ _ _ hg
  have hs := goE_sum l _ _ _ hg
  have : ∀ (p : Er → Bool) (l' : List Er), (∀ x ∈ l', x.a ≤ x.b) → 0 ≤ sumE (l'.filter p) ∧ sumE (l'.filter p) ≤ sumE l' := by
    intro p l'
    induction l' with
    | nil => intro _; exact ⟨Int.le_refl _, Int.le_refl _⟩
    | cons x l' ih =>
      intro hx
      have h1 := ih (fun y hy => hx y (List.mem_cons_of_mem _ hy))
      have h2 := hx x List.mem_cons_self
      rw [sumE_cons]
      cases hp : p x with
      | true => rw [List.filter_cons_of_pos hp, sumE_cons]; unfold lenE; omega
      | false => rw [List.filter_cons_of_neg (by rw [hp]; exact Bool.false_ne_true)]; unfold lenE; omega
  have h3 := this (fun x => seenB l i x.v) l (fun x hx => (hb x hx).2.1)
  unfold cntE
  omega
theorem when_pos {l : List Er} {i : Nat} (h : i < l.length) : 0 < (whenL l l[i].v).length := by
  unfold whenL
  rw [List.length_map]
  exact List.length_pos_of_mem (List.mem_filter.2 ⟨List.getElem_mem h, eqV_iff.2 rfl⟩)
end Go.Proofs.Ytmkbijnndbgjgaa.Ln
namespace Go.Proofs.Ytmkbijnndbgjgaa
namespace lineWhole
open Go.ChangeShapes Go.WideShapes Go.ChangeAt Go.RowKit
open Go.ChangeMaps (open_string shut_string)
open Go.Proofs.Ytmkbijnndbgjgaa.Ln
open Go.Proofs.Ytmkbijnndbgjgaa.Iv (Iv FitI FitT ivV HasI okI okI_iff longJ longI longI_any orI_any PostI SetI okJ toS ofS)
open Go.Proofs.Ytmkbijnndbgjgaa.Lk (HasRow)
open Go.Proofs.Ytmkbijnndbgjgaa.Sp (chk)
open Go.Proofs.Ytmkbijnndbgjgaa.Addr (Bl bl_ne wp_region_bl bl_call RowAt below2 below_drew below_new bset RowAt.lt RowAt.cell RowAt.frozen RowAt.below RowAt.drew RowAt.new RowAt.alloc cells2 cells4)
theorem own : ownKnob Try.prog.godebug = none := by kernel_rfl
theorem laidOut : laidOutB Try.prog = true := by kernel_rfl
set_option maxHeartbeats 16000000 in
set_option maxRecDepth 20000 in
theorem walk (wi : Iv) (v : Value) (l : List Er) (w : World) (b0 : FitI wi) (b1 : HasE w v l) :
    Calls Try.prog 6 #[ivV wi, v] w fun e w' => e = .returned (.bool true) ∧ Below w.heap.size w w' := by
  have c0 := fun (W : World) => lives_any W
  have ck := fun (W : World) (h : HasE W v l) => check_any wi l v W h
  have HWH : Hid (∀ (vd : Vd) (W : World), HasE W v l → Calls Try.prog 17 #[.agg #[.int .i64 wi.1, .int .i64 wi.2], v, .agg #[.int .u8 vd.kind, .int .i64 vd.at']] W fun e w' => ∃ u R why, e = .returned (.tuple #[u, .int .i64 why]) ∧ HasI w' u R ∧ Below W.heap.size W w' ∧ (R, why) = whenE wi l vd) := fun vd W h => when_any wi l vd v W h
  have HK0 : Hid (okL wi l = true → ∀ i (h : i + 1 < l.length), eqV l[i].v l[i + 1].v = false) := fun h => goE_apart l none wi.1 _ (okL_go h).2.2.2
  have HK1 : Hid (okL wi l = true → sumE l = wi.2 - wi.1 + 1 ∧ 0 ≤ wi.1 ∧ wi.1 ≤ wi.2 ∧ wi.2 ≤ 1099511627776 ∧ l.length ≤ 1024) := fun h => by
    have h0 := okI_iff.1 (okL_go h).1
    have := goE_sum l none wi.1 _ (okL_go h).2.2.2
    exact ⟨by omega, h0.1, h0.2.1, h0.2.2, (okL_go h).2.1⟩
  have HWN : Hid (okL wi l = true → ∀ vd, whenE wi l vd = (whenL l vd, 0)) := fun h vd => by unfold whenE; rw [if_pos h]
  have HNEW : Hid (okL wi l = true → l.length ≤ 200 → ∀ i (hi : i < l.length), seenB l i l[i].v = false → ∀ R R' why, WI wi l i R → SetI true (fun x => Sp.inB (R.map toS) x || Sp.inB ((whenL l l[i].v).map toS) x) (R.length + (whenL l l[i].v).length) R' why → why = 0 ∧ WI wi l (i + 1) (R'.map ofS)) := fun h hl i hi hs R R' why hW hS => wi_new h hl hi hs hW hS
  have HJW : Hid (okL wi l = true → l.length ≤ 200 → ∀ vd, okJ (whenL l vd) = true) := fun h hl vd => (when_okJ h hl).1
  have HBD : Hid (okL wi l = true → ∀ i, 0 ≤ cntE l i ∧ cntE l i ≤ 1099511627777) := fun h i => cnt_bd h i
  have HEND : Hid (okL wi l = true → ∀ R, WI wi l l.length R → R = [wi]) := fun h R hW => wi_end h hW
  obtain ⟨wa, wb⟩ := wi
  show Calls Try.prog 6 #[.agg #[.int .i64 wa, .int .i64 wb], v] w _
  simp only at ck HWH HK1
  obtain ⟨X, hX⟩ : ∃ X, X = w.alloc (.cells #[.int .i64 wa, .int .i64 wb] 23) := ⟨_, rfl⟩
  have hB : Below w.heap.size w X := by rw [hX]; exact below_new (Below.refl _ _) _
  have r0 : RowAt X w.heap.size [.int .i64 wa, .int .i64 wb] 23 := by rw [hX]; exact RowAt.new _ _ _
  obtain ⟨g0, hg0⟩ : ∃ g, g = w.heap.size := ⟨_, rfl⟩
  rw [← hg0] at r0
  replace b1 := b1.keep hB
  obtain ⟨o1, c1, rfl, hc1, hc2⟩ := HasRow.slice b1
  obtain ⟨n, hn⟩ : ∃ n, n = l.length := ⟨_, rfl⟩
  have HN : Hid (n = l.length) := hn
  rw [← hn] at b1 ck HWH hc1 ⊢
  have HR : Hid (∀ W, Below X.heap.size X W → HasE W (.slice o1 n c1) l ∧ RowAt W g0 [.int .i64 wa, .int .i64 wb] 23 ∧ Below w.heap.size w W) := fun W hq => ⟨b1.keep hq, r0.below hq, below2 hB hq⟩
  clear b0 b1 hB r0 hn
  go_enter Try.func6, Try.ntmps6
  go_upto_region 1 with fail
  rw [← hX, ← hg0]
  clear hX hg0
  go_wp2_with fail
  go_at_call 11; refine (c0 _).mono ?_; rintro e w1 ⟨rfl, hb1⟩
  obtain ⟨b1, r0, _⟩ := HR.out _ hb1
  obtain ⟨q0, q1, _⟩ := cells2 r0
  have cc := ck w1 b1
  clear c0 ck b1 r0
  go_wp2_with fail
  go_at_call 13; refine cc.mono ?_; rintro e w2 ⟨rfl, hb⟩
  have hb2 := below2 hb1 hb
  clear cc q0 q1 hb hb1
  have hBZ := (HR.out _ hb2).2.2
  cases hK : okL (wa, wb) l
  · have hck : chk false = 2 := rfl
    rw [hck]
    clear HR HWH HK0 HK1 HWN HNEW HJW HBD HEND hK
    go_wp2_with fail
    go_ret
    exact ⟨by first | rfl | simp, hBZ⟩
  have hck : chk true = 0 := rfl
  rw [hck]
  by_cases hbig : 200 < n
  · have d1 : decide ((200 : Int) < (n : Int)) = true := decide_eq_true (by omega)
    clear HR HWH HK0 HK1 HWN HNEW HJW HBD HEND hK hck
    go_wp2_with fail
    go_ret
    exact ⟨by first | rfl | simp, hBZ⟩
  have d1 : decide ((200 : Int) < (n : Int)) = false := decide_eq_false (by omega)
  have hl2 : l.length ≤ 200 := by rw [← HN.out]; omega
  have HK0' : Hid (∀ i (h : i + 1 < l.length), eqV l[i].v l[i + 1].v = false) := HK0.out hK
  obtain ⟨hsum, hw1, hw2, hw3, _⟩ := HK1.out hK
  have HSUM : Hid (sumE l = wb - wa + 1) := hsum
  have HWN' : Hid (∀ vd, whenE (wa, wb) l vd = (whenL l vd, 0)) := HWN.out hK
  have HNEW' : Hid (∀ i (hi : i < l.length), seenB l i l[i].v = false → ∀ R R' why, WI (wa, wb) l i R → SetI true (fun x => Sp.inB (R.map toS) x || Sp.inB ((whenL l l[i].v).map toS) x) (R.length + (whenL l l[i].v).length) R' why → why = 0 ∧ WI (wa, wb) l (i + 1) (R'.map ofS)) := HNEW.out hK hl2
  have HJW' : Hid (∀ vd, okJ (whenL l vd) = true) := HJW.out hK hl2
  have HBD' : Hid (∀ i, 0 ≤ cntE l i ∧ cntE l i ≤ 1099511627777) := HBD.out hK
  have HEND' : Hid (∀ R, WI (wa, wb) l l.length R → R = [(wa, wb)]) := HEND.out hK
  have HL2 : Hid (l.length ≤ 200) := hl2
  have H0 : Hid (HasI w2 (.slice none 0 0) [] ∧ WI (wa, wb) l 0 []) := ⟨Lk.hasRow_nil _ 2, wi_start _ _⟩
  have hc0 : cntE l 0 = 0 := cnt_zero l
  clear HK0 HK1 HWN HNEW HJW HBD HEND hK hck hsum hl2 hBZ
  have hni : (n : Int) ≤ 200 := by omega
  go_wp2_with fail
  clear d1
  go_loopw [5, 6, 31] (fun u sm q wr => ∃ (k : Nat) (R : List Iv), k ≤ n ∧ q = .int .i64 k ∧ sm = .int .i64 (cntE l k) ∧ Below X.heap.size X wr ∧ Hid (HasI wr u R ∧ WI (wa, wb) l k R)) (fun _ _ q _ => n - (Go.RowKit.intOf q).toNat)
  case atStart => exact ⟨0, [], by omega, rfl, by rw [hc0], hb2, H0⟩
  case round =>
    clear H0 hc0 hb2
    obtain ⟨k, R, hk, rfl, rfl, hBr, HI⟩ := hrel
    obtain ⟨hH, hWI⟩ := HI.out
    obtain ⟨hh, r0, hBW⟩ := HR.out _ hBr
    by_cases hlt : k < n
    · have hkz : k < l.length := by rw [← HN.out]; exact hlt
      obtain ⟨g1, i1, rfl, hg1, a0, a1, a2, a3⟩ := HasE.cell hh k hkz
      have hki : (k : Int) < (n : Int) := by omega
      have HWI : Hid (WI (wa, wb) l k R) := hWI
      obtain ⟨s, hs⟩ : ∃ s : Er, s = l[k] := ⟨_, rfl⟩
      have HS : Hid (s = l[k]) := hs
      rw [← hs] at a0 a1 a2 a3
      clear hs HI hg1 hh hWI r0 hBW
      go_upto_region 10 with fail
      obtain ⟨Y, hY⟩ : ∃ X, X = wr.alloc (.cells #[.int .i64 s.a, .int .i64 s.b, .int .u8 s.v.kind, .int .i64 s.v.at'] 49) := ⟨_, rfl⟩
      have hbY : Below wr.heap.size wr Y := by rw [hY]; exact below_new (Below.refl _ _) _
      have rx : RowAt Y wr.heap.size [.int .i64 s.a, .int .i64 s.b, .int .u8 s.v.kind, .int .i64 s.v.at'] 49 := by rw [hY]; exact RowAt.new _ _ _
      rw [← hY]
      replace hBr := below2 hBr hbY
      have hHY := hH.keep hbY
      obtain ⟨gs, hgs⟩ : ∃ g, g = wr.heap.size := ⟨_, rfl⟩
      rw [← hgs] at rx ⊢
      clear hY hbY a0 a1 a2 a3 hgs hH
      have HRY : Hid (∀ W, Below Y.heap.size Y W → HasI W u5 R ∧ RowAt W gs [.int .i64 s.a, .int .i64 s.b, .int .u8 s.v.kind, .int .i64 s.v.at'] 49 ∧ HasE W (.slice (some ⟨g1, i1, none⟩) n c1) l ∧ RowAt W g0 [.int .i64 wa, .int .i64 wb] 23 ∧ Below w.heap.size w W) := fun W hq => ⟨hHY.keep hq, rx.below hq, HR.out W (below2 hBr hq)⟩
      clear rx hHY
      have hkc : (k : Int) ≤ (c1 : Int) := by omega
      have HA0 : Hid ((l.take 0).any (fun y => eqV y.v s.v) = false) := rfl
      go_wp2_with fail
      go_loopw [9, 40] (fun b q wr2 => ∃ j : Nat, j ≤ k ∧ q = .int .i64 j ∧ b = .bool ((l.take j).any (fun y => eqV y.v s.v)) ∧ Below Y.heap.size Y wr2) (fun _ q _ => k - (Go.RowKit.intOf q).toNat)
      case atStart => exact ⟨0, by omega, rfl, rfl, Below.refl _ _⟩
      case round =>
        obtain ⟨j, hj, rfl, rfl, hB2⟩ := hrel
        by_cases hjk : j < k
        · have hjz : j < l.length := by omega
          obtain ⟨_, rx, hh2, _⟩ := HRY.out _ hB2
          obtain ⟨g2, i2, e12, hg2, b0, b1, b2, b3⟩ := HasE.cell hh2 j hjz
          injection e12 with e12
          injection e12 with e1 e2
          subst e1 e2
          have hji : (j : Int) < (k : Int) := by omega
          have HNX : Hid ((l.take (j + 1)).any (fun y => eqV y.v s.v) = ((l.take j).any (fun y => eqV y.v s.v) || eqV l[j].v s.v)) := by
            show _ = _
            rw [List.take_succ_eq_append_getElem hjz, List.any_append]
            simp
          obtain ⟨z, hz⟩ : ∃ z : Er, z = l[j] := ⟨_, rfl⟩
          rw [← hz] at b0 b1 b2 b3 HNX
          have heq := fun W => vd_eql z.v s.v W
          have hvg := vd_guard
          generalize (l.take j).any (fun y => eqV y.v s.v) = A at *
          clear hz hg2 hh2
          go_upto_region 14 with fail
          obtain ⟨Y2, hY2⟩ : ∃ X, X = wr.alloc (.cells #[.int .i64 z.a, .int .i64 z.b, .int .u8 z.v.kind, .int .i64 z.v.at'] 49) := ⟨_, rfl⟩
          have hbY2 : Below wr.heap.size wr Y2 := by rw [hY2]; exact below_new (Below.refl _ _) _
          have ry : RowAt Y2 wr.heap.size [.int .i64 z.a, .int .i64 z.b, .int .u8 z.v.kind, .int .i64 z.v.at'] 49 := by rw [hY2]; exact RowAt.new _ _ _
          rw [← hY2]
          replace hB2 := below2 hB2 hbY2
          replace rx := rx.below hbY2
          obtain ⟨gz, hgz⟩ : ∃ g, g = wr.heap.size := ⟨_, rfl⟩
          rw [← hgz] at ry ⊢
          clear hY2 hbY2 b0 b1 b2 b3 hgz
          obtain ⟨x0, x1, x2, x3, _⟩ := cells4 rx
          obtain ⟨y0, y1, y2, y3, _⟩ := cells4 ry
          clear rx ry
          generalize eqV z.v s.v = E at *
          cases A
          · cases E
            · have HV : Hid ((l.take (j + 1)).any (fun y => eqV y.v s.v) = false) := HNX.out
              clear HNX
              go_wp2_with fail
              go_roundw
              case rel => exact ⟨j + 1, by omega, by go_num, by rw [HV.out], hB2⟩
              case measure => simp [Go.RowKit.intOf]; omega
            · have HV : Hid ((l.take (j + 1)).any (fun y => eqV y.v s.v) = true) := HNX.out
              clear HNX
              go_wp2_with fail
              go_roundw
              case rel => exact ⟨j + 1, by omega, by go_num, by rw [HV.out], hB2⟩
              case measure => simp [Go.RowKit.intOf]; omega
          · have HV : Hid ((l.take (j + 1)).any (fun y => eqV y.v s.v) = true) := by show _ = _; rw [HNX.out]; rfl
            clear HNX
            go_wp2_with fail
            go_roundw
            case rel => exact ⟨j + 1, by omega, by go_num, by rw [HV.out], hB2⟩
            case measure => simp [Go.RowKit.intOf]; omega
        · have hkn : decide ((j : Int) < (k : Int)) = false := decide_eq_false (by omega)
          obtain rfl : j = k := by omega
          have hsn : (l.take j).any (fun y => eqV y.v s.v) = seenB l j l[j].v := by rw [← HS.out]; rfl
          rw [hsn]
          obtain ⟨hH, rx, hh2, r0, hBW⟩ := HRY.out _ hB2
          have HAG : Hid (seenB l j l[j].v = seenB l j l[j].v) := rfl
          obtain ⟨AG, hAG⟩ : ∃ b, b = seenB l j l[j].v := ⟨_, rfl⟩
          have HAG : Hid (AG = seenB l j l[j].v) := hAG
          rw [← hAG]
          clear hAG hsn
          go_upto_region 16 with fail
          clear hkn hjk
          go_cut [65] (fun b wc => b = .bool false ∧ Below wr.heap.size wr wc)
          case first =>
            haveI := bl_ne wr
            clear hH r0 hBW
            have z2 := fun p : Bl wr => (rx.below p.h).cell 2
            have z3 := fun p : Bl wr => (rx.below p.h).cell 3
            simp only [List.getElem?_cons_succ, List.getElem?_cons_zero] at z2 z3
            by_cases hj0 : j = 0
            · have d2 : decide ((0 : Int) < (j : Int)) = false := decide_eq_false (by omega)
              have d3 : decide (0 < j) = false := decide_eq_false (by omega)
              clear hh2 rx hj0
              refine wp_region_bl (by kernel_rfl) (by kernel_rfl) ?_
              repeat (go_big_quiet_step (first | fail))
              refine wpQuiet_nil ?_
              intro wq hw'
              obtain ⟨⟨wz, hq⟩, hw2⟩ := hw'
              subst hw2
              go_wp2_with fail
              go_meet
              exact ⟨rfl, hq⟩
            · obtain ⟨i, hi⟩ : ∃ i, j = i + 1 := ⟨j - 1, by omega⟩
              have hiz : i < l.length := by omega
              obtain ⟨g3, i3, e13, hg3, b0, b1, b2, b3⟩ := HasE.cell hh2 i hiz
              injection e13 with e13
              injection e13 with e3 e4
              subst e3 e4
              have hap : eqV l[i].v s.v = false := by
                have h9 := HK0'.out i (by omega)
                rw [HS.out]
                subst hi
                exact h9
              have q2 : ∀ p : Bl wr, p.W.cell? ⟨g1, i1 + i * 4 + 2, none⟩ = some (.int .u8 l[i].v.kind) := fun p => (p.h.cell (p := ⟨g1, i1 + i * 4 + 2, none⟩) hg3).trans b2
              have q3 : ∀ p : Bl wr, p.W.cell? ⟨g1, i1 + i * 4 + 3, none⟩ = some (.int .i64 l[i].v.at') := fun p => (p.h.cell (p := ⟨g1, i1 + i * 4 + 3, none⟩) hg3).trans b3
              have heq := fun W => vd_eql l[i].v s.v W
              rw [hap] at heq
              have hvg := vd_guard
              have e1 : (j : Int) - 1 = (i : Int) := by omega
              have e2 : IntKind.i64.wrap (i : Int) = (i : Int) := by rw [IntKind.wrap_i64]; omega
              have d2 : decide ((0 : Int) < (j : Int)) = true := decide_eq_true (by omega)
              have d3 : decide (0 < j) = true := decide_eq_true (by omega)
              have hin : (i : Int) < (n : Int) := by omega
              generalize l[i].v.kind = pk at *
              generalize l[i].v.at' = pi at *
              clear hh2 rx hi b0 b1 b2 b3 hap hg3
              refine wp_region_bl (by kernel_rfl) (by kernel_rfl) ?_
              repeat (go_big_quiet_step (first | fail))
              refine wpQuiet_nil ?_
              intro wq hw'
              obtain ⟨⟨wz, hq⟩, hw2⟩ := hw'
              subst hw2
              go_wp2_with fail
              go_meet
              exact ⟨rfl, hq⟩
          case rest =>
          obtain ⟨rfl, hbc⟩ := hcut
          replace hB2 := below2 hB2 hbc
          clear hH rx hh2 r0 hBW hbc
          obtain ⟨hH, rx, hh2, r0, hBW⟩ := HRY.out _ hB2
          cases AG
          · have hns : seenB l j l[j].v = false := HAG.out.symm
            obtain ⟨x0, x1, x2, x3, _⟩ := cells4 rx
            obtain ⟨q0, q1, _⟩ := cells2 r0
            have cc := HWH.out s.v wc hh2
            rw [HWN'.out s.v] at cc
            clear r0 rx hh2
            go_wp2_with fail
            go_at_call 17; refine cc.mono ?_; rintro e w6 ⟨u6, R6, y6, rfl, hI6, hb6, hR6⟩
            injection hR6 with e1 e2
            subst e1 e2
            obtain ⟨o6, c6, rfl, _, _⟩ := HasRow.slice hI6
            have hB6 := below2 hB2 hb6
            replace hH := hH.keep hb6
            have cl := longI_any (whenL l s.v) _ w6 hI6
            have hlj : longJ (whenL l s.v) = (longI (whenL l s.v), 0) := by unfold longJ; rw [if_pos (HJW'.out s.v)]
            rw [hlj] at cl
            have hnew : cntE l j + longI (whenL l s.v) = cntE l (j + 1) := by rw [cnt_new hkz hns, long_when, HS.out]
            have hbd := HBD'.out (j + 1)
            have HNC : Hid (cntE l j + longI (whenL l s.v) = cntE l (j + 1)) := hnew
            have hwp : 0 < (whenL l s.v).length := by rw [HS.out]; exact when_pos hkz
            clear cc x0 x1 x2 x3 q0 q1 hlj
            simp only at cl
            generalize hlg : longI (whenL l s.v) = lg at *
            clear hlg
            go_wp2_with fail
            go_at_call 24; refine cl.mono ?_; rintro e w7 ⟨rfl, hb7⟩
            have hI7 := hI6.keep hb7
            replace hH := hH.keep hb7
            have hB7 := below2 hB6 hb7
            obtain ⟨o5, c5, rfl, _, _⟩ := HasRow.slice hH
            have co := orI_any R (whenL l s.v) _ _ w7 hH hI7
            rw [(wi_okJ HL2.out HWI.out).1, HJW'.out s.v] at co
            clear cl hb6 hb7 hI6
            go_wp2_with fail
            go_at_call 25; refine co.mono ?_; rintro e w8 ⟨u8, R8, y8, rfl, hI8, hb8, hS8⟩
            have hB8 := below2 hB7 hb8
            rw [HS.out] at hS8
            obtain ⟨hy8, hW8⟩ := HNEW'.out j hkz hns R R8 y8 HWI.out hS8
            subst hy8
            have HV : Hid (HasI w8 u8 (R8.map ofS) ∧ WI (wa, wb) l (j + 1) (R8.map ofS)) := ⟨hI8, hW8⟩
            have hBE := below2 hBr hB8
            obtain ⟨wl, hwl⟩ : ∃ n, n = (whenL l s.v).length := ⟨_, rfl⟩
            rw [← hwl] at hwp ⊢
            have hz1 : ((wl : Int) == 0) = false := beq_eq_false_iff_ne.2 (by omega)
            have hz2 : decide ((wl : Int) = 0) = false := decide_eq_false (by omega)
            have hz3 : decide (wl = 0) = false := decide_eq_false (by omega)
            have hwr : IntKind.i64.wrap (cntE l j + lg) = cntE l (j + 1) := by rw [IntKind.wrap_i64, HNC.out]; omega
            clear co hI7 hH hI8 hS8 hW8 hb8 hB6 hB7 hB8 hwl hns hnew
            go_wp2_with fail
            go_roundw
            case rel => exact ⟨j + 1, _, by omega, by go_num, rfl, hBE, HV⟩
            case measure => simp [Go.RowKit.intOf]; omega
          · have hns : seenB l j l[j].v = true := HAG.out.symm
            have hcn : cntE l j = cntE l (j + 1) := (cnt_again hkz hns).symm
            have HV : Hid (HasI wc u5 R ∧ WI (wa, wb) l (j + 1) R) := ⟨hH, wi_again hkz hns HWI.out⟩
            have HCN : Hid (Value.int .i64 (cntE l j) = .int .i64 (cntE l (j + 1))) := by show _ = _; rw [hcn]
            have hBE := below2 hBr hB2
            clear hns hcn hH rx hh2 r0
            go_wp2_with fail
            go_roundw
            case rel => exact ⟨j + 1, R, by omega, by go_num, HCN.out, hBE, HV⟩
            case measure => simp [Go.RowKit.intOf]; omega
    · have hkn : decide ((k : Int) < (n : Int)) = false := decide_eq_false (by omega)
      obtain rfl : k = n := by omega
      have hRE := HEND'.out R (by rw [← HN.out]; exact hWI)
      subst hRE
      have hce : cntE l k = wb - wa + 1 := by rw [HN.out, cnt_all]; exact HSUM.out
      rw [hce]
      obtain ⟨q0, q1, _⟩ := cells2 r0
      have ql := RowAt.lt r0
      obtain ⟨w9, hw9⟩ : ∃ W, W = wr.alloc (.cells #[.int .i64 wa, .int .i64 wb] 23) := ⟨_, rfl⟩
      have hbl : Below wr.heap.size wr w9 := by rw [hw9]; exact below_new (Below.refl _ _) _
      have hl9 : HasI w9 (.slice (some ⟨wr.heap.size, 0, none⟩) 1 1) [(wa, wb)] := by rw [hw9]; exact Iv.litI wr (wa, wb) 23
      have cs := Iv.same_any [(wa, wb)] _ _ w9 (hH.keep hbl) hl9
      have hw4 : IntKind.i64.wrap (wb - wa) = wb - wa := by rw [IntKind.wrap_i64]; omega
      have hw5 : IntKind.i64.wrap (wb - wa + 1) = wb - wa + 1 := by rw [IntKind.wrap_i64]; omega
      obtain ⟨o5, c5, rfl, _, _⟩ := HasRow.slice hH
      clear HI hWI hh hce hH hl9
      go_wp2_with fail
      rw [← hw9]
      clear hw9
      go_at_call 23; refine cs.mono ?_; rintro e w10 ⟨rfl, hb10⟩
      obtain ⟨_, r1, hBZ⟩ := HR.out _ (below2 (below2 hBr hbl) hb10)
      clear q0 q1 ql cs
      obtain ⟨q0, q1, _⟩ := cells2 r1
      go_wp2_with fail
      go_ret
      exact ⟨by first | rfl | simp, hBZ⟩
set_option maxRecDepth 100000 in
theorem lifted (os : Os) (started : os.Started) (H : Type) (enc : TypeId × Value → H) :
    ReturnsInHanded {} Try.checked os 6 .any (Rows.lineWholeSpec.pre6 enc Try.prog Try.f6 Rows.lineWholeRow.domain false) (Rows.lineWholeSpec.post enc Try.prog Try.f6 false true false false) := by
  refine returnsInHanded_of_change_sized (C := Try.checked) own started (by kernel_rfl) Try.func6
    (ChangeSpec.witness6 (enc := enc) (C := Try.checked) false ⟨#[], #[.agg #[.int .i64 0, .int .i64 0], .slice none 0 0], []⟩ 8 (by kernel_rfl) (by kernel_rfl) (by kernel_rfl) (by kernel_rfl)) ?_
  intro W base args ds gs before hval0 hW _ hsz0 _
  have hsz : (DataW.weightsEach Try.prog (Try.f6.params.toList ++ Rows.lineWholeSpec.plain.varTypes Try.prog) (ds ++ gs)).all (· ≤ reachBytes) = true := hsz0
  clear hsz0
  have hval : ∀ (j : Nat) t v, Try.f6.params[j]? = some t → args[j]? = some v → Value.okWide Try.prog W .any base t v := hval0
  have hW' := hW
  obtain ⟨p, q, hA0, hV, rfl, hfz, hnd⟩ := hW
  have hA : DataW.TrodAll enc Try.prog W 0 (fun _ => true) true Try.f6.params.toList args.toList ds p := hA0
  rw [Try.params6] at hA hval hsz
  obtain ⟨v0, vs0, d0, ds0, p0, q0, hargs, rfl, rfl, h0, r0⟩ := trodAll_cons hA
  obtain ⟨v1, vs1, d1, ds1, p1, q1, rfl, rfl, rfl, h1, r1⟩ := trodAll_cons r0
  obtain ⟨rfl, rfl, rfl⟩ := trodAll_nil r1
  obtain rfl : args = #[v0, v1] := by cases args; simp_all
  obtain ⟨rfl, rfl⟩ := trodVars_none hV
  have k0 := h0
  have lt0 : ∀ x ∈ p0, x.block < W.heap.size := by obtain ⟨m, hm⟩ := k0; exact DataW.trod_lt m _ _ _ hm
  obtain ⟨n0, rfl, b0⟩ := Iv.open_ivl (hval 0 23 v0 rfl rfl) h0
  obtain ⟨a1, len1, cap1, rfl⟩ := okWide_slice Try.underlying25 (hval 1 25 v1 rfl rfl)
  have k1 := h1
  have lt1 : ∀ x ∈ p1, x.block < W.heap.size := by obtain ⟨m, hm⟩ := k1; exact DataW.trod_lt m _ _ _ hm
  obtain ⟨fuel1, hf1⟩ := h1
  obtain ⟨z1, b1⟩ := Ln.open_eras hf1
  clear hA0 hval0
  refine (walk n0 (.slice a1 len1 cap1) z1 W b0 b1).mono fun e W' ⟨he, bel⟩ => ?_
  subst he
  exact ⟨_, rfl, _, _, _, [], _, [], hW', trodAll_mk1 (shut_bool Try.underlying4 _), (trodAll_cons_mk (Below.trod laidOut (by kernel_rfl) (of_decide_eq_true (by kernel_rfl)) k0 bel lt0) (trodAll_cons_mk (Below.trod laidOut (by kernel_rfl) (of_decide_eq_true (by kernel_rfl)) k1 bel lt1) trodAll_mk0)), rfl, bel.frame _, fun h => by cases h⟩

theorem over : Rows.lineWholeRow.holds Try.pinned (OpenSpec.ofChange Rows.lineWholeSpec) :=
  OpenClaim.holds_of_wide 6 Try.f6 rfl rfl rfl rfl rfl rfl rfl ⟨rfl, rfl, rfl, rfl, rfl⟩ rfl rfl rfl rfl rfl (by kernel_rfl) Try.func6 (by kernel_rfl)
    (of_decide_eq_true (by kernel_rfl)) (by unfold Func.isWrapper; first | (rw [if_pos (by decide +kernel)]; kernel_rfl) | (rw [if_neg (by decide +kernel)]; exact ⟨rfl, rfl⟩))
    (fun os started H enc _ => lifted os started H enc)
end lineWhole
theorem line_whole_holds : Rows.LineWholeSaid := lineWhole.over
#print axioms line_whole_holds
end Go.Proofs.Ytmkbijnndbgjgaa
