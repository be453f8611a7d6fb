/- For any interval, marks and time: spoorlaw20.LineTells returns true, and changes nothing that was there. No condition. -/
import Derived.Test.YtmkbijnndbgjgaaLnZ1
import Derived.Test.YtmkbijnndbgjgaaLnZ3
import Derived.Test.YtmkbijnndbgjgaaRows
import Derived.Deep.DeepCutAuto
import Derived.ProofKit
import Derived.OpenShut
import Derived.ShutString
import Derived.SizedLaws
set_option linter.unusedVariables false
namespace Go.Proofs.Ytmkbijnndbgjgaa.Ln
open Go.RowKit
open Go.Proofs.Ytmkbijnndbgjgaa.Iv (Iv okI okI_iff)
def lastO : Option Vd → List Er → Option Vd
  | p, [] => p
  | _, y :: l => lastO (some y.v) l
theorem lastO_snoc (A : List Er) (x : Er) : ∀ p, lastO p (A ++ [x]) = some x.v := by
  induction A with
  | nil => intro p; rfl
  | cons y A ih => intro p; exact ih _
theorem goE_snoc {b : Int} (x : Er) : ∀ (l : List Er) (p : Option Vd) (n : Int), goE b p n (l ++ [x]) = match goE b p n l with | none => none | some m => if stepB b (lastO p l) m x then some (x.b + 1) else none := by
  intro l
  induction l with
  | nil => intro p n; rfl
  | cons y l ih =>
    intro p n
    show (if stepB b p n y then goE b (some y.v) (y.b + 1) (l ++ [x]) else none) = match (if stepB b p n y then goE b (some y.v) (y.b + 1) l else none) with | none => none | some m => if stepB b (lastO (some y.v) l) m x then some (x.b + 1) else none
    cases stepB b p n y
    · rfl
    · exact ih _ _
def wantM (l : List Mk) (t : Int) : Vd := l.foldl (fun v m => if m.t ≤ t then m.v else v) zV
theorem wantM_snoc (l : List Mk) (m : Mk) (t : Int) : wantM (l ++ [m]) t = if m.t ≤ t then m.v else wantM l t := by unfold wantM; rw [List.foldl_append]; rfl
theorem eqV_comm (u v : Vd) : eqV u v = eqV v u := Bool.eq_iff_iff.2 ⟨fun h => eqV_iff.2 (eqV_iff.1 h).symm, fun h => eqV_iff.2 (eqV_iff.1 h).symm⟩
/-- a line grows by times right behind it -/
theorem put_goE {b n c e : Int} {l : List Er} {v : Vd} (h : goE b none n l = some c) (h1 : c ≤ e) (h2 : e ≤ b) : goE b none n (putE l c e v) = some (e + 1) := by
  rcases List.eq_nil_or_concat l with rfl | ⟨A, x, rfl⟩
  · simp only [goE, Option.some.injEq] at h
    subst h
    show (if stepB b none n ⟨n, e, v⟩ then some (e + 1) else none) = _
    rw [if_pos]
    simp only [stepB, notP, Bool.and_eq_true, decide_eq_true_eq]
    exact ⟨trivial, h1, h2, trivial⟩
  · rw [List.concat_eq_append] at h ⊢
    rw [putE_snoc]
    rw [goE_snoc] at h
    cases hA : goE b none n A with
    | none => rw [hA] at h; cases h
    | some m =>
      rw [hA] at h
      simp only at h
      split at h
      · rename_i hs
        injection h with h
        have hs2 := hs
        simp only [stepB, Bool.and_eq_true, decide_eq_true_eq] at hs
        cases hv : eqV x.v v with
        | true =>
          rw [if_pos rfl, goE_snoc, hA]
          simp only
          rw [if_pos]
          simp only [stepB, Bool.and_eq_true, decide_eq_true_eq]
          exact ⟨hs.1, by omega, h2, hs.2.2.2⟩
        | false =>
          rw [if_neg Bool.false_ne_true, goE_snoc, goE_snoc, hA]
          simp only
          rw [if_pos hs2]
          simp only
          rw [if_pos, ]
          rw [lastO_snoc]
          simp only [stepB, notP, Bool.and_eq_true, decide_eq_true_eq]
          exact ⟨h.symm, h1, h2, by rw [eqV_comm, hv]; rfl⟩
      · cases h
theorem put_ok {l : List Er} {a e : Int} {v : Vd} (hl : ∀ x ∈ l, okV x.v = true) (hv : okV v = true) : ∀ x ∈ putE l a e v, okV x.v = true := by
  rcases List.eq_nil_or_concat l with rfl | ⟨A, y, rfl⟩
  · intro x hx
    have hx' : x ∈ [(⟨a, e, v⟩ : Er)] := hx
    rw [List.mem_singleton.1 hx']; exact hv
  · rw [List.concat_eq_append] at hl ⊢
    rw [putE_snoc]
    intro x hx
    split at hx
    · rcases List.mem_append.1 hx with hx | hx
      · exact hl x (List.mem_append.2 (.inl hx))
      · rw [List.mem_singleton.1 hx]; exact hl y (by simp)
    · rcases List.mem_append.1 hx with hx | hx
      · exact hl x hx
      · rw [List.mem_singleton.1 hx]; exact hv
theorem put_hold {b n c e : Int} {l : List Er} {v : Vd} (h : goE b none n l = some c) (h1 : c ≤ e) (h2 : e ≤ b) (t : Int) (ht : n ≤ t) (hte : t ≤ e) : holdL (putE l c e v) t = if c ≤ t then v else holdL l t := by
  have hg := put_goE (v := v) h h1 h2
  by_cases hct : c ≤ t
  · rw [if_pos hct]
    rcases List.eq_nil_or_concat l with rfl | ⟨A, x, rfl⟩
    · exact hold_in (x := ⟨c, e, v⟩) ⟨hct, hte⟩
    · rw [List.concat_eq_append] at h hg ⊢
      have hxb : x.a ≤ x.b ∧ x.b + 1 = c := by
        rw [goE_snoc] at h
        cases hA : goE b none n A with
        | none => rw [hA] at h; cases h
        | some m =>
          rw [hA] at h
          simp only at h
          split at h
          · rename_i hs
            injection h with h
            simp only [stepB, Bool.and_eq_true, decide_eq_true_eq] at hs
            exact ⟨hs.2.1, h⟩
          · cases h
      rw [putE_snoc] at hg ⊢
      cases hv : eqV x.v v with
      | true =>
        rw [hv, if_pos rfl] at hg
        rw [if_pos rfl, goE_hold _ _ _ _ t hg ⟨x.a, e, x.v⟩ (by simp) (by show x.a ≤ t; omega) hte]
        exact eqV_iff.1 hv
      | false =>
        rw [hv, if_neg Bool.false_ne_true] at hg
        rw [if_neg Bool.false_ne_true, goE_hold _ _ _ _ t hg ⟨c, e, v⟩ (by simp) hct hte]
  · rw [if_neg hct]
    obtain ⟨y, hy, hi⟩ := (goE_cover l none n c t h).2.2 ⟨ht, by omega⟩
    have hi2 := inT_iff.1 hi
    rw [goE_hold l _ _ _ t h y hy hi2.1 hi2.2]
    rcases List.eq_nil_or_concat l with rfl | ⟨A, x, rfl⟩
    · simp at hy
    · rw [List.concat_eq_append] at hy hg ⊢
      rw [putE_snoc] at hg ⊢
      cases hv : eqV x.v v with
      | true =>
        rw [hv, if_pos rfl] at hg
        rw [if_pos rfl]
        rcases List.mem_append.1 hy with hy | hy
        · exact goE_hold _ _ _ _ t hg y (List.mem_append.2 (.inl hy)) hi2.1 hi2.2
        · rw [List.mem_singleton.1 hy] at hi2 ⊢
          exact goE_hold _ _ _ _ t hg ⟨x.a, e, x.v⟩ (by simp) hi2.1 hte
      | false =>
        rw [hv, if_neg Bool.false_ne_true] at hg
        rw [if_neg Bool.false_ne_true]
        exact goE_hold _ _ _ _ t hg y (List.mem_append.2 (.inl hy)) hi2.1 hi2.2
/-- the time behind k marks' eras -/
def cT (w : Iv) (ms : List Mk) (k : Nat) : Int := match ms[k]? with | some m => m.t | none => w.2 + 1
theorem cT_at {w : Iv} {ms : List Mk} {k : Nat} (h : k < ms.length) : cT w ms k = ms[k].t := by unfold cT; rw [List.getElem?_eq_getElem h]
theorem cT_end {w : Iv} {ms : List Mk} {k : Nat} (h : ms.length ≤ k) : cT w ms k = w.2 + 1 := by unfold cT; rw [List.getElem?_eq_none h]
theorem endM_cT (w : Iv) (ms : List Mk) (k : Nat) : endM w.2 ms k = cT w ms (k + 1) - 1 := by
  unfold endM cT
  cases ms[k + 1]? with
  | none => show w.2 = w.2 + 1 - 1; omega
  | some m => rfl
theorem okM_rise {w : Iv} {ms : List Mk} (h : okM w ms = true) {k : Nat} (hk : k + 1 < ms.length) : ms[k].t < ms[k + 1].t := by
  have hm : marksB w.2 none ms = true := by
    cases ms with
    | nil => simp at hk
    | cons m l => simp only [okM, Bool.and_eq_true] at h; exact h.2
  have : ∀ (k : Nat) (p : Option Int) (l : List Mk), marksB w.2 p l = true → ∀ (hk : k + 1 < l.length), l[k].t < l[k + 1].t := by
    intro k
    induction k with
    | zero =>
      intro p l hl hk
      match l, hk with
      | a :: b :: l, _ =>
        simp only [marksB, stepM, gtP, Bool.and_eq_true, decide_eq_true_eq] at hl
        simp only [List.getElem_cons_zero, List.getElem_cons_succ]
        exact hl.2.1.2.2
    | succ k ih =>
      intro p l hl hk
      match l, hk with
      | a :: l, hk =>
        simp only [marksB, Bool.and_eq_true] at hl
        simp only [List.getElem_cons_succ]
        exact ih _ l hl.2 (by simpa using hk)
  exact this k none ms hm hk
theorem done_inv {w : Iv} {ms : List Mk} (hw : okI w = true) (hm : okM w ms = true) : ∀ k, k ≤ ms.length → goE w.2 none w.1 (doneE w.2 ms k) = some (cT w ms k) ∧ (∀ x ∈ doneE w.2 ms k, okV x.v = true) ∧ ∀ t, w.1 ≤ t → t < cT w ms k → holdL (doneE w.2 ms k) t = wantM (ms.take k) t := by
  intro k
  induction k with
  | zero =>
    intro _
    have hp := okM_pos hm
    have h0 : cT w ms 0 = w.1 := by
      rw [cT_at hp]
      cases ms with
      | nil => simp at hp
      | cons m l => simp only [okM, Bool.and_eq_true, decide_eq_true_eq] at hm; exact hm.1
    refine ⟨by rw [h0]; rfl, (fun x hx => by cases hx), fun t h1 h2 => by omega⟩
  | succ k ih =>
    intro hk
    have hkn : k < ms.length := by omega
    obtain ⟨i1, i2, i3⟩ := ih (by omega)
    have hat := okM_at hw hm k hkn
    rw [doneE_succ hkn, endM_cT]
    rw [cT_at hkn] at i1 i3
    have hc1 : ms[k].t ≤ cT w ms (k + 1) - 1 ∧ cT w ms (k + 1) - 1 ≤ w.2 := by
      by_cases h : k + 1 < ms.length
      · rw [cT_at h]
        have := okM_rise hm h
        have := okM_at hw hm (k + 1) h
        omega
      · rw [cT_end (by omega)]; omega
    refine ⟨?_, put_ok i2 hat.2.2.2, fun t h1 h2 => ?_⟩
    · rw [put_goE i1 hc1.1 hc1.2, show cT w ms (k + 1) - 1 + 1 = cT w ms (k + 1) by omega]
    · rw [put_hold i1 hc1.1 hc1.2 t h1 (by omega), List.take_succ_eq_append_getElem hkn, wantM_snoc]
      by_cases h : ms[k].t ≤ t
      · rw [if_pos h, if_pos h]
      · rw [if_neg h, if_neg h]; exact i3 t h1 (by omega)
/-- what was made is a line, and tells so -/
theorem make_tells {w : Iv} {ms : List Mk} {R : List Er} (h : (R, (0 : Int)) = mkL w ms) : okL w R = true ∧ ∀ t, atL w R t = if w.1 ≤ t ∧ t ≤ w.2 then (wantM ms t, 0) else (zV, 1) := by
  unfold mkL at h
  cases hw : okI w with
  | false => rw [hw] at h; simp at h
  | true =>
    cases hm : okM w ms with
    | false => rw [hw, hm] at h; simp at h
    | true =>
      rw [hw, hm] at h
      by_cases hl : (doneE w.2 ms ms.length).length ≤ 1024
      · rw [if_pos (show (true && true) = true from rfl), if_pos hl] at h
        injection h with h _
        subst h
        obtain ⟨i1, i2, i3⟩ := done_inv hw hm ms.length (Nat.le_refl _)
        rw [cT_end (Nat.le_refl _)] at i1 i3
        rw [List.take_length] at i3
        have hok : okL w (doneE w.2 ms ms.length) = true := by
          unfold okL
          simp only [Bool.and_eq_true, decide_eq_true_eq, List.all_eq_true, beq_iff_eq]
          exact ⟨hw, hl, i2, i1⟩
        refine ⟨hok, fun t => ?_⟩
        by_cases ht : w.1 ≤ t ∧ t ≤ w.2
        · rw [if_pos ht, atL_in hok ht, i3 t ht.1 (by omega)]
        · rw [if_neg ht, atL_out hok ht]
      · rw [if_pos (show (true && true) = true from rfl), if_neg hl] at h
        injection h with _ h
        cases h
theorem make_bad {w : Iv} {ms : List Mk} {R : List Er} {y : Int} (h : (R, y) = mkL w ms) (hy : y ≠ 0) : R = [] := by
  unfold mkL at h
  split at h
  · split at h
    · injection h with _ h; exact absurd h hy
    · injection h
  · injection h
end Go.Proofs.Ytmkbijnndbgjgaa.Ln
namespace Go.Proofs.Ytmkbijnndbgjgaa
namespace lineTells
open Go.ChangeShapes Go.WideShapes Go.ChangeAt Go.RowKit
open Go.ChangeMaps (open_string shut_string)
open Go.Proofs.Ytmkbijnndbgjgaa.Ln
open Go.Proofs.Ytmkbijnndbgjgaa.Iv (Iv FitI FitT ivV HasI okI)
open Go.Proofs.Ytmkbijnndbgjgaa.Lk (HasRow)
open Go.Proofs.Ytmkbijnndbgjgaa.Sp (chk)
open Go.Proofs.Ytmkbijnndbgjgaa.Addr (Bl bl_ne wp_region_bl bl_call RowAt below2 below_drew below_new bset RowAt.lt RowAt.cell RowAt.frozen RowAt.below RowAt.drew RowAt.new RowAt.alloc cells2 cells4)
theorem own : ownKnob Try.prog.godebug = none := by kernel_rfl
theorem laidOut : laidOutB Try.prog = true := by kernel_rfl
theorem row_set1 {W : World} {g : Nat} {cs : List Value} {t : TypeId} (h : RowAt W g cs t) (k : Nat) (v : Value) : RowAt (W.setCell ⟨g, k, none⟩ v) g (cs.set k v) t := by
  unfold RowAt at *
  simp only [World.setCell]
  rw [Array.getElem?_modify, if_pos rfl, h]
  simp
set_option maxHeartbeats 16000000 in
set_option maxRecDepth 20000 in
theorem walk (wi : Iv) (v : Value) (ms : List Mk) (t : Int) (w : World) (b0 : FitI wi) (b1 : HasM w v ms) (b2 : FitT t) :
    Calls Try.prog 5 #[ivV wi, v, .int .i64 t] w fun e w' => e = .returned (.bool true) ∧ Below w.heap.size w w' := by
  have c0 := fun (W : World) => lives_any W
  have cm := fun (W : World) (h : HasM W v ms) => make_any wi ms v W h
  have HBAD : Hid (∀ (R : List Er) (y : Int), (R, y) = mkL wi ms → y ≠ 0 → R = []) := fun R y h hy => make_bad h hy
  have HGOOD : Hid (∀ (R : List Er), (R, (0 : Int)) = mkL wi ms → okL wi R = true ∧ ∀ t, atL wi R t = if wi.1 ≤ t ∧ t ≤ wi.2 then (wantM ms t, 0) else (zV, 1)) := fun R h => make_tells h
  have HCK : Hid (∀ (R : List Er) (u : Value) (W : World), HasE W u R → Calls Try.prog 13 #[.agg #[.int .i64 wi.1, .int .i64 wi.2], u] W fun e w' => e = .returned (.int .i64 (chk (okL wi R))) ∧ Below W.heap.size W w') := fun R u W h => check_any wi R u W h
  have HAT : Hid (∀ (R : List Er) (u : Value) (W : World), HasE W u R → Calls Try.prog 15 #[.agg #[.int .i64 wi.1, .int .i64 wi.2], u, .int .i64 t] W fun e w' => ∃ k i why, e = .returned (.tuple #[.agg #[.int .u8 k, .int .i64 i], .int .i64 why]) ∧ Below W.heap.size W w' ∧ ((⟨k, i⟩ : Vd), why) = atL wi R t) := fun R u W h => at_any wi R t u W h
  obtain ⟨wa, wb⟩ := wi
  show Calls Try.prog 5 #[.agg #[.int .i64 wa, .int .i64 wb], v, .int .i64 t] w _
  simp only at cm HCK HAT HGOOD
  obtain ⟨X, hX⟩ : ∃ X, X = w.alloc (.cells #[.int .i64 wa, .int .i64 wb] 23) := ⟨_, rfl⟩
  have hB : Below w.heap.size w X := by rw [hX]; exact below_new (Below.refl _ _) _
  have r0 : RowAt X w.heap.size [.int .i64 wa, .int .i64 wb] 23 := by rw [hX]; exact RowAt.new _ _ _
  obtain ⟨g0, hg0⟩ : ∃ g, g = w.heap.size := ⟨_, rfl⟩
  rw [← hg0] at r0
  replace b1 := b1.keep hB
  obtain ⟨o1, c1, rfl, hc1, hc2⟩ := HasRow.slice b1
  have HR : Hid (∀ W, Below X.heap.size X W → HasM W (.slice o1 ms.length c1) ms ∧ RowAt W g0 [.int .i64 wa, .int .i64 wb] 23 ∧ Below w.heap.size w W) := fun W hq => ⟨b1.keep hq, r0.below hq, below2 hB hq⟩
  obtain ⟨n, hn⟩ : ∃ n, n = ms.length := ⟨_, rfl⟩
  have HN : Hid (n = ms.length) := hn
  rw [← hn] at HR cm hc1 ⊢
  have hni : (n : Int) ≤ 9223372036854775807 := by omega
  clear b0 b1 b2 hn hB r0
  go_enter Try.func5, Try.ntmps5
  go_upto_region 1 with fail
  rw [← hX, ← hg0]
  clear hX hg0
  go_wp2_with fail
  go_at_call 11; refine (c0 _).mono ?_; rintro e w1 ⟨rfl, hb1⟩
  obtain ⟨b1, r0, _⟩ := HR.out _ hb1
  have cc := cm w1 b1
  obtain ⟨q0, q1, _⟩ := cells2 r0
  clear c0 cm b1 r0
  go_wp2_with fail
  go_at_call 9; refine cc.mono ?_; rintro e w2 ⟨u2, R, y, rfl, hO, hRR⟩
  have hb2 := below2 hb1 hO.bl
  have hE := hO.has
  clear cc q0 q1 hb1 hO
  by_cases hy : y = 0
  · subst hy
    obtain ⟨hok, hat⟩ := HGOOD.out R hRR
    obtain ⟨o2, c2, rfl, _, _⟩ := HasRow.slice hE
    have cc := HAT.out R _ w2 hE
    rw [hat t] at cc
    obtain ⟨_, r0, _⟩ := HR.out _ hb2
    obtain ⟨q0, q1, _⟩ := cells2 r0
    have HE2 : Hid (∀ W, Below w2.heap.size w2 W → HasE W (.slice o2 R.length c2) R) := fun W hq => hE.keep hq
    have HCK2 : Hid (∀ (u : Value) (W : World), HasE W u R → Calls Try.prog 13 #[.agg #[.int .i64 wa, .int .i64 wb], u] W fun e w' => e = .returned (.int .i64 0) ∧ Below W.heap.size W w') := fun u W h => by
      have h9 := HCK.out R u W h
      rw [hok] at h9
      exact h9
    clear HBAD HGOOD HCK HAT hRR hok hat hE r0
    go_wp2_with fail
    go_at_call 15; refine cc.mono ?_; rintro e w3 ⟨k3, i3, y3, rfl, hb3, hR3⟩
    clear cc q0 q1
    have hb23 := below2 hb2 hb3
    obtain ⟨w4, hw4⟩ : ∃ W, W = w3.alloc (.cells #[.int .u8 k3, .int .i64 i3] 35) := ⟨_, rfl⟩
    have hbl : Below w3.heap.size w3 w4 := by rw [hw4]; exact below_new (Below.refl _ _) _
    have r3 : RowAt w4 w3.heap.size [.int .u8 k3, .int .i64 i3] 35 := by rw [hw4]; exact RowAt.new _ _ _
    have r0' := (HR.out _ hb23).2.1
    obtain ⟨q0', q1', _⟩ := cells2 r0'
    have ql := RowAt.lt r0'
    have hb24 := below2 hb23 hbl
    obtain ⟨_, r0, _⟩ := HR.out _ hb24
    obtain ⟨q0, q1, _⟩ := cells2 r0
    have cc := HCK2.out _ w4 (HE2.out w4 (below2 hb3 hbl))
    obtain ⟨g3, hg3⟩ : ∃ g, g = w3.heap.size := ⟨_, rfl⟩
    rw [← hg3] at r3
    have hY : Hid ((wa ≤ t ∧ t ≤ wb ∧ y3 = 0 ∧ (⟨k3, i3⟩ : Vd) = wantM ms t) ∨ (¬ (wa ≤ t ∧ t ≤ wb) ∧ y3 = 1)) := by
      by_cases h : wa ≤ t ∧ t ≤ wb
      · rw [if_pos h] at hR3
        injection hR3 with e1 e2
        exact .inl ⟨h.1, h.2, e2, e1⟩
      · rw [if_neg h] at hR3
        injection hR3 with e1 e2
        exact .inr ⟨h, e2⟩
    clear hR3
    go_upto_region 7 with fail
    rw [← hw4, ← hg3]
    clear hw4 hg3 r0' q0' q1' ql hbl hb23 r0 HE2 HCK2 hb3
    go_cut [52] (fun b wc => b = .bool false ∧ Below w4.heap.size w4 wc)
    case first =>
      rcases hY.out with ⟨h1, h2, h3, _⟩ | ⟨h1, h3⟩
      · subst h3
        have d1 : decide (wa ≤ t) = true := decide_eq_true h1
        have d2 : decide (t ≤ wb) = true := decide_eq_true h2
        clear hY
        go_wp2_with fail
        go_at_call 13; refine cc.mono ?_; rintro e w5 ⟨rfl, hb5⟩
        have r05 := (HR.out _ (below2 hb24 hb5)).2.1
        clear q0 q1
        obtain ⟨q0, q1, _⟩ := cells2 r05
        clear cc r05
        go_wp2_with fail
        go_meet
        exact ⟨by first | rfl | simp, hb5⟩
      · subst h3
        clear hY
        by_cases h4 : wa ≤ t
        · have d1 : decide (wa ≤ t) = true := decide_eq_true h4
          have h5 : ¬ t ≤ wb := fun h => h1 ⟨h4, h⟩
          have d2 : decide (t ≤ wb) = false := decide_eq_false h5
          clear h1
          go_wp2_with fail
          go_at_call 13; refine cc.mono ?_; rintro e w5 ⟨rfl, hb5⟩
          have r05 := (HR.out _ (below2 hb24 hb5)).2.1
          clear q0 q1
          obtain ⟨q0, q1, _⟩ := cells2 r05
          clear cc r05
          go_wp2_with fail
          go_meet
          exact ⟨by first | rfl | simp, hb5⟩
        · have d1 : decide (wa ≤ t) = false := decide_eq_false h4
          clear h1
          go_wp2_with fail
          go_at_call 13; refine cc.mono ?_; rintro e w5 ⟨rfl, hb5⟩
          have r05 := (HR.out _ (below2 hb24 hb5)).2.1
          clear q0 q1
          obtain ⟨q0, q1, _⟩ := cells2 r05
          clear cc r05
          go_wp2_with fail
          go_meet
          exact ⟨by first | rfl | simp, hb5⟩
    case rest =>
    obtain ⟨rfl, hb5⟩ := hcut
    have hb25 := below2 hb24 hb5
    replace r3 := r3.below hb5
    clear q0 q1 cc hb24 hb5
    go_upto_region 10 with fail
    obtain ⟨Z, hZ⟩ : ∃ W, W = wc.alloc (.cells #[.int .u8 0, .int .i64 0] 35) := ⟨_, rfl⟩
    have hbZ : Below wc.heap.size wc Z := by rw [hZ]; exact below_new (Below.refl _ _) _
    have r4 : RowAt Z wc.heap.size [.int .u8 0, .int .i64 0] 35 := by rw [hZ]; exact RowAt.new _ _ _
    rw [← hZ]
    obtain ⟨g4, hg4⟩ : ∃ g, g = wc.heap.size := ⟨_, rfl⟩
    rw [← hg4] at r4 ⊢
    have hge : wc.heap.size ≤ g4 := by omega
    have HR2 : Hid (∀ W, Below wc.heap.size wc W → HasM W (.slice o1 n c1) ms ∧ RowAt W g3 [.int .u8 k3, .int .i64 i3] 35 ∧ Below w.heap.size w W) := fun W hq => ⟨(HR.out W (below2 hb25 hq)).1, r3.below hq, (HR.out W (below2 hb25 hq)).2.2⟩
    have H0 : Hid (RowAt Z g4 [.int .u8 (wantM (ms.take 0) t).kind, .int .i64 (wantM (ms.take 0) t).at'] 35) := r4
    clear hZ hg4 HR hb2 hb25 r3 r4
    go_wp2_with fail
    go_loopw [56] (fun q wr => ∃ k : Nat, k ≤ n ∧ q = .int .i64 k ∧ Below wc.heap.size wc wr ∧ Hid (RowAt wr g4 [.int .u8 (wantM (ms.take k) t).kind, .int .i64 (wantM (ms.take k) t).at'] 35)) (fun q _ => n - (Go.RowKit.intOf q).toNat)
    case atStart => exact ⟨0, by omega, rfl, hbZ, H0⟩
    case round =>
      clear H0 hbZ
      obtain ⟨k, hk, rfl, hBr, HW⟩ := hrel
      have rW := HW.out
      obtain ⟨hh, r3, hBW⟩ := HR2.out _ hBr
      by_cases hlt : k < n
      · have hkz : k < ms.length := by rw [← HN.out]; exact hlt
        obtain ⟨g2, i2, rfl, hg2, a0, a1, a2⟩ := HasM.cell hh k hkz
        have hki : (k : Int) < (n : Int) := by omega
        have hsn := wantM_snoc (ms.take k) ms[k] t
        rw [← List.take_succ_eq_append_getElem hkz] at hsn
        have HS1 : Hid (ms[k].t ≤ t → wantM (ms.take (k + 1)) t = ms[k].v) := fun h => by rw [hsn, if_pos h]
        have HS2 : Hid (¬ ms[k].t ≤ t → wantM (ms.take (k + 1)) t = wantM (ms.take k) t) := fun h => by rw [hsn, if_neg h]
        clear hsn
        generalize wantM (ms.take k) t = V0 at *
        obtain ⟨m, hm⟩ : ∃ m : Mk, m = ms[k] := ⟨_, rfl⟩
        rw [← hm] at a0 a1 a2 HS1 HS2
        obtain ⟨xt, ⟨xk, xi⟩⟩ := m
        simp only at a0 a1 a2 HS1 HS2
        clear hm HW hg2 hh r3 hBW
        go_upto_region 13 with fail
        obtain ⟨Y, hY2⟩ : ∃ X, X = wr.alloc (.cells #[.int .i64 xt, .int .u8 xk, .int .i64 xi] 46) := ⟨_, rfl⟩
        have hbY : Below wr.heap.size wr Y := by rw [hY2]; exact below_new (Below.refl _ _) _
        have rx : RowAt Y wr.heap.size [.int .i64 xt, .int .u8 xk, .int .i64 xi] 46 := by rw [hY2]; exact RowAt.new _ _ _
        rw [← hY2]
        replace hBr := below2 hBr hbY
        replace rW := rW.below hbY
        obtain ⟨gx, hgx⟩ : ∃ g, g = wr.heap.size := ⟨_, rfl⟩
        rw [← hgx] at rx ⊢
        clear hY2 hbY a0 a1 a2 hgx
        obtain ⟨x0, x1, x2, _⟩ := cells3 rx
        obtain ⟨y0, y1, yf⟩ := cells2 rW
        have hlt4 := RowAt.lt rW
        by_cases hle : xt ≤ t
        · have d1 : decide (xt ≤ t) = true := decide_eq_true hle
          have HV : Hid (RowAt ((Y.setCell ⟨g4, 0, none⟩ (.int .u8 xk)).setCell ⟨g4, 1, none⟩ (.int .i64 xi)) g4 [.int .u8 (wantM (ms.take (k + 1)) t).kind, .int .i64 (wantM (ms.take (k + 1)) t).at'] 35 ∧ Below wc.heap.size wc ((Y.setCell ⟨g4, 0, none⟩ (.int .u8 xk)).setCell ⟨g4, 1, none⟩ (.int .i64 xi))) := by
            refine ⟨?_, bset (bset hBr hge) hge⟩
            rw [HS1.out hle]
            exact row_set1 (row_set1 rW 0 _) 1 _
          clear HS1 HS2 rW rx
          go_wp2_with fail
          go_roundw
          case rel => exact ⟨k + 1, by omega, by go_num, HV.out.2, HV.out.1⟩
          case measure => simp [Go.RowKit.intOf]; omega
        · have d1 : decide (xt ≤ t) = false := decide_eq_false hle
          have HV : Hid (RowAt Y g4 [.int .u8 (wantM (ms.take (k + 1)) t).kind, .int .i64 (wantM (ms.take (k + 1)) t).at'] 35) := by show RowAt _ _ _ _; rw [HS2.out (by omega)]; exact rW
          clear HS1 HS2 rW rx
          go_wp2_with fail
          go_roundw
          case rel => exact ⟨k + 1, by omega, by go_num, hBr, HV⟩
          case measure => simp [Go.RowKit.intOf]; omega
      · have hkn : decide ((k : Int) < (n : Int)) = false := decide_eq_false (by omega)
        have hte : ms.take k = ms := by have := HN.out; exact List.take_of_length_le (by omega)
        rw [hte] at rW
        clear HW hh hte
        obtain ⟨y0, y1, yf⟩ := cells2 rW
        obtain ⟨z0, z1, zf⟩ := cells2 r3
        clear rW r3
        rcases hY.out with ⟨h1, h2, h3, h4⟩ | ⟨h1, h3⟩
        · subst h3
          rw [← h4] at y0 y1
          have heq : ∀ W, (binOp .eql 35 (.agg #[.int .u8 k3, .int .i64 i3]) (.agg #[.int .u8 k3, .int .i64 i3])).run Try.prog W = .ok (.bool true) W := fun W => by
            have h := vd_eql ⟨k3, i3⟩ ⟨k3, i3⟩ W
            rw [show eqV ⟨k3, i3⟩ ⟨k3, i3⟩ = true from eqV_iff.2 rfl] at h
            exact h
          have hvg := vd_guard
          simp only at y0 y1
          clear hY h4
          go_wp2_with fail
          go_ret
          exact ⟨by first | rfl | simp, hBW⟩
        · subst h3
          clear hY h1
          go_wp2_with fail
          go_ret
          exact ⟨by first | rfl | simp, hBW⟩
  · have hRN := HBAD.out R y hRR hy
    subst hRN
    obtain ⟨o2, c2, rfl, _, _⟩ := HasRow.slice hE
    have hBZ := (HR.out _ hb2).2.2
    have d1 : decide (y = 0) = false := decide_eq_false hy
    have d2 : (y == 0) = false := beq_eq_false_iff_ne.2 hy
    clear HBAD HGOOD HCK HAT hRR hE HR
    go_wp2_with fail
    go_ret
    exact ⟨by first | rfl | simp, hBZ⟩
set_option maxRecDepth 100000 in
theorem lifted (os : Os) (started : os.Started) (H : Type) (enc : TypeId × Value → H) :
    ReturnsInHanded {} Try.checked os 5 .any (Rows.lineTellsSpec.pre6 enc Try.prog Try.f5 Rows.lineTellsRow.domain false) (Rows.lineTellsSpec.post enc Try.prog Try.f5 false true false false) := by
  refine returnsInHanded_of_change_sized (C := Try.checked) own started (by kernel_rfl) Try.func5
    (ChangeSpec.witness6 (enc := enc) (C := Try.checked) false ⟨#[], #[.agg #[.int .i64 0, .int .i64 0], .slice none 0 0, .int .i64 0], []⟩ 8 (by kernel_rfl) (by kernel_rfl) (by kernel_rfl) (by kernel_rfl)) ?_
  intro W base args ds gs before hval0 hW _ hsz0 _
  have hsz : (DataW.weightsEach Try.prog (Try.f5.params.toList ++ Rows.lineTellsSpec.plain.varTypes Try.prog) (ds ++ gs)).all (· ≤ reachBytes) = true := hsz0
  clear hsz0
  have hval : ∀ (j : Nat) t v, Try.f5.params[j]? = some t → args[j]? = some v → Value.okWide Try.prog W .any base t v := hval0
  have hW' := hW
  obtain ⟨p, q, hA0, hV, rfl, hfz, hnd⟩ := hW
  have hA : DataW.TrodAll enc Try.prog W 0 (fun _ => true) true Try.f5.params.toList args.toList ds p := hA0
  rw [Try.params5] at hA hval hsz
  obtain ⟨v0, vs0, d0, ds0, p0, q0, hargs, rfl, rfl, h0, r0⟩ := trodAll_cons hA
  obtain ⟨v1, vs1, d1, ds1, p1, q1, rfl, rfl, rfl, h1, r1⟩ := trodAll_cons r0
  obtain ⟨v2, vs2, d2, ds2, p2, q2, rfl, rfl, rfl, h2, r2⟩ := trodAll_cons r1
  obtain ⟨rfl, rfl, rfl⟩ := trodAll_nil r2
  obtain rfl : args = #[v0, v1, v2] := by cases args; simp_all
  obtain ⟨rfl, rfl⟩ := trodVars_none hV
  have k0 := h0
  have lt0 : ∀ x ∈ p0, x.block < W.heap.size := by obtain ⟨m, hm⟩ := k0; exact DataW.trod_lt m _ _ _ hm
  obtain ⟨n0, rfl, b0⟩ := Iv.open_ivl (hval 0 23 v0 rfl rfl) h0
  obtain ⟨a1, len1, cap1, rfl⟩ := okWide_slice Try.underlying24 (hval 1 24 v1 rfl rfl)
  have k1 := h1
  have lt1 : ∀ x ∈ p1, x.block < W.heap.size := by obtain ⟨m, hm⟩ := k1; exact DataW.trod_lt m _ _ _ hm
  obtain ⟨fuel1, hf1⟩ := h1
  obtain ⟨z1, b1⟩ := Ln.open_marks hf1
  obtain ⟨a2, rfl, rfl, rfl, w2⟩ := open_int Try.underlying2 (hval 2 2 v2 rfl rfl) h2
  have b2 : -9223372036854775808 ≤ a2 ∧ a2 ≤ 9223372036854775807 := by simpa [Lit.wf, IntKind.min, IntKind.max, IntKind.signed, IntKind.bits] using w2
  clear hA0 hval0
  refine (walk n0 (.slice a1 len1 cap1) z1 a2 W b0 b1 b2).mono fun e W' ⟨he, bel⟩ => ?_
  subst he
  exact ⟨_, rfl, _, _, _, [], _, [], hW', trodAll_mk1 (shut_bool Try.underlying4 _), (trodAll_cons_mk (Below.trod laidOut (by kernel_rfl) (of_decide_eq_true (by kernel_rfl)) k0 bel lt0) (trodAll_cons_mk (Below.trod laidOut (by kernel_rfl) (of_decide_eq_true (by kernel_rfl)) k1 bel lt1) (trodAll_cons_mk (shut_int Try.underlying2 w2) trodAll_mk0))), rfl, bel.frame _, fun h => by cases h⟩

theorem over : Rows.lineTellsRow.holds Try.pinned (OpenSpec.ofChange Rows.lineTellsSpec) :=
  OpenClaim.holds_of_wide 5 Try.f5 rfl rfl rfl rfl rfl rfl rfl ⟨rfl, rfl, rfl, rfl, rfl⟩ rfl rfl rfl rfl rfl (by kernel_rfl) Try.func5 (by kernel_rfl)
    (of_decide_eq_true (by kernel_rfl)) (by unfold Func.isWrapper; first | (rw [if_pos (by decide +kernel)]; kernel_rfl) | (rw [if_neg (by decide +kernel)]; exact ⟨rfl, rfl⟩))
    (fun os started H enc _ => lifted os started H enc)
end lineTells
theorem line_tells_holds : Rows.LineTellsSaid := lineTells.over
#print axioms line_tells_holds
end Go.Proofs.Ytmkbijnndbgjgaa
