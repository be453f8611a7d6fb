/- What line.Differ answers. -/
import Derived.Test.YtmkbijnndbgjgaaLnZT
import Derived.Test.YtmkbijnndbgjgaaLnZ1
set_option linter.unusedVariables false
namespace Go.Proofs.Ytmkbijnndbgjgaa.Ln
open Go.RowKit Go.Shelf
open Go.Proofs.Ytmkbijnndbgjgaa.Iv (Iv FitT FitI okI okI_iff OwnI HasI PostI MkI makeI_any toS ofS map_of_to Kr rowK kr_t kr_refl kr_below kr_b kr_row kr_cell rowAt_own)
open Go.Proofs.Ytmkbijnndbgjgaa.Lk (HasRow hasRow_own addr_add)
open Go.Proofs.Ytmkbijnndbgjgaa.Sp (chk row_ext grown_of own_below row_ne own_down ko_row own_set below_row)
open Go.Proofs.Ytmkbijnndbgjgaa.Addr (RowAt below2 below_drew below_new bset RowAt.lt RowAt.cell RowAt.frozen RowAt.below RowAt.drew RowAt.new RowAt.alloc cells2 cells4)
attribute [local go_sem] Oper.semAt_some
attribute [-go_sem] Builtin.append_
/-- what a row answers is there behind the call's end -/
theorem hasRow_put {W : World} {v : Value} {k n : Nat} {cs : List Value} (h : HasRow W v k n cs) {D : Nat} {o : Obj} (o' : Obj) (hD : W.heap[D]? = some o) (ho : o.isCells = false) : HasRow (W.putObj D o') v k n cs := by
  have hc : ∀ (p : Addr) (x : Value), W.cell? p = some x → (W.putObj D o').cell? p = some x := fun p x hx => by
    have hne : p.block ≠ D := fun e => by
      unfold World.cell? at hx
      rw [e, hD] at hx
      cases o <;> first | (simp [Obj.isCells] at ho; done) | simp at hx
    rw [← hx]
    unfold World.cell?
    rw [World.putObj_heap_other hne]
  refine ⟨h.1, ?_⟩
  rcases h.2 with h0 | ⟨a, cap, e, h1, h2, h3, h4⟩
  · exact .inl h0
  · refine .inr ⟨a, cap, e, h1, h2, fun hn => ⟨(h3 hn).1, by simpa using (h3 hn).2⟩, fun j hj => ?_⟩
    have hj2 : j < cs.length := by rw [h.1]; exact hj
    have h5 := h4 j hj
    rw [List.getElem?_eq_getElem hj2] at h5 ⊢
    exact hc _ _ h5
/-- between two rounds of the loop over both lines -/
def DN (n₀ rb zs : Nat) (w : World) (pre : List Tg) (W : World) : Prop :=
  (∃ v, Boxed W rb 76 v ∧ W.ownsRow (rb + 1) 111 3 v (foldT [] pre).length (csB (foldT [] pre)) ∧ True) ∧ Below n₀ w W ∧ zs ≤ W.heap.size
theorem dn_own (n₀ rb zs B : Nat) (w : World) (hn : n₀ ≤ w.heap.size) (hB : n₀ ≤ B) : OwnFrom B (DN n₀ rb zs w) :=
  OwnFrom.and (Own.from (holdsRow_own (rb + 1) rb 76 111 3 (fun pre : List Tg => (foldT [] pre).length) (fun pre => csB (foldT [] pre)) (fun _ _ => True)) B)
    (OwnFrom.and (ownFrom_below hn hB) (fun _ _ _ _ hs hg _ => Nat.le_trans hs hg.size))
/-- a row may grow where its variable's block, and its own, alone are touched -/
theorem kr_grow {rb : Nat} {W w2 : World} {v v' : Value} (hv : Boxed W rb 76 v) (hb2 : Boxed w2 rb 76 v) (hg : W.grownBy w2 v.ownBlock) {g : Nat} (h1 : v'.ownBlock = some g) (h2 : v.ownBlock = some g ∨ (W.heap.size ≤ g ∧ g < w2.heap.size)) : Kr rb W (w2.setCell ⟨rb, 0, none⟩ v') := by
  have hs := hg.size
  have hr : rowK W rb = v.ownBlock := by unfold rowK; rw [hv.cell]; rfl
  refine ⟨by simp; omega, fun j p hp _ hj hne => ?_, fun g2 hg2 => ?_⟩
  · have hl := (Array.getElem?_eq_some_iff.1 hp).1
    rw [hr] at hne
    have e1 : (w2.setCell ⟨rb, 0, none⟩ v').heap[j]? = w2.heap[j]? := (grownBy_setCell' w2 rb _).block j (by omega) (fun e => hj (by injection e))
    rw [e1, hg.block j hl (fun e => hne e.symm)]
    exact hp
  · unfold rowK at hg2
    have hb := (hb2.set v').cell
    rw [hb] at hg2
    have e : g = g2 := by
      have h9 : v'.ownBlock = some g2 := hg2
      rw [h1] at h9
      injection h9
    subst e
    rw [hr]
    rcases h2 with h2 | h2
    · exact .inl h2
    · exact .inr ⟨h2.1, by simpa using h2.2⟩
set_option maxHeartbeats 16000000 in
set_option maxRecDepth 20000 in
theorem dif_any (wi : Iv) (a b : List Er) (va vb : Value) (w : World) (ha : HasE w va a) (hb : HasE w vb b) :
    Calls Try.prog 21 #[.agg #[.int .i64 wi.1, .int .i64 wi.2], va, vb] w fun e w' => ∃ u R why, e = .returned (.tuple #[u, .int .i64 why]) ∧ HasI w' u R ∧ Below w.heap.size w w' ∧ (R, why) = difE wi a b := by
  have c1 := fun (W : World) (h : HasE W va a) => check_any wi a va W h
  have c2 := fun (W : World) (h : HasE W vb b) => check_any wi b vb W h
  have HC1 : Hid (okL wi a = false → difE wi a b = ([], 2)) := fun h => by unfold difE; rw [h]; rfl
  have HC2 : Hid (okL wi b = false → difE wi a b = ([], 2)) := fun h => by unfold difE; rw [h, Bool.and_false]; rfl
  have HC3 : Hid (okL wi a = true → okL wi b = true → difE wi a b = (if (difL a b).length ≤ 1024 then (difL a b, 0) else ([], 11))) := fun h1 h2 => by unfold difE; rw [h1, h2]; rfl
  have HLE : Hid (okL wi a = true → okL wi b = true → a.length ≤ 1024 ∧ b.length ≤ 1024) := fun h1 h2 => ⟨(okL_go h1).2.1, (okL_go h2).2.1⟩
  have HMK : Hid (okL wi a = true → okL wi b = true → ∀ (R : List Iv × Int), R = (if (difL a b).length ≤ 1024 then (difL a b, 0) else ([], 11)) → ∀ (W : World) (e : Ending) (W' : World), PostI W (MkI (difL a b)) e W' → ∃ u Q why, e = .returned (.tuple #[u, .int .i64 why]) ∧ HasI W' u Q ∧ Below W.heap.size W W' ∧ (Q, why) = R) := fun h1 h2 Q hQ W e W' ⟨u, R, why, he, hH, hbl, hM⟩ => by
    have h0 := okI_iff.1 (okL_go h1).1
    obtain ⟨hall, hrow, _⟩ := di_row (tog_all h1 h2) h0.1 (by omega)
    have hall' : (difL a b).all okI = true := hall
    rcases hM with ⟨h3, h4, h5⟩ | ⟨_, h3, _⟩ | ⟨h3, _, h5, h6, _, _, h7⟩
    · refine ⟨u, [], why, he, by subst h4; exact hH, hbl, ?_⟩
      rw [hQ, if_neg (by omega), h5]
    · rw [hall'] at h3; cases h3
    · have : R = (difL a b).map toS := row_ext h6 hrow h7
      subst this
      rw [map_of_to hall'] at hH
      refine ⟨u, difL a b, why, he, hH, hbl, ?_⟩
      rw [hQ, if_pos h3, h5]
  generalize difE wi a b = R at *
  obtain ⟨wa, wb⟩ := wi
  simp only at c1 c2 ⊢
  obtain ⟨X, hX⟩ : ∃ X, X = w.alloc (.cells #[.int .i64 wa, .int .i64 wb] 23) := ⟨_, rfl⟩
  have hB0 : Below w.heap.size w X := by rw [hX]; exact below_new (Below.refl _ _) _
  have r0 : RowAt X w.heap.size [.int .i64 wa, .int .i64 wb] 23 := by rw [hX]; exact RowAt.new _ _ _
  have haX := ha.keep hB0
  have hbX := hb.keep hB0
  obtain ⟨g0, hg0⟩ : ∃ g, g = w.heap.size := ⟨_, rfl⟩
  have HG0 : Hid (g0 = w.heap.size) := hg0
  rw [← hg0] at r0
  have HA : Hid (∀ W, Below X.heap.size X W → HasE W va a ∧ HasE W vb b ∧ RowAt W g0 [.int .i64 wa, .int .i64 wb] 23 ∧ Below w.heap.size w W) := fun W hq => ⟨haX.keep hq, hbX.keep hq, r0.below hq, below2 hB0 hq⟩
  obtain ⟨oa, ca, rfl, hca1, hca2⟩ := HasRow.slice ha
  obtain ⟨ob, cb, rfl, hcb1, hcb2⟩ := HasRow.slice hb
  obtain ⟨q0, q1, _⟩ := cells2 r0
  clear ha hb r0 haX hbX
  have hxx := HA.out X (Below.refl _ _)
  have cc := c1 X hxx.1
  clear c1 hxx
  cases hA : okL (wa, wb) a
  · have HV : Hid ((([] : List Iv), (2 : Int)) = R) := (HC1.out hA).symm
    rw [hA] at cc
    have hck : chk false = 2 := rfl
    rw [hck] at cc
    clear HC1 HC2 HC3 HLE HMK hA c2
    generalize a.length = na at *
    generalize b.length = nb at *
    go_enter Try.func21, Try.ntmps21
    go_upto_region 1 with fail
    rw [← hX, ← hg0]
    clear hX hg0
    go_wp2_with fail
    go_at_call 13; refine cc.mono ?_; rintro e w3 ⟨rfl, hb3⟩
    have hBZ := (HA.out _ hb3).2.2.2
    clear cc q0 q1 HA
    go_wp2_with fail
    go_ret2
    exact ⟨_, [], _, rfl, Lk.hasRow_nil _ 2, hBZ, HV.out⟩
  rw [hA] at cc
  have hck : chk true = 0 := rfl
  rw [hck] at cc
  cases hB : okL (wa, wb) b
  · have HV : Hid ((([] : List Iv), (2 : Int)) = R) := (HC2.out hB).symm
    rw [hB] at c2
    have hck2 : chk false = 2 := rfl
    rw [hck2] at c2
    clear HC1 HC2 HC3 HLE HMK hA hB hck hck2
    generalize a.length = na at *
    generalize b.length = nb at *
    go_enter Try.func21, Try.ntmps21
    go_upto_region 1 with fail
    rw [← hX, ← hg0]
    clear hX hg0
    go_wp2_with fail
    go_at_call 13; refine cc.mono ?_; rintro e w3 ⟨rfl, hb3⟩
    obtain ⟨_, hbv, r0, hBZ⟩ := HA.out _ hb3
    have cc2 := c2 _ hbv
    clear cc q0 q1 c2 hbv
    obtain ⟨q0, q1, _⟩ := cells2 r0
    go_wp2_with fail
    go_at_call 13; refine cc2.mono ?_; rintro e w4 ⟨rfl, hb4⟩
    have hBZ := below2 hBZ hb4
    clear cc2 q0 q1 HA r0
    go_wp2_with fail
    go_ret2
    exact ⟨_, [], _, rfl, Lk.hasRow_nil _ 2, hBZ, HV.out⟩
  rw [hB] at c2
  rw [hck] at c2
  obtain ⟨hla, hlb⟩ := HLE.out hA hB
  have HV0 : Hid (R = (if (difL a b).length ≤ 1024 then (difL a b, 0) else ([], 11))) := HC3.out hA hB
  have HMK2 : Hid (∀ (W : World) (e : Ending) (W' : World), PostI W (MkI (difL a b)) e W' → ∃ u Q why, e = .returned (.tuple #[u, .int .i64 why]) ∧ HasI W' u Q ∧ Below W.heap.size W W' ∧ (Q, why) = R) := HMK.out hA hB R HV0.out
  have c3 := fun (v : Value) (W : World) (h : HasE W v a) => verdicts_any a v W h (by omega)
  have c4 := fun (v : Value) (W : World) (h : HasE W v b) => verdicts_any b v W h (by omega)
  have htl := tog_len (a.length + b.length) a b (Nat.le_refl _)
  clear HC1 HC2 HC3 HLE HMK hA hB hck HV0
  have HLA : Hid (a.length ≤ 1024 ∧ b.length ≤ 1024 ∧ (togL a b).length ≤ 2048) := ⟨hla, hlb, by omega⟩
  clear htl
  generalize hna : a.length = na at *
  generalize hnb : b.length = nb at *
  have HNA : Hid (a.length = na ∧ b.length = nb) := ⟨hna, hnb⟩
  clear hna hnb
  refine (callsIn_wide (n := 5)).1 ?_
  refine callsIn_of_wp_marks Try.func21 rfl trivial ?_ rfl
  simp only [Try.ntmps21, List.size_toArray, List.length_cons, List.length_nil, Nat.reduceAdd, Nat.reduceSub, Array.replicate_succ, Array.replicate_zero, List.push_toArray, List.append_toArray, List.nil_append, List.cons_append]
  gi_upto_region 1 with fail
  rw [← hX, ← hg0]
  clear hX hg0
  gi_wp2_with fail
  refine ⟨trivial, ?_⟩
  gi_at_call 13; refine (callsIn_wide.2 cc).mono ?_; rintro e w3 ⟨rfl, hb3⟩
  obtain ⟨_, hbv, r0, hBZ⟩ := HA.out _ hb3
  have cc2 := c2 _ hbv
  clear cc q0 q1 c2 hbv hBZ
  obtain ⟨q0, q1, _⟩ := cells2 r0
  gi_wp2_with fail
  refine ⟨trivial, ?_⟩
  gi_at_call 13; refine (callsIn_wide.2 cc2).mono ?_; rintro e w4 ⟨rfl, hb4⟩
  have hb04 := below2 hb3 hb4
  clear cc2 q0 q1 r0
  gi_upto_region 4 with fail
  obtain ⟨V, hV⟩ : ∃ V, V = w4.alloc (.cells #[.slice none 0 0] 76) := ⟨_, rfl⟩
  have hbV : Below w4.heap.size w4 V := by rw [hV]; exact below_new (Below.refl _ _) _
  have r8 : RowAt V w4.heap.size [.slice none 0 0] 76 := by rw [hV]; exact RowAt.new _ _ _
  rw [← hV]
  clear hV
  have hXV := below2 hb04 hbV
  have hVX : g0 < w4.heap.size := by have h1 := (HA.out w4 hb04).2.2.1; exact RowAt.lt h1
  obtain ⟨rb, hrb⟩ : ∃ g, g = w4.heap.size := ⟨_, rfl⟩
  rw [← hrb] at r8 hVX ⊢
  clear hrb hb3 hb4 hb04 hbV
  have hrV := RowAt.lt r8
  have cc3 := c3 _ V (HA.out V hXV).1
  gi_wp2_with fail
  refine ⟨trivial, ?_⟩
  gi_at_call 38; refine (callsIn_wide.2 cc3).mono ?_; rintro e w5 ⟨u5, rfl, hO5⟩
  have hX5 := below2 hXV hO5.bl
  have cc4 := c4 _ w5 (HA.out w5 hX5).2.1
  gi_wp2_with fail
  refine ⟨trivial, ?_⟩
  gi_at_call 38; refine (callsIn_wide.2 cc4).mono ?_; rintro e w6 ⟨u6, rfl, hO6⟩
  have hX6 := below2 hX5 hO6.bl
  have h5 : HasL w6 u5 a := hO5.has.keep hO6.bl
  have h6 : HasL w6 u6 b := hO6.has
  have r8' : RowAt w6 rb [.slice none 0 0] 76 := (r8.below hO5.bl).below hO6.bl
  have HNE5 : Hid (∀ k, u5.ownBlock = some k → rb < k) := fun k hk => by have := (hO5.ou.lt k hk).1; omega
  have HNE6 : Hid (∀ k, u6.ownBlock = some k → rb < k) := fun k hk => by have := (hO6.ou.lt k hk).1; have := hO5.bl.size; omega
  obtain ⟨o5, k5, rfl, _, _⟩ := HasRow.slice h5
  obtain ⟨o6, k6, rfl, _, _⟩ := HasRow.slice h6
  have ct := together_any (.slice o5 a.length k5) (.slice o6 b.length k6) w6 ⟨_, _, _, rfl⟩ ⟨_, _, _, rfl⟩
  clear cc3 cc4 hO5 hO6 c3 c4 r8 hXV hX5
  gi_wp2_with fail
  refine ⟨trivial, ?_⟩
  gi_at_call 47; refine (callsIn_wide.2 ct).mono ?_; rintro e Z ⟨rfl, hZ⟩
  clear ct
  have hbZ : Below w6.heap.size w6 Z := by rw [hZ]; exact below_new (below_new (Below.refl _ _) _) _
  have sa : RowAt Z w6.heap.size [.slice o5 a.length k5] 62 := by rw [hZ]; exact (RowAt.new _ _ _).alloc _
  have sb : RowAt Z (w6.heap.size + 1) [.slice o6 b.length k6] 62 := by
    have h := RowAt.new (w6.alloc (.cells #[.slice o5 a.length k5] 62)) [.slice o6 b.length k6] 62
    simp only [World.size_alloc] at h
    rw [hZ]; exact h
  clear hZ
  have hrg := RowAt.lt r8'
  obtain ⟨gV, hgV⟩ : ∃ g, g = w6.heap.size := ⟨_, rfl⟩
  rw [← hgV] at sa sb hrg ⊢
  have t8 : RowAt Z rb [.slice none 0 0] 76 := r8'.below hbZ
  have hrk : rowK Z rb = none := by unfold rowK; rw [t8.cell 0]; rfl
  have hZs := RowAt.lt sb
  have hrZ := RowAt.lt t8
  have hst := tog1_stops a b o5 o6 k5 k6 (5 - 1) gV (gV + 1) rb Z (h5.keep hbZ) (h6.keep hbZ) sa sb hrZ (by omega) (by omega)
    (fun p hp _ => by subst hp; have := HNE5.out p.block rfl; omega) (fun p hp _ => by subst hp; have := HNE6.out p.block rfl; omega) hrk (by rw [HNA.out.1]; exact HLA.out.1) (by rw [HNA.out.2]; exact HLA.out.2.1)
  have hXZ := below2 hX6 hbZ
  have hBw := (HA.out Z hXZ).2.2.2
  have hg0w : g0 ≤ w.heap.size := by have := HG0.out; omega
  have I0 : DN g0 rb Z.heap.size w [] Z := ⟨⟨_, (show Boxed Z rb 76 (.slice none 0 0) from t8), World.ownsRow_nil _ _ _ _, trivial⟩, by rw [HG0.out]; exact hBw, by omega⟩
  clear hX6 hbZ hgV r8' HNE5 HNE6 h5 h6 sa sb hXZ hBw
  gi_wp2_with fail
  refine wpIn_rangeFunc_ownH (α := Tg) rfl (by omega) (gf := 67) (lb := #[.pointer (some ⟨gV, 0, none⟩), .pointer (some ⟨gV + 1, 0, none⟩)]) rfl trivial (enters_of Try.func67 (by kernel_rfl) rfl)
    hst kr_t (kr_b (by omega)) (Below.refl _ _) (fun _ => rfl)
    (DN g0 rb Z.heap.size w) (fun cd pre W => False) (dn_own _ _ _ _ w hg0w (by omega)) (fun cd s A B row hs hg hr => hs) I0
    (fun x a' W => ∃ Bx By, (Z.heap.size ≤ Bx ∧ RowAt W Bx [.int .i64 x.lo, .int .i64 x.hi] 23) ∧ (Z.heap.size ≤ By ∧ RowAt W By [.int .u8 x.u.kind, .int .i64 x.u.at', .int .u8 x.v.kind, .int .i64 x.v.at'] 80) ∧ a' = { tmps := #[.agg #[.int .i64 wa, .int .i64 wb], .slice oa na ca, .slice ob nb cb, .pointer (some ⟨g0, 0, none⟩), undef, undef, .slice none 0 0, .int .i64 0, .pointer (some ⟨rb, 0, none⟩), .pointer (some ⟨Bx, 0, none⟩), .pointer (some ⟨By, 0, none⟩), .agg #[.int .i64 wa, .int .i64 wb], .slice oa na ca, .int .i64 0, .bool false, .bool false, .agg #[.int .i64 wa, .int .i64 wb], .slice ob nb cb, .int .i64 0, .bool false, .bool false, .slice oa na ca, .slice o5 a.length k5, .slice ob nb cb, .slice o6 b.length k6, .func (.func 67) #[] #[.pointer (some ⟨gV, 0, none⟩), .pointer (some ⟨gV + 1, 0, none⟩)], .agg #[.int .i64 x.lo, .int .i64 x.hi], .agg #[.int .u8 x.u.kind, .int .i64 x.u.at', .int .u8 x.v.kind, .int .i64 x.v.at'], undef, undef, undef, undef, undef, undef, undef, undef, undef, undef, undef, undef, undef], defers := [] })
    (fun x a' s A B row hs hg hr => by
      obtain ⟨Bx, By, ⟨h1, h2⟩, ⟨h3, h4⟩, e⟩ := hs
      exact ⟨Bx, By, ⟨h1, rowAt_own (β := Unit) Bx _ _ _ () A B row h2 hg hr⟩, ⟨h3, rowAt_own (β := Unit) By _ _ _ () A B row h4 hg hr⟩, e⟩)
    ?assign ?body ?done ?stop
  case assign =>
    rintro lp pre x W K hG hK
    have hsW : Z.heap.size ≤ W.heap.size := hG.2.2
    have rv : RowAt ((W.alloc (.cells #[.int .i64 x.lo, .int .i64 x.hi] 23)).alloc (.cells #[.int .u8 x.u.kind, .int .i64 x.u.at', .int .u8 x.v.kind, .int .i64 x.v.at'] 80)) (W.heap.size + 1) [.int .u8 x.u.kind, .int .i64 x.u.at', .int .u8 x.v.kind, .int .i64 x.v.at'] 80 := by
      have h := RowAt.new (W.alloc (.cells #[.int .i64 x.lo, .int .i64 x.hi] 23)) [.int .u8 x.u.kind, .int .i64 x.u.at', .int .u8 x.v.kind, .int .i64 x.v.at'] 80
      simp only [World.size_alloc] at h
      exact h
    have hA := hK _ ((W.alloc (.cells #[.int .i64 x.lo, .int .i64 x.hi] 23)).alloc (.cells #[.int .u8 x.u.kind, .int .i64 x.u.at', .int .u8 x.v.kind, .int .i64 x.v.at'] 80)) (((KeepsOthers.alloc W _).trans (KeepsOthers.alloc _ _)).from _) (kr_below (below_new (below_new (Below.refl _ _) _) _) (by omega)) (dn_own _ _ _ Z.heap.size w hg0w (by omega) pre W _ none hG ((World.grownBy_alloc W _ none).trans (World.grownBy_alloc _ _ none)) (fun r e => by cases e)) ⟨W.heap.size, W.heap.size + 1, ⟨hsW, (RowAt.new W [.int .i64 x.lo, .int .i64 x.hi] _).alloc _⟩, ⟨by omega, rv⟩, rfl⟩
    unfold encT
    gi_wp2
    exact hA
  case body =>
    rintro lp pre x a' W hlp ⟨rr, hrr⟩ hG ⟨Bx, By, ⟨hx1, hF⟩, ⟨hy1, hF2⟩, rfl⟩ hlt
    obtain ⟨⟨v, hv, hown, -⟩, hBw, hsz⟩ := hG
    have hfl := foldT_len pre []
    have hln : (foldT [] pre).length ≤ 1000000 := by
      have := HLA.out.2.2
      simp only [List.length_nil] at hfl
      omega
    have HL2 : Hid (foldT [] (pre ++ [x]) = putB (foldT [] pre) x.lo x.hi (!eqV x.u x.v)) := foldT_snoc _ _ _
    have HCP : Hid (∀ W', Below W.heap.size W W' → Calls Try.prog 48 #[v, .agg #[.int .i64 x.lo, .int .i64 x.hi], .bool (!eqV x.u x.v)] W' fun e w2 => ∃ u', e = .returned u' ∧ w2.ownsRow (rb + 1) 111 3 u' (foldT [] (pre ++ [x])).length (csB (foldT [] (pre ++ [x]))) ∧ W.grownBy w2 v.ownBlock ∧ ∃ g, u'.ownBlock = some g ∧ (v.ownBlock = some g ∨ (W.heap.size ≤ g ∧ g < w2.heap.size))) := fun W' hq => by
      rw [HL2.out]
      refine (putB_any (rb + 1) W' v (foldT [] pre) x.lo x.hi (!eqV x.u x.v) (own_below hown hq) (by have := hq.size; omega) hln).mono ?_
      rintro e w2 ⟨u', he, h1, h2, g, h3, h4⟩
      refine ⟨u', he, h1, ⟨h2.os.trans hq.os, h2.tape.trans hq.tape, h2.output.trans hq.output, Nat.le_trans hq.size h2.size, fun k hk hne => (h2.block k (Nat.lt_of_lt_of_le hk hq.size) hne).trans (hq.block k hk)⟩, g, h3, ?_⟩
      rcases h4 with h4 | h4
      · exact .inl h4
      · exact .inr ⟨Nat.le_trans hq.size h4.1, h4.2⟩
    have hneq := fun W => vd_neq x.u x.v W
    have hvg := vd_guard
    obtain ⟨q0, q1, qf⟩ := cells2 hF
    obtain ⟨p0, p1, p2, p3, pf⟩ := cells4 hF2
    have c8 := hv.cell
    have f8 := hv.frozen
    have hrow : ∀ (b : Nat), b < rb + 1 → some b ≠ v.ownBlock := fun b hb => row_ne hown hb
    generalize (!eqV x.u x.v) = H at *
    generalize x.u.kind = uk at *
    generalize x.u.at' = ui at *
    generalize x.v.kind = vk at *
    generalize x.v.at' = vi at *
    generalize x.lo = lo at *
    generalize x.hi = hi' at *
    have mixed : Try.prog.follows .mixedOrders = true := by kernel_rfl
    gi_wp2_with fail
    gi_region_with_o (
      refine ⟨trivial, ?_⟩
      gi_at_call 48
      refine (CallsIn.inRound lp (callsIn_wide.2 (HCP.out _ (by (repeat' (first | exact Below.refl _ _ | refine Below.drew ?_)))))).mono ?_
      rintro e w2 ⟨u', rfl, hown2, hgrow, g, hg1, hg2⟩
      obtain ⟨o9, c9, rfl, _, _⟩ := HasRow.slice (hasRow_own hown2)
      have hv2 : Boxed w2 rb 76 v := hv.kept hgrow (hrow rb (by omega))
      have c8' := hv2.cell
      have f8' := hv2.frozen)
    all_goals (try gi_wp2)
    all_goals refine ⟨?_, ?_, ⟨⟨_, hv2.set _, ?_, trivial⟩, ?_, ?_⟩⟩
    all_goals first
      | exact ((ko_row hown hgrow).trans (KeepsOthers.setCell _ _ _)).from _
      | exact kr_grow hv hv2 hgrow hg1 hg2
      | exact own_set hown2 (b := rb) (by omega) _
      | exact (below_row hBw (by have := hBw.size; have := HG0.out; omega) (by omega) hown hgrow).setCell (p := ⟨rb, 0, none⟩) (show g0 ≤ rb by omega) _
      | (have h1 := hgrow.size; simp; omega)
      | skip
  case done =>
    rintro D xs W hD hS ⟨⟨v, hv, hown, -⟩, hBw, hsz⟩ hK
    obtain rfl : xs = togL a b := hS
    have hDl := (Array.getElem?_eq_some_iff.1 hK).1
    have hln : (foldT [] (togL a b)).length ≤ 100000 := by
      have h1 := HLA.out.2.2
      have h2 := foldT_len (togL a b) []
      simp only [List.length_nil] at h2
      omega
    have cw := whenB_any (foldT [] (togL a b)) v W (hasRow_own hown) hln
    have cm := fun (u : Value) (W : World) (h : HasI W u (difL a b)) => makeI_any (difL a b) u W h
    have c8 := hv.cell
    have mixed : Try.prog.follows .mixedOrders = true := by kernel_rfl
    clear hst
    gi_wp2_with fail
    refine ⟨trivial, ?_⟩
    gi_at_call 49; refine (callsIn_wide.2 cw).mono ?_; rintro e w7 ⟨u7, rfl, hO7⟩
    have h7 : HasI w7 u7 (difL a b) := hO7.has
    have cm7 := cm u7 w7 h7
    clear cw c8
    gi_wp2_with fail
    refine ⟨trivial, ?_⟩
    gi_at_call 43; refine (callsIn_wide.2 cm7).mono ?_; intro e w8 hp8
    obtain ⟨u8, Q, why, rfl, hQ, hb8, hR8⟩ := HMK2.out _ _ _ hp8
    have hb78 := below2 hO7.bl hb8
    have hK8 : w8.heap[D]? = some (.deferred (some [])) := (hb78.block D hDl).trans hK
    have HQ : Hid (HasI w8 u8 Q) := hQ
    clear cm7 hp8 h7
    gi_wp2
    refine ⟨by simp, .inl ⟨_, _, rfl, run_takeDeferred (w := w8) hK8, ?_⟩⟩
    refine ⟨_, results_tmp2 rfl _ _ _, ?_⟩
    refine ⟨u8, Q, why, rfl, hasRow_put HQ.out _ hK8 rfl, ?_, hR8⟩
    rw [← HG0.out]
    exact (hBw.trans (hb78.mono (by have := hBw.size; have := HG0.out; omega))).trans (belowK_b (w := Z) (by omega) w8 D _ _ (by omega) hK8 rfl rfl)
  case stop =>
    rintro D c pre W hD _ h
    exact h.elim
end Go.Proofs.Ytmkbijnndbgjgaa.Ln
