/- What span.Make, Or, And, Not and Has return. -/
import Derived.Test.YtmkbijnndbgjgaaSpChk
set_option linter.unusedVariables false
namespace Go.Proofs.Ytmkbijnndbgjgaa.Sp
open Go.RowKit Go.Shelf
open Go.Proofs.Ytmkbijnndbgjgaa.Lk (HasRow hasRow_own addr_add)
open Go.Proofs.Ytmkbijnndbgjgaa.Addr (Pf pfV okP lastN lastE wideN rightB hiN loN adV cmpN RowAt below2 below_drew below_new bset RowAt.lt RowAt.cell RowAt.frozen RowAt.below RowAt.drew RowAt.new RowAt.alloc cells2 cells4 results_cell gset grefl Bl bl_ne wp_region_bl bl_call bl_same)
/-- a row is answered, or why there is none -/
def AnsIs (six : Bool) (w : World) (ok : Bool) (bad : Int) (m : Nat → Bool) (bound : Nat) (e : Ending) (w' : World) : Prop := ∃ u R, ∃ why : Int, e = .returned (.tuple #[u, .int .i64 why]) ∧ Own1 w w' 115 u R ∧
  (ok = false → why = bad ∧ R = []) ∧ (ok = true → (why = 0 ∧ Row six R ∧ (∀ x, inB R x = m x) ∧ R.length ≤ 1024 ∧ R.length ≤ bound) ∨ (why = 11 ∧ R = [] ∧ ∃ L, Row six L ∧ (∀ x, inB L x = m x) ∧ 1024 < L.length ∧ L.length ≤ bound))
theorem ans_bad {six : Bool} {w w' : World} {bad : Int} {m : Nat → Bool} {bound : Nat} (hb : Below w.heap.size w w') : AnsIs six w false bad m bound (.returned (.tuple #[.slice none 0 0, .int .i64 bad])) w' :=
  ⟨.slice none 0 0, [], bad, rfl, ⟨World.ownsRow_nil _ _ _ _, hb⟩, fun _ => ⟨rfl, rfl⟩, (fun h => by cases h)⟩
theorem ans_ok {six : Bool} {w w' : World} {bad : Int} {m : Nat → Bool} {bound : Nat} {u : Value} {R : List Sp} (hO : Own1 w w' 115 u R) (h1 : Row six R) (h2 : ∀ x, inB R x = m x) (h3 : R.length ≤ 1024) (h4 : R.length ≤ bound) : AnsIs six w true bad m bound (.returned (.tuple #[u, .int .i64 0])) w' :=
  ⟨u, R, 0, rfl, hO, (fun h => by cases h), fun _ => .inl ⟨rfl, h1, h2, h3, h4⟩⟩
theorem ans_long {six : Bool} {w w' : World} {bad : Int} {m : Nat → Bool} {bound : Nat} {R : List Sp} (hb : Below w.heap.size w w') (h1 : Row six R) (h2 : ∀ x, inB R x = m x) (h3 : 1024 < R.length) (h4 : R.length ≤ bound) : AnsIs six w true bad m bound (.returned (.tuple #[.slice none 0 0, .int .i64 11])) w' :=
  ⟨.slice none 0 0, [], 11, rfl, ⟨World.ownsRow_nil _ _ _ _, hb⟩, (fun h => by cases h), fun _ => .inr ⟨rfl, rfl, R, h1, h2, h3, h4⟩⟩
/-- what told makes of a row of runs that was made -/
theorem told_ans {six : Bool} {w w1 : World} {bad : Int} {m : Nat → Bool} {bound : Nat} {u : Value} {R : List Sp} (hb : Below w.heap.size w w1) (hu : HasSps w1 u R) (h1 : Row six R) (h2 : ∀ x, inB R x = m x) (h4 : R.length ≤ bound) : Calls Try.prog 70 #[u] w1 fun e w' => (∃ v, ∃ why : Int, e = .returned (.tuple #[v, .int .i64 why])) ∧ AnsIs six w true bad m bound e w' := by
  by_cases hl : R.length ≤ 1024
  · refine (toldF_any R u w1 hu hl).mono ?_
    rintro e w2 ⟨v, rfl, hO⟩
    exact ⟨⟨_, _, rfl⟩, ans_ok (hO.to hb) h1 h2 hl h4⟩
  · refine (toldB_any R u w1 hu (by omega)).mono ?_
    rintro e w2 ⟨rfl, rfl⟩
    exact ⟨⟨_, _, rfl⟩, ans_long hb h1 h2 (by omega) h4⟩
set_option maxHeartbeats 4000000 in
theorem or_any (six : Bool) (la lb : List Sp) (va vb : Value) (w : World) (ha : HasSps w va la) (hb : HasSps w vb lb) (hfa : ∀ s ∈ la, FitS s) (hfb : ∀ s ∈ lb, FitS s) :
    Calls Try.prog 54 #[.bool six, va, vb] w (AnsIs six w (okB six la && okB six lb) 2 (fun x => inB la x || inB lb x) (la.length + lb.length)) := by
  obtain ⟨oa, ca, rfl, _, _⟩ := HasRow.slice ha
  obtain ⟨ob, cb, rfl, _, _⟩ := HasRow.slice hb
  obtain ⟨X, hX⟩ : ∃ X, X = w.alloc (.cells #[.slice oa la.length ca, .slice ob lb.length cb] 88) := ⟨_, rfl⟩
  have hB : Below w.heap.size w X := by rw [hX]; exact below_new (Below.refl _ _) _
  have rx : RowAt X w.heap.size [.slice oa la.length ca, .slice ob lb.length cb] 88 := by rw [hX]; exact RowAt.new _ _ _
  have cc := checkAll2_any six w.heap.size la lb _ _ X rx.lt (rx.cell 0) (rx.cell 1) (ha.keep hB) (hb.keep hB) hfa hfb
  clear rx
  cases hok : (okB six la && okB six lb)
  · rw [hok] at cc
    generalize la.length = na at *
    generalize lb.length = nb at *
    clear ha hb hfa hfb hok
    unfold chk at cc
    simp only [Bool.false_eq_true, if_false] at cc
    go_enter Try.func54, Try.ntmps54
    go_wp2_with fail
    rw [← hX]
    clear hX
    go_at_call 69; refine cc.mono ?_; rintro e w2 ⟨rfl, hb2⟩
    replace hB := below2 hB hb2
    go_wp2_with fail
    go_ret2
    exact ans_bad hB
  · rw [hok] at cc
    have hab := (Bool.and_eq_true _ _).mp hok
    have oka := okB_iff.1 hab.1
    have okb := okB_iff.1 hab.2
    have hall : ∀ s ∈ la ++ lb, okS six s = true := fun s hs => by
      rcases List.mem_append.1 hs with hs | hs
      · exact oka.2.1 s hs
      · exact okb.2.1 s hs
    have cg := addresses_any six
    have cct := fun (b : Nat) (W : World) (hb0 : b < W.heap.size) (h0 : W.cell? ⟨b, 0, none⟩ = some (.slice oa la.length ca)) (h1 : W.cell? ⟨b, 1, none⟩ = some (.slice ob lb.length cb)) (h2 : HasSps W (.slice oa la.length ca) la) (h3 : HasSps W (.slice ob lb.length cb) lb) => concat2_any b la lb oa ob la.length lb.length ca cb W hb0 h0 h1 rfl rfl h2 h3 (by omega) (by omega)
    have crun := fun (W : World) (u : Value) (hq : HasSps W u (la ++ lb)) => runs_any (la ++ lb) u W hq (by rw [List.length_append]; omega)
    have cor := fun (W : World) (u : Value) (g : Nat) (hq : HasSps W u (la ++ lb)) (hg : SixAt W g six) => orF_any six (la ++ lb) u g W hq hall hg (by rw [List.length_append]; omega)
    have HK : Hid (∀ W, Below w.heap.size w W → HasSps W (.slice oa la.length ca) la ∧ HasSps W (.slice ob lb.length cb) lb) := fun W hq => ⟨ha.keep hq, hb.keep hq⟩
    have HM : Hid (∀ R : List Sp, (∀ x, inB R x = inB (la ++ lb) x) → R.length ≤ (la ++ lb).length → (∀ x, inB R x = (inB la x || inB lb x)) ∧ R.length ≤ la.length + lb.length) := fun R h1 h2 => ⟨fun x => by rw [h1, inB_app], by rw [List.length_append] at h2; exact h2⟩
    clear ha hb hfa hfb hok hab oka okb hall
    unfold fdV f0 f1 f2 f3 at cor
    unfold chk at cc
    simp only [if_true] at cc
    go_enter Try.func54, Try.ntmps54
    go_wp2_with fail
    rw [← hX]
    clear hX
    go_at_call 69; refine cc.mono ?_; rintro e w2 ⟨rfl, hb2⟩
    replace hB := below2 hB hb2
    clear hb2 cc
    go_wp2_with fail
    go_at_call 71; refine (cg _).mono ?_; rintro e w3 ⟨g, rfl, hg, -, hb3⟩
    replace hB := below2 hB hb3
    clear hb3 cg
    obtain ⟨Y, hY⟩ : ∃ Y, Y = w3.alloc (.cells #[.slice oa la.length ca, .slice ob lb.length cb] 88) := ⟨_, rfl⟩
    have hbY : Below w3.heap.size w3 Y := by rw [hY]; exact below_new (Below.refl _ _) _
    have ry : RowAt Y w3.heap.size [.slice oa la.length ca, .slice ob lb.length cb] 88 := by rw [hY]; exact RowAt.new _ _ _
    replace hB := below2 hB hbY
    replace hg := hg.keep hbY
    obtain ⟨k1, k2⟩ := HK.out _ hB
    have ccy := cct w3.heap.size Y ry.lt (ry.cell 0) (ry.cell 1) k1 k2
    clear ry k1 k2 cct hbY
    unfold fdV f0 f1 f2 f3
    go_wp2_with fail
    rw [← hY]
    clear hY
    go_at_call 74; refine ccy.mono ?_; rintro e w4 ⟨v4, rfl, ho4, hb4⟩
    replace hB := below2 hB hb4
    replace hg := hg.keep hb4
    have hv4 : HasSps w4 v4 (la ++ lb) := hasRow_own ho4
    clear ho4 hb4 ccy
    go_wp2_with fail
    go_at_call 73; refine (crun _ _ hv4).mono ?_; rintro e w5 ⟨v5, rfl, hO5⟩
    replace hB := below2 hB hO5.bl
    replace hg := hg.keep hO5.bl
    have hv5 := hO5.has
    clear hO5 hv4 crun
    go_wp2_with fail
    go_at_call 72; refine (cor _ _ _ hv5 hg).mono ?_; rintro e w6 ⟨v6, R, rfl, hO6, hR1, hR2, hR3⟩
    replace hB := below2 hB hO6.bl
    have hv6 := hO6.has
    obtain ⟨m1, m2⟩ := HM.out R hR2 hR3
    have ct := told_ans (bad := 2) hB hv6 hR1 m1 m2
    clear hO6 hv5 hg cor hR1 hR2 hR3 m1 m2 hv6 HM
    go_wp2_with fail
    go_at_call 70; refine ct.mono ?_; rintro e w7 ⟨⟨v7, why, rfl⟩, hA⟩
    have HA : Hid (AnsIs six w true 2 (fun x => inB la x || inB lb x) (la.length + lb.length) (.returned (.tuple #[v7, .int .i64 why])) w7) := hA
    clear hA ct
    go_wp2_with fail
    go_ret2
    exact HA.out
set_option maxHeartbeats 4000000 in
theorem and_any (six : Bool) (la lb : List Sp) (va vb : Value) (w : World) (ha : HasSps w va la) (hb : HasSps w vb lb) (hfa : ∀ s ∈ la, FitS s) (hfb : ∀ s ∈ lb, FitS s) :
    Calls Try.prog 61 #[.bool six, va, vb] w (AnsIs six w (okB six la && okB six lb) 2 (fun x => inB la x && inB lb x) (la.length + lb.length)) := by
  obtain ⟨oa, ca, rfl, _, _⟩ := HasRow.slice ha
  obtain ⟨ob, cb, rfl, _, _⟩ := HasRow.slice hb
  obtain ⟨X, hX⟩ : ∃ X, X = w.alloc (.cells #[.slice oa la.length ca, .slice ob lb.length cb] 88) := ⟨_, rfl⟩
  have hB : Below w.heap.size w X := by rw [hX]; exact below_new (Below.refl _ _) _
  have rx : RowAt X w.heap.size [.slice oa la.length ca, .slice ob lb.length cb] 88 := by rw [hX]; exact RowAt.new _ _ _
  have cc := checkAll2_any six w.heap.size la lb _ _ X rx.lt (rx.cell 0) (rx.cell 1) (ha.keep hB) (hb.keep hB) hfa hfb
  clear rx
  cases hok : (okB six la && okB six lb)
  · rw [hok] at cc
    generalize la.length = na at *
    generalize lb.length = nb at *
    clear ha hb hfa hfb hok
    unfold chk at cc
    simp only [Bool.false_eq_true, if_false] at cc
    go_enter Try.func61, Try.ntmps61
    go_wp2_with fail
    rw [← hX]
    clear hX
    go_at_call 69; refine cc.mono ?_; rintro e w2 ⟨rfl, hb2⟩
    replace hB := below2 hB hb2
    go_wp2_with fail
    go_ret2
    exact ans_bad hB
  · rw [hok] at cc
    have hab := (Bool.and_eq_true _ _).mp hok
    have oka := okB_iff.1 hab.1
    have okb := okB_iff.1 hab.2
    have cg := addresses_any six
    have cruna := fun (W : World) (hq : HasSps W (.slice oa la.length ca) la) => runs_any la (.slice oa la.length ca) W hq (by omega)
    have crunb := fun (W : World) (hq : HasSps W (.slice ob lb.length cb) lb) => runs_any lb (.slice ob lb.length cb) W hq (by omega)
    have cand := fun (W : World) (u v : Value) (g : Nat) (hq : HasSps W u la) (hr : HasSps W v lb) (hg : SixAt W g six) => andF_any six la lb u v g W hq hr oka.2 okb.2 hg (by omega) (by omega)
    have HK : Hid (∀ W, Below w.heap.size w W → HasSps W (.slice oa la.length ca) la ∧ HasSps W (.slice ob lb.length cb) lb) := fun W hq => ⟨ha.keep hq, hb.keep hq⟩
    clear ha hb hfa hfb hok hab oka okb
    unfold fdV f0 f1 f2 f3 at cand
    unfold chk at cc
    simp only [if_true] at cc
    go_enter Try.func61, Try.ntmps61
    go_wp2_with fail
    rw [← hX]
    clear hX
    go_at_call 69; refine cc.mono ?_; rintro e w2 ⟨rfl, hb2⟩
    replace hB := below2 hB hb2
    clear hb2 cc
    go_wp2_with fail
    go_at_call 71; refine (cg _).mono ?_; rintro e w3 ⟨g, rfl, hg, -, hb3⟩
    replace hB := below2 hB hb3
    clear hb3 cg
    unfold fdV f0 f1 f2 f3
    go_wp2_with fail
    go_at_call 73; refine (cruna _ (HK.out _ hB).1).mono ?_; rintro e w4 ⟨v4, rfl, hO4⟩
    replace hB := below2 hB hO4.bl
    replace hg := hg.keep hO4.bl
    have hv4 := hO4.has
    clear hO4 cruna
    go_wp2_with fail
    go_at_call 73; refine (crunb _ (HK.out _ hB).2).mono ?_; rintro e w5 ⟨v5, rfl, hO5⟩
    replace hB := below2 hB hO5.bl
    replace hg := hg.keep hO5.bl
    replace hv4 := hv4.keep hO5.bl
    have hv5 := hO5.has
    clear hO5 crunb
    go_wp2_with fail
    go_at_call 82; refine (cand _ _ _ _ hv4 hv5 hg).mono ?_; rintro e w6 ⟨v6, R, rfl, hO6, hR1, hR2, hR3⟩
    replace hB := below2 hB hO6.bl
    have hv6 := hO6.has
    have ct := told_ans (bad := 2) (m := fun x => inB la x && inB lb x) hB hv6 hR1 hR2 hR3
    clear hO6 hv4 hv5 hg cand hR1 hR2 hR3 hv6
    go_wp2_with fail
    go_at_call 70; refine ct.mono ?_; rintro e w7 ⟨⟨v7, why, rfl⟩, hA⟩
    have HA : Hid (AnsIs six w true 2 (fun x => inB la x && inB lb x) (la.length + lb.length) (.returned (.tuple #[v7, .int .i64 why])) w7) := hA
    clear hA ct
    go_wp2_with fail
    go_ret2
    exact HA.out
end Go.Proofs.Ytmkbijnndbgjgaa.Sp
