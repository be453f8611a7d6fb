/- For any two addresses of either kind: spoorlaw09.AddrSteps returns true, and changes nothing that was there. No condition. -/
import Derived.Test.YtengicljipfckaaRows
import Derived.Test.YtengicljipfckaaAddrSteps
import Derived.Test.YtengicljipfckaaAddrRef2
import Derived.Test.YtengicljipfckaaAddrOpen
import Derived.ProofKit
import Derived.OpenShut
import Derived.ShutString
import Derived.SizedLaws
set_option linter.unusedVariables false
namespace Go.Proofs.Ytengicljipfckaa
namespace addrSteps
open Go.ChangeShapes Go.WideShapes Go.ChangeAt Go.RowKit
open Go.ChangeMaps (open_string shut_string)
open Go.Proofs.Ytengicljipfckaa.Addr

theorem own : ownKnob Try.prog.godebug = none := by kernel_rfl
theorem laidOut : laidOutB Try.prog = true := by kernel_rfl

set_option maxHeartbeats 4000000 in
set_option maxRecDepth 20000 in
theorem walk (six : Bool) (a b : Nat) (w : World) (b1 : a < 2 ^ 128) (b2 : b < 2 ^ 128) :
    Calls Try.prog 3 #[.bool six, adV a, adV b] w fun e w' => e = .returned (.bool true) ∧ Below w.heap.size w w' := by
  have hv := steps_any
  have c1 := fun w => next_any six a w b1
  have c2 := fun w => rnext_any six a w b1
  have c3 := fun w => prev_any six a w b1
  have c4 := fun w => rprev_any six a w b1
  have c5 := fun w => right_any six a w b1
  have c6 := fun w => rright_any six a w b1
  have c7 := fun w => cmp_any a b w b1 b2
  have c8 := fun w => rcmp_any a b w b1 b2
  have q1 := fun w => ad_eql (nextE six a).1 (nextE six a).1 w
  have q2 := fun w => ad_eql (prevE six a).1 (prevE six a).1 w
  rw [decide_eq_true rfl] at q1 q2
  have hgd := ad_guard
  generalize (nextE six a).1 = n1 at *
  generalize (nextE six a).2 = n2 at *
  generalize (prevE six a).1 = p1 at *
  generalize (prevE six a).2 = p2 at *
  generalize rightB six a = R at *
  generalize cmpN a b = K at *
  unfold adV at *
  generalize hiN n1 = n1h at *
  generalize loN n1 = n1l at *
  generalize hiN p1 = p1h at *
  generalize loN p1 = p1l at *
  generalize hiN a = ah at *
  generalize loN a = al at *
  generalize hiN b = bh at *
  generalize loN b = bl at *
  clear b1 b2
  have hW : Below w.heap.size w w := Below.refl _ _
  go_enter Try.func3, Try.ntmps3
  obtain ⟨X1, hX1⟩ : ∃ X, X = ((w.alloc (.cells #[.int .u64 (ah : Int), .int .u64 (al : Int)] 24)).alloc (.cells #[.int .u64 (bh : Int), .int .u64 (bl : Int)] 24)) := ⟨_, rfl⟩
  obtain ⟨gra, hgra⟩ : ∃ g, g = w.heap.size := ⟨_, rfl⟩
  obtain ⟨grb, hgrb⟩ : ∃ g, g = w.heap.size + 1 := ⟨_, rfl⟩
  have hbX1 : Below w.heap.size w X1 := by rw [hX1]; exact below_new (below_new (Below.refl _ _) _) _
  have ra : RowAt X1 gra [.int .u64 (ah : Int), .int .u64 (al : Int)] 24 := by
    have h := (RowAt.new w [.int .u64 (ah : Int), .int .u64 (al : Int)] 24).alloc (.cells #[.int .u64 (bh : Int), .int .u64 (bl : Int)] 24)
    rw [hgra, hX1]; exact h
  have rb : RowAt X1 grb [.int .u64 (bh : Int), .int .u64 (bl : Int)] 24 := by
    have h := RowAt.new (w.alloc (.cells #[.int .u64 (ah : Int), .int .u64 (al : Int)] 24)) [.int .u64 (bh : Int), .int .u64 (bl : Int)] 24
    simp only [World.size_alloc] at h
    rw [hgrb, hX1]; exact h
  replace hW := below2 hW hbX1
  go_upto_region 1 with fail
  rw [← hX1, ← hgrb, ← hgra]
  clear hX1 hbX1 hgra hgrb
  obtain ⟨raq0, raq1, raf⟩ := cells2 ra
  go_wp2_with fail
  go_at_call 7; refine (c1 _).mono ?_; rintro e w2 ⟨rfl, hb⟩
  clear raq0 raq1 raf
  replace ra := ra.below hb
  replace rb := rb.below hb
  replace hW := below2 hW hb
  clear hb
  obtain ⟨X3, hX3⟩ : ∃ X, X = (w2.alloc (.cells #[.int .u64 (n1h : Int), .int .u64 (n1l : Int)] 24)) := ⟨_, rfl⟩
  obtain ⟨grc, hgrc⟩ : ∃ g, g = w2.heap.size := ⟨_, rfl⟩
  have hbX3 : Below w2.heap.size w2 X3 := by rw [hX3]; exact below_new (Below.refl _ _) _
  replace ra := ra.below hbX3
  replace rb := rb.below hbX3
  have rc : RowAt X3 grc [.int .u64 (n1h : Int), .int .u64 (n1l : Int)] 24 := by
    have h := RowAt.new w2 [.int .u64 (n1h : Int), .int .u64 (n1l : Int)] 24
    rw [hgrc, hX3]; exact h
  replace hW := below2 hW hbX3
  go_upto_region 2 with fail
  rw [← hX3, ← hgrc]
  clear hX3 hbX3 hgrc
  obtain ⟨raq0, raq1, raf⟩ := cells2 ra
  go_wp2_with fail
  go_at_call 8; refine (c2 _).mono ?_; rintro e w4 ⟨rfl, hb⟩
  clear raq0 raq1 raf
  replace ra := ra.below hb
  replace rb := rb.below hb
  replace rc := rc.below hb
  replace hW := below2 hW hb
  clear hb
  obtain ⟨X5, hX5⟩ : ∃ X, X = (w4.alloc (.cells #[.int .u64 (n1h : Int), .int .u64 (n1l : Int)] 24)) := ⟨_, rfl⟩
  obtain ⟨grd, hgrd⟩ : ∃ g, g = w4.heap.size := ⟨_, rfl⟩
  have hbX5 : Below w4.heap.size w4 X5 := by rw [hX5]; exact below_new (Below.refl _ _) _
  replace ra := ra.below hbX5
  replace rb := rb.below hbX5
  replace rc := rc.below hbX5
  have rd : RowAt X5 grd [.int .u64 (n1h : Int), .int .u64 (n1l : Int)] 24 := by
    have h := RowAt.new w4 [.int .u64 (n1h : Int), .int .u64 (n1l : Int)] 24
    rw [hgrd, hX5]; exact h
  replace hW := below2 hW hbX5
  go_upto_region 3 with fail
  rw [← hX5, ← hgrd]
  clear hX5 hbX5 hgrd
  obtain ⟨raq0, raq1, raf⟩ := cells2 ra
  go_wp2_with fail
  go_at_call 9; refine (c3 _).mono ?_; rintro e w6 ⟨rfl, hb⟩
  clear raq0 raq1 raf
  replace ra := ra.below hb
  replace rb := rb.below hb
  replace rc := rc.below hb
  replace rd := rd.below hb
  replace hW := below2 hW hb
  clear hb
  obtain ⟨X7, hX7⟩ : ∃ X, X = (w6.alloc (.cells #[.int .u64 (p1h : Int), .int .u64 (p1l : Int)] 24)) := ⟨_, rfl⟩
  obtain ⟨gre, hgre⟩ : ∃ g, g = w6.heap.size := ⟨_, rfl⟩
  have hbX7 : Below w6.heap.size w6 X7 := by rw [hX7]; exact below_new (Below.refl _ _) _
  replace ra := ra.below hbX7
  replace rb := rb.below hbX7
  replace rc := rc.below hbX7
  replace rd := rd.below hbX7
  have re : RowAt X7 gre [.int .u64 (p1h : Int), .int .u64 (p1l : Int)] 24 := by
    have h := RowAt.new w6 [.int .u64 (p1h : Int), .int .u64 (p1l : Int)] 24
    rw [hgre, hX7]; exact h
  replace hW := below2 hW hbX7
  go_upto_region 4 with fail
  rw [← hX7, ← hgre]
  clear hX7 hbX7 hgre
  obtain ⟨raq0, raq1, raf⟩ := cells2 ra
  go_wp2_with fail
  go_at_call 10; refine (c4 _).mono ?_; rintro e w8 ⟨rfl, hb⟩
  clear raq0 raq1 raf
  replace ra := ra.below hb
  replace rb := rb.below hb
  replace rc := rc.below hb
  replace rd := rd.below hb
  replace re := re.below hb
  replace hW := below2 hW hb
  clear hb
  obtain ⟨X9, hX9⟩ : ∃ X, X = (w8.alloc (.cells #[.int .u64 (p1h : Int), .int .u64 (p1l : Int)] 24)) := ⟨_, rfl⟩
  obtain ⟨grg, hgrg⟩ : ∃ g, g = w8.heap.size := ⟨_, rfl⟩
  have hbX9 : Below w8.heap.size w8 X9 := by rw [hX9]; exact below_new (Below.refl _ _) _
  replace ra := ra.below hbX9
  replace rb := rb.below hbX9
  replace rc := rc.below hbX9
  replace rd := rd.below hbX9
  replace re := re.below hbX9
  have rg : RowAt X9 grg [.int .u64 (p1h : Int), .int .u64 (p1l : Int)] 24 := by
    have h := RowAt.new w8 [.int .u64 (p1h : Int), .int .u64 (p1l : Int)] 24
    rw [hgrg, hX9]; exact h
  replace hW := below2 hW hbX9
  go_upto_region 5 with fail
  rw [← hX9, ← hgrg]
  clear hX9 hbX9 hgrg
  clear c1 c2 c3 c4
  have raq0 : ∀ p : Bl X9, p.W.cell? ⟨gra, 0, none⟩ = [.int .u64 (ah : Int), .int .u64 (al : Int)][0]? := fun p => (ra.below p.h).cell 0
  have raq1 : ∀ p : Bl X9, p.W.cell? ⟨gra, 1, none⟩ = [.int .u64 (ah : Int), .int .u64 (al : Int)][1]? := fun p => (ra.below p.h).cell 1
  simp only [List.getElem?_cons_zero, List.getElem?_cons_succ] at raq0 raq1
  have rbq0 : ∀ p : Bl X9, p.W.cell? ⟨grb, 0, none⟩ = [.int .u64 (bh : Int), .int .u64 (bl : Int)][0]? := fun p => (rb.below p.h).cell 0
  have rbq1 : ∀ p : Bl X9, p.W.cell? ⟨grb, 1, none⟩ = [.int .u64 (bh : Int), .int .u64 (bl : Int)][1]? := fun p => (rb.below p.h).cell 1
  simp only [List.getElem?_cons_zero, List.getElem?_cons_succ] at rbq0 rbq1
  have rcq0 : ∀ p : Bl X9, p.W.cell? ⟨grc, 0, none⟩ = [.int .u64 (n1h : Int), .int .u64 (n1l : Int)][0]? := fun p => (rc.below p.h).cell 0
  have rcq1 : ∀ p : Bl X9, p.W.cell? ⟨grc, 1, none⟩ = [.int .u64 (n1h : Int), .int .u64 (n1l : Int)][1]? := fun p => (rc.below p.h).cell 1
  simp only [List.getElem?_cons_zero, List.getElem?_cons_succ] at rcq0 rcq1
  have rdq0 : ∀ p : Bl X9, p.W.cell? ⟨grd, 0, none⟩ = [.int .u64 (n1h : Int), .int .u64 (n1l : Int)][0]? := fun p => (rd.below p.h).cell 0
  have rdq1 : ∀ p : Bl X9, p.W.cell? ⟨grd, 1, none⟩ = [.int .u64 (n1h : Int), .int .u64 (n1l : Int)][1]? := fun p => (rd.below p.h).cell 1
  simp only [List.getElem?_cons_zero, List.getElem?_cons_succ] at rdq0 rdq1
  have req0 : ∀ p : Bl X9, p.W.cell? ⟨gre, 0, none⟩ = [.int .u64 (p1h : Int), .int .u64 (p1l : Int)][0]? := fun p => (re.below p.h).cell 0
  have req1 : ∀ p : Bl X9, p.W.cell? ⟨gre, 1, none⟩ = [.int .u64 (p1h : Int), .int .u64 (p1l : Int)][1]? := fun p => (re.below p.h).cell 1
  simp only [List.getElem?_cons_zero, List.getElem?_cons_succ] at req0 req1
  have rgq0 : ∀ p : Bl X9, p.W.cell? ⟨grg, 0, none⟩ = [.int .u64 (p1h : Int), .int .u64 (p1l : Int)][0]? := fun p => (rg.below p.h).cell 0
  have rgq1 : ∀ p : Bl X9, p.W.cell? ⟨grg, 1, none⟩ = [.int .u64 (p1h : Int), .int .u64 (p1l : Int)][1]? := fun p => (rg.below p.h).cell 1
  simp only [List.getElem?_cons_zero, List.getElem?_cons_succ] at rgq0 rgq1
  haveI := bl_ne X9
  refine wp_region_bl (by kernel_rfl) (by kernel_rfl) ?_
  repeat (quiet_step (first | (go_at_call 11; with_reducible exact bl_call (hv _)) | (go_at_call 12; with_reducible exact bl_call (c5 _)) | (go_at_call 13; with_reducible exact bl_call (c6 _)) | (go_at_call 14; with_reducible exact bl_call (c7 _)) | (go_at_call 15; with_reducible exact bl_call (c8 _))))
  refine wpQuiet_nil ?_
  intro wq10 hw'
  obtain ⟨⟨wz, hq⟩, hw2⟩ := hw'
  subst hw2
  replace hW := below2 hW hq
  clear this raq0 raq1 rbq0 rbq1 rcq0 rcq1 rdq0 rdq1 req0 req1 rgq0 rgq1
  replace ra := ra.below hq
  replace rb := rb.below hq
  replace rc := rc.below hq
  replace rd := rd.below hq
  replace re := re.below hq
  replace rg := rg.below hq
  clear hq
  go_wp2_with fail
  go_ret
  exact ⟨rfl, hW⟩

set_option maxRecDepth 100000 in
theorem lifted (os : Os) (started : os.Started) (H : Type) (enc : TypeId × Value → H) :
    ReturnsInHanded {} Try.checked os 3 .any (Rows.addrStepsSpec.pre6 enc Try.prog Try.f3 Rows.addrStepsRow.domain false) (Rows.addrStepsSpec.post enc Try.prog Try.f3 false true false false) := by
  refine returnsInHanded_of_change_sized (C := Try.checked) own started (by kernel_rfl) Try.func3
    (ChangeSpec.witness6 (enc := enc) (C := Try.checked) false ⟨#[], #[.bool false, .agg #[.int .u64 0, .int .u64 0], .agg #[.int .u64 0, .int .u64 0]], []⟩ 8 (by kernel_rfl) (by kernel_rfl) (by kernel_rfl) (by kernel_rfl)) ?_
  intro W base args ds gs before hval0 hW _ hsz0 _
  have hsz : (DataW.weightsEach Try.prog (Try.f3.params.toList ++ Rows.addrStepsSpec.plain.varTypes Try.prog) (ds ++ gs)).all (· ≤ reachBytes) = true := hsz0
  clear hsz0
  have hval : ∀ (j : Nat) t v, Try.f3.params[j]? = some t → args[j]? = some v → Value.okWide Try.prog W .any base t v := hval0
  have hW' := hW
  obtain ⟨p, q, hA0, hV, rfl, hfz, hnd⟩ := hW
  have hA : DataW.TrodAll enc Try.prog W 0 (fun _ => true) true Try.f3.params.toList args.toList ds p := hA0
  rw [Try.params3] at hA hval hsz
  obtain ⟨v0, vs0, d0, ds0, p0, q0, hargs, rfl, rfl, h0, r0⟩ := trodAll_cons hA
  obtain ⟨v1, vs1, d1, ds1, p1, q1, rfl, rfl, rfl, h1, r1⟩ := trodAll_cons r0
  obtain ⟨v2, vs2, d2, ds2, p2, q2, rfl, rfl, rfl, h2, r2⟩ := trodAll_cons r1
  obtain ⟨rfl, rfl, rfl⟩ := trodAll_nil r2
  obtain rfl : args = #[v0, v1, v2] := by cases args; simp_all
  obtain ⟨rfl, rfl⟩ := trodVars_none hV
  obtain ⟨a0, rfl, rfl, rfl⟩ := open_bool Try.underlying4 (hval 0 4 v0 rfl rfl) h0
  have k1 := h1
  have lt1 : ∀ x ∈ p1, x.block < W.heap.size := by obtain ⟨m, hm⟩ := k1; exact DataW.trod_lt m _ _ _ hm
  obtain ⟨n1, rfl, b1⟩ := Addr.open_addr (hval 1 24 v1 rfl rfl) h1
  have k2 := h2
  have lt2 : ∀ x ∈ p2, x.block < W.heap.size := by obtain ⟨m, hm⟩ := k2; exact DataW.trod_lt m _ _ _ hm
  obtain ⟨n2, rfl, b2⟩ := Addr.open_addr (hval 2 24 v2 rfl rfl) h2
  clear hA0 hval0
  refine (walk a0 n1 n2 W b1 b2).mono fun e W' ⟨he, bel⟩ => ?_
  subst he
  exact ⟨_, rfl, _, _, _, [], _, [], hW', trodAll_mk1 (shut_bool Try.underlying4 _), (trodAll_cons_mk (shut_bool Try.underlying4 a0) (trodAll_cons_mk (Below.trod laidOut (by kernel_rfl) (of_decide_eq_true (by kernel_rfl)) k1 bel lt1) (trodAll_cons_mk (Below.trod laidOut (by kernel_rfl) (of_decide_eq_true (by kernel_rfl)) k2 bel lt2) trodAll_mk0))), rfl, bel.frame _, fun h => by cases h⟩

theorem over : Rows.addrStepsRow.holds Try.pinned (OpenSpec.ofChange Rows.addrStepsSpec) :=
  OpenClaim.holds_of_wide 3 Try.f3 rfl rfl rfl rfl rfl rfl rfl ⟨rfl, rfl, rfl, rfl, rfl⟩ rfl rfl rfl rfl rfl (by kernel_rfl) Try.func3 (by kernel_rfl)
    (of_decide_eq_true (by kernel_rfl)) (by unfold Func.isWrapper; first | (rw [if_pos (by decide +kernel)]; kernel_rfl) | (rw [if_neg (by decide +kernel)]; exact ⟨rfl, rfl⟩))
    (fun os started H enc _ => lifted os started H enc)
end addrSteps
theorem asteps_holds : Rows.AddrStepsSaid := addrSteps.over
#print axioms asteps_holds
end Go.Proofs.Ytengicljipfckaa
