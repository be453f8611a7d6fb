/- For any interval, marks and eras: spoorlaw20.LineMakes returns true, and changes nothing that was there. No condition. -/
import Derived.Test.YtmkbijnndbgjgaaRows
import Derived.Test.YtmkbijnndbgjgaaLnZ3
import Derived.ProofKit
import Derived.OpenShut
import Derived.ShutString
import Derived.SizedLaws
set_option linter.unusedVariables false
namespace Go.Proofs.Ytmkbijnndbgjgaa
namespace lineMakes
open Go.ChangeShapes Go.WideShapes Go.ChangeAt Go.RowKit
open Go.ChangeMaps (open_string shut_string)
open Go.Proofs.Ytmkbijnndbgjgaa.Ln
open Go.Proofs.Ytmkbijnndbgjgaa.Iv (Iv FitI FitT ivV HasI okI)
open Go.Proofs.Ytmkbijnndbgjgaa.Lk (HasRow)
open Go.Proofs.Ytmkbijnndbgjgaa.Sp (chk)
open Go.Proofs.Ytmkbijnndbgjgaa.Addr (Bl bl_ne wp_region_bl bl_call RowAt below2 below_drew below_new bset RowAt.lt RowAt.cell RowAt.frozen RowAt.below RowAt.drew RowAt.new RowAt.alloc cells2 cells4)
theorem own : ownKnob Try.prog.godebug = none := by kernel_rfl
theorem laidOut : laidOutB Try.prog = true := by kernel_rfl
set_option maxHeartbeats 16000000 in
set_option maxRecDepth 20000 in
theorem walk (wi : Iv) (v : Value) (ms : List Mk) (u : Value) (l : List Er) (w : World) (b0 : FitI wi) (b1 : HasM w v ms) (b2 : HasE w u l) :
    Calls Try.prog 3 #[ivV wi, v, u] w fun e w' => e = .returned (.bool true) ∧ Below w.heap.size w w' := by
  have c0 := fun (W : World) => lives_any W
  have cm := fun (W : World) (h : HasM W v ms) => make_any wi ms v W h
  have rm := fun (W : World) (h : HasM W v ms) => rmake_any wi ms v W h
  have k1 := fun (W : World) (h : HasE W u l) => check_any wi l u W h
  have k2 := fun (W : World) (h : HasE W u l) => rcheck_any wi l u W h
  generalize chk (okL wi l) = K at *
  obtain ⟨wa, wb⟩ := wi
  show Calls Try.prog 3 #[.agg #[.int .i64 wa, .int .i64 wb], v, u] w _
  simp only at cm rm k1 k2
  obtain ⟨X, hX⟩ : ∃ X, X = w.alloc (.cells #[.int .i64 wa, .int .i64 wb] 23) := ⟨_, rfl⟩
  have hB : Below w.heap.size w X := by rw [hX]; exact below_new (Below.refl _ _) _
  have r0 : RowAt X w.heap.size [.int .i64 wa, .int .i64 wb] 23 := by rw [hX]; exact RowAt.new _ _ _
  obtain ⟨g0, hg0⟩ : ∃ g, g = w.heap.size := ⟨_, rfl⟩
  rw [← hg0] at r0
  replace b1 := b1.keep hB
  replace b2 := b2.keep hB
  have cc := cm X b1
  obtain ⟨q0, q1, _⟩ := cells2 r0
  obtain ⟨o1, c1, rfl, _, _⟩ := HasRow.slice b1
  obtain ⟨o2, c2, rfl, _, _⟩ := HasRow.slice b2
  clear cm b0
  go_enter Try.func3, Try.ntmps3
  go_upto_region 1 with fail
  rw [← hX, ← hg0]
  clear hX hg0
  go_wp2_with fail
  go_at_call 9; refine cc.mono ?_; rintro e w1 ⟨u1, R, y, rfl, hO1, hR1⟩
  clear cc q0 q1
  replace b1 := b1.keep hO1.bl
  replace b2 := b2.keep hO1.bl
  replace r0 := r0.below hO1.bl
  replace hB := below2 hB hO1.bl
  have cc := rm w1 b1
  obtain ⟨q0, q1, _⟩ := cells2 r0
  obtain ⟨o3, c3, rfl, _, _⟩ := HasRow.slice hO1.has
  go_wp2_with fail
  go_at_call 10; refine cc.mono ?_; rintro e w2 ⟨u2, R2, y2, rfl, hO2, hR2⟩
  have hRR := hR1.trans hR2.symm
  injection hRR with e1 e2
  subst e1 e2
  have h1 := hO1.has.keep hO2.bl
  have h2 := hO2.has
  replace b2 := b2.keep hO2.bl
  replace r0 := r0.below hO2.bl
  replace hB := below2 hB hO2.bl
  obtain ⟨o4, c4, rfl, _, _⟩ := HasRow.slice h2
  clear cc q0 q1 rm hR1 hR2 hO1 hO2 b1
  haveI := bl_ne w2
  have z0 := fun p : Bl w2 => (r0.below p.h).cell 0
  have z1 := fun p : Bl w2 => (r0.below p.h).cell 1
  simp only [List.getElem?_cons_succ, List.getElem?_cons_zero] at z0 z1
  have s1 := fun p : Bl w2 => same_any R _ _ p.W (h1.keep p.h) (h2.keep p.h)
  have k1p := fun p : Bl w2 => k1 p.W (b2.keep p.h)
  have k2p := fun p : Bl w2 => k2 p.W (b2.keep p.h)
  clear k1 k2 h1 h2 b2 r0
  generalize R.length = n1 at *
  generalize l.length = n2 at *
  go_upto_region 3 with fail
  refine wp_region_bl (by kernel_rfl) (by kernel_rfl) ?_
  repeat (go_big_quiet_step (first | (go_at_call 11; with_reducible exact bl_call (c0 _)) | (go_at_call 12; with_reducible exact bl_call (s1 _)) | (go_at_call 13; with_reducible exact bl_call (k1p _)) | (go_at_call 14; with_reducible exact bl_call (k2p _))))
  refine wpQuiet_nil ?_
  intro wq hw'
  obtain ⟨⟨wz, hq⟩, hw2⟩ := hw'
  subst hw2
  have hBZ := below2 hB hq
  clear z0 z1
  go_wp2_with fail
  go_ret
  exact ⟨by first | rfl | simp, hBZ⟩
set_option maxRecDepth 100000 in
theorem lifted (os : Os) (started : os.Started) (H : Type) (enc : TypeId × Value → H) :
    ReturnsInHanded {} Try.checked os 3 .any (Rows.lineMakesSpec.pre6 enc Try.prog Try.f3 Rows.lineMakesRow.domain false) (Rows.lineMakesSpec.post enc Try.prog Try.f3 false true false false) := by
  refine returnsInHanded_of_change_sized (C := Try.checked) own started (by kernel_rfl) Try.func3
    (ChangeSpec.witness6 (enc := enc) (C := Try.checked) false ⟨#[], #[.agg #[.int .i64 0, .int .i64 0], .slice none 0 0, .slice none 0 0], []⟩ 8 (by kernel_rfl) (by kernel_rfl) (by kernel_rfl) (by kernel_rfl)) ?_
  intro W base args ds gs before hval0 hW _ hsz0 _
  have hsz : (DataW.weightsEach Try.prog (Try.f3.params.toList ++ Rows.lineMakesSpec.plain.varTypes Try.prog) (ds ++ gs)).all (· ≤ reachBytes) = true := hsz0
  clear hsz0
  have hval : ∀ (j : Nat) t v, Try.f3.params[j]? = some t → args[j]? = some v → Value.okWide Try.prog W .any base t v := hval0
  have hW' := hW
  obtain ⟨p, q, hA0, hV, rfl, hfz, hnd⟩ := hW
  have hA : DataW.TrodAll enc Try.prog W 0 (fun _ => true) true Try.f3.params.toList args.toList ds p := hA0
  rw [Try.params3] at hA hval hsz
  obtain ⟨v0, vs0, d0, ds0, p0, q0, hargs, rfl, rfl, h0, r0⟩ := trodAll_cons hA
  obtain ⟨v1, vs1, d1, ds1, p1, q1, rfl, rfl, rfl, h1, r1⟩ := trodAll_cons r0
  obtain ⟨v2, vs2, d2, ds2, p2, q2, rfl, rfl, rfl, h2, r2⟩ := trodAll_cons r1
  obtain ⟨rfl, rfl, rfl⟩ := trodAll_nil r2
  obtain rfl : args = #[v0, v1, v2] := by cases args; simp_all
  obtain ⟨rfl, rfl⟩ := trodVars_none hV
  have k0 := h0
  have lt0 : ∀ x ∈ p0, x.block < W.heap.size := by obtain ⟨m, hm⟩ := k0; exact DataW.trod_lt m _ _ _ hm
  obtain ⟨n0, rfl, b0⟩ := Iv.open_ivl (hval 0 23 v0 rfl rfl) h0
  obtain ⟨a1, len1, cap1, rfl⟩ := okWide_slice Try.underlying24 (hval 1 24 v1 rfl rfl)
  have k1 := h1
  have lt1 : ∀ x ∈ p1, x.block < W.heap.size := by obtain ⟨m, hm⟩ := k1; exact DataW.trod_lt m _ _ _ hm
  obtain ⟨fuel1, hf1⟩ := h1
  obtain ⟨z1, b1⟩ := Ln.open_marks hf1
  obtain ⟨a2, len2, cap2, rfl⟩ := okWide_slice Try.underlying25 (hval 2 25 v2 rfl rfl)
  have k2 := h2
  have lt2 : ∀ x ∈ p2, x.block < W.heap.size := by obtain ⟨m, hm⟩ := k2; exact DataW.trod_lt m _ _ _ hm
  obtain ⟨fuel2, hf2⟩ := h2
  obtain ⟨z2, b2⟩ := Ln.open_eras hf2
  clear hA0 hval0
  refine (walk n0 (.slice a1 len1 cap1) z1 (.slice a2 len2 cap2) z2 W b0 b1 b2).mono fun e W' ⟨he, bel⟩ => ?_
  subst he
  exact ⟨_, rfl, _, _, _, [], _, [], hW', trodAll_mk1 (shut_bool Try.underlying4 _), (trodAll_cons_mk (Below.trod laidOut (by kernel_rfl) (of_decide_eq_true (by kernel_rfl)) k0 bel lt0) (trodAll_cons_mk (Below.trod laidOut (by kernel_rfl) (of_decide_eq_true (by kernel_rfl)) k1 bel lt1) (trodAll_cons_mk (Below.trod laidOut (by kernel_rfl) (of_decide_eq_true (by kernel_rfl)) k2 bel lt2) trodAll_mk0))), rfl, bel.frame _, fun h => by cases h⟩

theorem over : Rows.lineMakesRow.holds Try.pinned (OpenSpec.ofChange Rows.lineMakesSpec) :=
  OpenClaim.holds_of_wide 3 Try.f3 rfl rfl rfl rfl rfl rfl rfl ⟨rfl, rfl, rfl, rfl, rfl⟩ rfl rfl rfl rfl rfl (by kernel_rfl) Try.func3 (by kernel_rfl)
    (of_decide_eq_true (by kernel_rfl)) (by unfold Func.isWrapper; first | (rw [if_pos (by decide +kernel)]; kernel_rfl) | (rw [if_neg (by decide +kernel)]; exact ⟨rfl, rfl⟩))
    (fun os started H enc _ => lifted os started H enc)
end lineMakes
theorem line_makes_holds : Rows.LineMakesSaid := lineMakes.over
#print axioms line_makes_holds
end Go.Proofs.Ytmkbijnndbgjgaa
