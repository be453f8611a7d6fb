/- For every seats, event and times: spoorlaw14.OrderLater returns true, and changes nothing that was there. No condition. -/
import Derived.Test.YtckaajadajjijabRows
import Derived.Test.YtckaajadajjijabOrdLives
import Derived.Test.YtckaajadajjijabOrdOpen
import Derived.Test.YtckaajadajjijabMsgOpen
import Derived.ProofKit
import Derived.OpenShut
import Derived.ShutString
import Derived.SizedLaws
set_option linter.unusedVariables false
namespace Go.Proofs.Ytckaajadajjijab
namespace orderLater
open Go.ChangeShapes Go.WideShapes Go.ChangeAt Go.RowKit
open Go.ChangeMaps (open_string shut_string)
open Go.Proofs.Ytckaajadajjijab.Msg (Ev okE checkE evV evC FitE echeck_any cells12' gkeep gsetO set1)
open Go.Proofs.Ytckaajadajjijab.Ord
open Go.Proofs.Ytckaajadajjijab.Addr (Pf okP checkP wideN firstN kP hiN loN adV pfV RowAt below2 below_drew below_new bset RowAt.lt RowAt.cell RowAt.frozen RowAt.below RowAt.drew RowAt.new RowAt.alloc gdrew gset gbelow galloc grefl cells2 cells4 results_cell Bl bl_ne wp_region_bl bl_call bl_same)

theorem own : ownKnob Try.prog.godebug = none := by kernel_rfl
theorem laidOut : laidOutB Try.prog = true := by kernel_rfl
theorem later (l : List St) (e : Ev) (h less : Int) (h1 : -1 ≤ less) (h2 : less ≤ h) (h3 : h ≤ 1099511627776) : (mayL l e h = 0 → mayL l e less = 0) ∧ (mayL l e h = mayL l e less ∨ mayL l e h = 13) := by
  have e1 : askL l e h = askL l e less := by
    unfold askL
    rw [if_neg (show ¬ (h < -1 ∨ 1099511627776 < h) by omega), if_neg (show ¬ (less < -1 ∨ 1099511627776 < less) by omega)]
  unfold mayL
  rw [← e1]
  by_cases ha : askL l e h = 0
  · rw [if_pos ha, if_pos ha]
    unfold misL
    by_cases a1 : isIn l e.router = false ∧ e.kind ≠ 1
    · rw [if_pos a1, if_pos a1]; exact ⟨id, .inl rfl⟩
    rw [if_neg a1, if_neg a1]
    by_cases a2 : e.seq ≠ (seatOf l e.router).seq + 1
    · rw [if_pos a2, if_pos a2]; exact ⟨id, .inl rfl⟩
    rw [if_neg a2, if_neg a2]
    by_cases a3 : e.time < (seatOf l e.router).time ∨ e.time ≤ h
    · rw [if_pos a3]
      exact ⟨fun c => absurd c (by decide), .inr rfl⟩
    · rw [if_neg a3, if_neg (show ¬ (e.time < (seatOf l e.router).time ∨ e.time ≤ less) by omega)]
      exact ⟨id, .inl rfl⟩
  · rw [if_neg ha, if_neg ha]
    exact ⟨id, .inl rfl⟩
set_option maxHeartbeats 8000000 in
set_option maxRecDepth 20000 in
theorem walks (v : Value) (c0 c1 c2 c3 c5 c6 c7 c8 c9 c10 c11 : Int) (cs : Bool) (h less A B : Int) (w : World)
    (k1 : ∀ W : World, Below w.heap.size w W → Calls Try.prog 19 #[v, .agg #[.int .u8 c0, .int .i64 c1, .int .u64 c2, .int .i64 c3, .bool cs, .int .u64 c5, .int .u64 c6, .int .i64 c7, .int .u8 c8, .int .i64 c9, .int .i64 c10, .int .i64 c11], .int .i64 h] W fun e w' => e = .returned (.int .i64 A) ∧ Below W.heap.size W w')
    (k2 : ∀ W : World, Below w.heap.size w W → Calls Try.prog 19 #[v, .agg #[.int .u8 c0, .int .i64 c1, .int .u64 c2, .int .i64 c3, .bool cs, .int .u64 c5, .int .u64 c6, .int .i64 c7, .int .u8 c8, .int .i64 c9, .int .i64 c10, .int .i64 c11], .int .i64 less] W fun e w' => e = .returned (.int .i64 B) ∧ Below W.heap.size W w')
    (H : -1 ≤ less → less ≤ h → h ≤ 1099511627776 → Hid ((A = 0 → B = 0) ∧ (A = B ∨ A = 13))) :
    Calls Try.prog 7 #[v, .agg #[.int .u8 c0, .int .i64 c1, .int .u64 c2, .int .i64 c3, .bool cs, .int .u64 c5, .int .u64 c6, .int .i64 c7, .int .u8 c8, .int .i64 c9, .int .i64 c10, .int .i64 c11], .int .i64 h, .int .i64 less] w fun e w' => e = .returned (.bool true) ∧ Below w.heap.size w w' := by
  have hv := lives_any
  obtain ⟨X, hX⟩ : ∃ X, X = w.alloc (.cells #[.int .u8 c0, .int .i64 c1, .int .u64 c2, .int .i64 c3, .bool cs, .int .u64 c5, .int .u64 c6, .int .i64 c7, .int .u8 c8, .int .i64 c9, .int .i64 c10, .int .i64 c11] 39) := ⟨_, rfl⟩
  have hB : Below w.heap.size w X := by rw [hX]; exact below_new (Below.refl _ _) _
  have r0 : RowAt X w.heap.size [.int .u8 c0, .int .i64 c1, .int .u64 c2, .int .i64 c3, .bool cs, .int .u64 c5, .int .u64 c6, .int .i64 c7, .int .u8 c8, .int .i64 c9, .int .i64 c10, .int .i64 c11] 39 := by rw [hX]; exact RowAt.new _ _ _
  go_enter Try.func7, Try.ntmps7
  go_upto_region 1 with fail
  rw [← hX]
  clear hX
  go_wp2_with fail
  go_at_call 16; refine (hv _).mono ?_; rintro e w1 ⟨rfl, hb⟩
  replace hB := below2 hB hb
  replace r0 := RowAt.below r0 hb
  clear hb hv
  obtain ⟨g0, hg0⟩ : ∃ g, g = w.heap.size := ⟨_, rfl⟩
  rw [← hg0] at r0 ⊢
  clear hg0
  go_upto_region 3 with fail
  have q1 : ∀ p : Bl w1, Calls Try.prog 19 #[v, .agg #[.int .u8 c0, .int .i64 c1, .int .u64 c2, .int .i64 c3, .bool cs, .int .u64 c5, .int .u64 c6, .int .i64 c7, .int .u8 c8, .int .i64 c9, .int .i64 c10, .int .i64 c11], .int .i64 h] p.W fun e w' => e = .returned (.int .i64 A) ∧ Below p.W.heap.size p.W w' := fun p => k1 p.W (below2 hB p.h)
  have q2 : ∀ p : Bl w1, Calls Try.prog 19 #[v, .agg #[.int .u8 c0, .int .i64 c1, .int .u64 c2, .int .i64 c3, .bool cs, .int .u64 c5, .int .u64 c6, .int .i64 c7, .int .u8 c8, .int .i64 c9, .int .i64 c10, .int .i64 c11], .int .i64 less] p.W fun e w' => e = .returned (.int .i64 B) ∧ Below p.W.heap.size p.W w' := fun p => k2 p.W (below2 hB p.h)
  have m0 : ∀ p : Bl w1, p.W.cell? ⟨g0, 0, none⟩ = some (.int .u8 c0) := fun p => (r0.below p.h).cell 0
  have m1 : ∀ p : Bl w1, p.W.cell? ⟨g0, 1, none⟩ = some (.int .i64 c1) := fun p => (r0.below p.h).cell 1
  have m2 : ∀ p : Bl w1, p.W.cell? ⟨g0, 2, none⟩ = some (.int .u64 c2) := fun p => (r0.below p.h).cell 2
  have m3 : ∀ p : Bl w1, p.W.cell? ⟨g0, 3, none⟩ = some (.int .i64 c3) := fun p => (r0.below p.h).cell 3
  have m4 : ∀ p : Bl w1, p.W.cell? ⟨g0, 4, none⟩ = some (.bool cs) := fun p => (r0.below p.h).cell 4
  have m5 : ∀ p : Bl w1, p.W.cell? ⟨g0, 5, none⟩ = some (.int .u64 c5) := fun p => (r0.below p.h).cell 5
  have m6 : ∀ p : Bl w1, p.W.cell? ⟨g0, 6, none⟩ = some (.int .u64 c6) := fun p => (r0.below p.h).cell 6
  have m7 : ∀ p : Bl w1, p.W.cell? ⟨g0, 7, none⟩ = some (.int .i64 c7) := fun p => (r0.below p.h).cell 7
  have m8 : ∀ p : Bl w1, p.W.cell? ⟨g0, 8, none⟩ = some (.int .u8 c8) := fun p => (r0.below p.h).cell 8
  have m9 : ∀ p : Bl w1, p.W.cell? ⟨g0, 9, none⟩ = some (.int .i64 c9) := fun p => (r0.below p.h).cell 9
  have m10 : ∀ p : Bl w1, p.W.cell? ⟨g0, 10, none⟩ = some (.int .i64 c10) := fun p => (r0.below p.h).cell 10
  have m11 : ∀ p : Bl w1, p.W.cell? ⟨g0, 11, none⟩ = some (.int .i64 c11) := fun p => (r0.below p.h).cell 11
  haveI := bl_ne w1
  refine wp_region_bl (by kernel_rfl) (by kernel_rfl) ?_
  repeat (go_big_quiet_step (first | (go_at_call 19; with_reducible exact bl_call (q1 _)) | (go_at_call 19; with_reducible exact bl_call (q2 _))))
  refine wpQuiet_nil ?_
  intro wq hw'
  obtain ⟨⟨wz, hq⟩, hw2⟩ := hw'
  subst hw2
  have hW := below2 hB hq
  clear hq hB r0 k1 k2 q1 q2 m0 m1 m2 m3 m4 m5 m6 m7 m8 m9 m10 m11
  by_cases b1 : less < -1
  · have d1 : decide (less < -1) = true := decide_eq_true b1
    clear H
    go_wp2_with fail
    go_ret
    exact ⟨rfl, hW⟩
  have d1 : decide (less < -1) = false := decide_eq_false b1
  by_cases b2 : h < less
  · have d2 : decide (h < less) = true := decide_eq_true b2
    clear H
    go_wp2_with fail
    go_ret
    exact ⟨rfl, hW⟩
  have d2 : decide (h < less) = false := decide_eq_false b2
  by_cases b3 : 1099511627776 < h
  · have d3 : decide (1099511627776 < h) = true := decide_eq_true b3
    clear H
    go_wp2_with fail
    go_ret
    exact ⟨rfl, hW⟩
  have d3 : decide (1099511627776 < h) = false := decide_eq_false b3
  obtain ⟨f1, f2⟩ := (H (by omega) (by omega) (by omega)).out
  clear H b1 b2 b3
  by_cases a1 : A = 0
  · have a2 := f1 a1
    subst a1 a2
    clear f1 f2
    go_wp2_with fail
    go_ret
    exact ⟨rfl, hW⟩
  · have n1 : (A == 0) = false := beq_eq_false_iff_ne.2 a1
    have n2 : (A != 0) = true := bne_iff_ne.2 a1
    by_cases a2 : A = B
    · subst a2
      clear f1 f2 a1
      go_wp2_with fail
      go_ret
      exact ⟨rfl, hW⟩
    · have a3 := f2.resolve_left a2
      subst a3
      have n3 : ((13 : Int) == B) = false := beq_eq_false_iff_ne.2 a2
      clear f1 f2 a1 a2 n1 n2
      go_wp2_with fail
      go_ret
      exact ⟨rfl, hW⟩
theorem walk (v : Value) (l : List St) (e : Ev) (h less : Int) (w : World) (b0 : HasSts w v l) (f0 : ∀ s ∈ l, FitS s) (b1 : FitE e) (b2 : -9223372036854775808 ≤ h ∧ h ≤ 9223372036854775807) (b3 : -9223372036854775808 ≤ less ∧ less ≤ 9223372036854775807) :
    Calls Try.prog 7 #[v, evV e, .int .i64 h, .int .i64 less] w fun e w' => e = .returned (.bool true) ∧ Below w.heap.size w w' :=
  walks v _ _ _ _ _ _ _ _ _ _ _ _ h less (mayL l e h) (mayL l e less) w (fun W hb => may_any l v e h W (b0.keep hb) b1) (fun W hb => may_any l v e less W (b0.keep hb) b1) (fun h1 h2 h3 => later l e h less h1 h2 h3)

set_option maxRecDepth 100000 in
theorem lifted (os : Os) (started : os.Started) (H : Type) (enc : TypeId × Value → H) :
    ReturnsInHanded {} Try.checked os 7 .any (Rows.orderLaterSpec.pre6 enc Try.prog Try.f7 Rows.orderLaterRow.domain false) (Rows.orderLaterSpec.post enc Try.prog Try.f7 false true false false) := by
  refine returnsInHanded_of_change_sized (C := Try.checked) own started (by kernel_rfl) Try.func7
    (ChangeSpec.witness6 (enc := enc) (C := Try.checked) false ⟨#[], #[.slice none 0 0, .agg #[.int .u8 0, .int .i64 0, .int .u64 0, .int .i64 0, .bool false, .int .u64 0, .int .u64 0, .int .i64 0, .int .u8 0, .int .i64 0, .int .i64 0, .int .i64 0], .int .i64 0, .int .i64 0], []⟩ 8 (by kernel_rfl) (by kernel_rfl) (by kernel_rfl) (by kernel_rfl)) ?_
  intro W base args ds gs before hval0 hW _ hsz0 _
  have hsz : (DataW.weightsEach Try.prog (Try.f7.params.toList ++ Rows.orderLaterSpec.plain.varTypes Try.prog) (ds ++ gs)).all (· ≤ reachBytes) = true := hsz0
  clear hsz0
  have hval : ∀ (j : Nat) t v, Try.f7.params[j]? = some t → args[j]? = some v → Value.okWide Try.prog W .any base t v := hval0
  have hW' := hW
  obtain ⟨p, q, hA0, hV, rfl, hfz, hnd⟩ := hW
  have hA : DataW.TrodAll enc Try.prog W 0 (fun _ => true) true Try.f7.params.toList args.toList ds p := hA0
  rw [Try.params7] at hA hval hsz
  obtain ⟨v0, vs0, d0, ds0, p0, q0, hargs, rfl, rfl, h0, r0⟩ := trodAll_cons hA
  obtain ⟨v1, vs1, d1, ds1, p1, q1, rfl, rfl, rfl, h1, r1⟩ := trodAll_cons r0
  obtain ⟨v2, vs2, d2, ds2, p2, q2, rfl, rfl, rfl, h2, r2⟩ := trodAll_cons r1
  obtain ⟨v3, vs3, d3, ds3, p3, q3, rfl, rfl, rfl, h3, r3⟩ := trodAll_cons r2
  obtain ⟨rfl, rfl, rfl⟩ := trodAll_nil r3
  obtain rfl : args = #[v0, v1, v2, v3] := by cases args; simp_all
  obtain ⟨rfl, rfl⟩ := trodVars_none hV
  obtain ⟨a0, len0, cap0, rfl⟩ := okWide_slice Try.underlying44 (hval 0 44 v0 rfl rfl)
  have k0 := h0
  have lt0 : ∀ x ∈ p0, x.block < W.heap.size := by obtain ⟨m, hm⟩ := k0; exact DataW.trod_lt m _ _ _ hm
  obtain ⟨fuel0, hf0⟩ := h0
  obtain ⟨z0, b0, f0⟩ := Ord.open_seats hf0
  have k1 := h1
  have lt1 : ∀ x ∈ p1, x.block < W.heap.size := by obtain ⟨m, hm⟩ := k1; exact DataW.trod_lt m _ _ _ hm
  obtain ⟨n1, rfl, b1⟩ := Msg.open_event (hval 1 39 v1 rfl rfl) h1
  obtain ⟨a2, rfl, rfl, rfl, w2⟩ := open_int Try.underlying2 (hval 2 2 v2 rfl rfl) h2
  have b2 : -9223372036854775808 ≤ a2 ∧ a2 ≤ 9223372036854775807 := by simpa [Lit.wf, IntKind.min, IntKind.max, IntKind.signed, IntKind.bits] using w2
  obtain ⟨a3, rfl, rfl, rfl, w3⟩ := open_int Try.underlying2 (hval 3 2 v3 rfl rfl) h3
  have b3 : -9223372036854775808 ≤ a3 ∧ a3 ≤ 9223372036854775807 := by simpa [Lit.wf, IntKind.min, IntKind.max, IntKind.signed, IntKind.bits] using w3
  clear hA0 hval0
  refine (walk (.slice a0 len0 cap0) z0 n1 a2 a3 W b0 f0 b1 b2 b3).mono fun e W' ⟨he, bel⟩ => ?_
  subst he
  exact ⟨_, rfl, _, _, _, [], _, [], hW', trodAll_mk1 (shut_bool Try.underlying4 _), (trodAll_cons_mk (Below.trod laidOut (by kernel_rfl) (of_decide_eq_true (by kernel_rfl)) k0 bel lt0) (trodAll_cons_mk (Below.trod laidOut (by kernel_rfl) (of_decide_eq_true (by kernel_rfl)) k1 bel lt1) (trodAll_cons_mk (shut_int Try.underlying2 w2) (trodAll_cons_mk (shut_int Try.underlying2 w3) trodAll_mk0)))), rfl, bel.frame _, fun h => by cases h⟩

theorem over : Rows.orderLaterRow.holds Try.pinned (OpenSpec.ofChange Rows.orderLaterSpec) :=
  OpenClaim.holds_of_wide 7 Try.f7 rfl rfl rfl rfl rfl rfl rfl ⟨rfl, rfl, rfl, rfl, rfl⟩ rfl rfl rfl rfl rfl (by kernel_rfl) Try.func7 (by kernel_rfl)
    (of_decide_eq_true (by kernel_rfl)) (by unfold Func.isWrapper; first | (rw [if_pos (by decide +kernel)]; kernel_rfl) | (rw [if_neg (by decide +kernel)]; exact ⟨rfl, rfl⟩))
    (fun os started H enc _ => lifted os started H enc)
end orderLater
theorem olater_holds : Rows.OrderLaterSaid := orderLater.over
#print axioms olater_holds
end Go.Proofs.Ytckaajadajjijab
