/- For every cutter, chunk and body, which together hold at most 1,048,576 values and letters (the second form's bound): spoorlaw12.CutterFeeds returns true, and changes nothing that was there. -/
import Derived.Test.YtkmchoipddaohaaUptoKit
import Derived.Test.YtkmchoipddaohaaCutRef3
import Derived.Test.YtkmchoipddaohaaQuietBelow
import Derived.ShutString
import Derived.JoinedCond
import Derived.Deep.CondSized
set_option linter.unusedVariables false
namespace Go.Proofs.Ytkmchoipddaohaa
namespace cutterFeeds
open Go.ChangeShapes Go.WideShapes Go.ChangeAt Go.RowKit Go.Shelf
open Go.ChangeMaps (open_string shut_string)
open Go.Proofs.Ytkmchoipddaohaa.Cut

theorem own : ownKnob Try.prog.godebug = none := by kernel_rfl
theorem laidOut : laidOutB Try.prog = true := by kernel_rfl
set_option maxHeartbeats 8000000 in
theorem walk0 (c : Ct) (l m : List UInt8) (w : World) (hf : FitC c) (hl : l.length ≤ 1048576) (hm : m.length ≤ 1048576) :
    Calls Try.prog 3 #[ctV c, .string ⟨l.toArray⟩, .string ⟨m.toArray⟩] w fun e w' => e = .returned (.bool true) ∧ Below w.heap.size w w' := by
  have c1 := fun W => feed_any c l W hf (by omega)
  have c2 := fun W => rfeed_any c l W hf (by omega)
  have c3 := fun W => wrap_any m W (by omega)
  have c4 := fun W => rwrap_any m W (by omega)
  have c5 := fun W => check_any c W hf
  have c6 := fun W => rcheck_any c W hf
  have cl := lives_any
  have heq := ct_eql
  have hgd := ct_guard
  have hlen : (fedC c l).2.length ≤ 1048576 := by
    unfold fedC; split
    · exact Nat.le_trans (feed_len l c) hl
    · simp
  generalize fedC c l = F at *
  obtain ⟨⟨r2, b2, s2⟩, ps⟩ := F
  obtain ⟨r, b, s⟩ := c
  have hke : checkC ⟨r, b, s⟩ = 0 ∨ checkC ⟨r, b, s⟩ = 2 := by unfold checkC; split <;> simp
  generalize checkC ⟨r, b, s⟩ = E at *
  have hEr : -9223372036854775808 ≤ E ∧ E ≤ 9223372036854775807 := by rcases hke with h | h <;> omega
  generalize (if fitN m.length = true then wrapL m else []) = wl at *
  generalize hwe : (if fitN m.length = true then (0 : Int) else 11) = we at *
  have hwr : we = 0 ∨ we = 11 := by rw [← hwe]; split <;> simp
  unfold ctV strV at *
  simp only at *
  have hEE : (E == E) = true := by simp
  have hww : (we == we) = true := by simp
  clear hwe hf hke hwr
  generalize (⟨wl.toArray⟩ : ByteArray) = WL at *
  obtain ⟨X, hX⟩ : ∃ X, X = w.alloc (.cells #[.string ⟨r.toArray⟩, .bool b, .int .i64 s] 23) := ⟨_, rfl⟩
  have hB : Below w.heap.size w X := by rw [hX]; exact below_new (Below.refl _ _) _
  have r0 : RowAt X w.heap.size [.string ⟨r.toArray⟩, .bool b, .int .i64 s] 23 := by rw [hX]; exact RowAt.new _ _ _
  obtain ⟨x0, x1, x2, xf⟩ := cells3 r0
  go_enter Try.func3, Try.ntmps3
  go_upto_region 1 with fail
  rw [← hX]
  clear hX
  go_wp2_with fail
  go_at_call 7; refine (c1 _).mono ?_; rintro e w1 ⟨V1, rfl, hp1, hb⟩
  obtain ⟨o1, cp1, rfl, _, _⟩ := HasRow.slice hp1
  replace hB := below2 hB hb
  replace r0 := r0.below hb
  clear hb x0 x1 x2 xf c1
  go_upto_region 2 with fail
  obtain ⟨Y, hY⟩ : ∃ Y, Y = w1.alloc (.cells #[.string ⟨r2.toArray⟩, .bool b2, .int .i64 s2] 23) := ⟨_, rfl⟩
  have hbx : Below w1.heap.size w1 Y := by rw [hY]; exact below_new (Below.refl _ _) _
  have r1 : RowAt Y w1.heap.size [.string ⟨r2.toArray⟩, .bool b2, .int .i64 s2] 23 := by rw [hY]; exact RowAt.new _ _ _
  rw [← hY]
  replace hB := below2 hB hbx
  replace r0 := r0.below hbx
  replace hp1 := hp1.keep hbx
  clear hY hbx
  generalize w1.heap.size = g1 at r1 ⊢
  obtain ⟨x0, x1, x2, xf⟩ := cells3 r0
  go_wp2_with fail
  go_at_call 8; refine (c2 _).mono ?_; rintro e w2 ⟨V2, rfl, hp2, hb⟩
  obtain ⟨o2, cp2, rfl, _, _⟩ := HasRow.slice hp2
  replace hB := below2 hB hb
  replace r0 := r0.below hb
  replace r1 := r1.below hb
  replace hp1 := hp1.keep hb
  clear hb x0 x1 x2 xf c2
  go_upto_region 3 with fail
  obtain ⟨Y, hY⟩ : ∃ Y, Y = w2.alloc (.cells #[.string ⟨r2.toArray⟩, .bool b2, .int .i64 s2] 23) := ⟨_, rfl⟩
  have hbx : Below w2.heap.size w2 Y := by rw [hY]; exact below_new (Below.refl _ _) _
  have r2' : RowAt Y w2.heap.size [.string ⟨r2.toArray⟩, .bool b2, .int .i64 s2] 23 := by rw [hY]; exact RowAt.new _ _ _
  rw [← hY]
  replace hB := below2 hB hbx
  replace r0 := r0.below hbx
  replace r1 := r1.below hbx
  replace hp1 := hp1.keep hbx
  replace hp2 := hp2.keep hbx
  clear hY hbx
  generalize w2.heap.size = g2 at r2' ⊢
  go_wp2_with fail
  go_at_call 9; refine (c3 _).mono ?_; rintro e w3 ⟨rfl, hb⟩
  replace hB := below2 hB hb
  replace r0 := r0.below hb
  replace r1 := r1.below hb
  replace r2' := r2'.below hb
  replace hp1 := hp1.keep hb
  replace hp2 := hp2.keep hb
  clear hb c3
  go_wp2_with fail
  go_at_call 10; refine (c4 _).mono ?_; rintro e w4 ⟨rfl, hb⟩
  replace hB := below2 hB hb
  replace r0 := r0.below hb
  replace r1 := r1.below hb
  replace r2' := r2'.below hb
  replace hp1 := hp1.keep hb
  replace hp2 := hp2.keep hb
  clear hb c4
  have cs : ∀ p : Bl w4, Calls Try.prog 14 #[.slice o1 ps.length cp1, .slice o2 ps.length cp2] p.W fun e w' => e = .returned (.bool true) ∧ Below p.W.heap.size p.W w' := fun p => same_any ps _ _ p.W (hp1.keep p.h) (hp2.keep p.h) (by omega)
  have k0 : ∀ p : Bl w4, p.W.cell? ⟨w.heap.size, 0, none⟩ = some (.string ⟨r.toArray⟩) := fun p => (r0.below p.h).cell 0
  have k1 : ∀ p : Bl w4, p.W.cell? ⟨w.heap.size, 1, none⟩ = some (.bool b) := fun p => (r0.below p.h).cell 1
  have k2 : ∀ p : Bl w4, p.W.cell? ⟨w.heap.size, 2, none⟩ = some (.int .i64 s) := fun p => (r0.below p.h).cell 2
  have m0 : ∀ p : Bl w4, p.W.cell? ⟨g1, 0, none⟩ = some (.string ⟨r2.toArray⟩) := fun p => (r1.below p.h).cell 0
  have m1 : ∀ p : Bl w4, p.W.cell? ⟨g1, 1, none⟩ = some (.bool b2) := fun p => (r1.below p.h).cell 1
  have m2 : ∀ p : Bl w4, p.W.cell? ⟨g1, 2, none⟩ = some (.int .i64 s2) := fun p => (r1.below p.h).cell 2
  have n0 : ∀ p : Bl w4, p.W.cell? ⟨g2, 0, none⟩ = some (.string ⟨r2.toArray⟩) := fun p => (r2'.below p.h).cell 0
  have n1 : ∀ p : Bl w4, p.W.cell? ⟨g2, 1, none⟩ = some (.bool b2) := fun p => (r2'.below p.h).cell 1
  have n2 : ∀ p : Bl w4, p.W.cell? ⟨g2, 2, none⟩ = some (.int .i64 s2) := fun p => (r2'.below p.h).cell 2
  clear r0 r1 r2' hp1 hp2
  go_wp2_with fail
  haveI := bl_ne w4
  refine wp_region_bl (by kernel_rfl) (by kernel_rfl) ?_
  repeat (quiet_step ((first | (go_at_call 11; with_reducible exact bl_call (cl _)) | (go_at_call 12; with_reducible exact bl_call (c5 _)) | (go_at_call 13; with_reducible exact bl_call (c6 _)) | (go_at_call 14; with_reducible exact bl_call (cs _)))))
  refine wpQuiet_nil ?_
  intro _ hw'
  obtain ⟨⟨wq, hq⟩, hw2⟩ := hw'
  subst hw2
  have hW := below2 hB hq
  go_wp2_with fail
  go_ret
  exact ⟨rfl, hW⟩
theorem walk (c0 : Ct) (a1 a2 : ByteArray) (w : World) (b0 : c0.rest.length ≤ 1048576) (f0 : -9223372036854775808 ≤ c0.skip ∧ c0.skip ≤ 9223372036854775807) (b1 : a1.size ≤ 1048576) (b2 : a2.size ≤ 1048576) :
    Calls Try.prog 3 #[ctV c0, .string a1, .string a2] w fun e w' => e = .returned (.bool true) ∧ Below w.heap.size w w' := by
  obtain ⟨l, rfl, hd⟩ := str_list a1
  obtain ⟨m, rfl, hd2⟩ := str_list a2
  exact walk0 c0 l m w ⟨by omega, f0⟩ (by omega) (by omega)

set_option maxRecDepth 100000 in
theorem contract (H : Type) (enc : TypeId × Value → H) (W : World) (base : Nat) (args : Array Value) (ds gs : List (DataW H)) (before : List MemPlace)
    (hval0 : ∀ (j : Nat) t v, Try.f3.params[j]? = some t → args[j]? = some v → Value.okWide Try.prog W .any base t v)
    (hW : DataW.Whole enc Try.prog Try.f3.params.toList Rows.cutterFeedsSpec.vars false W args.toList ds gs before) (hk : Rows.uptoSmall H (ds ++ gs) = true)
    (hsz0 : (DataW.weightsEach Try.prog (Try.f3.params.toList ++ Rows.cutterFeedsSpec.plain.varTypes Try.prog) (ds ++ gs)).all (· ≤ reachBytes) = true) :
    Calls Try.prog 3 args W fun e W' => ∃ v, e = .returned v ∧ Rows.cutterFeedsSpec.post enc Try.prog Try.f3 false true false false W args v W' := by
  have hsz : (DataW.weightsEach Try.prog (Try.f3.params.toList ++ Rows.cutterFeedsSpec.plain.varTypes Try.prog) (ds ++ gs)).all (· ≤ reachBytes) = true := hsz0
  clear hsz0
  have hval : ∀ (j : Nat) t v, Try.f3.params[j]? = some t → args[j]? = some v → Value.okWide Try.prog W .any base t v := hval0
  have hW' := hW
  obtain ⟨p, q, hA0, hV, rfl, hfz, hnd⟩ := hW
  have hA : DataW.TrodAll enc Try.prog W 0 (fun _ => true) true Try.f3.params.toList args.toList ds p := hA0
  rw [Try.params3] at hA hval hsz
  obtain ⟨v0, vs0, d0, ds0, p0, q0, hargs, rfl, rfl, h0, r0⟩ := trodAll_cons hA
  obtain ⟨v1, vs1, d1, ds1, p1, q1, rfl, rfl, rfl, h1, r1⟩ := trodAll_cons r0
  obtain ⟨v2, vs2, d2, ds2, p2, q2, rfl, rfl, rfl, h2, r2⟩ := trodAll_cons r1
  obtain ⟨rfl, rfl, rfl⟩ := trodAll_nil r2
  obtain rfl : args = #[v0, v1, v2] := by cases args; simp_all
  obtain ⟨rfl, rfl⟩ := trodVars_none hV
  have k0 := h0
  have lt0 : ∀ x ∈ p0, x.block < W.heap.size := by obtain ⟨m, hm⟩ := k0; exact DataW.trod_lt m _ _ _ hm
  obtain ⟨c0, rfl, f0, ds0', rfl, g0⟩ := Cut.open_cut (hval 0 23 v0 rfl rfl) h0
  have b0 := bulk_part hk (j := 0) rfl g0
  obtain ⟨a1, rfl, rfl, rfl, w1⟩ := open_string Try.underlying9 (hval 1 9 v1 rfl rfl) h1
  have b1 : a1.size ≤ 1048576 := bulk_str hk (j := 1) rfl
  obtain ⟨a2, rfl, rfl, rfl, w2⟩ := open_string Try.underlying9 (hval 2 9 v2 rfl rfl) h2
  have b2 : a2.size ≤ 1048576 := bulk_str hk (j := 2) rfl
  clear hA0 hval0
  refine (walk c0 a1 a2 W b0 f0 b1 b2).mono fun e W' ⟨he, bel⟩ => ?_
  subst he
  exact ⟨_, rfl, _, _, _, [], _, [], hW', trodAll_mk1 (shut_bool Try.underlying4 _), (trodAll_cons_mk (Below.trod laidOut (by kernel_rfl) (of_decide_eq_true (by kernel_rfl)) k0 bel lt0) (trodAll_cons_mk (shut_string Try.underlying9 w1) (trodAll_cons_mk (shut_string Try.underlying9 w2) trodAll_mk0))), rfl, bel.frame _, fun h => by cases h⟩
set_option maxRecDepth 100000 in
theorem lifted (os : Os) (started : os.Started) (H : Type) (enc : TypeId × Value → H) (F : Stop.Interp) :
    ReturnsInHanded {} Try.checked os 3 .any ((Rows.OpenSpec.upto Rows.cutterFeedsSpec).pre6 enc Try.prog Try.f3 Rows.cutterFeedsUptoRow.domain false) (((Rows.OpenSpec.upto Rows.cutterFeedsSpec).at F).post enc Try.prog Try.f3 false true false false) := by
  refine returnsInHanded_of_cond_sized (C := Try.checked) (s := Rows.OpenSpec.upto Rows.cutterFeedsSpec) (k := Rows.uptoSmall) rfl own started (by kernel_rfl) Try.func3
    (OpenSpec.witness (enc := enc) (C := Try.checked) (s := Rows.OpenSpec.upto Rows.cutterFeedsSpec) (k := Rows.uptoSmall) rfl false ⟨#[], #[.agg #[.string ByteArray.empty, .bool false, .int .i64 0], .string ByteArray.empty, .string ByteArray.empty], []⟩ 8 (by kernel_rfl) (by kernel_rfl) (by kernel_rfl)
      (x := ([.agg [.lit (.string []), .lit (.bool false), .lit (.int .i64 0)], .lit (.string []), .lit (.string [])], [], [])) (by kernel_rfl) rfl (by kernel_rfl)) ?_
  intro W base args ds gs before hval hW _ hk hsz _
  exact contract H enc W base args ds gs before hval hW hk hsz

theorem over : Rows.cutterFeedsUptoRow.holds Try.pinned (Rows.OpenSpec.upto Rows.cutterFeedsSpec) :=
  OpenClaim.holds_of_cond 3 Try.f3 rfl rfl rfl rfl rfl rfl rfl ⟨rfl, rfl, rfl, rfl, rfl⟩ rfl rfl rfl rfl rfl (by kernel_rfl) Try.func3 (by kernel_rfl)
    (of_decide_eq_true (by kernel_rfl)) (by unfold Func.isWrapper; first | (rw [if_pos (by decide +kernel)]; kernel_rfl) | (rw [if_neg (by decide +kernel)]; exact ⟨rfl, rfl⟩))
    (fun os started H enc _ F => lifted os started H enc F)
end cutterFeeds
theorem cfeeds_holds : Rows.CutterFeedsUptoSaid := cutterFeeds.over
#print axioms cfeeds_holds
end Go.Proofs.Ytkmchoipddaohaa
