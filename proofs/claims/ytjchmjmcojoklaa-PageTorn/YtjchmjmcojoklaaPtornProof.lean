/- For every tag, data, elder sector and place: spoorlaw05.PageTorn returns true, and changes nothing that was there. No condition. -/
import Derived.Test.YtjchmjmcojoklaaRows
import Derived.Test.YtjchmjmcojoklaaPageLives
import Derived.Test.YtjchmjmcojoklaaPageRef
import Derived.Test.YtjchmjmcojoklaaQuietBelow
import Derived.ProofKit
import Derived.OpenShut
import Derived.ShutString
import Derived.SizedLaws
set_option linter.unusedVariables false
namespace Go.Proofs.Ytjchmjmcojoklaa
namespace pageTorn
open Go.ChangeShapes Go.WideShapes Go.ChangeAt Go.RowKit
open Go.ChangeMaps (open_string shut_string)
open Go.Proofs.Ytjchmjmcojoklaa.Page

theorem own : ownKnob Try.prog.godebug = none := by kernel_rfl
theorem laidOut : laidOutB Try.prog = true := by kernel_rfl

set_option maxHeartbeats 2000000 in
theorem out_y (t : Nat) (y at' : Int) (D O S : ByteArray) (w : World) (hy : y ≠ 0)
    (c1 : ∀ w, Calls Try.prog 8 #[.int .u64 (t : Int), .string D] w fun e w' => e = .returned (.tuple #[.string S, .int .i64 y]) ∧ Below w.heap.size w w') :
    Calls Try.prog 7 #[.int .u64 (t : Int), .string D, .string O, .int .i64 at'] w fun e w' => e = .returned (.bool true) ∧ Below w.heap.size w w' := by
  have hv := lives_any
  have hy2 : (y == 0) = false := by simpa using hy
  have hy3 : (y != 0) = true := by simpa using hy
  go_enter Try.func7, Try.ntmps7
  go_wp2_with fail
  go_at_call 14; refine (hv _).mono ?_; rintro e w1 ⟨rfl, hW⟩
  go_wp2_with fail
  go_at_call 8; refine (c1 _).mono ?_; rintro e w2 ⟨rfl, hb2⟩
  have hW := below2 hW hb2
  go_wp2_with fail
  go_region
  all_goals go_wp2
  all_goals go_ret
  all_goals exact ⟨rfl, hW.drew⟩
set_option maxHeartbeats 2000000 in
theorem out_len (t : Nat) (at' : Int) (D O S : ByteArray) (w : World) (ho : O.size ≠ 128) (hO : O.size ≤ 140737488351232)
    (c1 : ∀ w, Calls Try.prog 8 #[.int .u64 (t : Int), .string D] w fun e w' => e = .returned (.tuple #[.string S, .int .i64 0]) ∧ Below w.heap.size w w') :
    Calls Try.prog 7 #[.int .u64 (t : Int), .string D, .string O, .int .i64 at'] w fun e w' => e = .returned (.bool true) ∧ Below w.heap.size w w' := by
  have hv := lives_any
  have ho2 : ((O.size : Int) == 128) = false := by rw [beq_eq_false_iff_ne]; omega
  have ho3 : ((O.size : Int) != 128) = true := by rw [bne_iff_ne]; omega
  have ho4 : ¬ ((O.size : Int) = 128) := by omega
  go_enter Try.func7, Try.ntmps7
  go_wp2_with fail
  go_at_call 14; refine (hv _).mono ?_; rintro e w1 ⟨rfl, hW⟩
  go_wp2_with fail
  go_at_call 8; refine (c1 _).mono ?_; rintro e w2 ⟨rfl, hb2⟩
  have hW := below2 hW hb2
  go_wp2_with fail
  go_region
  all_goals go_wp2
  all_goals go_ret
  all_goals exact ⟨rfl, hW.drew⟩
set_option maxHeartbeats 2000000 in
theorem out_at (t : Nat) (at' : Int) (D O S : ByteArray) (w : World) (ho : O.size = 128) (ha : at' < 0 ∨ 128 < at')
    (c1 : ∀ w, Calls Try.prog 8 #[.int .u64 (t : Int), .string D] w fun e w' => e = .returned (.tuple #[.string S, .int .i64 0]) ∧ Below w.heap.size w w') :
    Calls Try.prog 7 #[.int .u64 (t : Int), .string D, .string O, .int .i64 at'] w fun e w' => e = .returned (.bool true) ∧ Below w.heap.size w w' := by
  have hv := lives_any
  rcases ha with ha | ha
  · have h1 : decide (at' < 0) = true := by simpa using ha
    go_enter Try.func7, Try.ntmps7
    go_wp2_with fail
    go_at_call 14; refine (hv _).mono ?_; rintro e w1 ⟨rfl, hW⟩
    go_wp2_with fail
    go_at_call 8; refine (c1 _).mono ?_; rintro e w2 ⟨rfl, hb2⟩
    have hW := below2 hW hb2
    go_wp2_with fail
    go_region
    all_goals go_wp2
    all_goals go_ret
    all_goals exact ⟨rfl, hW.drew⟩
  · have h1 : decide (at' < 0) = false := by rw [decide_eq_false_iff_not]; omega
    have h2 : decide (128 < at') = true := by simpa using ha
    go_enter Try.func7, Try.ntmps7
    go_wp2_with fail
    go_at_call 14; refine (hv _).mono ?_; rintro e w1 ⟨rfl, hW⟩
    go_wp2_with fail
    go_at_call 8; refine (c1 _).mono ?_; rintro e w2 ⟨rfl, hb2⟩
    have hW := below2 hW hb2
    go_wp2_with fail
    go_region
    all_goals go_wp2
    all_goals go_ret
    all_goals exact ⟨rfl, hW.drew⟩
set_option maxHeartbeats 2000000 in
theorem out_same (t k : Nat) (D O S E : ByteArray) (w : World) (ho : O.size = 128) (hk : k ≤ 128) (hE : O.extract 120 128 = E)
    (c1 : ∀ w, Calls Try.prog 8 #[.int .u64 (t : Int), .string D] w fun e w' => e = .returned (.tuple #[.string S, .int .i64 0]) ∧ Below w.heap.size w w')
    (c2 : ∀ w, Calls Try.prog 20 #[.int .u64 (t : Int)] w fun e w' => e = .returned (.string E) ∧ Below w.heap.size w w') :
    Calls Try.prog 7 #[.int .u64 (t : Int), .string D, .string O, .int .i64 (k : Int)] w fun e w' => e = .returned (.bool true) ∧ Below w.heap.size w w' := by
  have hv := lives_any
  have h1 : decide ((k : Int) < 0) = false := by rw [decide_eq_false_iff_not]; omega
  have h2 : decide (128 < (k : Int)) = false := by rw [decide_eq_false_iff_not]; omega
  go_enter Try.func7, Try.ntmps7
  go_wp2_with fail
  go_at_call 14; refine (hv _).mono ?_; rintro e w1 ⟨rfl, hW⟩
  go_wp2_with fail
  go_at_call 8; refine (c1 _).mono ?_; rintro e w2 ⟨rfl, hb2⟩
  have hW := below2 hW hb2
  go_wp2_with fail
  haveI := bl_ne w2
  refine wp_region_bl (by kernel_rfl) (by kernel_rfl) ?_
  repeat (quiet_step ((go_at_call 20; exact bl_call (c2 _))))
  refine wpQuiet_nil ?_
  intro _ hw'
  obtain ⟨⟨wq, hq⟩, hw2⟩ := hw'
  subst hw2
  have hW := below2 hW hq
  go_wp2
  go_ret
  exact ⟨rfl, hW⟩
set_option maxHeartbeats 4000000 in
theorem main_way (t k u : Nat) (y1 y2 y3 : Int) (D O S E X P Q : ByteArray) (w : World) (hS : S.size = 128) (ho : O.size = 128) (hk : k ≤ 128) (hE : O.extract 120 128 ≠ E)
    (hX : S.extract 0 k ++ O.extract k 128 = X) (h1 : y1 = 0 → X = S) (h3 : y2 = 0 → y3 = 0 → X = O)
    (c1 : ∀ w, Calls Try.prog 8 #[.int .u64 (t : Int), .string D] w fun e w' => e = .returned (.tuple #[.string S, .int .i64 0]) ∧ Below w.heap.size w w')
    (c2 : ∀ w, Calls Try.prog 20 #[.int .u64 (t : Int)] w fun e w' => e = .returned (.string E) ∧ Below w.heap.size w w')
    (c3 : ∀ w, Calls Try.prog 10 #[.string X, .int .u64 (t : Int)] w fun e w' => e = .returned (.tuple #[.string P, .int .i64 y1]) ∧ Below w.heap.size w w')
    (c4 : ∀ w, Calls Try.prog 12 #[.string O] w fun e w' => e = .returned (.tuple #[.int .u64 (u : Int), .int .i64 y2]) ∧ Below w.heap.size w w')
    (c5 : ∀ w, Calls Try.prog 10 #[.string X, .int .u64 (u : Int)] w fun e w' => e = .returned (.tuple #[.string Q, .int .i64 y3]) ∧ Below w.heap.size w w') :
    Calls Try.prog 7 #[.int .u64 (t : Int), .string D, .string O, .int .i64 (k : Int)] w fun e w' => e = .returned (.bool true) ∧ Below w.heap.size w w' := by
  have hv := lives_any
  have d1 : decide ((k : Int) < 0) = false := by rw [decide_eq_false_iff_not]; omega
  have d2 : decide (128 < (k : Int)) = false := by rw [decide_eq_false_iff_not]; omega
  have hE2 := ne_of hE
  have hz1 : (S.extract 0 k).size ≤ 128 := by rw [ByteArray.size_extract]; omega
  have hz2 : (O.extract k 128).size ≤ 128 := by rw [ByteArray.size_extract]; omega
  have n1 : ¬ 9223372036854775807 < (S.extract 0 k).size + (O.extract k 128).size := by omega
  have hk2 : (k : Int) ≤ 128 := by omega
  have p1 : (y1 == 0) = false ∨ y1 = 0 ∧ X.toList = S.toList := by
    by_cases h : y1 = 0
    · exact .inr ⟨h, by rw [h1 h]⟩
    · exact .inl (beq_eq_false_iff_ne.2 h)
  have p3 : (y2 == 0) = false ∨ (y3 == 0) = false ∧ y2 = 0 ∨ y2 = 0 ∧ y3 = 0 ∧ X.toList = O.toList := by
    by_cases h : y2 = 0
    · by_cases h' : y3 = 0
      · exact .inr (.inr ⟨h, h', by rw [h3 h h']⟩)
      · exact .inr (.inl ⟨beq_eq_false_iff_ne.2 h', h⟩)
    · exact .inl (beq_eq_false_iff_ne.2 h)
  clear hE h1 h3
  have hk0 : (0 : Int) ≤ (k : Int) := by omega
  go_enter Try.func7, Try.ntmps7
  go_wp2_with fail
  go_at_call 14; refine (hv _).mono ?_; rintro e w1 ⟨rfl, hW⟩
  go_wp2_with fail
  go_at_call 8; refine (c1 _).mono ?_; rintro e w2 ⟨rfl, hb2⟩
  have hW := below2 hW hb2
  go_wp2_with fail
  haveI := bl_ne w2
  refine wp_region_bl (by kernel_rfl) (by kernel_rfl) ?_
  repeat (quiet_step ((go_at_call 20; exact bl_call (c2 _))))
  refine wpQuiet_nil ?_
  intro _ hw'
  obtain ⟨⟨wq, hq⟩, hw2⟩ := hw'
  subst hw2
  have hW := below2 hW hq
  go_wp2_with fail
  go_quiet (fail)
  go_wp2_with fail
  go_at_call 10; refine (c3 _).mono ?_; rintro e w4 ⟨rfl, hb4⟩
  have hW := below2 (below_drewN hW _) hb4
  clear c1 c2 c3 hv hb2 hq hb4 hX
  rcases p1 with p1 | ⟨rfl, p1⟩
  all_goals go_wp2_with fail
  all_goals go_at_call 12; refine (c4 _).mono ?_; rintro e w5 ⟨rfl, hb5⟩
  all_goals have hW := below2 hW hb5
  all_goals go_wp2_with fail
  all_goals go_at_call 10; refine (c5 _).mono ?_; rintro e w6 ⟨rfl, hb6⟩
  all_goals have hW := below2 hW hb6
  all_goals clear c4 c5 hb5 hb6
  all_goals rcases p3 with p3 | ⟨p3, rfl⟩ | ⟨rfl, rfl, p3⟩
  all_goals go_wp2
  all_goals go_ret
  all_goals refine ⟨congrArg (fun b => Ending.returned (.bool b)) (?_ : _ = true), hW⟩
  all_goals first | rfl | exact beq_iff_eq.2 p3 | exact beq_iff_eq.2 (p1.symm.trans p3) | simp_all
theorem walk (a0 : Int) (a1 a2 : ByteArray) (a3 : Int) (w : World) (b0 : 0 ≤ a0 ∧ a0 ≤ 18446744073709551615) (b1 : a1.size ≤ 140737488351232) (b2 : a2.size ≤ 140737488351232) (b3 : -9223372036854775808 ≤ a3 ∧ a3 ≤ 9223372036854775807) :
    Calls Try.prog 7 #[.int .u64 a0, .string a1, .string a2, .int .i64 a3] w fun e w' => e = .returned (.bool true) ∧ Below w.heap.size w w' := by
  obtain ⟨t, rfl⟩ := Int.eq_ofNat_of_zero_le b0.1
  obtain ⟨d, rfl, hd⟩ := str_list a1
  obtain ⟨o, rfl, hol⟩ := str_list a2
  have ht : t < 18446744073709551616 := by omega
  have c1 := fun w => put_any t d w ht (by omega)
  unfold StrIs at c1
  by_cases hg : t ≠ 0 ∧ d.length ≤ 111
  · rw [putL_ok hg.1 hg.2] at c1
    simp only at c1
    by_cases h128 : o.length = 128
    · by_cases hat : a3 < 0 ∨ 128 < a3
      · exact out_at t a3 _ _ _ w (by rw [size_list]; exact h128) hat c1
      · obtain ⟨k, rfl⟩ := Int.eq_ofNat_of_zero_le (show 0 ≤ a3 by omega)
        have hk : k ≤ 128 := by omega
        have c2 := fun w => reight_any t w ht
        have hx : (⟨o.toArray⟩ : ByteArray).extract 120 128 = ⟨(o.drop 120).toArray⟩ := by
          have := extract_drop ⟨o.toArray⟩ 120
          rw [size_list, h128] at this
          exact this
        by_cases hE : o.drop 120 = eightL t
        · exact out_same t k _ _ _ _ w (by rw [size_list]; exact h128) hk (by rw [hx, hE]) c1 c2
        · have hX : (⟨(pageL t d).toArray⟩ : ByteArray).extract 0 k ++ (⟨o.toArray⟩ : ByteArray).extract k 128 = ⟨((pageL t d).take k ++ o.drop k).toArray⟩ := by
            have h1 := extract_take ⟨(pageL t d).toArray⟩ k
            have h2 := extract_drop ⟨o.toArray⟩ k
            rw [size_list, h128] at h2
            rw [h1, h2, str_app]
          have hlen : ((pageL t d).take k ++ o.drop k).length ≤ 9223372036854775807 := by
            rw [List.length_append, List.length_take, List.length_drop, pageL_len t d hg.2]; omega
          have hu := tagL_inv (s := o) (t := (tagL o).1)
          have hul : (tagL o).1 < 18446744073709551616 := by
            by_cases h0 : (tagL o).2 = 0
            · exact (hu (by rw [← h0])).2.2.2.2
            · rw [tagL_err o h0]; show (0 : Nat) < 18446744073709551616; decide
          refine main_way t k (tagL o).1 _ _ _ _ _ _ _ _ _ _ w (by rw [size_list]; exact pageL_len t d hg.2) (by rw [size_list]; exact h128) hk (fun hc => hE (by rw [hx] at hc; exact arr_inj hc)) hX ?_ ?_ c1 c2 (fun w => get_any _ t w hlen ht) (fun w => tag_any o w (by omega)) (fun w => get_any _ (tagL o).1 w hlen hul)
          · intro hy
            rw [torn_new (t := t) (d := d) rfl hg.2 h128 hk hE (getL_tag hy)]
          · intro hy1 hy2
            rw [torn_old (t := t) (u := (tagL o).1) (pageL_len t d hg.2) (pageL_take t d) h128 hk hE (by rw [← hy1]) (getL_tag hy2)]
    · exact out_len t a3 _ _ _ w (by rw [size_list]; exact h128) (by rw [size_list]; omega) c1
  · obtain ⟨y, hy, hp⟩ : ∃ y, y ≠ 0 ∧ putL t d = ([], y) := by
      by_cases h0 : t = 0
      · exact ⟨1, by decide, by rw [h0]; rfl⟩
      · exact ⟨11, by decide, putL_long h0 (fun hc => hg ⟨h0, hc⟩)⟩
    rw [hp] at c1
    exact out_y t y a3 _ _ _ w hy c1

set_option maxRecDepth 100000 in
theorem lifted (os : Os) (started : os.Started) (H : Type) (enc : TypeId × Value → H) :
    ReturnsInHanded {} Try.checked os 7 .any (Rows.pageTornSpec.pre6 enc Try.prog Try.f7 Rows.pageTornRow.domain false) (Rows.pageTornSpec.post enc Try.prog Try.f7 false true false false) := by
  refine returnsInHanded_of_change_sized (C := Try.checked) own started (by kernel_rfl) Try.func7
    (ChangeSpec.witness6 (enc := enc) (C := Try.checked) false ⟨#[], #[.int .u64 0, .string ByteArray.empty, .string ByteArray.empty, .int .i64 0], []⟩ 8 (by kernel_rfl) (by kernel_rfl) (by kernel_rfl) (by kernel_rfl)) ?_
  intro W base args ds gs before hval0 hW _ hsz0 _
  have hsz : (DataW.weightsEach Try.prog (Try.f7.params.toList ++ Rows.pageTornSpec.plain.varTypes Try.prog) (ds ++ gs)).all (· ≤ reachBytes) = true := hsz0
  clear hsz0
  have hval : ∀ (j : Nat) t v, Try.f7.params[j]? = some t → args[j]? = some v → Value.okWide Try.prog W .any base t v := hval0
  have hW' := hW
  obtain ⟨p, q, hA0, hV, rfl, hfz, hnd⟩ := hW
  have hA : DataW.TrodAll enc Try.prog W 0 (fun _ => true) true Try.f7.params.toList args.toList ds p := hA0
  rw [Try.params7] at hA hval hsz
  obtain ⟨v0, vs0, d0, ds0, p0, q0, hargs, rfl, rfl, h0, r0⟩ := trodAll_cons hA
  obtain ⟨v1, vs1, d1, ds1, p1, q1, rfl, rfl, rfl, h1, r1⟩ := trodAll_cons r0
  obtain ⟨v2, vs2, d2, ds2, p2, q2, rfl, rfl, rfl, h2, r2⟩ := trodAll_cons r1
  obtain ⟨v3, vs3, d3, ds3, p3, q3, rfl, rfl, rfl, h3, r3⟩ := trodAll_cons r2
  obtain ⟨rfl, rfl, rfl⟩ := trodAll_nil r3
  obtain rfl : args = #[v0, v1, v2, v3] := by cases args; simp_all
  obtain ⟨rfl, rfl⟩ := trodVars_none hV
  obtain ⟨a0, rfl, rfl, rfl, w0⟩ := open_int Try.underlying22 (hval 0 22 v0 rfl rfl) h0
  have b0 : 0 ≤ a0 ∧ a0 ≤ 18446744073709551615 := by simpa [Lit.wf, IntKind.min, IntKind.max, IntKind.signed, IntKind.bits] using w0
  obtain ⟨a1, rfl, rfl, rfl, w1⟩ := open_string Try.underlying9 (hval 1 9 v1 rfl rfl) h1
  have b1 : a1.size ≤ 140737488351232 := by
    have := sized_string hsz (j := 1) (t := 9) rfl rfl
    simpa [reachBytes] using this
  obtain ⟨a2, rfl, rfl, rfl, w2⟩ := open_string Try.underlying9 (hval 2 9 v2 rfl rfl) h2
  have b2 : a2.size ≤ 140737488351232 := by
    have := sized_string hsz (j := 2) (t := 9) rfl rfl
    simpa [reachBytes] using this
  obtain ⟨a3, rfl, rfl, rfl, w3⟩ := open_int Try.underlying3 (hval 3 3 v3 rfl rfl) h3
  have b3 : -9223372036854775808 ≤ a3 ∧ a3 ≤ 9223372036854775807 := by simpa [Lit.wf, IntKind.min, IntKind.max, IntKind.signed, IntKind.bits] using w3
  clear hA0 hval0
  refine (walk a0 a1 a2 a3 W b0 b1 b2 b3).mono fun e W' ⟨he, bel⟩ => ?_
  subst he
  exact ⟨_, rfl, _, _, _, [], _, [], hW', trodAll_mk1 (shut_bool Try.underlying4 _), (trodAll_cons_mk (shut_int Try.underlying22 w0) (trodAll_cons_mk (shut_string Try.underlying9 w1) (trodAll_cons_mk (shut_string Try.underlying9 w2) (trodAll_cons_mk (shut_int Try.underlying3 w3) trodAll_mk0)))), rfl, bel.frame _, fun h => by cases h⟩

theorem over : Rows.pageTornRow.holds Try.pinned (OpenSpec.ofChange Rows.pageTornSpec) :=
  OpenClaim.holds_of_wide 7 Try.f7 rfl rfl rfl rfl rfl rfl rfl ⟨rfl, rfl, rfl, rfl, rfl⟩ rfl rfl rfl rfl rfl (by kernel_rfl) Try.func7 (by kernel_rfl)
    (of_decide_eq_true (by kernel_rfl)) (by unfold Func.isWrapper; first | (rw [if_pos (by decide +kernel)]; kernel_rfl) | (rw [if_neg (by decide +kernel)]; exact ⟨rfl, rfl⟩))
    (fun os started H enc _ => lifted os started H enc)
end pageTorn
theorem ptorn_holds : Rows.PageTornSaid := pageTorn.over
#print axioms ptorn_holds
end Go.Proofs.Ytjchmjmcojoklaa
