/- For every payload and number: spoorlaw04.FramePuts returns true, and changes nothing that was there. No condition. -/
import Derived.Test.YtojgmiobjfkebaaRows
import Derived.Test.YtojgmiobjfkebaaWalkLive4
import Derived.ProofKit
import Derived.OpenShut
import Derived.ShutString
import Derived.SizedLaws
set_option linter.unusedVariables false
namespace Go.Proofs.Ytojgmiobjfkebaa
namespace framePuts
open Go.ChangeShapes Go.WideShapes Go.ChangeAt Go.RowKit
open Go.ChangeMaps (open_string shut_string)
open Go.Proofs.Ytojgmiobjfkebaa.Frame

theorem own : ownKnob Try.prog.godebug = none := by kernel_rfl
theorem laidOut : laidOutB Try.prog = true := by kernel_rfl

set_option maxHeartbeats 1000000 in
theorem core (n X e1 e2 Z e3 : Int) (S A : ByteArray) (w : World) (hz : S.size ≤ 140737488351232) (hfit : (e1 = 0 ∧ e3 = 0 ∧ Z = (A.size : Int)) ∨ e1 = 11)
    (c1 : ∀ w, Calls Try.prog 8 #[.string S] w fun e w' => e = .returned (.tuple #[.string A, .int .i64 e1]) ∧ Below w.heap.size w w')
    (c2 : ∀ w, Calls Try.prog 9 #[.string S] w fun e w' => e = .returned (.tuple #[.string A, .int .i64 e1]) ∧ Below w.heap.size w w')
    (c3 : ∀ w, Calls Try.prog 10 #[.int .i64 n] w fun e w' => e = .returned (.tuple #[.int .i64 X, .int .i64 e2]) ∧ Below w.heap.size w w')
    (c4 : ∀ w, Calls Try.prog 11 #[.int .i64 n] w fun e w' => e = .returned (.tuple #[.int .i64 X, .int .i64 e2]) ∧ Below w.heap.size w w')
    (c5 : ∀ w, Calls Try.prog 10 #[.int .i64 (S.size : Int)] w fun e w' => e = .returned (.tuple #[.int .i64 Z, .int .i64 e3]) ∧ Below w.heap.size w w') :
    Calls Try.prog 3 #[.string S, .int .i64 n] w fun e w' => e = .returned (.bool true) ∧ Below w.heap.size w w' := by
  have hv : ∀ w, Calls Try.prog 12 #[] w fun e w' => e = .returned (.bool true) ∧ Below w.heap.size w w' := lives_any
  rcases hfit with ⟨rfl, rfl, rfl⟩ | rfl
  all_goals
    go_enter Try.func3, Try.ntmps3
    go_wp2_with fail
    go_at_call 8; refine (c1 _).mono ?_; rintro e w1 ⟨rfl, hW⟩
    go_wp2_with fail
    go_at_call 9; refine (c2 _).mono ?_; rintro e w2 ⟨rfl, hb⟩
    have hW := below2 hW hb
    go_wp2_with fail
    go_at_call 10; refine (c3 _).mono ?_; rintro e w3 ⟨rfl, hb⟩
    have hW := below2 hW hb
    go_wp2_with fail
    go_at_call 11; refine (c4 _).mono ?_; rintro e w4 ⟨rfl, hb⟩
    have hW := below2 hW hb
    go_wp2_with fail
    go_at_call 10; refine (c5 _).mono ?_; rintro e w5 ⟨rfl, hb⟩
    have hW := below2 hW hb
    go_wp2_with fail
    go_at_call 12; refine (hv _).mono ?_; rintro e w6 ⟨rfl, hb⟩
    have hW := below2 hW hb
    go_wp2_with fail
    go_ret
    exact ⟨rfl, hW⟩
theorem frameL_len (l : List UInt8) : (frameL l).length = (putL l.length).length + 4 + l.length := by
  rw [frameL, List.length_append, List.length_append, sumL_len]; omega
theorem walk (a0 : ByteArray) (a1 : Int) (w : World) (b0 : a0.size ≤ 140737488351232) (b1 : -9223372036854775808 ≤ a1 ∧ a1 ≤ 9223372036854775807) :
    Calls Try.prog 3 #[.string a0, .int .i64 a1] w fun e w' => e = .returned (.bool true) ∧ Below w.heap.size w w' := by
  obtain ⟨l, rfl, hl⟩ := str_list a0
  have hS : (⟨l.toArray⟩ : ByteArray).size = l.length := size_list l
  obtain ⟨X, e2, c3, c4⟩ : ∃ X e2, (∀ w, Calls Try.prog 10 #[.int .i64 a1] w fun e w' => e = .returned (.tuple #[.int .i64 X, .int .i64 e2]) ∧ Below w.heap.size w w') ∧
      (∀ w, Calls Try.prog 11 #[.int .i64 a1] w fun e w' => e = .returned (.tuple #[.int .i64 X, .int .i64 e2]) ∧ Below w.heap.size w w') := by
    by_cases h : a1 < 0 ∨ 4096 < a1
    · exact ⟨0, 1, fun w => size_bad a1 w h b1, fun w => rsize_bad a1 w h b1⟩
    · obtain ⟨n, rfl⟩ := Int.eq_ofNat_of_zero_le (show 0 ≤ a1 by omega)
      exact ⟨_, 0, fun w => size_ok n w (by omega), fun w => rsize_ok n w (by omega)⟩
  by_cases h : l.length ≤ 4096
  · refine core a1 X 0 e2 _ 0 _ _ w b0 (.inl ⟨rfl, rfl, rfl⟩) (fun w => put_ok l w h) (fun w => rput_ok l w h) c3 c4 (fun w => ?_)
    rw [hS, size_list, frameL_len]
    exact size_ok l.length w h
  · refine core a1 X 11 e2 0 1 _ _ w b0 (.inr rfl) (fun w => put_long _ w (by omega) (by omega)) (fun w => rput_long _ w (by omega) (by omega)) c3 c4 (fun w => ?_)
    exact size_bad _ w (.inr (by omega)) ⟨by omega, by omega⟩

set_option maxRecDepth 100000 in
theorem lifted (os : Os) (started : os.Started) (H : Type) (enc : TypeId × Value → H) :
    ReturnsInHanded {} Try.checked os 3 .any (Rows.framePutsSpec.pre6 enc Try.prog Try.f3 Rows.framePutsRow.domain false) (Rows.framePutsSpec.post enc Try.prog Try.f3 false true false false) := by
  refine returnsInHanded_of_change_sized (C := Try.checked) own started (by kernel_rfl) Try.func3
    (ChangeSpec.witness6 (enc := enc) (C := Try.checked) false ⟨#[], #[.string ByteArray.empty, .int .i64 0], []⟩ 8 (by kernel_rfl) (by kernel_rfl) (by kernel_rfl) (by kernel_rfl)) ?_
  intro W base args ds gs before hval0 hW _ hsz0 _
  have hsz : (DataW.weightsEach Try.prog (Try.f3.params.toList ++ Rows.framePutsSpec.plain.varTypes Try.prog) (ds ++ gs)).all (· ≤ reachBytes) = true := hsz0
  clear hsz0
  have hval : ∀ (j : Nat) t v, Try.f3.params[j]? = some t → args[j]? = some v → Value.okWide Try.prog W .any base t v := hval0
  have hW' := hW
  obtain ⟨p, q, hA0, hV, rfl, hfz, hnd⟩ := hW
  have hA : DataW.TrodAll enc Try.prog W 0 (fun _ => true) true Try.f3.params.toList args.toList ds p := hA0
  rw [Try.params3] at hA hval hsz
  obtain ⟨v0, vs0, d0, ds0, p0, q0, hargs, rfl, rfl, h0, r0⟩ := trodAll_cons hA
  obtain ⟨v1, vs1, d1, ds1, p1, q1, rfl, rfl, rfl, h1, r1⟩ := trodAll_cons r0
  obtain ⟨rfl, rfl, rfl⟩ := trodAll_nil r1
  obtain rfl : args = #[v0, v1] := by cases args; simp_all
  obtain ⟨rfl, rfl⟩ := trodVars_none hV
  obtain ⟨a0, rfl, rfl, rfl, w0⟩ := open_string Try.underlying9 (hval 0 9 v0 rfl rfl) h0
  have b0 : a0.size ≤ 140737488351232 := by
    have := sized_string hsz (j := 0) (t := 9) rfl rfl
    simpa [reachBytes] using this
  obtain ⟨a1, rfl, rfl, rfl, w1⟩ := open_int Try.underlying3 (hval 1 3 v1 rfl rfl) h1
  have b1 : -9223372036854775808 ≤ a1 ∧ a1 ≤ 9223372036854775807 := by simpa [Lit.wf, IntKind.min, IntKind.max, IntKind.signed, IntKind.bits] using w1
  clear hA0 hval0
  refine (walk a0 a1 W b0 b1).mono fun e W' ⟨he, bel⟩ => ?_
  subst he
  exact ⟨_, rfl, _, _, _, [], _, [], hW', trodAll_mk1 (shut_bool Try.underlying4 _), (trodAll_cons_mk (shut_string Try.underlying9 w0) (trodAll_cons_mk (shut_int Try.underlying3 w1) trodAll_mk0)), rfl, bel.frame _, fun h => by cases h⟩

theorem over : Rows.framePutsRow.holds Try.pinned (OpenSpec.ofChange Rows.framePutsSpec) :=
  OpenClaim.holds_of_wide 3 Try.f3 rfl rfl rfl rfl rfl rfl rfl ⟨rfl, rfl, rfl, rfl, rfl⟩ rfl rfl rfl rfl rfl (by kernel_rfl) Try.func3 (by kernel_rfl)
    (of_decide_eq_true (by kernel_rfl)) (by unfold Func.isWrapper; first | (rw [if_pos (by decide +kernel)]; kernel_rfl) | (rw [if_neg (by decide +kernel)]; exact ⟨rfl, rfl⟩))
    (fun os started H enc _ => lifted os started H enc)
end framePuts
theorem fputs_holds : Rows.FramePutsSaid := framePuts.over
#print axioms fputs_holds
end Go.Proofs.Ytojgmiobjfkebaa
