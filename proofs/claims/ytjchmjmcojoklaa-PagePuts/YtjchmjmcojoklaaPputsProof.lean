/- For every tag, data and sector: spoorlaw05.PagePuts returns true, and changes nothing that was there. No condition. -/
import Derived.Test.YtjchmjmcojoklaaRows
import Derived.Test.YtjchmjmcojoklaaPageLives
import Derived.Test.YtjchmjmcojoklaaPageRef2
import Derived.ProofKit
import Derived.OpenShut
import Derived.ShutString
import Derived.SizedLaws
set_option linter.unusedVariables false
namespace Go.Proofs.Ytjchmjmcojoklaa
namespace pagePuts
open Go.ChangeShapes Go.WideShapes Go.ChangeAt Go.RowKit
open Go.ChangeMaps (open_string shut_string)
open Go.Proofs.Ytjchmjmcojoklaa.Page

theorem own : ownKnob Try.prog.godebug = none := by kernel_rfl
theorem laidOut : laidOutB Try.prog = true := by kernel_rfl

set_option maxHeartbeats 2000000 in
theorem core (t n : Nat) (D S A C : ByteArray) (e1 e2 e3 : Int) (w : World)
    (c1 : ∀ w, Calls Try.prog 8 #[.int .u64 (t : Int), .string D] w fun e w' => e = .returned (.tuple #[.string A, .int .i64 e1]) ∧ Below w.heap.size w w')
    (c2 : ∀ w, Calls Try.prog 9 #[.int .u64 (t : Int), .string D] w fun e w' => e = .returned (.tuple #[.string A, .int .i64 e1]) ∧ Below w.heap.size w w')
    (c3 : ∀ w, Calls Try.prog 10 #[.string S, .int .u64 (t : Int)] w fun e w' => e = .returned (.tuple #[.string C, .int .i64 e2]) ∧ Below w.heap.size w w')
    (c4 : ∀ w, Calls Try.prog 11 #[.string S, .int .u64 (t : Int)] w fun e w' => e = .returned (.tuple #[.string C, .int .i64 e2]) ∧ Below w.heap.size w w')
    (c5 : ∀ w, Calls Try.prog 12 #[.string S] w fun e w' => e = .returned (.tuple #[.int .u64 (n : Int), .int .i64 e3]) ∧ Below w.heap.size w w')
    (c6 : ∀ w, Calls Try.prog 13 #[.string S] w fun e w' => e = .returned (.tuple #[.int .u64 (n : Int), .int .i64 e3]) ∧ Below w.heap.size w w') :
    Calls Try.prog 3 #[.int .u64 (t : Int), .string D, .string S] w fun e w' => e = .returned (.bool true) ∧ Below w.heap.size w w' := by
  have hv := lives_any
  go_enter Try.func3, Try.ntmps3
  go_wp2_with fail
  go_at_call 8; refine (c1 _).mono ?_; rintro e w1 ⟨rfl, hW⟩
  go_wp2_with fail
  go_at_call 9; refine (c2 _).mono ?_; rintro e w2 ⟨rfl, hb⟩
  have hW := below2 hW hb
  go_wp2_with fail
  go_at_call 10; refine (c3 _).mono ?_; rintro e w3 ⟨rfl, hb⟩
  have hW := below2 hW hb
  go_wp2_with fail
  go_at_call 11; refine (c4 _).mono ?_; rintro e w4 ⟨rfl, hb⟩
  have hW := below2 hW hb
  go_wp2_with fail
  go_at_call 12; refine (c5 _).mono ?_; rintro e w5 ⟨rfl, hb⟩
  have hW := below2 hW hb
  go_wp2_with fail
  go_at_call 13; refine (c6 _).mono ?_; rintro e w6 ⟨rfl, hb⟩
  have hW := below2 hW hb
  go_wp2_with fail
  go_at_call 14; refine (hv _).mono ?_; rintro e w7 ⟨rfl, hb⟩
  have hW := below2 hW hb
  clear c1 c2 c3 c4 c5 c6 hv
  go_wp2
  go_ret
  exact ⟨rfl, hW⟩
theorem walk (a0 : Int) (a1 a2 : ByteArray) (w : World) (b0 : 0 ≤ a0 ∧ a0 ≤ 18446744073709551615) (b1 : a1.size ≤ 140737488351232) (b2 : a2.size ≤ 140737488351232) :
    Calls Try.prog 3 #[.int .u64 a0, .string a1, .string a2] w fun e w' => e = .returned (.bool true) ∧ Below w.heap.size w w' := by
  obtain ⟨t, rfl⟩ := Int.eq_ofNat_of_zero_le b0.1
  obtain ⟨d, rfl, hd⟩ := str_list a1
  obtain ⟨s, rfl, hs⟩ := str_list a2
  have ht : t < 18446744073709551616 := by omega
  exact core t _ _ _ _ _ _ _ _ w (fun w => put_any t d w ht (by omega)) (fun w => rput_any t d w ht (by omega)) (fun w => get_any s t w (by omega) ht) (fun w => rget_any s t w (by omega) ht) (fun w => tag_any s w (by omega)) (fun w => rtag_any s w (by omega))

set_option maxRecDepth 100000 in
theorem lifted (os : Os) (started : os.Started) (H : Type) (enc : TypeId × Value → H) :
    ReturnsInHanded {} Try.checked os 3 .any (Rows.pagePutsSpec.pre6 enc Try.prog Try.f3 Rows.pagePutsRow.domain false) (Rows.pagePutsSpec.post enc Try.prog Try.f3 false true false false) := by
  refine returnsInHanded_of_change_sized (C := Try.checked) own started (by kernel_rfl) Try.func3
    (ChangeSpec.witness6 (enc := enc) (C := Try.checked) false ⟨#[], #[.int .u64 0, .string ByteArray.empty, .string ByteArray.empty], []⟩ 8 (by kernel_rfl) (by kernel_rfl) (by kernel_rfl) (by kernel_rfl)) ?_
  intro W base args ds gs before hval0 hW _ hsz0 _
  have hsz : (DataW.weightsEach Try.prog (Try.f3.params.toList ++ Rows.pagePutsSpec.plain.varTypes Try.prog) (ds ++ gs)).all (· ≤ reachBytes) = true := hsz0
  clear hsz0
  have hval : ∀ (j : Nat) t v, Try.f3.params[j]? = some t → args[j]? = some v → Value.okWide Try.prog W .any base t v := hval0
  have hW' := hW
  obtain ⟨p, q, hA0, hV, rfl, hfz, hnd⟩ := hW
  have hA : DataW.TrodAll enc Try.prog W 0 (fun _ => true) true Try.f3.params.toList args.toList ds p := hA0
  rw [Try.params3] at hA hval hsz
  obtain ⟨v0, vs0, d0, ds0, p0, q0, hargs, rfl, rfl, h0, r0⟩ := trodAll_cons hA
  obtain ⟨v1, vs1, d1, ds1, p1, q1, rfl, rfl, rfl, h1, r1⟩ := trodAll_cons r0
  obtain ⟨v2, vs2, d2, ds2, p2, q2, rfl, rfl, rfl, h2, r2⟩ := trodAll_cons r1
  obtain ⟨rfl, rfl, rfl⟩ := trodAll_nil r2
  obtain rfl : args = #[v0, v1, v2] := by cases args; simp_all
  obtain ⟨rfl, rfl⟩ := trodVars_none hV
  obtain ⟨a0, rfl, rfl, rfl, w0⟩ := open_int Try.underlying22 (hval 0 22 v0 rfl rfl) h0
  have b0 : 0 ≤ a0 ∧ a0 ≤ 18446744073709551615 := by simpa [Lit.wf, IntKind.min, IntKind.max, IntKind.signed, IntKind.bits] using w0
  obtain ⟨a1, rfl, rfl, rfl, w1⟩ := open_string Try.underlying9 (hval 1 9 v1 rfl rfl) h1
  have b1 : a1.size ≤ 140737488351232 := by
    have := sized_string hsz (j := 1) (t := 9) rfl rfl
    simpa [reachBytes] using this
  obtain ⟨a2, rfl, rfl, rfl, w2⟩ := open_string Try.underlying9 (hval 2 9 v2 rfl rfl) h2
  have b2 : a2.size ≤ 140737488351232 := by
    have := sized_string hsz (j := 2) (t := 9) rfl rfl
    simpa [reachBytes] using this
  clear hA0 hval0
  refine (walk a0 a1 a2 W b0 b1 b2).mono fun e W' ⟨he, bel⟩ => ?_
  subst he
  exact ⟨_, rfl, _, _, _, [], _, [], hW', trodAll_mk1 (shut_bool Try.underlying4 _), (trodAll_cons_mk (shut_int Try.underlying22 w0) (trodAll_cons_mk (shut_string Try.underlying9 w1) (trodAll_cons_mk (shut_string Try.underlying9 w2) trodAll_mk0))), rfl, bel.frame _, fun h => by cases h⟩

theorem over : Rows.pagePutsRow.holds Try.pinned (OpenSpec.ofChange Rows.pagePutsSpec) :=
  OpenClaim.holds_of_wide 3 Try.f3 rfl rfl rfl rfl rfl rfl rfl ⟨rfl, rfl, rfl, rfl, rfl⟩ rfl rfl rfl rfl rfl (by kernel_rfl) Try.func3 (by kernel_rfl)
    (of_decide_eq_true (by kernel_rfl)) (by unfold Func.isWrapper; first | (rw [if_pos (by decide +kernel)]; kernel_rfl) | (rw [if_neg (by decide +kernel)]; exact ⟨rfl, rfl⟩))
    (fun os started H enc _ => lifted os started H enc)
end pagePuts
theorem pputs_holds : Rows.PagePutsSaid := pagePuts.over
#print axioms pputs_holds
end Go.Proofs.Ytjchmjmcojoklaa
