/- For every text: spoorlaw01.NumGets returns true, and changes nothing that was there. No condition. -/
import Derived.Test.YtmbciomfkiadiaaRows
import Derived.Test.YtmbciomfkiadiaaWalkNumbers
import Derived.Test.YtmbciomfkiadiaaMathGet
import Derived.ProofKit
import Derived.OpenShut
import Derived.ShutString
import Derived.SizedLaws
set_option linter.unusedVariables false
namespace Go.Proofs.Ytmbciomfkiadiaa
namespace numGets
open Go.ChangeShapes Go.WideShapes Go.ChangeAt Go.RowKit
open Go.ChangeMaps (open_string shut_string)

theorem own : ownKnob Try.prog.godebug = none := by kernel_rfl
theorem laidOut : laidOutB Try.prog = true := by kernel_rfl

theorem walk (a0 : ByteArray) (w : World) (b0 : a0.size ≤ 140737488351232) :
    Calls Try.prog 4 #[.string a0] w fun e w' => e = .returned (.bool true) ∧ Below w.heap.size w w' := by
  have c1 : ∀ w, _ := fun w => get_any a0 w (by omega)
  have c2 : ∀ w, _ := fun w => rget_any a0 w (by unfold maxLen; omega)
  have hback := put_getS a0
  have hlen := getS_len a0
  obtain ⟨⟨n, l, y⟩, hr⟩ : ∃ r, getS a0 = r := ⟨_, rfl⟩
  simp only [hr] at c1 c2 hback hlen
  clear hr
  have hn : ∀ w, Calls Try.prog 11 #[] w fun e w' => e = .returned (.bool true) ∧ Below w.heap.size w w' := numbers_any
  obtain ⟨R, hR⟩ : ∃ R : ByteArray, R = ⟨l.toArray⟩ := ⟨_, rfl⟩
  have hRs : R.size ≤ 140737488351232 := by rw [hR]; show l.toArray.size ≤ _; simp; omega
  rw [← hR] at c1 c2 hback
  clear hR hlen
  by_cases hy : y = 0
  · obtain ⟨hn64, hbk⟩ := hback hy
    clear hback
    subst hy
    obtain ⟨P, hP⟩ : ∃ P : ByteArray, P = ⟨(putL n).toArray⟩ := ⟨_, rfl⟩
    have c3 : ∀ w, Calls Try.prog 9 #[.int .u64 n] w fun e w' => e = .returned (.string P) ∧ Below w.heap.size w w' := fun w => by
      have := put_any n w (by omega) (by omega)
      rw [hP]; simpa using this
    have hPs : P.size ≤ 10 := by
      obtain ⟨k, _, hk9, hlt, hge⟩ := many_spec n (by omega)
      rw [hP]
      show (putL n).toArray.size ≤ 10
      rw [List.size_toArray, putL_len k _ hlt hge]; omega
    rw [← hP] at hbk
    clear hP
    have HB : Hid (P ++ R = a0) := hbk
    clear hbk
    go_enter Try.func4, Try.ntmps4
    go_wp2_with fail
    go_at_call 10; refine (c1 _).mono ?_; rintro e w1 ⟨rfl, hb1⟩
    go_wp2_with fail
    go_at_call 13; refine (c2 _).mono ?_; rintro e w2 ⟨rfl, hb2⟩
    go_wp2_with fail
    go_at_call 11; refine (hn _).mono ?_; rintro e w3 ⟨rfl, hb3⟩
    go_wp2_with fail
    go_at_call 9; refine (c3 _).mono ?_; rintro e w4 ⟨rfl, hb4⟩
    go_wp2_with fail
    go_ret
    exact ⟨ret_bool (by simp [HB.out]), below2 (below2 (below2 hb1 hb2) hb3) hb4⟩
  · clear hback
    have hy' : (y == 0) = false := by simpa using hy
    go_enter Try.func4, Try.ntmps4
    go_wp2_with fail
    go_at_call 10; refine (c1 _).mono ?_; rintro e w1 ⟨rfl, hb1⟩
    go_wp2_with fail
    go_at_call 13; refine (c2 _).mono ?_; rintro e w2 ⟨rfl, hb2⟩
    go_wp2_with fail
    go_at_call 11; refine (hn _).mono ?_; rintro e w3 ⟨rfl, hb3⟩
    go_wp2_with fail
    go_ret
    exact ⟨ret_bool (by simp), below2 (below2 hb1 hb2) hb3⟩

set_option maxRecDepth 100000 in
theorem lifted (os : Os) (started : os.Started) (H : Type) (enc : TypeId × Value → H) :
    ReturnsInHanded {} Try.checked os 4 .any (Rows.numGetsSpec.pre6 enc Try.prog Try.f4 Rows.numGetsRow.domain false) (Rows.numGetsSpec.post enc Try.prog Try.f4 false true false false) := by
  refine returnsInHanded_of_change_sized (C := Try.checked) own started (by kernel_rfl) Try.func4
    (ChangeSpec.witness6 (enc := enc) (C := Try.checked) false ⟨#[], #[.string ByteArray.empty], []⟩ 8 (by kernel_rfl) (by kernel_rfl) (by kernel_rfl) (by kernel_rfl)) ?_
  intro W base args ds gs before hval0 hW _ hsz0 _
  have hsz : (DataW.weightsEach Try.prog (Try.f4.params.toList ++ Rows.numGetsSpec.plain.varTypes Try.prog) (ds ++ gs)).all (· ≤ reachBytes) = true := hsz0
  clear hsz0
  have hval : ∀ (j : Nat) t v, Try.f4.params[j]? = some t → args[j]? = some v → Value.okWide Try.prog W .any base t v := hval0
  have hW' := hW
  obtain ⟨p, q, hA0, hV, rfl, hfz, hnd⟩ := hW
  have hA : DataW.TrodAll enc Try.prog W 0 (fun _ => true) true Try.f4.params.toList args.toList ds p := hA0
  rw [Try.params4] at hA hval hsz
  obtain ⟨v0, vs0, d0, ds0, p0, q0, hargs, rfl, rfl, h0, r0⟩ := trodAll_cons hA
  obtain ⟨rfl, rfl, rfl⟩ := trodAll_nil r0
  obtain rfl : args = #[v0] := by cases args; simp_all
  obtain ⟨rfl, rfl⟩ := trodVars_none hV
  obtain ⟨a0, rfl, rfl, rfl, w0⟩ := open_string Try.underlying9 (hval 0 9 v0 rfl rfl) h0
  have b0 : a0.size ≤ 140737488351232 := by
    have := sized_string hsz (j := 0) (t := 9) rfl rfl
    simpa [reachBytes] using this
  clear hA0 hval0
  refine (walk a0 W b0).mono fun e W' ⟨he, bel⟩ => ?_
  subst he
  exact ⟨_, rfl, _, _, _, [], _, [], hW', trodAll_mk1 (shut_bool Try.underlying4 _), (trodAll_cons_mk (shut_string Try.underlying9 w0) trodAll_mk0), rfl, bel.frame _, fun h => by cases h⟩

theorem over : Rows.numGetsRow.holds Try.pinned (OpenSpec.ofChange Rows.numGetsSpec) :=
  OpenClaim.holds_of_wide 4 Try.f4 rfl rfl rfl rfl rfl rfl rfl ⟨rfl, rfl, rfl, rfl, rfl⟩ rfl rfl rfl rfl rfl (by kernel_rfl) Try.func4 (by kernel_rfl)
    (of_decide_eq_true (by kernel_rfl)) (by unfold Func.isWrapper; first | (rw [if_pos (by decide +kernel)]; kernel_rfl) | (rw [if_neg (by decide +kernel)]; exact ⟨rfl, rfl⟩))
    (fun os started H enc _ => lifted os started H enc)
end numGets
theorem gets_holds : Rows.NumGetsSaid := numGets.over
#print axioms gets_holds
end Go.Proofs.Ytmbciomfkiadiaa
