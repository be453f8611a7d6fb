/- For every sum and text: spoorlaw02.CrcTexts returns true, and changes nothing that was there. No condition. -/
import Derived.Test.YtmbciomfkiadiabRows
import Derived.Test.YtmbciomfkiadiabWalkLives
import Derived.ProofKit
import Derived.OpenShut
import Derived.ShutString
import Derived.SizedLaws
set_option linter.unusedVariables false
namespace Go.Proofs.Ytmbciomfkiadiab
namespace crcTexts
open Go.ChangeShapes Go.WideShapes Go.ChangeAt Go.RowKit
open Go.ChangeMaps (open_string shut_string)
open Go.Proofs.Ytmbciomfkiadiab.Crc

theorem own : ownKnob Try.prog.godebug = none := by kernel_rfl
theorem laidOut : laidOutB Try.prog = true := by kernel_rfl

theorem core (n R e1 e2 e3 : Int) (l : List UInt8) (Q A D T : ByteArray) (w : World) (hl : (⟨l.toArray⟩ : ByteArray).size ≤ 10000 ∨ 32768 < (⟨l.toArray⟩ : ByteArray).size) (hz : (⟨l.toArray⟩ : ByteArray).size ≤ 140737488351232)
    (c1 : ∀ w, Calls Try.prog 18 #[.string ⟨l.toArray⟩] w fun e w' => e = .returned (.tuple #[.int .u32 R, .string Q, .int .i64 e1]) ∧ Below w.heap.size w w')
    (c2 : ∀ w, Calls Try.prog 19 #[.string ⟨l.toArray⟩] w fun e w' => e = .returned (.tuple #[.int .u32 R, .string Q, .int .i64 e1]) ∧ Below w.heap.size w w')
    (c3 : ∀ w, Calls Try.prog 20 #[.string ⟨l.toArray⟩] w fun e w' => e = .returned (.tuple #[.string A, .int .i64 e2]) ∧ Below w.heap.size w w')
    (c4 : ∀ w, Calls Try.prog 21 #[.string ⟨l.toArray⟩] w fun e w' => e = .returned (.tuple #[.string A, .int .i64 e2]) ∧ Below w.heap.size w w')
    (c5 : ∀ w, Calls Try.prog 22 #[.string ⟨l.toArray⟩] w fun e w' => e = .returned (.tuple #[.string D, .int .i64 e3]) ∧ Below w.heap.size w w')
    (c6 : ∀ w, Calls Try.prog 23 #[.string ⟨l.toArray⟩] w fun e w' => e = .returned (.tuple #[.string D, .int .i64 e3]) ∧ Below w.heap.size w w')
    (c7 : ∀ w, Calls Try.prog 24 #[.int .u32 n] w fun e w' => e = .returned (.string T) ∧ Below w.heap.size w w')
    (c8 : ∀ w, Calls Try.prog 25 #[.int .u32 n] w fun e w' => e = .returned (.string T) ∧ Below w.heap.size w w') :
    Calls Try.prog 5 #[.int .u32 n, .string ⟨l.toArray⟩] w fun e w' => e = .returned (.bool true) ∧ Below w.heap.size w w' := by
  have hv : ∀ w, Calls Try.prog 9 #[] w fun e w' => e = .returned (.bool true) ∧ Below w.heap.size w w' := lives_any
  generalize (⟨l.toArray⟩ : ByteArray) = S at *
  rcases hl with hl | hl
  all_goals
    go_enter Try.func5, Try.ntmps5
    go_wp2_with fail
    go_at_call 18; refine (c1 _).mono ?_; rintro e w1 ⟨rfl, hW⟩
    go_wp2_with fail
    go_at_call 19; refine (c2 _).mono ?_; rintro e w2 ⟨rfl, hb⟩
    have hW := below2 hW hb
    go_wp2_with fail
    go_at_call 20; refine (c3 _).mono ?_; rintro e w3 ⟨rfl, hb⟩
    have hW := below2 hW hb
    go_wp2_with fail
    go_at_call 21; refine (c4 _).mono ?_; rintro e w4 ⟨rfl, hb⟩
    have hW := below2 hW hb
    go_wp2_with fail
    go_at_call 22; refine (c5 _).mono ?_; rintro e w5 ⟨rfl, hb⟩
    have hW := below2 hW hb
    go_wp2_with fail
    go_at_call 23; refine (c6 _).mono ?_; rintro e w6 ⟨rfl, hb⟩
    have hW := below2 hW hb
    go_wp2_with fail
    go_at_call 9; refine (hv _).mono ?_; rintro e w7 ⟨rfl, hb⟩
    have hW := below2 hW hb
    go_wp2_with fail
    go_at_call 24; refine (c7 _).mono ?_; rintro e w8 ⟨rfl, hb⟩
    have hW := below2 hW hb
    go_wp2_with fail
    go_at_call 25; refine (c8 _).mono ?_; rintro e w9 ⟨rfl, hb⟩
    have hW := below2 hW hb
    go_wp2_with fail
    go_ret
    exact ⟨rfl, hW⟩
theorem walk (a0 : Int) (a1 : ByteArray) (w : World) (b0 : 0 ≤ a0 ∧ a0 ≤ 4294967295) (b1 : a1.size ≤ 140737488351232) :
    Calls Try.prog 5 #[.int .u32 a0, .string a1] w fun e w' => e = .returned (.bool true) ∧ Below w.heap.size w w' := by
  obtain ⟨n, rfl⟩ := Int.eq_ofNat_of_zero_le b0.1
  have hn : n < 4294967296 := by omega
  obtain ⟨l, rfl, hl⟩ := str_list a1
  by_cases h : l.length ≤ 32768
  · by_cases h2 : l.length ≤ 10000
    · exact core n _ _ _ _ l _ _ _ _ w (.inl (by omega)) b1 (fun w => read_any l w (by omega)) (fun w => rread_any l w (by omega)) (fun w => sealed_any l w h) (fun w => rsealed_any l w h)
        (fun w => open_any l w (by omega)) (fun w => ropen_any l w (by omega)) (fun w => text_any n w hn) (fun w => rtext_any n w hn)
    · have hv : ∀ w, Calls Try.prog 9 #[] w fun e w' => e = .returned (.bool true) ∧ Below w.heap.size w w' := lives_any
      have h3 : 10000 < (⟨l.toArray⟩ : ByteArray).size := by omega
      have h4 : (⟨l.toArray⟩ : ByteArray).size ≤ 32768 := by omega
      generalize (⟨l.toArray⟩ : ByteArray) = S at *
      clear hl h h2 hn b0 b1
      go_enter Try.func5, Try.ntmps5
      go_wp2_with fail
      go_at_call 9; refine (hv _).mono ?_; rintro e w1 ⟨rfl, hb1⟩
      go_wp2_with fail
      go_ret
      exact ⟨rfl, hb1⟩
  · exact core n _ _ _ _ l _ _ _ _ w (.inr (by omega)) b1 (fun w => read_any l w (by omega)) (fun w => rread_any l w (by omega)) (fun w => sealed_long _ w (by omega) (by omega)) (fun w => rsealed_long _ w (by omega) (by omega))
      (fun w => open_any l w (by omega)) (fun w => ropen_any l w (by omega)) (fun w => text_any n w hn) (fun w => rtext_any n w hn)

set_option maxRecDepth 100000 in
theorem lifted (os : Os) (started : os.Started) (H : Type) (enc : TypeId × Value → H) :
    ReturnsInHanded {} Try.checked os 5 .any (Rows.crcTextsSpec.pre6 enc Try.prog Try.f5 Rows.crcTextsRow.domain false) (Rows.crcTextsSpec.post enc Try.prog Try.f5 false true false false) := by
  refine returnsInHanded_of_change_sized (C := Try.checked) own started (by kernel_rfl) Try.func5
    (ChangeSpec.witness6 (enc := enc) (C := Try.checked) false ⟨#[], #[.int .u32 0, .string ByteArray.empty], []⟩ 8 (by kernel_rfl) (by kernel_rfl) (by kernel_rfl) (by kernel_rfl)) ?_
  intro W base args ds gs before hval0 hW _ hsz0 _
  have hsz : (DataW.weightsEach Try.prog (Try.f5.params.toList ++ Rows.crcTextsSpec.plain.varTypes Try.prog) (ds ++ gs)).all (· ≤ reachBytes) = true := hsz0
  clear hsz0
  have hval : ∀ (j : Nat) t v, Try.f5.params[j]? = some t → args[j]? = some v → Value.okWide Try.prog W .any base t v := hval0
  have hW' := hW
  obtain ⟨p, q, hA0, hV, rfl, hfz, hnd⟩ := hW
  have hA : DataW.TrodAll enc Try.prog W 0 (fun _ => true) true Try.f5.params.toList args.toList ds p := hA0
  rw [Try.params5] at hA hval hsz
  obtain ⟨v0, vs0, d0, ds0, p0, q0, hargs, rfl, rfl, h0, r0⟩ := trodAll_cons hA
  obtain ⟨v1, vs1, d1, ds1, p1, q1, rfl, rfl, rfl, h1, r1⟩ := trodAll_cons r0
  obtain ⟨rfl, rfl, rfl⟩ := trodAll_nil r1
  obtain rfl : args = #[v0, v1] := by cases args; simp_all
  obtain ⟨rfl, rfl⟩ := trodVars_none hV
  obtain ⟨a0, rfl, rfl, rfl, w0⟩ := open_int Try.underlying22 (hval 0 22 v0 rfl rfl) h0
  have b0 : 0 ≤ a0 ∧ a0 ≤ 4294967295 := by simpa [Lit.wf, IntKind.min, IntKind.max, IntKind.signed, IntKind.bits] using w0
  obtain ⟨a1, rfl, rfl, rfl, w1⟩ := open_string Try.underlying9 (hval 1 9 v1 rfl rfl) h1
  have b1 : a1.size ≤ 140737488351232 := by
    have := sized_string hsz (j := 1) (t := 9) rfl rfl
    simpa [reachBytes] using this
  clear hA0 hval0
  refine (walk a0 a1 W b0 b1).mono fun e W' ⟨he, bel⟩ => ?_
  subst he
  exact ⟨_, rfl, _, _, _, [], _, [], hW', trodAll_mk1 (shut_bool Try.underlying4 _), (trodAll_cons_mk (shut_int Try.underlying22 w0) (trodAll_cons_mk (shut_string Try.underlying9 w1) trodAll_mk0)), rfl, bel.frame _, fun h => by cases h⟩

theorem over : Rows.crcTextsRow.holds Try.pinned (OpenSpec.ofChange Rows.crcTextsSpec) :=
  OpenClaim.holds_of_wide 5 Try.f5 rfl rfl rfl rfl rfl rfl rfl ⟨rfl, rfl, rfl, rfl, rfl⟩ rfl rfl rfl rfl rfl (by kernel_rfl) Try.func5 (by kernel_rfl)
    (of_decide_eq_true (by kernel_rfl)) (by unfold Func.isWrapper; first | (rw [if_pos (by decide +kernel)]; kernel_rfl) | (rw [if_neg (by decide +kernel)]; exact ⟨rfl, rfl⟩))
    (fun os started H enc _ => lifted os started H enc)
end crcTexts
theorem texts_holds : Rows.CrcTextsSaid := crcTexts.over
#print axioms texts_holds
end Go.Proofs.Ytmbciomfkiadiab
