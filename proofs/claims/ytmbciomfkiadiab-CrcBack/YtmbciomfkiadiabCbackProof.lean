/- For every sum and two texts: spoorlaw02.CrcBack returns true, and changes nothing that was there. No condition. -/
import Derived.Test.YtmbciomfkiadiabRows
import Derived.Test.YtmbciomfkiadiabMathSeal
import Derived.Test.YtmbciomfkiadiabMathJoin
import Derived.Test.YtmbciomfkiadiabWalkLives
import Derived.ProofKit
import Derived.OpenShut
import Derived.ShutString
import Derived.SizedLaws
set_option linter.unusedVariables false
namespace Go.Proofs.Ytmbciomfkiadiab
namespace crcBack
open Go.ChangeShapes Go.WideShapes Go.ChangeAt Go.RowKit
open Go.ChangeMaps (open_string shut_string)
open Go.Proofs.Ytmbciomfkiadiab.Crc

theorem own : ownKnob Try.prog.godebug = none := by kernel_rfl
theorem laidOut : laidOutB Try.prog = true := by kernel_rfl

set_option maxHeartbeats 2000000 in
theorem core (n y2 y3 y4 y5 : Int) (S M T A D B Cc : ByteArray) (w : World) (hM : M.size ≤ 140737488351232) (hT : T.size ≤ 4) (hB : B.size ≤ 140737488351232)
    (c1 : ∀ w, Calls Try.prog 24 #[.int .u32 n] w fun e w' => e = .returned (.string T) ∧ Below w.heap.size w w')
    (c2 : ∀ w, Calls Try.prog 18 #[.string (T ++ M)] w fun e w' => e = .returned (.tuple #[.int .u32 n, .string M, .int .i64 0]) ∧ Below w.heap.size w w')
    (c3 : ∀ w, Calls Try.prog 20 #[.string S] w fun e w' => e = .returned (.tuple #[.string A, .int .i64 y2]) ∧ Below w.heap.size w w')
    (c4 : ∀ w, Calls Try.prog 22 #[.string A] w fun e w' => e = .returned (.tuple #[.string D, .int .i64 y3]) ∧ Below w.heap.size w w')
    (c5 : ∀ w, Calls Try.prog 22 #[.string S] w fun e w' => e = .returned (.tuple #[.string B, .int .i64 y4]) ∧ Below w.heap.size w w')
    (c6 : ∀ w, Calls Try.prog 20 #[.string B] w fun e w' => e = .returned (.tuple #[.string Cc, .int .i64 y5]) ∧ Below w.heap.size w w')
    (h2 : y2 = 11 ∨ y2 = 0 ∧ y3 = 0 ∧ D = S)
    (h4 : (y4 != 0) = true ∨ (y4 = 0 ∧ y5 = 0 ∧ Cc = S) ∨ (y4 = 0 ∧ y5 = 11 ∧ 32768 < B.size)) :
    Calls Try.prog 8 #[.int .u32 n, .string S, .string M] w fun e w' => e = .returned (.bool true) ∧ Below w.heap.size w w' := by
  have hl : ∀ w, Calls Try.prog 9 #[] w fun e w' => e = .returned (.bool true) ∧ Below w.heap.size w w' := lives_any
  rcases h2 with rfl | ⟨rfl, rfl, rfl⟩
  all_goals rcases h4 with h4 | ⟨rfl, rfl, rfl⟩ | ⟨rfl, rfl, h4⟩
  all_goals
    go_enter Try.func8, Try.ntmps8
    go_wp2_with fail
    go_at_call 9; refine (hl _).mono ?_; rintro e w1 ⟨rfl, hW⟩
    go_wp2_with fail
    go_at_call 24; refine (c1 _).mono ?_; rintro e w2 ⟨rfl, hb⟩
    have hW := below2 hW hb
    go_wp2_with fail
    go_at_call 18; refine (c2 _).mono ?_; rintro e w3 ⟨rfl, hb⟩
    have hW := below2 hW hb
    go_wp2_with fail
    go_at_call 20; refine (c3 _).mono ?_; rintro e w4 ⟨rfl, hb⟩
    have hW := below2 hW hb
    go_wp2_with fail
    go_at_call 22; refine (c4 _).mono ?_; rintro e w5 ⟨rfl, hb⟩
    have hW := below2 hW hb
    go_wp2_with fail
    go_at_call 22; refine (c5 _).mono ?_; rintro e w6 ⟨rfl, hb⟩
    have hW := below2 hW hb
    go_wp2_with fail
    go_at_call 20; refine (c6 _).mono ?_; rintro e w7 ⟨rfl, hb⟩
    have hW := below2 hW hb
    go_wp2_with fail
    go_ret
    refine ⟨ret_bool ?_, hW⟩
    first | rfl | (simp; done) | (simp; omega)
theorem walk (a0 : Int) (a1 a2 : ByteArray) (w : World) (b0 : 0 ≤ a0 ∧ a0 ≤ 4294967295) (b1 : a1.size ≤ 140737488351232) (b2 : a2.size ≤ 140737488351232) :
    Calls Try.prog 8 #[.int .u32 a0, .string a1, .string a2] w fun e w' => e = .returned (.bool true) ∧ Below w.heap.size w w' := by
  obtain ⟨n, rfl⟩ := Int.eq_ofNat_of_zero_le b0.1
  have hn : n < 4294967296 := by omega
  obtain ⟨s, rfl, hs⟩ := str_list a1
  obtain ⟨m, rfl, hm⟩ := str_list a2
  have c2 : ∀ w, Calls Try.prog 18 #[.string (⟨(textR n).toArray⟩ ++ ⟨m.toArray⟩)] w fun e w' => e = .returned (.tuple #[.int .u32 (n : Int), .string ⟨m.toArray⟩, .int .i64 0]) ∧ Below w.heap.size w w' := fun w => by
    have := read_any (textR n ++ m) w (by rw [List.length_append, textR_len]; omega)
    rw [read_text n hn m] at this
    rw [str_app]
    exact this
  -- sealed, and opened again
  have hS : ∃ (A D : ByteArray) (y2 y3 : Int), (∀ w, Calls Try.prog 20 #[.string ⟨s.toArray⟩] w fun e w' => e = .returned (.tuple #[.string A, .int .i64 y2]) ∧ Below w.heap.size w w') ∧
      (∀ w, Calls Try.prog 22 #[.string A] w fun e w' => e = .returned (.tuple #[.string D, .int .i64 y3]) ∧ Below w.heap.size w w') ∧ (y2 = 11 ∨ y2 = 0 ∧ y3 = 0 ∧ D = ⟨s.toArray⟩) := by
    by_cases h : s.length ≤ 32768
    · refine ⟨_, ⟨s.toArray⟩, 0, 0, fun w => sealed_any s w h, fun w => ?_, .inr ⟨rfl, rfl, rfl⟩⟩
      have := open_any (sealL s) w (by rw [sealL, List.length_append, textR_len]; omega)
      rw [open_seal] at this
      exact this
    · exact ⟨⟨#[]⟩, ⟨#[]⟩, 11, 5, fun w => sealed_long _ w (by omega) (by omega), fun w => open_short _ w (by decide), .inl rfl⟩
  -- opened, and sealed again
  obtain ⟨⟨t, y4⟩, hO⟩ : ∃ r, openL s = r := ⟨_, rfl⟩
  have htl := open_len hO
  have c5 : ∀ w, Calls Try.prog 22 #[.string ⟨s.toArray⟩] w fun e w' => e = .returned (.tuple #[.string ⟨t.toArray⟩, .int .i64 y4]) ∧ Below w.heap.size w w' := fun w => by
    have := open_any s w (by omega)
    rw [hO] at this
    exact this
  have hB : ∃ (Cc : ByteArray) (y5 : Int), (∀ w, Calls Try.prog 20 #[.string ⟨t.toArray⟩] w fun e w' => e = .returned (.tuple #[.string Cc, .int .i64 y5]) ∧ Below w.heap.size w w') ∧
      ((y4 != 0) = true ∨ (y4 = 0 ∧ y5 = 0 ∧ Cc = ⟨s.toArray⟩) ∨ (y4 = 0 ∧ y5 = 11 ∧ 32768 < (⟨t.toArray⟩ : ByteArray).size)) := by
    by_cases h : t.length ≤ 32768
    · refine ⟨_, 0, fun w => sealed_any t w h, ?_⟩
      by_cases hy : y4 = 0
      · subst hy
        exact .inr (.inl ⟨rfl, rfl, by rw [seal_open hO]⟩)
      · exact .inl (by simpa using hy)
    · refine ⟨⟨#[]⟩, 11, fun w => sealed_long _ w (by rw [size_list]; omega) (by rw [size_list]; omega), ?_⟩
      by_cases hy : y4 = 0
      · exact .inr (.inr ⟨hy, rfl, by rw [size_list]; omega⟩)
      · exact .inl (by simpa using hy)
  obtain ⟨A, D, y2, y3, c3, c4, h2⟩ := hS
  obtain ⟨Cc, y5, c6, h4⟩ := hB
  exact core n y2 y3 y4 y5 ⟨s.toArray⟩ ⟨m.toArray⟩ ⟨(textR n).toArray⟩ A D ⟨t.toArray⟩ Cc w b2 (by rw [size_list]; exact Nat.le_refl _) (by rw [size_list]; omega) (fun w => text_any n w hn) c2 c3 c4 c5 c6 h2 h4

set_option maxRecDepth 100000 in
theorem lifted (os : Os) (started : os.Started) (H : Type) (enc : TypeId × Value → H) :
    ReturnsInHanded {} Try.checked os 8 .any (Rows.crcBackSpec.pre6 enc Try.prog Try.f8 Rows.crcBackRow.domain false) (Rows.crcBackSpec.post enc Try.prog Try.f8 false true false false) := by
  refine returnsInHanded_of_change_sized (C := Try.checked) own started (by kernel_rfl) Try.func8
    (ChangeSpec.witness6 (enc := enc) (C := Try.checked) false ⟨#[], #[.int .u32 0, .string ByteArray.empty, .string ByteArray.empty], []⟩ 8 (by kernel_rfl) (by kernel_rfl) (by kernel_rfl) (by kernel_rfl)) ?_
  intro W base args ds gs before hval0 hW _ hsz0 _
  have hsz : (DataW.weightsEach Try.prog (Try.f8.params.toList ++ Rows.crcBackSpec.plain.varTypes Try.prog) (ds ++ gs)).all (· ≤ reachBytes) = true := hsz0
  clear hsz0
  have hval : ∀ (j : Nat) t v, Try.f8.params[j]? = some t → args[j]? = some v → Value.okWide Try.prog W .any base t v := hval0
  have hW' := hW
  obtain ⟨p, q, hA0, hV, rfl, hfz, hnd⟩ := hW
  have hA : DataW.TrodAll enc Try.prog W 0 (fun _ => true) true Try.f8.params.toList args.toList ds p := hA0
  rw [Try.params8] at hA hval hsz
  obtain ⟨v0, vs0, d0, ds0, p0, q0, hargs, rfl, rfl, h0, r0⟩ := trodAll_cons hA
  obtain ⟨v1, vs1, d1, ds1, p1, q1, rfl, rfl, rfl, h1, r1⟩ := trodAll_cons r0
  obtain ⟨v2, vs2, d2, ds2, p2, q2, rfl, rfl, rfl, h2, r2⟩ := trodAll_cons r1
  obtain ⟨rfl, rfl, rfl⟩ := trodAll_nil r2
  obtain rfl : args = #[v0, v1, v2] := by cases args; simp_all
  obtain ⟨rfl, rfl⟩ := trodVars_none hV
  obtain ⟨a0, rfl, rfl, rfl, w0⟩ := open_int Try.underlying22 (hval 0 22 v0 rfl rfl) h0
  have b0 : 0 ≤ a0 ∧ a0 ≤ 4294967295 := by simpa [Lit.wf, IntKind.min, IntKind.max, IntKind.signed, IntKind.bits] using w0
  obtain ⟨a1, rfl, rfl, rfl, w1⟩ := open_string Try.underlying9 (hval 1 9 v1 rfl rfl) h1
  have b1 : a1.size ≤ 140737488351232 := by
    have := sized_string hsz (j := 1) (t := 9) rfl rfl
    simpa [reachBytes] using this
  obtain ⟨a2, rfl, rfl, rfl, w2⟩ := open_string Try.underlying9 (hval 2 9 v2 rfl rfl) h2
  have b2 : a2.size ≤ 140737488351232 := by
    have := sized_string hsz (j := 2) (t := 9) rfl rfl
    simpa [reachBytes] using this
  clear hA0 hval0
  refine (walk a0 a1 a2 W b0 b1 b2).mono fun e W' ⟨he, bel⟩ => ?_
  subst he
  exact ⟨_, rfl, _, _, _, [], _, [], hW', trodAll_mk1 (shut_bool Try.underlying4 _), (trodAll_cons_mk (shut_int Try.underlying22 w0) (trodAll_cons_mk (shut_string Try.underlying9 w1) (trodAll_cons_mk (shut_string Try.underlying9 w2) trodAll_mk0))), rfl, bel.frame _, fun h => by cases h⟩

theorem over : Rows.crcBackRow.holds Try.pinned (OpenSpec.ofChange Rows.crcBackSpec) :=
  OpenClaim.holds_of_wide 8 Try.f8 rfl rfl rfl rfl rfl rfl rfl ⟨rfl, rfl, rfl, rfl, rfl⟩ rfl rfl rfl rfl rfl (by kernel_rfl) Try.func8 (by kernel_rfl)
    (of_decide_eq_true (by kernel_rfl)) (by unfold Func.isWrapper; first | (rw [if_pos (by decide +kernel)]; kernel_rfl) | (rw [if_neg (by decide +kernel)]; exact ⟨rfl, rfl⟩))
    (fun os started H enc _ => lifted os started H enc)
end crcBack
theorem cback_holds : Rows.CrcBackSaid := crcBack.over
#print axioms cback_holds
end Go.Proofs.Ytmbciomfkiadiab
