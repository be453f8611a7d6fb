/- For every text and every number: spoorlaw04.FrameReads returns true, and changes nothing that was there. No condition. -/
import Derived.Test.YtojgmiobjfkebaaRows
import Derived.Test.YtojgmiobjfkebaaWalkLive4
import Derived.Test.YtojgmiobjfkebaaWalkSame4
import Derived.ProofKit
import Derived.OpenShut
import Derived.ShutString
import Derived.SizedLaws
set_option linter.unusedVariables false
namespace Go.Proofs.Ytojgmiobjfkebaa
namespace frameReads
open Go.ChangeShapes Go.WideShapes Go.ChangeAt Go.RowKit
open Go.ChangeMaps (open_string shut_string)
open Go.Proofs.Ytojgmiobjfkebaa.Frame

theorem own : ownKnob Try.prog.godebug = none := by kernel_rfl
theorem laidOut : laidOutB Try.prog = true := by kernel_rfl

def Row (w : World) (zs : List (List UInt8)) (v : Value) (w' : World) : Prop := HasStrs w' v zs ∧ Below w.heap.size w w'
set_option maxHeartbeats 2000000 in
theorem core (many e1 e2 N : Int) (S P Q Y : ByteArray) (ls ms : List (List UInt8)) (w : World) (hS : S.size ≤ 20000) (hls : ls.length ≤ 100000) (hms : ms.length ≤ 100000)
    (c1 : ∀ w, Calls Try.prog 13 #[.string S] w fun e w' => e = .returned (.tuple #[.string P, .string Q, .int .i64 e1]) ∧ Below w.heap.size w w')
    (c2 : ∀ w, Calls Try.prog 14 #[.string S] w fun e w' => e = .returned (.tuple #[.string P, .string Q, .int .i64 e1]) ∧ Below w.heap.size w w')
    (c3 : ∀ w, Calls Try.prog 15 #[.string S] w fun e w' => ∃ v, e = .returned (.tuple #[v, .int .i64 N]) ∧ Row w ls v w')
    (c4 : ∀ w, Calls Try.prog 16 #[.string S] w fun e w' => ∃ v, e = .returned (.tuple #[v, .int .i64 N]) ∧ Row w ls v w')
    (c5 : ∀ w, Calls Try.prog 17 #[.string S, .int .i64 many] w fun e w' => ∃ v, e = .returned (.tuple #[v, .string Y, .int .i64 e2]) ∧ Row w ms v w')
    (c6 : ∀ w, Calls Try.prog 18 #[.string S, .int .i64 many] w fun e w' => ∃ v, e = .returned (.tuple #[v, .string Y, .int .i64 e2]) ∧ Row w ms v w') :
    Calls Try.prog 4 #[.string S, .int .i64 many] w fun e w' => e = .returned (.bool true) ∧ Below w.heap.size w w' := by
  have hv : ∀ w, Calls Try.prog 12 #[] w fun e w' => e = .returned (.bool true) ∧ Below w.heap.size w w' := lives_any
  go_enter Try.func4, Try.ntmps4
  go_wp2_with fail
  go_at_call 13; refine (c1 _).mono ?_; rintro e w1 ⟨rfl, hW⟩
  go_wp2_with fail
  go_at_call 14; refine (c2 _).mono ?_; rintro e w2 ⟨rfl, hb⟩
  have hW := below2 hW hb
  go_wp2_with fail
  go_at_call 15; refine (c3 _).mono ?_; rintro e w3 ⟨v1, rfl, r1, hb⟩
  have hW := below2 hW hb
  go_wp2_with fail
  go_at_call 16; refine (c4 _).mono ?_; rintro e w4 ⟨v2, rfl, r2, hb⟩
  have hW := below2 hW hb
  have r1 := r1.keep hb
  go_wp2_with fail
  go_at_call 17; refine (c5 _).mono ?_; rintro e w5 ⟨v3, rfl, r3, hb⟩
  have hW := below2 hW hb
  have r1 := r1.keep hb
  have r2 := r2.keep hb
  go_wp2_with fail
  go_at_call 18; refine (c6 _).mono ?_; rintro e w6 ⟨v4, rfl, r4, hb⟩
  have hW := below2 hW hb
  have r1 := r1.keep hb
  have r2 := r2.keep hb
  have r3 := r3.keep hb
  go_wp2_with fail
  go_at_call 12; refine (hv _).mono ?_; rintro e w7 ⟨rfl, hb⟩
  have hW := below2 hW hb
  have r1 := r1.keep hb
  have r2 := r2.keep hb
  have r3 := r3.keep hb
  have r4 := r4.keep hb
  go_wp2_with fail
  go_at_call 19; refine (same_any v1 v2 ls _ r1 r2 (by omega)).mono ?_; rintro e w8 ⟨rfl, hb⟩
  have hW := below2 hW hb
  have r3 := r3.keep hb
  have r4 := r4.keep hb
  go_wp2_with fail
  go_at_call 19; refine (same_any v3 v4 ms _ r3 r4 (by omega)).mono ?_; rintro e w9 ⟨rfl, hb⟩
  have hW := below2 hW hb
  go_wp2_with fail
  go_ret
  exact ⟨rfl, hW⟩
theorem skip (S : ByteArray) (many : Int) (w : World) (hS : 20000 < S.size) (hz : S.size ≤ 140737488351232) :
    Calls Try.prog 4 #[.string S, .int .i64 many] w fun e w' => e = .returned (.bool true) ∧ Below w.heap.size w w' := by
  have hv : ∀ w, Calls Try.prog 12 #[] w fun e w' => e = .returned (.bool true) ∧ Below w.heap.size w w' := lives_any
  go_enter Try.func4, Try.ntmps4
  go_wp2_with fail
  go_at_call 12; refine (hv _).mono ?_; rintro e w1 ⟨rfl, hb1⟩
  go_wp2_with fail
  go_ret
  exact ⟨rfl, hb1⟩
theorem takeL_many (n : Nat) : ∀ l : List UInt8, (takeL n l).1.length ≤ l.length := by
  induction n with
  | zero => intro l; simp [takeL]
  | succ n ih =>
    intro l
    rw [takeL]
    by_cases h : (nextL l).2.2 = 0
    · rw [if_pos h]
      have h1 := (nextL_lt (l := l) (p := (nextL l).1) (r := (nextL l).2.1) (by rw [← h])).2
      have h2 := ih (nextL l).2.1
      by_cases h3 : (takeL n (nextL l).2.1).2.2 = 0
      · rw [if_pos h3]; simp only [List.length_cons]; omega
      · rw [if_neg h3]; simp
    · rw [if_neg h]; simp
theorem takeRow {w : World} {r : List (List UInt8) × List UInt8 × Int} {e : Ending} {w' : World} (h : TakeIs w r e w') : ∃ v, e = .returned (.tuple #[v, .string ⟨r.2.1.toArray⟩, .int .i64 r.2.2]) ∧ Row w r.1 v w' := by
  obtain ⟨v, he, ho, hb⟩ := h
  exact ⟨v, he, has_own ho, hb⟩
theorem walk (a0 : ByteArray) (a1 : Int) (w : World) (b0 : a0.size ≤ 140737488351232) (b1 : -9223372036854775808 ≤ a1 ∧ a1 ≤ 9223372036854775807) :
    Calls Try.prog 4 #[.string a0, .int .i64 a1] w fun e w' => e = .returned (.bool true) ∧ Below w.heap.size w w' := by
  by_cases h : 20000 < a0.size
  · exact skip a0 a1 w h b0
  obtain ⟨l, rfl, hl⟩ := str_list a0
  have hal := (allL_le l.length l (Nat.le_refl _)).2
  have c1 := fun w => next_any l w (by omega)
  have c2 := fun w => rnext_any l w (by omega)
  unfold NextIs at c1 c2
  have c3 : ∀ w, Calls Try.prog 15 #[.string ⟨l.toArray⟩] w fun e w' => ∃ v, e = .returned (.tuple #[v, .int .i64 ((l.length : Int) - (allL l).2.length)]) ∧ Row w (allL l).1 v w' := fun w => (all_any l w (by omega) (by omega)).mono (fun e w' ⟨v, he, ho, hb⟩ => ⟨v, he, has_own ho, hb⟩)
  have c4 : ∀ w, Calls Try.prog 16 #[.string ⟨l.toArray⟩] w fun e w' => ∃ v, e = .returned (.tuple #[v, .int .i64 ((l.length : Int) - (allL l).2.length)]) ∧ Row w (allL l).1 v w' := fun w => (rall_any l w (by omega)).mono (fun e w' ⟨v, he, ho, hb⟩ => ⟨v, he, has_own ho, hb⟩)
  by_cases hn : a1 < 0
  · exact core a1 _ 1 _ _ _ _ ⟨#[]⟩ (allL l).1 [] w (by omega) (by omega) (by simp) c1 c2 c3 c4 (fun w => (take_neg l a1 w hn b1.1).mono (fun _ _ h => takeRow h)) (fun w => (rtake_neg l a1 w hn b1.1).mono (fun _ _ h => takeRow h))
  · obtain ⟨n, rfl⟩ := Int.eq_ofNat_of_zero_le (show 0 ≤ a1 by omega)
    have htm := takeL_many n l
    exact core n _ _ _ _ _ _ _ (allL l).1 (takeL n l).1 w (by omega) (by omega) (by omega) c1 c2 c3 c4 (fun w => (take_any l n w (by omega) (by omega) (.inr (by omega))).mono (fun _ _ h => takeRow h)) (fun w => (rtake_any l n w (by omega) (by omega)).mono (fun _ _ h => takeRow h))

set_option maxRecDepth 100000 in
theorem lifted (os : Os) (started : os.Started) (H : Type) (enc : TypeId × Value → H) :
    ReturnsInHanded {} Try.checked os 4 .any (Rows.frameReadsSpec.pre6 enc Try.prog Try.f4 Rows.frameReadsRow.domain false) (Rows.frameReadsSpec.post enc Try.prog Try.f4 false true false false) := by
  refine returnsInHanded_of_change_sized (C := Try.checked) own started (by kernel_rfl) Try.func4
    (ChangeSpec.witness6 (enc := enc) (C := Try.checked) false ⟨#[], #[.string ByteArray.empty, .int .i64 0], []⟩ 8 (by kernel_rfl) (by kernel_rfl) (by kernel_rfl) (by kernel_rfl)) ?_
  intro W base args ds gs before hval0 hW _ hsz0 _
  have hsz : (DataW.weightsEach Try.prog (Try.f4.params.toList ++ Rows.frameReadsSpec.plain.varTypes Try.prog) (ds ++ gs)).all (· ≤ reachBytes) = true := hsz0
  clear hsz0
  have hval : ∀ (j : Nat) t v, Try.f4.params[j]? = some t → args[j]? = some v → Value.okWide Try.prog W .any base t v := hval0
  have hW' := hW
  obtain ⟨p, q, hA0, hV, rfl, hfz, hnd⟩ := hW
  have hA : DataW.TrodAll enc Try.prog W 0 (fun _ => true) true Try.f4.params.toList args.toList ds p := hA0
  rw [Try.params4] at hA hval hsz
  obtain ⟨v0, vs0, d0, ds0, p0, q0, hargs, rfl, rfl, h0, r0⟩ := trodAll_cons hA
  obtain ⟨v1, vs1, d1, ds1, p1, q1, rfl, rfl, rfl, h1, r1⟩ := trodAll_cons r0
  obtain ⟨rfl, rfl, rfl⟩ := trodAll_nil r1
  obtain rfl : args = #[v0, v1] := by cases args; simp_all
  obtain ⟨rfl, rfl⟩ := trodVars_none hV
  obtain ⟨a0, rfl, rfl, rfl, w0⟩ := open_string Try.underlying9 (hval 0 9 v0 rfl rfl) h0
  have b0 : a0.size ≤ 140737488351232 := by
    have := sized_string hsz (j := 0) (t := 9) rfl rfl
    simpa [reachBytes] using this
  obtain ⟨a1, rfl, rfl, rfl, w1⟩ := open_int Try.underlying3 (hval 1 3 v1 rfl rfl) h1
  have b1 : -9223372036854775808 ≤ a1 ∧ a1 ≤ 9223372036854775807 := by simpa [Lit.wf, IntKind.min, IntKind.max, IntKind.signed, IntKind.bits] using w1
  clear hA0 hval0
  refine (walk a0 a1 W b0 b1).mono fun e W' ⟨he, bel⟩ => ?_
  subst he
  exact ⟨_, rfl, _, _, _, [], _, [], hW', trodAll_mk1 (shut_bool Try.underlying4 _), (trodAll_cons_mk (shut_string Try.underlying9 w0) (trodAll_cons_mk (shut_int Try.underlying3 w1) trodAll_mk0)), rfl, bel.frame _, fun h => by cases h⟩

theorem over : Rows.frameReadsRow.holds Try.pinned (OpenSpec.ofChange Rows.frameReadsSpec) :=
  OpenClaim.holds_of_wide 4 Try.f4 rfl rfl rfl rfl rfl rfl rfl ⟨rfl, rfl, rfl, rfl, rfl⟩ rfl rfl rfl rfl rfl (by kernel_rfl) Try.func4 (by kernel_rfl)
    (of_decide_eq_true (by kernel_rfl)) (by unfold Func.isWrapper; first | (rw [if_pos (by decide +kernel)]; kernel_rfl) | (rw [if_neg (by decide +kernel)]; exact ⟨rfl, rfl⟩))
    (fun os started H enc _ => lifted os started H enc)
end frameReads
theorem freads_holds : Rows.FrameReadsSaid := frameReads.over
#print axioms freads_holds
end Go.Proofs.Ytojgmiobjfkebaa
