/- For every row of texts, and whatever is behind: spoorlaw04.FrameBack returns true, and changes nothing that was there. No condition. -/
import Derived.Test.YtojgmiobjfkebaaRows
import Derived.Test.YtojgmiobjfkebaaWalkLive4
import Derived.Test.YtojgmiobjfkebaaWalkFrames
import Derived.Deep.Strs
import Derived.ProofKit
import Derived.OpenShut
import Derived.ShutString
import Derived.SizedLaws
set_option linter.unusedVariables false
namespace Go.Proofs.Ytojgmiobjfkebaa
namespace frameBack
open Go.ChangeShapes Go.WideShapes Go.ChangeAt Go.RowKit
open Go.ChangeMaps (open_string shut_string)
open Go.Proofs.Ytojgmiobjfkebaa.Frame

theorem own : ownKnob Try.prog.godebug = none := by kernel_rfl
theorem laidOut : laidOutB Try.prog = true := by kernel_rfl

set_option maxHeartbeats 1000000 in
theorem walk (a0 : Option Addr) (len0 cap0 : Nat) (z0 : List (List UInt8)) (a1 : ByteArray) (w : World) (b0 : IsStrs w a0 len0 cap0 z0) (b1 : a1.size ≤ 140737488351232) :
    Calls Try.prog 5 #[.slice a0 len0 cap0, .string a1] w fun e w' => e = .returned (.bool true) ∧ Below w.heap.size w w' := by
  have hv : ∀ w, Calls Try.prog 12 #[] w fun e w' => e = .returned (.bool true) ∧ Below w.heap.size w w' := lives_any
  obtain ⟨more, rfl, hml⟩ := str_list a1
  have hkeep : ∀ w', Below w.heap.size w w' → IsStrs w' a0 len0 cap0 z0 := fun w' hb => ⟨b0.1.keep hb, b0.2⟩
  have hlen := b0.2.1
  have hlc := b0.2.2.1
  have hcm := b0.2.2.2.1
  clear b0
  by_cases hG : Fit20 z0
  · have hf : ∀ w', Below w.heap.size w w' → Calls Try.prog 20 #[.slice a0 len0 cap0] w' fun e w'' => e = .returned (.tuple #[.string ⟨(catL z0).toArray⟩, .bool true]) ∧ Below w'.heap.size w' w'' := fun w' hb =>
      (frames_any a0 len0 cap0 z0 w' (hkeep w' hb)).mono (fun e w'' h => ⟨by rcases h.1 with h | h; exact h.2; exact absurd hG h.1, h.2⟩)
    have hcat := catL_le z0 hG.2
    have hn20 := hG.1
    have hall := all_cat z0 hG.2
    have htk := take_cat z0 more hG.2
    have c1 := fun w => take_any (catL z0 ++ more) len0 w (by rw [List.length_append]; omega) (by omega) (.inl (by omega))
    have c2 := fun w => all_any (catL z0) w (by omega) (by rw [hall]; simp; omega)
    rw [← hlen] at htk
    rw [htk] at c1
    rw [hall] at c2
    unfold TakeIs at c1
    simp only [List.length_nil] at c1 c2
    rw [← str_app] at c1
    obtain ⟨A, hA⟩ : ∃ A : ByteArray, A = ⟨(catL z0).toArray⟩ := ⟨_, rfl⟩
    obtain ⟨M, hM⟩ : ∃ M : ByteArray, M = ⟨more.toArray⟩ := ⟨_, rfl⟩
    have hAs : A.size = (catL z0).length := by rw [hA, size_list]
    have hMs : M.size ≤ 140737488351232 := by rw [hM]; exact b1
    have hA9 : A.size ≤ 100000 := by omega
    rw [← hA] at hf c1 c2
    rw [← hM] at c1 ⊢
    have c2' : ∀ w, Calls Try.prog 15 #[.string A] w fun e w' => ∃ v, e = .returned (.tuple #[v, .int .i64 (A.size : Int)]) ∧ w'.ownsRow w.heap.size 9 1 v z0.length (z0.map strV) ∧ Below w.heap.size w w' := by
      rw [hAs]; simpa using c2
    clear hA hM hAs hml hall htk hcat hG c2 b1
    have hz9 : z0.length ≤ 1000000000 := by omega
    have HL : Hid (len0 = z0.length) := hlen
    have hl20 : len0 ≤ 20 := by omega
    clear hlen
    go_enter Try.func5, Try.ntmps5
    go_wp2_with fail
    go_at_call 12; refine (hv _).mono ?_; rintro e w1 ⟨rfl, hW⟩
    go_wp2_with fail
    go_at_call 20; refine (hf _ hW).mono ?_; rintro e w2 ⟨rfl, hb⟩
    have hW := below2 hW hb
    go_wp2_with fail
    go_at_call 17; refine (c1 _).mono ?_; rintro e w3 ⟨v1, rfl, o1, hb⟩
    have hW := below2 hW hb
    have r1 := has_own o1
    go_wp2_with fail
    go_at_call 15; refine (c2' _).mono ?_; rintro e w4 ⟨v2, rfl, o2, hb⟩
    have hW := below2 hW hb
    have r1 := r1.keep hb
    have r2 := has_own o2
    go_wp2_with fail
    go_at_call 19; refine (same_any v1 _ z0 _ r1 (hkeep _ hW).1 hz9).mono ?_; rintro e w5 ⟨rfl, hb⟩
    have hW := below2 hW hb
    have r2 := r2.keep hb
    go_wp2_with fail
    go_at_call 19; refine (same_any v2 _ z0 _ r2 (hkeep _ hW).1 hz9).mono ?_; rintro e w6 ⟨rfl, hb⟩
    have hW := below2 hW hb
    go_wp2_with fail
    go_ret
    exact ⟨rfl, hW⟩
  · have hf : ∀ w', Below w.heap.size w w' → Calls Try.prog 20 #[.slice a0 len0 cap0] w' fun e w'' => e = .returned (.tuple #[.string ⟨#[]⟩, .bool false]) ∧ Below w'.heap.size w' w'' := fun w' hb =>
      (frames_any a0 len0 cap0 z0 w' (hkeep w' hb)).mono (fun e w'' h => ⟨by rcases h.1 with h | h; exact absurd h.1 hG; exact h.2, h.2⟩)
    clear hlen hlc hcm hkeep hG
    go_enter Try.func5, Try.ntmps5
    go_wp2_with fail
    go_at_call 12; refine (hv _).mono ?_; rintro e w1 ⟨rfl, hW⟩
    go_wp2_with fail
    go_at_call 20; refine (hf _ hW).mono ?_; rintro e w2 ⟨rfl, hb⟩
    have hW := below2 hW hb
    go_wp2_with fail
    go_ret
    exact ⟨rfl, hW⟩

set_option maxRecDepth 100000 in
theorem lifted (os : Os) (started : os.Started) (H : Type) (enc : TypeId × Value → H) :
    ReturnsInHanded {} Try.checked os 5 .any (Rows.frameBackSpec.pre6 enc Try.prog Try.f5 Rows.frameBackRow.domain false) (Rows.frameBackSpec.post enc Try.prog Try.f5 false true false false) := by
  refine returnsInHanded_of_change_sized (C := Try.checked) own started (by kernel_rfl) Try.func5
    (ChangeSpec.witness6 (enc := enc) (C := Try.checked) false ⟨#[], #[.slice none 0 0, .string ByteArray.empty], []⟩ 8 (by kernel_rfl) (by kernel_rfl) (by kernel_rfl) (by kernel_rfl)) ?_
  intro W base args ds gs before hval0 hW _ hsz0 _
  have hsz : (DataW.weightsEach Try.prog (Try.f5.params.toList ++ Rows.frameBackSpec.plain.varTypes Try.prog) (ds ++ gs)).all (· ≤ reachBytes) = true := hsz0
  clear hsz0
  have hval : ∀ (j : Nat) t v, Try.f5.params[j]? = some t → args[j]? = some v → Value.okWide Try.prog W .any base t v := hval0
  have hW' := hW
  obtain ⟨p, q, hA0, hV, rfl, hfz, hnd⟩ := hW
  have hA : DataW.TrodAll enc Try.prog W 0 (fun _ => true) true Try.f5.params.toList args.toList ds p := hA0
  rw [Try.params5] at hA hval hsz
  obtain ⟨v0, vs0, d0, ds0, p0, q0, hargs, rfl, rfl, h0, r0⟩ := trodAll_cons hA
  obtain ⟨v1, vs1, d1, ds1, p1, q1, rfl, rfl, rfl, h1, r1⟩ := trodAll_cons r0
  obtain ⟨rfl, rfl, rfl⟩ := trodAll_nil r1
  obtain rfl : args = #[v0, v1] := by cases args; simp_all
  obtain ⟨rfl, rfl⟩ := trodVars_none hV
  obtain ⟨a0, len0, cap0, rfl⟩ := okWide_slice Try.underlying31 (hval 0 31 v0 rfl rfl)
  have k0 := h0
  have lt0 : ∀ x ∈ p0, x.block < W.heap.size := by obtain ⟨m, hm⟩ := k0; exact DataW.trod_lt m _ _ _ hm
  obtain ⟨z0, b0⟩ : ∃ zs, IsStrs W a0 len0 cap0 zs := by
    obtain ⟨fuel, hf⟩ := h0
    rcases Go.Deep.open_strs Try.underlying31 Try.underlying9 (by kernel_rfl) hf with ⟨hcs, _⟩ | ⟨x, l, c, m, Sx, hcs, _, hl, hm, hmm, _, hr⟩
    · simp [Value.cells] at hcs
      obtain ⟨rfl, rfl, rfl⟩ := hcs
      exact ⟨[], isStrs_nil W⟩
    · simp [Value.cells] at hcs
      obtain ⟨rfl, rfl, rfl⟩ := hcs
      exact ⟨_, isStrs_of hl hm (fun i hi => hr i (by rw [hmm]; split <;> omega))⟩
  obtain ⟨a1, rfl, rfl, rfl, w1⟩ := open_string Try.underlying9 (hval 1 9 v1 rfl rfl) h1
  have b1 : a1.size ≤ 140737488351232 := by
    have := sized_string hsz (j := 1) (t := 9) rfl rfl
    simpa [reachBytes] using this
  clear hA0 hval0
  refine (walk a0 len0 cap0 z0 a1 W b0 b1).mono fun e W' ⟨he, bel⟩ => ?_
  subst he
  exact ⟨_, rfl, _, _, _, [], _, [], hW', trodAll_mk1 (shut_bool Try.underlying4 _), (trodAll_cons_mk (Below.trod laidOut (by kernel_rfl) (of_decide_eq_true (by kernel_rfl)) k0 bel lt0) (trodAll_cons_mk (shut_string Try.underlying9 w1) trodAll_mk0)), rfl, bel.frame _, fun h => by cases h⟩

theorem over : Rows.frameBackRow.holds Try.pinned (OpenSpec.ofChange Rows.frameBackSpec) :=
  OpenClaim.holds_of_wide 5 Try.f5 rfl rfl rfl rfl rfl rfl rfl ⟨rfl, rfl, rfl, rfl, rfl⟩ rfl rfl rfl rfl rfl (by kernel_rfl) Try.func5 (by kernel_rfl)
    (of_decide_eq_true (by kernel_rfl)) (by unfold Func.isWrapper; first | (rw [if_pos (by decide +kernel)]; kernel_rfl) | (rw [if_neg (by decide +kernel)]; exact ⟨rfl, rfl⟩))
    (fun os started H enc _ => lifted os started H enc)
end frameBack
theorem fback_holds : Rows.FrameBackSaid := frameBack.over
#print axioms fback_holds
end Go.Proofs.Ytojgmiobjfkebaa
