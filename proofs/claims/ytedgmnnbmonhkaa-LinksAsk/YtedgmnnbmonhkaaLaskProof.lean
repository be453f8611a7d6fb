/- For every links and interface: spoorlaw16.LinksAsk returns true, and changes nothing that was there. No condition. -/
import Derived.Test.YtedgmnnbmonhkaaRows
import Derived.Test.YtedgmnnbmonhkaaLkLives
import Derived.Test.YtedgmnnbmonhkaaLkOpen
import Derived.Test.YtedgmnnbmonhkaaLkRefU
import Derived.Test.YtedgmnnbmonhkaaLkRefF
import Derived.ProofKit
import Derived.OpenShut
import Derived.ShutString
import Derived.SizedLaws
set_option linter.unusedVariables false
namespace Go.Proofs.Ytedgmnnbmonhkaa
namespace linksAsk
open Go.ChangeShapes Go.WideShapes Go.ChangeAt Go.RowKit
open Go.ChangeMaps (open_string shut_string)
open Go.Proofs.Ytedgmnnbmonhkaa.Lk
open Go.Proofs.Ytedgmnnbmonhkaa.Addr (RowAt below2 below_drew below_new bset RowAt.lt RowAt.cell RowAt.frozen RowAt.below RowAt.drew RowAt.new RowAt.alloc cells2)
theorem own : ownKnob Try.prog.godebug = none := by kernel_rfl
theorem laidOut : laidOutB Try.prog = true := by kernel_rfl
set_option maxHeartbeats 8000000 in
set_option maxRecDepth 20000 in
theorem walk (v : Value) (l : List Lk) (i : Int) (w : World) (b0 : HasLks w v l) (f0 : ∀ s ∈ l, FitL s) (b2 : -9223372036854775808 ≤ i ∧ i ≤ 9223372036854775807) :
    Calls Try.prog 4 #[v, .int .i64 i] w fun e w' => e = .returned (.bool true) ∧ Below w.heap.size w w' := by
  have c1 := fun (W : World) (h : HasLks W v l) => peer_any l v i W h
  have c2 := fun (W : World) (h : HasLks W v l) => rpeer_any l v i W h
  have c3 := fun (W : World) (h : HasLks W v l) => peers_any l v W h
  have c4 := fun (W : World) (h : HasLks W v l) => rpeers_any l v W h
  have c5 := fun (W : World) => lives_any W
  have cs := fun (W : World) v u => alike_any (peersO l) v u W
  generalize (peerL l i).1 = P1 at *
  generalize (peerL l i).2 = P2 at *
  generalize peersO l = D1 at *
  generalize checkL l = K at *
  have hPP : ((P1 : Int) == P1) = true := by simp
  have hDD : ((P2 : Int) == P2) = true := by simp
  have hKK : ((K : Int) == K) = true := by simp
  have hB : Below w.heap.size w w := Below.refl _ _
  clear f0 b2
  go_enter Try.func4, Try.ntmps4
  go_wp2_with fail
  go_at_call 15; refine (c1 _ b0).mono ?_; rintro e w1 ⟨rfl, hb1⟩
  replace hB := below2 hB hb1
  replace b0 := b0.keep hb1
  clear hb1 c1
  go_wp2_with fail
  go_at_call 16; refine (c2 _ b0).mono ?_; rintro e w2 ⟨rfl, hb2⟩
  replace hB := below2 hB hb2
  replace b0 := b0.keep hb2
  clear hb2 c2
  go_wp2_with fail
  go_at_call 17; refine (c3 _ b0).mono ?_; rintro e w3 ⟨u3, rfl, h3, hb3⟩
  replace hB := below2 hB hb3
  replace b0 := b0.keep hb3
  clear hb3 c3
  go_wp2_with fail
  go_at_call 18; refine (c4 _ b0).mono ?_; rintro e w4 ⟨u4, rfl, h4, hb4⟩
  replace hB := below2 hB hb4
  replace h3 := h3.keep hb4
  clear hb4 c4 b0
  go_wp2_with fail
  go_at_call 11; refine (c5 _).mono ?_; rintro e w5 ⟨rfl, hb5⟩
  replace hB := below2 hB hb5
  replace h3 := h3.keep hb5
  replace h4 := h4.keep hb5
  clear hb5 c5
  go_wp2_with fail
  go_at_call 19; refine (cs _ _ _ h3 h4).mono ?_; rintro e w6 ⟨rfl, hb6⟩
  replace hB := below2 hB hb6
  clear hb6 cs h3 h4
  go_wp2_with fail
  go_ret
  exact ⟨rfl, hB⟩
set_option maxRecDepth 100000 in
theorem lifted (os : Os) (started : os.Started) (H : Type) (enc : TypeId × Value → H) :
    ReturnsInHanded {} Try.checked os 4 .any (Rows.linksAskSpec.pre6 enc Try.prog Try.f4 Rows.linksAskRow.domain false) (Rows.linksAskSpec.post enc Try.prog Try.f4 false true false false) := by
  refine returnsInHanded_of_change_sized (C := Try.checked) own started (by kernel_rfl) Try.func4
    (ChangeSpec.witness6 (enc := enc) (C := Try.checked) false ⟨#[], #[.slice none 0 0, .int .i64 0], []⟩ 8 (by kernel_rfl) (by kernel_rfl) (by kernel_rfl) (by kernel_rfl)) ?_
  intro W base args ds gs before hval0 hW _ hsz0 _
  have hsz : (DataW.weightsEach Try.prog (Try.f4.params.toList ++ Rows.linksAskSpec.plain.varTypes Try.prog) (ds ++ gs)).all (· ≤ reachBytes) = true := hsz0
  clear hsz0
  have hval : ∀ (j : Nat) t v, Try.f4.params[j]? = some t → args[j]? = some v → Value.okWide Try.prog W .any base t v := hval0
  have hW' := hW
  obtain ⟨p, q, hA0, hV, rfl, hfz, hnd⟩ := hW
  have hA : DataW.TrodAll enc Try.prog W 0 (fun _ => true) true Try.f4.params.toList args.toList ds p := hA0
  rw [Try.params4] at hA hval hsz
  obtain ⟨v0, vs0, d0, ds0, p0, q0, hargs, rfl, rfl, h0, r0⟩ := trodAll_cons hA
  obtain ⟨v1, vs1, d1, ds1, p1, q1, rfl, rfl, rfl, h1, r1⟩ := trodAll_cons r0
  obtain ⟨rfl, rfl, rfl⟩ := trodAll_nil r1
  obtain rfl : args = #[v0, v1] := by cases args; simp_all
  obtain ⟨rfl, rfl⟩ := trodVars_none hV
  obtain ⟨a0, len0, cap0, rfl⟩ := okWide_slice Try.underlying22 (hval 0 22 v0 rfl rfl)
  have k0 := h0
  have lt0 : ∀ x ∈ p0, x.block < W.heap.size := by obtain ⟨m, hm⟩ := k0; exact DataW.trod_lt m _ _ _ hm
  obtain ⟨fuel0, hf0⟩ := h0
  obtain ⟨z0, b0, f0⟩ := Lk.open_links hf0
  obtain ⟨a1, rfl, rfl, rfl, w1⟩ := open_int Try.underlying3 (hval 1 3 v1 rfl rfl) h1
  have b1 : -9223372036854775808 ≤ a1 ∧ a1 ≤ 9223372036854775807 := by simpa [Lit.wf, IntKind.min, IntKind.max, IntKind.signed, IntKind.bits] using w1
  clear hA0 hval0
  refine (walk (.slice a0 len0 cap0) z0 a1 W b0 f0 b1).mono fun e W' ⟨he, bel⟩ => ?_
  subst he
  exact ⟨_, rfl, _, _, _, [], _, [], hW', trodAll_mk1 (shut_bool Try.underlying4 _), (trodAll_cons_mk (Below.trod laidOut (by kernel_rfl) (of_decide_eq_true (by kernel_rfl)) k0 bel lt0) (trodAll_cons_mk (shut_int Try.underlying3 w1) trodAll_mk0)), rfl, bel.frame _, fun h => by cases h⟩

theorem over : Rows.linksAskRow.holds Try.pinned (OpenSpec.ofChange Rows.linksAskSpec) :=
  OpenClaim.holds_of_wide 4 Try.f4 rfl rfl rfl rfl rfl rfl rfl ⟨rfl, rfl, rfl, rfl, rfl⟩ rfl rfl rfl rfl rfl (by kernel_rfl) Try.func4 (by kernel_rfl)
    (of_decide_eq_true (by kernel_rfl)) (by unfold Func.isWrapper; first | (rw [if_pos (by decide +kernel)]; kernel_rfl) | (rw [if_neg (by decide +kernel)]; exact ⟨rfl, rfl⟩))
    (fun os started H enc _ => lifted os started H enc)
end linksAsk
theorem lask_holds : Rows.LinksAskSaid := linksAsk.over
#print axioms lask_holds
end Go.Proofs.Ytedgmnnbmonhkaa
