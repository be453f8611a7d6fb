/- For every links, link and interface: spoorlaw16.LinksChange returns true, and changes nothing that was there. No condition. -/
import Derived.Test.YtedgmnnbmonhkaaRows
import Derived.Test.YtedgmnnbmonhkaaLkLives
import Derived.Test.YtedgmnnbmonhkaaLkOpen
import Derived.Test.YtedgmnnbmonhkaaLkRefU
import Derived.Test.YtedgmnnbmonhkaaLkRefF
import Derived.ProofKit
import Derived.OpenShut
import Derived.ShutString
import Derived.SizedLaws
set_option linter.unusedVariables false
namespace Go.Proofs.Ytedgmnnbmonhkaa
namespace linksChange
open Go.ChangeShapes Go.WideShapes Go.ChangeAt Go.RowKit
open Go.ChangeMaps (open_string shut_string)
open Go.Proofs.Ytedgmnnbmonhkaa.Lk
open Go.Proofs.Ytedgmnnbmonhkaa.Addr (RowAt below2 below_drew below_new bset RowAt.lt RowAt.cell RowAt.frozen RowAt.below RowAt.drew RowAt.new RowAt.alloc cells2)
theorem own : ownKnob Try.prog.godebug = none := by kernel_rfl
theorem laidOut : laidOutB Try.prog = true := by kernel_rfl
set_option maxHeartbeats 8000000 in
set_option maxRecDepth 20000 in
theorem walk (v : Value) (l : List Lk) (x : Lk) (i : Int) (w : World) (b0 : HasLks w v l) (f0 : ∀ s ∈ l, FitL s) (b1 : FitL x) (b2 : -9223372036854775808 ≤ i ∧ i ≤ 9223372036854775807) :
    Calls Try.prog 3 #[v, lkV x, .int .i64 i] w fun e w' => e = .returned (.bool true) ∧ Below w.heap.size w w' := by
  have c1 := fun (W : World) (h : HasLks W v l) => put_any l v x W h
  have c2 := fun (W : World) (h : HasLks W v l) => rput_any l v x W h
  have c3 := fun (W : World) (h : HasLks W v l) => del_any l v i W h
  have c4 := fun (W : World) (h : HasLks W v l) => rdel_any l v i W h
  have c5 := fun (W : World) => lives_any W
  have c6 := fun (W : World) (h : HasLks W v l) => check_any l v W h
  have c7 := fun (W : World) (h : HasLks W v l) => rcheck_any l v W h
  have cs := fun (W : World) v u => same_any (putL l x).1 v u W
  have ct := fun (W : World) v u => same_any (delL l i).1 v u W
  have HV : Hid (lkV x = .agg #[.int .i64 x.iface, .int .i64 x.peer]) := rfl
  rw [HV.out]
  obtain ⟨X, hX⟩ : ∃ X, X = w.alloc (.cells #[.int .i64 x.iface, .int .i64 x.peer] 24) := ⟨_, rfl⟩
  have hB : Below w.heap.size w X := by rw [hX]; exact below_new (Below.refl _ _) _
  have r0 : RowAt X w.heap.size [.int .i64 x.iface, .int .i64 x.peer] 24 := by rw [hX]; exact RowAt.new _ _ _
  generalize (putL l x).1 = P1 at *
  generalize (putL l x).2 = P2 at *
  generalize (delL l i).1 = D1 at *
  generalize (delL l i).2 = D2 at *
  generalize checkL l = K at *
  generalize x.iface = xa at *
  generalize x.peer = xb at *
  have hPP : ((P2 : Int) == P2) = true := by simp
  have hDD : ((D2 : Int) == D2) = true := by simp
  have hKK : ((K : Int) == K) = true := by simp
  clear f0 b1 b2 HV
  go_enter Try.func3, Try.ntmps3
  go_upto_region 1 with fail
  rw [← hX]
  clear hX
  replace b0 := b0.keep hB
  obtain ⟨y0, y1, yf⟩ := cells2 r0
  go_wp2_with fail
  go_at_call 7; refine (c1 _ b0).mono ?_; rintro e w1 ⟨u1, rfl, h1, hb1⟩
  replace hB := below2 hB hb1
  replace b0 := b0.keep hb1
  replace r0 := RowAt.below r0 hb1
  clear y0 y1 yf hb1 c1
  obtain ⟨y0, y1, yf⟩ := cells2 r0
  go_wp2_with fail
  go_at_call 8; refine (c2 _ b0).mono ?_; rintro e w2 ⟨u2, rfl, h2, hb2⟩
  replace hB := below2 hB hb2
  replace b0 := b0.keep hb2
  replace h1 := h1.keep hb2
  clear y0 y1 yf hb2 c2 r0
  go_wp2_with fail
  go_at_call 9; refine (c3 _ b0).mono ?_; rintro e w3 ⟨u3, rfl, h3, hb3⟩
  replace hB := below2 hB hb3
  replace b0 := b0.keep hb3
  replace h1 := h1.keep hb3
  replace h2 := h2.keep hb3
  clear hb3 c3
  go_wp2_with fail
  go_at_call 10; refine (c4 _ b0).mono ?_; rintro e w4 ⟨u4, rfl, h4, hb4⟩
  replace hB := below2 hB hb4
  replace b0 := b0.keep hb4
  replace h1 := h1.keep hb4
  replace h2 := h2.keep hb4
  replace h3 := h3.keep hb4
  clear hb4 c4
  go_wp2_with fail
  go_at_call 11; refine (c5 _).mono ?_; rintro e w5 ⟨rfl, hb5⟩
  replace hB := below2 hB hb5
  replace b0 := b0.keep hb5
  replace h1 := h1.keep hb5
  replace h2 := h2.keep hb5
  replace h3 := h3.keep hb5
  replace h4 := h4.keep hb5
  clear hb5 c5
  go_wp2_with fail
  go_at_call 12; refine (c6 _ b0).mono ?_; rintro e w6 ⟨rfl, hb6⟩
  replace hB := below2 hB hb6
  replace b0 := b0.keep hb6
  replace h1 := h1.keep hb6
  replace h2 := h2.keep hb6
  replace h3 := h3.keep hb6
  replace h4 := h4.keep hb6
  clear hb6 c6
  go_wp2_with fail
  go_at_call 13; refine (c7 _ b0).mono ?_; rintro e w7 ⟨rfl, hb7⟩
  replace hB := below2 hB hb7
  replace h1 := h1.keep hb7
  replace h2 := h2.keep hb7
  replace h3 := h3.keep hb7
  replace h4 := h4.keep hb7
  clear hb7 c7 b0
  go_wp2_with fail
  go_at_call 14; refine (cs _ _ _ h1 h2).mono ?_; rintro e w8 ⟨rfl, hb8⟩
  replace hB := below2 hB hb8
  replace h3 := h3.keep hb8
  replace h4 := h4.keep hb8
  clear hb8 cs h1 h2
  go_wp2_with fail
  go_at_call 14; refine (ct _ _ _ h3 h4).mono ?_; rintro e w9 ⟨rfl, hb9⟩
  replace hB := below2 hB hb9
  clear hb9 ct h3 h4
  go_wp2_with fail
  go_ret
  exact ⟨rfl, hB⟩
set_option maxRecDepth 100000 in
theorem lifted (os : Os) (started : os.Started) (H : Type) (enc : TypeId × Value → H) :
    ReturnsInHanded {} Try.checked os 3 .any (Rows.linksChangeSpec.pre6 enc Try.prog Try.f3 Rows.linksChangeRow.domain false) (Rows.linksChangeSpec.post enc Try.prog Try.f3 false true false false) := by
  refine returnsInHanded_of_change_sized (C := Try.checked) own started (by kernel_rfl) Try.func3
    (ChangeSpec.witness6 (enc := enc) (C := Try.checked) false ⟨#[], #[.slice none 0 0, .agg #[.int .i64 0, .int .i64 0], .int .i64 0], []⟩ 8 (by kernel_rfl) (by kernel_rfl) (by kernel_rfl) (by kernel_rfl)) ?_
  intro W base args ds gs before hval0 hW _ hsz0 _
  have hsz : (DataW.weightsEach Try.prog (Try.f3.params.toList ++ Rows.linksChangeSpec.plain.varTypes Try.prog) (ds ++ gs)).all (· ≤ reachBytes) = true := hsz0
  clear hsz0
  have hval : ∀ (j : Nat) t v, Try.f3.params[j]? = some t → args[j]? = some v → Value.okWide Try.prog W .any base t v := hval0
  have hW' := hW
  obtain ⟨p, q, hA0, hV, rfl, hfz, hnd⟩ := hW
  have hA : DataW.TrodAll enc Try.prog W 0 (fun _ => true) true Try.f3.params.toList args.toList ds p := hA0
  rw [Try.params3] at hA hval hsz
  obtain ⟨v0, vs0, d0, ds0, p0, q0, hargs, rfl, rfl, h0, r0⟩ := trodAll_cons hA
  obtain ⟨v1, vs1, d1, ds1, p1, q1, rfl, rfl, rfl, h1, r1⟩ := trodAll_cons r0
  obtain ⟨v2, vs2, d2, ds2, p2, q2, rfl, rfl, rfl, h2, r2⟩ := trodAll_cons r1
  obtain ⟨rfl, rfl, rfl⟩ := trodAll_nil r2
  obtain rfl : args = #[v0, v1, v2] := by cases args; simp_all
  obtain ⟨rfl, rfl⟩ := trodVars_none hV
  obtain ⟨a0, len0, cap0, rfl⟩ := okWide_slice Try.underlying22 (hval 0 22 v0 rfl rfl)
  have k0 := h0
  have lt0 : ∀ x ∈ p0, x.block < W.heap.size := by obtain ⟨m, hm⟩ := k0; exact DataW.trod_lt m _ _ _ hm
  obtain ⟨fuel0, hf0⟩ := h0
  obtain ⟨z0, b0, f0⟩ := Lk.open_links hf0
  have k1 := h1
  have lt1 : ∀ x ∈ p1, x.block < W.heap.size := by obtain ⟨m, hm⟩ := k1; exact DataW.trod_lt m _ _ _ hm
  obtain ⟨n1, rfl, b1⟩ := Lk.open_link (hval 1 24 v1 rfl rfl) h1
  obtain ⟨a2, rfl, rfl, rfl, w2⟩ := open_int Try.underlying3 (hval 2 3 v2 rfl rfl) h2
  have b2 : -9223372036854775808 ≤ a2 ∧ a2 ≤ 9223372036854775807 := by simpa [Lit.wf, IntKind.min, IntKind.max, IntKind.signed, IntKind.bits] using w2
  clear hA0 hval0
  refine (walk (.slice a0 len0 cap0) z0 n1 a2 W b0 f0 b1 b2).mono fun e W' ⟨he, bel⟩ => ?_
  subst he
  exact ⟨_, rfl, _, _, _, [], _, [], hW', trodAll_mk1 (shut_bool Try.underlying4 _), (trodAll_cons_mk (Below.trod laidOut (by kernel_rfl) (of_decide_eq_true (by kernel_rfl)) k0 bel lt0) (trodAll_cons_mk (Below.trod laidOut (by kernel_rfl) (of_decide_eq_true (by kernel_rfl)) k1 bel lt1) (trodAll_cons_mk (shut_int Try.underlying3 w2) trodAll_mk0))), rfl, bel.frame _, fun h => by cases h⟩

theorem over : Rows.linksChangeRow.holds Try.pinned (OpenSpec.ofChange Rows.linksChangeSpec) :=
  OpenClaim.holds_of_wide 3 Try.f3 rfl rfl rfl rfl rfl rfl rfl ⟨rfl, rfl, rfl, rfl, rfl⟩ rfl rfl rfl rfl rfl (by kernel_rfl) Try.func3 (by kernel_rfl)
    (of_decide_eq_true (by kernel_rfl)) (by unfold Func.isWrapper; first | (rw [if_pos (by decide +kernel)]; kernel_rfl) | (rw [if_neg (by decide +kernel)]; exact ⟨rfl, rfl⟩))
    (fun os started H enc _ => lifted os started H enc)
end linksChange
theorem lchange_holds : Rows.LinksChangeSaid := linksChange.over
#print axioms lchange_holds
end Go.Proofs.Ytedgmnnbmonhkaa
