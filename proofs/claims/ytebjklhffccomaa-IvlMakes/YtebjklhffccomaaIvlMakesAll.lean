/- For any row of intervals, and any time: spoorlaw19.IvlMakes returns true, and changes nothing that was there. No condition. -/
import Derived.Test.YtebjklhffccomaaRows
import Derived.Test.YtebjklhffccomaaIvZ1
import Derived.Test.YtebjklhffccomaaIvZ2
import Derived.Test.YtebjklhffccomaaIvOpen
import Derived.ProofKit
import Derived.OpenShut
import Derived.ShutString
import Derived.SizedLaws
set_option linter.unusedVariables false
namespace Go.Proofs.Ytebjklhffccomaa
namespace ivlMakes
open Go.ChangeShapes Go.WideShapes Go.ChangeAt Go.RowKit
open Go.ChangeMaps (open_string shut_string)
open Go.Proofs.Ytebjklhffccomaa.Iv
open Go.Proofs.Ytebjklhffccomaa.Lk (HasRow)
open Go.Proofs.Ytebjklhffccomaa.Sp (Sp inB Row rowB row_ext okB okB_iff topN chk)
open Go.Proofs.Ytebjklhffccomaa.Addr (RowAt below2 below_drew below_new bset RowAt.lt RowAt.cell RowAt.frozen RowAt.below RowAt.drew RowAt.new RowAt.alloc cells2 cells4)
theorem own : ownKnob Try.prog.godebug = none := by kernel_rfl
theorem laidOut : laidOutB Try.prog = true := by kernel_rfl
set_option maxHeartbeats 16000000 in
set_option maxRecDepth 20000 in
theorem walk (v : Value) (l : List Iv) (t : Int) (w : World) (b1 : HasI w v l) (f1 : ∀ s ∈ l, FitI s) (b2 : FitT t) :
    Calls Try.prog 3 #[v, .int .i64 t] w fun e w' => e = .returned (.bool true) ∧ Below w.heap.size w w' := by
  have c0 := fun (W : World) => lives_any W
  have cm := fun (W : World) (h : HasI W v l) => makeI_any l v W h
  have rm := fun (W : World) (h : HasI W v l) => rmake_any l v W h
  have ch := fun (W : World) (h : HasI W v l) => hasI_any l t v W h b2
  have rh := fun (W : World) (h : HasI W v l) => rhas_any l t v W h f1
  have cl := fun (W : World) (h : HasI W v l) => longI_any l v W h
  have rl := fun (W : World) (h : HasI W v l) => rlong_any l v W h f1
  have ck1 := fun (W : World) (h : HasI W v l) => chk_any l v W h
  have ck2 := fun (W : World) (h : HasI W v l) => rchk_any l v W h f1
  obtain ⟨o, c, rfl, _, _⟩ := HasRow.slice b1
  have cf := fun (b : Nat) (W : World) (h : W.cell? ⟨b, 0, none⟩ = some (.slice o l.length c)) => few1_any l.length b c o W h
  have hB : Below w.heap.size w w := Below.refl _ _
  generalize (hasJ l t).1 = h1 at *
  generalize (hasJ l t).2 = h2 at *
  generalize (longJ l).1 = h3 at *
  generalize (longJ l).2 = h4 at *
  generalize chk (okJ l) = h5 at *
  clear f1 b2
  generalize l.length = n at *
  generalize fewB n = F at *
  obtain ⟨X1, hX1⟩ : ∃ X, X = w.alloc (.cells #[.slice o n c] 22) := ⟨_, rfl⟩
  have hb2 : Below w.heap.size w X1 := by rw [hX1]; exact below_new (Below.refl _ _) _
  have rf : RowAt X1 w.heap.size [.slice o n c] 22 := by rw [hX1]; exact RowAt.new _ _ _
  replace b1 := b1.keep hb2
  replace hB := below2 hB hb2
  have cf0 := cf w.heap.size X1 (rf.cell 0)
  go_enter Try.func3, Try.ntmps3
  go_wp2_with fail
  rw [← hX1]
  clear hX1 hb2 cf rf
  go_at_call 9; refine cf0.mono ?_; rintro e w1 ⟨rfl, hb⟩
  replace hB := below2 hB hb
  replace b1 := b1.keep hb
  clear hb cf0
  cases F
  · clear cm rm ch rh cl rl ck1 ck2
    go_wp2_with fail
    go_at_call 10; refine (c0 _).mono ?_; rintro e w2 ⟨rfl, hb⟩
    replace hB := below2 hB hb
    go_wp2_with fail
    go_ret
    exact ⟨rfl, hB⟩
  · go_wp2_with fail
    go_at_call 11; refine (cm _ b1).mono ?_; rintro e w2 ⟨u1, R1, y1, rfl, hr1, hb, hm1⟩
    replace hB := below2 hB hb
    replace b1 := b1.keep hb
    clear hb cm
    obtain ⟨p1, k1, rfl, _, _⟩ := HasRow.slice hr1
    rw [List.length_map] at hr1
    go_wp2_with fail
    go_at_call 12; refine (rm _ b1).mono ?_; rintro e w3 ⟨v1, S1, z1, rfl, hs1, hb, hn1⟩
    replace hB := below2 hB hb
    replace b1 := b1.keep hb
    replace hr1 := hr1.keep hb
    clear hb rm
    obtain ⟨eR, eY⟩ := mkI_same hm1 hn1
    subst eR eY
    clear hm1 hn1
    obtain ⟨q1, j1, rfl, _, _⟩ := HasRow.slice hs1
    rw [List.length_map] at hs1
    have cs1 := fun (W : World) (h1 : HasI W (.slice p1 R1.length k1) (R1.map ofS)) (h2 : HasI W (.slice q1 R1.length j1) (R1.map ofS)) => same_any (R1.map ofS) _ _ W h1 h2
    go_wp2_with fail
    go_at_call 13; refine (ch _ b1).mono ?_; rintro e w4 ⟨rfl, hb⟩
    replace hB := below2 hB hb
    replace b1 := b1.keep hb
    replace hr1 := hr1.keep hb
    replace hs1 := hs1.keep hb
    clear hb ch
    go_wp2_with fail
    go_at_call 14; refine (rh _ b1).mono ?_; rintro e w5 ⟨rfl, hb⟩
    replace hB := below2 hB hb
    replace b1 := b1.keep hb
    replace hr1 := hr1.keep hb
    replace hs1 := hs1.keep hb
    clear hb rh
    go_wp2_with fail
    go_at_call 15; refine (cl _ b1).mono ?_; rintro e w6 ⟨rfl, hb⟩
    replace hB := below2 hB hb
    replace b1 := b1.keep hb
    replace hr1 := hr1.keep hb
    replace hs1 := hs1.keep hb
    clear hb cl
    go_wp2_with fail
    go_at_call 16; refine (rl _ b1).mono ?_; rintro e w7 ⟨rfl, hb⟩
    replace hB := below2 hB hb
    replace b1 := b1.keep hb
    replace hr1 := hr1.keep hb
    replace hs1 := hs1.keep hb
    clear hb rl
    go_wp2_with fail
    go_at_call 10; refine (c0 _).mono ?_; rintro e w8 ⟨rfl, hb⟩
    replace hB := below2 hB hb
    replace b1 := b1.keep hb
    replace hr1 := hr1.keep hb
    replace hs1 := hs1.keep hb
    clear hb c0
    go_wp2_with fail
    go_at_call 17; refine (cs1 _ hr1 hs1).mono ?_; rintro e w9 ⟨rfl, hb⟩
    replace hB := below2 hB hb
    replace b1 := b1.keep hb
    clear hb cs1 hr1 hs1
    go_wp2_with fail
    go_at_call 18; refine (ck1 _ b1).mono ?_; rintro e w10 ⟨rfl, hb⟩
    replace hB := below2 hB hb
    replace b1 := b1.keep hb
    clear hb ck1
    go_wp2_with fail
    go_at_call 19; refine (ck2 _ b1).mono ?_; rintro e w11 ⟨rfl, hb⟩
    replace hB := below2 hB hb
    clear hb ck2 b1
    go_wp2_with fail
    go_ret
    exact ⟨rfl, hB⟩
set_option maxRecDepth 100000 in
theorem lifted (os : Os) (started : os.Started) (H : Type) (enc : TypeId × Value → H) :
    ReturnsInHanded {} Try.checked os 3 .any (Rows.ivlMakesSpec.pre6 enc Try.prog Try.f3 Rows.ivlMakesRow.domain false) (Rows.ivlMakesSpec.post enc Try.prog Try.f3 false true false false) := by
  refine returnsInHanded_of_change_sized (C := Try.checked) own started (by kernel_rfl) Try.func3
    (ChangeSpec.witness6 (enc := enc) (C := Try.checked) false ⟨#[], #[.slice none 0 0, .int .i64 0], []⟩ 8 (by kernel_rfl) (by kernel_rfl) (by kernel_rfl) (by kernel_rfl)) ?_
  intro W base args ds gs before hval0 hW _ hsz0 _
  have hsz : (DataW.weightsEach Try.prog (Try.f3.params.toList ++ Rows.ivlMakesSpec.plain.varTypes Try.prog) (ds ++ gs)).all (· ≤ reachBytes) = true := hsz0
  clear hsz0
  have hval : ∀ (j : Nat) t v, Try.f3.params[j]? = some t → args[j]? = some v → Value.okWide Try.prog W .any base t v := hval0
  have hW' := hW
  obtain ⟨p, q, hA0, hV, rfl, hfz, hnd⟩ := hW
  have hA : DataW.TrodAll enc Try.prog W 0 (fun _ => true) true Try.f3.params.toList args.toList ds p := hA0
  rw [Try.params3] at hA hval hsz
  obtain ⟨v0, vs0, d0, ds0, p0, q0, hargs, rfl, rfl, h0, r0⟩ := trodAll_cons hA
  obtain ⟨v1, vs1, d1, ds1, p1, q1, rfl, rfl, rfl, h1, r1⟩ := trodAll_cons r0
  obtain ⟨rfl, rfl, rfl⟩ := trodAll_nil r1
  obtain rfl : args = #[v0, v1] := by cases args; simp_all
  obtain ⟨rfl, rfl⟩ := trodVars_none hV
  obtain ⟨a0, len0, cap0, rfl⟩ := okWide_slice Try.underlying22 (hval 0 22 v0 rfl rfl)
  have k0 := h0
  have lt0 : ∀ x ∈ p0, x.block < W.heap.size := by obtain ⟨m, hm⟩ := k0; exact DataW.trod_lt m _ _ _ hm
  obtain ⟨fuel0, hf0⟩ := h0
  obtain ⟨z0, b0, f0⟩ := Iv.open_ivs hf0
  obtain ⟨a1, rfl, rfl, rfl, w1⟩ := open_int Try.underlying2 (hval 1 2 v1 rfl rfl) h1
  have b1 : -9223372036854775808 ≤ a1 ∧ a1 ≤ 9223372036854775807 := by simpa [Lit.wf, IntKind.min, IntKind.max, IntKind.signed, IntKind.bits] using w1
  clear hA0 hval0
  refine (walk (.slice a0 len0 cap0) z0 a1 W b0 f0 b1).mono fun e W' ⟨he, bel⟩ => ?_
  subst he
  exact ⟨_, rfl, _, _, _, [], _, [], hW', trodAll_mk1 (shut_bool Try.underlying4 _), (trodAll_cons_mk (Below.trod laidOut (by kernel_rfl) (of_decide_eq_true (by kernel_rfl)) k0 bel lt0) (trodAll_cons_mk (shut_int Try.underlying2 w1) trodAll_mk0)), rfl, bel.frame _, fun h => by cases h⟩

theorem over : Rows.ivlMakesRow.holds Try.pinned (OpenSpec.ofChange Rows.ivlMakesSpec) :=
  OpenClaim.holds_of_wide 3 Try.f3 rfl rfl rfl rfl rfl rfl rfl ⟨rfl, rfl, rfl, rfl, rfl⟩ rfl rfl rfl rfl rfl (by kernel_rfl) Try.func3 (by kernel_rfl)
    (of_decide_eq_true (by kernel_rfl)) (by unfold Func.isWrapper; first | (rw [if_pos (by decide +kernel)]; kernel_rfl) | (rw [if_neg (by decide +kernel)]; exact ⟨rfl, rfl⟩))
    (fun os started H enc _ => lifted os started H enc)
end ivlMakes
theorem ivl_makes_holds : Rows.IvlMakesSaid := ivlMakes.over
#print axioms ivl_makes_holds
end Go.Proofs.Ytebjklhffccomaa
