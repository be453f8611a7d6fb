/- For any two rows of intervals, and any interval: spoorlaw19.IvlSets returns true, and changes nothing that was there. No condition. -/
import Derived.Test.YtebjklhffccomaaRows
import Derived.Test.YtebjklhffccomaaIvZ1
import Derived.Test.YtebjklhffccomaaIvZ2
import Derived.Test.YtebjklhffccomaaIvOpen
import Derived.ProofKit
import Derived.OpenShut
import Derived.ShutString
import Derived.SizedLaws
set_option linter.unusedVariables false
namespace Go.Proofs.Ytebjklhffccomaa
namespace ivlSets
open Go.ChangeShapes Go.WideShapes Go.ChangeAt Go.RowKit
open Go.ChangeMaps (open_string shut_string)
open Go.Proofs.Ytebjklhffccomaa.Iv
open Go.Proofs.Ytebjklhffccomaa.Lk (HasRow)
open Go.Proofs.Ytebjklhffccomaa.Sp (Sp inB Row rowB row_ext okB okB_iff topN chk)
open Go.Proofs.Ytebjklhffccomaa.Addr (RowAt below2 below_drew below_new bset RowAt.lt RowAt.cell RowAt.frozen RowAt.below RowAt.drew RowAt.new RowAt.alloc cells2 cells4)
theorem own : ownKnob Try.prog.godebug = none := by kernel_rfl
theorem laidOut : laidOutB Try.prog = true := by kernel_rfl
set_option maxHeartbeats 16000000 in
set_option maxRecDepth 20000 in
theorem walk (v : Value) (l : List Iv) (u : Value) (m : List Iv) (wi : Iv) (w : World) (b1 : HasI w v l) (f1 : ∀ s ∈ l, FitI s) (b2 : HasI w u m) (f2 : ∀ s ∈ m, FitI s) (b3 : FitI wi) :
    Calls Try.prog 4 #[v, u, ivV wi] w fun e w' => e = .returned (.bool true) ∧ Below w.heap.size w w' := by
  have c0 := fun (W : World) => lives_any W
  have co := fun (W : World) (h : HasI W v l) (g : HasI W u m) => orI_any l m v u W h g
  have ro := fun (W : World) (h : HasI W v l) (g : HasI W u m) => ror_any l m v u W h g f1 f2
  have ca := fun (W : World) (h : HasI W v l) (g : HasI W u m) => andI_any l m v u W h g
  have ra := fun (W : World) (h : HasI W v l) (g : HasI W u m) => rand_any l m v u W h g f1 f2
  have cn := fun (W : World) (h : HasI W v l) => notI_any l wi v W h
  have rn := fun (W : World) (h : HasI W v l) => rnot_any l wi v W h f1 b3
  obtain ⟨o1, c1, rfl, _, _⟩ := HasRow.slice b1
  obtain ⟨o2, c2, rfl, _, _⟩ := HasRow.slice b2
  have cf := fun (b : Nat) (W : World) (h : W.cell? ⟨b, 0, none⟩ = some (.slice o1 l.length c1)) (g : W.cell? ⟨b, 1, none⟩ = some (.slice o2 m.length c2)) => few2_any l.length m.length b c1 c2 o1 o2 W h g
  have hB : Below w.heap.size w w := Below.refl _ _
  clear f1 f2 b3
  unfold ivV
  obtain ⟨n, hn⟩ : ∃ n, n = l.length := ⟨_, rfl⟩
  obtain ⟨n2, hn2⟩ : ∃ n, n = m.length := ⟨_, rfl⟩
  generalize (fewB l.length && fewB m.length) = F at *
  obtain ⟨X0, hX0⟩ : ∃ X, X = w.alloc (.cells #[.int .i64 wi.1, .int .i64 wi.2] 36) := ⟨_, rfl⟩
  have hb : Below w.heap.size w X0 := by rw [hX0]; exact below_new (Below.refl _ _) _
  have rp : RowAt X0 w.heap.size [.int .i64 wi.1, .int .i64 wi.2] 36 := by rw [hX0]; exact RowAt.new _ _ _
  obtain ⟨X1, hX1⟩ : ∃ X, X = X0.alloc (.cells #[.slice o1 l.length c1, .slice o2 m.length c2] 22) := ⟨_, rfl⟩
  have hb2 : Below X0.heap.size X0 X1 := by rw [hX1]; exact below_new (Below.refl _ _) _
  have rf : RowAt X1 X0.heap.size [.slice o1 l.length c1, .slice o2 m.length c2] 22 := by rw [hX1]; exact RowAt.new _ _ _
  replace rp := rp.below hb2
  replace b1 := (b1.keep hb).keep hb2
  replace b2 := (b2.keep hb).keep hb2
  replace hB := below2 (below2 hB hb) hb2
  have cf0 := cf X0.heap.size X1 (rf.cell 0) (rf.cell 1)
  clear hn hn2
  go_enter Try.func4, Try.ntmps4
  go_upto_region 1 with fail
  rw [← hX0]
  generalize hgp : w.heap.size = gp at rp ⊢
  clear hX0 hgp hb
  go_wp2_with fail
  rw [← hX1]
  clear hX1 hb2 cf rf
  go_at_call 9; refine cf0.mono ?_; rintro e w1 ⟨rfl, hb⟩
  replace hB := below2 hB hb
  replace b1 := b1.keep hb
  replace b2 := b2.keep hb
  replace rp := rp.below hb
  clear hb cf0
  cases F
  · clear co ro ca ra cn rn
    go_wp2_with fail
    go_at_call 10; refine (c0 _).mono ?_; rintro e w2 ⟨rfl, hb⟩
    replace hB := below2 hB hb
    go_wp2_with fail
    go_ret
    exact ⟨rfl, hB⟩
  · go_wp2_with fail
    go_at_call 20; refine (co _ b1 b2).mono ?_; rintro e w2 ⟨u1, R1, y1, rfl, hr1, hb, hm1⟩
    replace hB := below2 hB hb
    replace rp := rp.below hb
    replace b1 := b1.keep hb
    replace b2 := b2.keep hb
    clear hb co
    obtain ⟨p1, k1, rfl, _, _⟩ := HasRow.slice hr1
    rw [List.length_map] at hr1
    go_wp2_with fail
    go_at_call 21; refine (ro _ b1 b2).mono ?_; rintro e w3 ⟨v1, S1, z1, rfl, hs1, hb, hn1⟩
    replace hB := below2 hB hb
    replace rp := rp.below hb
    replace b1 := b1.keep hb
    replace b2 := b2.keep hb
    replace hr1 := hr1.keep hb
    clear hb ro
    obtain ⟨eR, eY⟩ := setI_same hm1 hn1
    subst eR eY
    clear hm1 hn1
    obtain ⟨q1, j1, rfl, _, _⟩ := HasRow.slice hs1
    rw [List.length_map] at hs1
    have cs1 := fun (W : World) (h1 : HasI W (.slice p1 R1.length k1) (R1.map ofS)) (h2 : HasI W (.slice q1 R1.length j1) (R1.map ofS)) => same_any (R1.map ofS) _ _ W h1 h2
    go_wp2_with fail
    go_at_call 22; refine (ca _ b1 b2).mono ?_; rintro e w4 ⟨u2, R2, y2, rfl, hr2, hb, hm2⟩
    replace hB := below2 hB hb
    replace rp := rp.below hb
    replace b1 := b1.keep hb
    replace b2 := b2.keep hb
    replace hr1 := hr1.keep hb
    replace hs1 := hs1.keep hb
    clear hb ca
    obtain ⟨p2, k2, rfl, _, _⟩ := HasRow.slice hr2
    rw [List.length_map] at hr2
    go_wp2_with fail
    go_at_call 23; refine (ra _ b1 b2).mono ?_; rintro e w5 ⟨v2, S2, z2, rfl, hs2, hb, hn2⟩
    replace hB := below2 hB hb
    replace rp := rp.below hb
    replace b1 := b1.keep hb
    replace b2 := b2.keep hb
    replace hr1 := hr1.keep hb
    replace hs1 := hs1.keep hb
    replace hr2 := hr2.keep hb
    clear hb ra
    obtain ⟨eR, eY⟩ := setI_same hm2 hn2
    subst eR eY
    clear hm2 hn2
    obtain ⟨q2, j2, rfl, _, _⟩ := HasRow.slice hs2
    rw [List.length_map] at hs2
    have cs2 := fun (W : World) (h1 : HasI W (.slice p2 R2.length k2) (R2.map ofS)) (h2 : HasI W (.slice q2 R2.length j2) (R2.map ofS)) => same_any (R2.map ofS) _ _ W h1 h2
    obtain ⟨x0, x1, xf⟩ := cells2 rp
    go_wp2_with fail
    go_at_call 24; refine (cn _ b1).mono ?_; rintro e w6 ⟨u3, R3, y3, rfl, hr3, hb, hm3⟩
    replace hB := below2 hB hb
    replace rp := rp.below hb
    replace b1 := b1.keep hb
    replace hr1 := hr1.keep hb
    replace hs1 := hs1.keep hb
    replace hr2 := hr2.keep hb
    replace hs2 := hs2.keep hb
    clear hb cn x0 x1 xf
    obtain ⟨p3, k3, rfl, _, _⟩ := HasRow.slice hr3
    rw [List.length_map] at hr3
    obtain ⟨x0, x1, xf⟩ := cells2 rp
    go_wp2_with fail
    go_at_call 25; refine (rn _ b1).mono ?_; rintro e w7 ⟨v3, S3, z3, rfl, hs3, hb, hn3⟩
    replace hB := below2 hB hb
    replace rp := rp.below hb
    replace b1 := b1.keep hb
    replace hr1 := hr1.keep hb
    replace hs1 := hs1.keep hb
    replace hr2 := hr2.keep hb
    replace hs2 := hs2.keep hb
    replace hr3 := hr3.keep hb
    clear hb rn x0 x1 xf
    obtain ⟨eR, eY⟩ := setI_same hm3 hn3
    subst eR eY
    clear hm3 hn3
    obtain ⟨q3, j3, rfl, _, _⟩ := HasRow.slice hs3
    rw [List.length_map] at hs3
    have cs3 := fun (W : World) (h1 : HasI W (.slice p3 R3.length k3) (R3.map ofS)) (h2 : HasI W (.slice q3 R3.length j3) (R3.map ofS)) => same_any (R3.map ofS) _ _ W h1 h2
    clear b1 b2 rp
    go_wp2_with fail
    go_at_call 10; refine (c0 _).mono ?_; rintro e w8 ⟨rfl, hb⟩
    replace hB := below2 hB hb
    replace hr1 := hr1.keep hb
    replace hs1 := hs1.keep hb
    replace hr2 := hr2.keep hb
    replace hs2 := hs2.keep hb
    replace hr3 := hr3.keep hb
    replace hs3 := hs3.keep hb
    clear hb c0
    go_wp2_with fail
    go_at_call 17; refine (cs1 _ hr1 hs1).mono ?_; rintro e w9 ⟨rfl, hb⟩
    replace hB := below2 hB hb
    replace hr2 := hr2.keep hb
    replace hs2 := hs2.keep hb
    replace hr3 := hr3.keep hb
    replace hs3 := hs3.keep hb
    clear hb cs1 hr1 hs1
    go_wp2_with fail
    go_at_call 17; refine (cs2 _ hr2 hs2).mono ?_; rintro e w10 ⟨rfl, hb⟩
    replace hB := below2 hB hb
    replace hr3 := hr3.keep hb
    replace hs3 := hs3.keep hb
    clear hb cs2 hr2 hs2
    go_wp2_with fail
    go_at_call 17; refine (cs3 _ hr3 hs3).mono ?_; rintro e w11 ⟨rfl, hb⟩
    replace hB := below2 hB hb
    clear hb cs3 hr3 hs3
    go_wp2_with fail
    go_ret
    exact ⟨rfl, hB⟩
set_option maxRecDepth 100000 in
theorem lifted (os : Os) (started : os.Started) (H : Type) (enc : TypeId × Value → H) :
    ReturnsInHanded {} Try.checked os 4 .any (Rows.ivlSetsSpec.pre6 enc Try.prog Try.f4 Rows.ivlSetsRow.domain false) (Rows.ivlSetsSpec.post enc Try.prog Try.f4 false true false false) := by
  refine returnsInHanded_of_change_sized (C := Try.checked) own started (by kernel_rfl) Try.func4
    (ChangeSpec.witness6 (enc := enc) (C := Try.checked) false ⟨#[], #[.slice none 0 0, .slice none 0 0, .agg #[.int .i64 0, .int .i64 0]], []⟩ 8 (by kernel_rfl) (by kernel_rfl) (by kernel_rfl) (by kernel_rfl)) ?_
  intro W base args ds gs before hval0 hW _ hsz0 _
  have hsz : (DataW.weightsEach Try.prog (Try.f4.params.toList ++ Rows.ivlSetsSpec.plain.varTypes Try.prog) (ds ++ gs)).all (· ≤ reachBytes) = true := hsz0
  clear hsz0
  have hval : ∀ (j : Nat) t v, Try.f4.params[j]? = some t → args[j]? = some v → Value.okWide Try.prog W .any base t v := hval0
  have hW' := hW
  obtain ⟨p, q, hA0, hV, rfl, hfz, hnd⟩ := hW
  have hA : DataW.TrodAll enc Try.prog W 0 (fun _ => true) true Try.f4.params.toList args.toList ds p := hA0
  rw [Try.params4] at hA hval hsz
  obtain ⟨v0, vs0, d0, ds0, p0, q0, hargs, rfl, rfl, h0, r0⟩ := trodAll_cons hA
  obtain ⟨v1, vs1, d1, ds1, p1, q1, rfl, rfl, rfl, h1, r1⟩ := trodAll_cons r0
  obtain ⟨v2, vs2, d2, ds2, p2, q2, rfl, rfl, rfl, h2, r2⟩ := trodAll_cons r1
  obtain ⟨rfl, rfl, rfl⟩ := trodAll_nil r2
  obtain rfl : args = #[v0, v1, v2] := by cases args; simp_all
  obtain ⟨rfl, rfl⟩ := trodVars_none hV
  obtain ⟨a0, len0, cap0, rfl⟩ := okWide_slice Try.underlying22 (hval 0 22 v0 rfl rfl)
  have k0 := h0
  have lt0 : ∀ x ∈ p0, x.block < W.heap.size := by obtain ⟨m, hm⟩ := k0; exact DataW.trod_lt m _ _ _ hm
  obtain ⟨fuel0, hf0⟩ := h0
  obtain ⟨z0, b0, f0⟩ := Iv.open_ivs hf0
  obtain ⟨a1, len1, cap1, rfl⟩ := okWide_slice Try.underlying22 (hval 1 22 v1 rfl rfl)
  have k1 := h1
  have lt1 : ∀ x ∈ p1, x.block < W.heap.size := by obtain ⟨m, hm⟩ := k1; exact DataW.trod_lt m _ _ _ hm
  obtain ⟨fuel1, hf1⟩ := h1
  obtain ⟨z1, b1, f1⟩ := Iv.open_ivs hf1
  have k2 := h2
  have lt2 : ∀ x ∈ p2, x.block < W.heap.size := by obtain ⟨m, hm⟩ := k2; exact DataW.trod_lt m _ _ _ hm
  obtain ⟨n2, rfl, b2⟩ := Iv.open_ivl (hval 2 36 v2 rfl rfl) h2
  clear hA0 hval0
  refine (walk (.slice a0 len0 cap0) z0 (.slice a1 len1 cap1) z1 n2 W b0 f0 b1 f1 b2).mono fun e W' ⟨he, bel⟩ => ?_
  subst he
  exact ⟨_, rfl, _, _, _, [], _, [], hW', trodAll_mk1 (shut_bool Try.underlying4 _), (trodAll_cons_mk (Below.trod laidOut (by kernel_rfl) (of_decide_eq_true (by kernel_rfl)) k0 bel lt0) (trodAll_cons_mk (Below.trod laidOut (by kernel_rfl) (of_decide_eq_true (by kernel_rfl)) k1 bel lt1) (trodAll_cons_mk (Below.trod laidOut (by kernel_rfl) (of_decide_eq_true (by kernel_rfl)) k2 bel lt2) trodAll_mk0))), rfl, bel.frame _, fun h => by cases h⟩

theorem over : Rows.ivlSetsRow.holds Try.pinned (OpenSpec.ofChange Rows.ivlSetsSpec) :=
  OpenClaim.holds_of_wide 4 Try.f4 rfl rfl rfl rfl rfl rfl rfl ⟨rfl, rfl, rfl, rfl, rfl⟩ rfl rfl rfl rfl rfl (by kernel_rfl) Try.func4 (by kernel_rfl)
    (of_decide_eq_true (by kernel_rfl)) (by unfold Func.isWrapper; first | (rw [if_pos (by decide +kernel)]; kernel_rfl) | (rw [if_neg (by decide +kernel)]; exact ⟨rfl, rfl⟩))
    (fun os started H enc _ => lifted os started H enc)
end ivlSets
theorem ivl_sets_holds : Rows.IvlSetsSaid := ivlSets.over
#print axioms ivl_sets_holds
end Go.Proofs.Ytebjklhffccomaa
