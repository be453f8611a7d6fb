/- For every kind of addresses, any row of spans and any prefix: spoorlaw10.SpanMakes returns true, and changes nothing that was there. No condition. -/
import Derived.Test.YtiemlaehhmlhmaaRows
import Derived.Test.YtiemlaehhmlhmaaSpDZ
import Derived.Test.YtiemlaehhmlhmaaSpLives
import Derived.Test.YtiemlaehhmlhmaaSpOpen
import Derived.ProofKit
import Derived.OpenShut
import Derived.ShutString
import Derived.SizedLaws
set_option linter.unusedVariables false
namespace Go.Proofs.Ytiemlaehhmlhmaa
namespace spanMakes
open Go.ChangeShapes Go.WideShapes Go.ChangeAt Go.RowKit
open Go.ChangeMaps (open_string shut_string)
open Go.Proofs.Ytiemlaehhmlhmaa.Sp
open Go.Proofs.Ytiemlaehhmlhmaa.Lk (HasRow)
open Go.Proofs.Ytiemlaehhmlhmaa.Addr (Pf pfV okP lastN rightB hiN loN adV RowAt below2 below_drew below_new bset RowAt.lt RowAt.cell RowAt.frozen RowAt.below RowAt.drew RowAt.new RowAt.alloc cells2 cells4)
theorem own : ownKnob Try.prog.godebug = none := by kernel_rfl
theorem laidOut : laidOutB Try.prog = true := by kernel_rfl
set_option maxHeartbeats 16000000 in
set_option maxRecDepth 20000 in
theorem walk (six : Bool) (v : Value) (l : List Sp) (p : Pf) (w : World) (b1 : HasSps w v l) (f1 : ∀ s ∈ l, FitS s) (b2 : (-9223372036854775808 ≤ p.len ∧ p.len ≤ 9223372036854775807) ∧ p.n < 2 ^ 128) :
    Calls Try.prog 3 #[.bool six, v, pfV p] w fun e w' => e = .returned (.bool true) ∧ Below w.heap.size w w' := by
  have c0 := fun (W : World) => lives_any W
  have cm := fun (W : World) (h : HasSps W v l) => make_p six l v W h f1
  have cr := fun (W : World) (h : HasSps W v l) => rmake_p six l v W h f1
  have ck1 := fun (W : World) (h : HasSps W v l) => check_any six l v W h f1
  have ck2 := fun (W : World) (h : HasSps W v l) => rchk_any six l v W h f1
  have co1 := fun (W : World) => of_any p W b2.1 b2.2
  have co2 := fun (W : World) => rof10_any p W b2.1 b2.2
  obtain ⟨o, c, rfl, _, _⟩ := HasRow.slice b1
  have cf := fun (b : Nat) (W : World) (h : W.cell? ⟨b, 0, none⟩ = some (.slice o l.length c)) => few1_any l.length b c o W h
  have hB : Below w.heap.size w w := Below.refl _ _
  generalize (if okP p = true then (p.n, lastN p) else (0, 0)) = s at *
  generalize chk (okP p) = z at *
  generalize chk (okB six l) = y at *
  clear b2 f1
  obtain ⟨ps, pn, pl⟩ := p
  unfold pfV spV at *
  simp only at co1 co2 ⊢
  generalize l.length = n at *
  have heq := fun W => sp_eqlT s W
  have hgd := same_any_guard
  generalize fewB n = F at *
  obtain ⟨X0, hX0⟩ : ∃ X, X = w.alloc (.cells #[.bool ps, .int .u64 (hiN pn : Int), .int .u64 (loN pn : Int), .int .i64 pl] 27) := ⟨_, rfl⟩
  have hb : Below w.heap.size w X0 := by rw [hX0]; exact below_new (Below.refl _ _) _
  have rp : RowAt X0 w.heap.size [.bool ps, .int .u64 (hiN pn : Int), .int .u64 (loN pn : Int), .int .i64 pl] 27 := by rw [hX0]; exact RowAt.new _ _ _
  obtain ⟨X1, hX1⟩ : ∃ X, X = X0.alloc (.cells #[.slice o n c] 22) := ⟨_, rfl⟩
  have hb2 : Below X0.heap.size X0 X1 := by rw [hX1]; exact below_new (Below.refl _ _) _
  have rf : RowAt X1 X0.heap.size [.slice o n c] 22 := by rw [hX1]; exact RowAt.new _ _ _
  replace rp := rp.below hb2
  replace b1 := (b1.keep hb).keep hb2
  replace hB := below2 (below2 hB hb) hb2
  have cf0 := cf X0.heap.size X1 (rf.cell 0)
  go_enter Try.func3, Try.ntmps3
  go_upto_region 1 with fail
  rw [← hX0]
  generalize hgp : w.heap.size = gp at rp ⊢
  clear hX0 hgp hb
  go_wp2_with fail
  rw [← hX1]
  clear hX1 hb2 cf rf
  go_at_call 9; refine cf0.mono ?_; rintro e w1 ⟨rfl, hb⟩
  replace hB := below2 hB hb
  replace b1 := b1.keep hb
  replace rp := rp.below hb
  clear hb cf0
  cases F
  · clear cm cr ck1 ck2 co1 co2 heq hgd
    go_wp2_with fail
    go_at_call 10; refine (c0 _).mono ?_; rintro e w2 ⟨rfl, hb⟩
    replace hB := below2 hB hb
    go_wp2_with fail
    go_ret
    exact ⟨rfl, hB⟩
  · go_wp2_with fail
    go_at_call 11; refine (cm _ b1).mono ?_; rintro e w2 ⟨u1, R1, y1, rfl, hr1, hb, hm1⟩
    replace hB := below2 hB hb
    replace b1 := b1.keep hb
    replace rp := rp.below hb
    clear hb cm
    go_wp2_with fail
    go_at_call 12; refine (cr _ b1).mono ?_; rintro e w3 ⟨u2, R2, y2, rfl, hr2, hb, hm2⟩
    replace hB := below2 hB hb
    replace b1 := b1.keep hb
    replace rp := rp.below hb
    replace hr1 := hr1.keep hb
    clear hb cr
    obtain ⟨eR, eY⟩ := mkR_same hm1 hm2
    subst eR eY
    clear hm1 hm2
    have cs := fun (W : World) (h1 : HasSps W u1 R1) (h2 : HasSps W u2 R1) => same_any R1 u1 u2 W h1 h2
    obtain ⟨o1, k1, rfl, _, _⟩ := HasRow.slice hr1
    obtain ⟨o2, k2, rfl, _, _⟩ := HasRow.slice hr2
    generalize R1.length = n1 at *
    obtain ⟨q0, q1, q2, q3, qf⟩ := cells4 rp
    go_wp2_with fail
    go_at_call 13; refine (co1 _).mono ?_; rintro e w4 ⟨rfl, hb⟩
    clear q0 q1 q2 q3 qf
    replace hB := below2 hB hb
    replace b1 := b1.keep hb
    replace rp := rp.below hb
    replace hr1 := hr1.keep hb
    replace hr2 := hr2.keep hb
    clear hb co1
    obtain ⟨X2, hX2⟩ : ∃ X, X = w4.alloc (.cells #[.int .u64 (hiN s.1 : Int), .int .u64 (loN s.1 : Int), .int .u64 (hiN s.2 : Int), .int .u64 (loN s.2 : Int)] 34) := ⟨_, rfl⟩
    have hb : Below w4.heap.size w4 X2 := by rw [hX2]; exact below_new (Below.refl _ _) _
    have rs : RowAt X2 w4.heap.size [.int .u64 (hiN s.1 : Int), .int .u64 (loN s.1 : Int), .int .u64 (hiN s.2 : Int), .int .u64 (loN s.2 : Int)] 34 := by rw [hX2]; exact RowAt.new _ _ _
    go_upto_region 6 with fail
    rw [← hX2]
    generalize hgs : w4.heap.size = gs at rs ⊢
    replace hB := below2 hB hb
    replace b1 := b1.keep hb
    replace rp := rp.below hb
    replace hr1 := hr1.keep hb
    replace hr2 := hr2.keep hb
    clear hX2 hgs hb
    obtain ⟨q0, q1, q2, q3, qf⟩ := cells4 rp
    go_wp2_with fail
    go_at_call 14; refine (co2 _).mono ?_; rintro e w5 ⟨rfl, hb⟩
    clear q0 q1 q2 q3 qf rp
    replace hB := below2 hB hb
    replace b1 := b1.keep hb
    replace rs := rs.below hb
    replace hr1 := hr1.keep hb
    replace hr2 := hr2.keep hb
    clear hb co2
    obtain ⟨X3, hX3⟩ : ∃ X, X = w5.alloc (.cells #[.int .u64 (hiN s.1 : Int), .int .u64 (loN s.1 : Int), .int .u64 (hiN s.2 : Int), .int .u64 (loN s.2 : Int)] 34) := ⟨_, rfl⟩
    have hb : Below w5.heap.size w5 X3 := by rw [hX3]; exact below_new (Below.refl _ _) _
    have rt : RowAt X3 w5.heap.size [.int .u64 (hiN s.1 : Int), .int .u64 (loN s.1 : Int), .int .u64 (hiN s.2 : Int), .int .u64 (loN s.2 : Int)] 34 := by rw [hX3]; exact RowAt.new _ _ _
    go_upto_region 7 with fail
    rw [← hX3]
    generalize hgt : w5.heap.size = gt at rt ⊢
    replace hB := below2 hB hb
    replace b1 := b1.keep hb
    replace rs := rs.below hb
    replace hr1 := hr1.keep hb
    replace hr2 := hr2.keep hb
    clear hX3 hgt hb
    go_wp2_with fail
    go_at_call 10; refine (c0 _).mono ?_; rintro e w6 ⟨rfl, hb⟩
    replace hB := below2 hB hb
    replace b1 := b1.keep hb
    replace rs := rs.below hb
    replace rt := rt.below hb
    replace hr1 := hr1.keep hb
    replace hr2 := hr2.keep hb
    clear hb c0
    go_wp2_with fail
    go_at_call 15; refine (cs _ hr1 hr2).mono ?_; rintro e w7 ⟨rfl, hb⟩
    replace hB := below2 hB hb
    replace b1 := b1.keep hb
    replace rs := rs.below hb
    replace rt := rt.below hb
    clear hb cs hr1 hr2
    go_wp2_with fail
    go_at_call 16; refine (ck1 _ b1).mono ?_; rintro e w8 ⟨rfl, hb⟩
    replace hB := below2 hB hb
    replace b1 := b1.keep hb
    replace rs := rs.below hb
    replace rt := rt.below hb
    clear hb ck1
    go_wp2_with fail
    go_at_call 17; refine (ck2 _ b1).mono ?_; rintro e w9 ⟨rfl, hb⟩
    replace hB := below2 hB hb
    replace rs := rs.below hb
    replace rt := rt.below hb
    clear hb ck2 b1
    obtain ⟨q0, q1, q2, q3, qf⟩ := cells4 rs
    obtain ⟨r0, r1, r2, r3, rff⟩ := cells4 rt
    go_wp2_with fail
    go_ret
    exact ⟨rfl, hB⟩
set_option maxRecDepth 100000 in
theorem lifted (os : Os) (started : os.Started) (H : Type) (enc : TypeId × Value → H) :
    ReturnsInHanded {} Try.checked os 3 .any (Rows.spanMakesSpec.pre6 enc Try.prog Try.f3 Rows.spanMakesRow.domain false) (Rows.spanMakesSpec.post enc Try.prog Try.f3 false true false false) := by
  refine returnsInHanded_of_change_sized (C := Try.checked) own started (by kernel_rfl) Try.func3
    (ChangeSpec.witness6 (enc := enc) (C := Try.checked) false ⟨#[], #[.bool false, .slice none 0 0, .agg #[.bool false, .int .u64 0, .int .u64 0, .int .i64 0]], []⟩ 8 (by kernel_rfl) (by kernel_rfl) (by kernel_rfl) (by kernel_rfl)) ?_
  intro W base args ds gs before hval0 hW _ hsz0 _
  have hsz : (DataW.weightsEach Try.prog (Try.f3.params.toList ++ Rows.spanMakesSpec.plain.varTypes Try.prog) (ds ++ gs)).all (· ≤ reachBytes) = true := hsz0
  clear hsz0
  have hval : ∀ (j : Nat) t v, Try.f3.params[j]? = some t → args[j]? = some v → Value.okWide Try.prog W .any base t v := hval0
  have hW' := hW
  obtain ⟨p, q, hA0, hV, rfl, hfz, hnd⟩ := hW
  have hA : DataW.TrodAll enc Try.prog W 0 (fun _ => true) true Try.f3.params.toList args.toList ds p := hA0
  rw [Try.params3] at hA hval hsz
  obtain ⟨v0, vs0, d0, ds0, p0, q0, hargs, rfl, rfl, h0, r0⟩ := trodAll_cons hA
  obtain ⟨v1, vs1, d1, ds1, p1, q1, rfl, rfl, rfl, h1, r1⟩ := trodAll_cons r0
  obtain ⟨v2, vs2, d2, ds2, p2, q2, rfl, rfl, rfl, h2, r2⟩ := trodAll_cons r1
  obtain ⟨rfl, rfl, rfl⟩ := trodAll_nil r2
  obtain rfl : args = #[v0, v1, v2] := by cases args; simp_all
  obtain ⟨rfl, rfl⟩ := trodVars_none hV
  obtain ⟨a0, rfl, rfl, rfl⟩ := open_bool Try.underlying4 (hval 0 4 v0 rfl rfl) h0
  obtain ⟨a1, len1, cap1, rfl⟩ := okWide_slice Try.underlying22 (hval 1 22 v1 rfl rfl)
  have k1 := h1
  have lt1 : ∀ x ∈ p1, x.block < W.heap.size := by obtain ⟨m, hm⟩ := k1; exact DataW.trod_lt m _ _ _ hm
  obtain ⟨fuel1, hf1⟩ := h1
  obtain ⟨z1, b1, f1⟩ := Sp.open_spans hf1
  have k2 := h2
  have lt2 : ∀ x ∈ p2, x.block < W.heap.size := by obtain ⟨m, hm⟩ := k2; exact DataW.trod_lt m _ _ _ hm
  obtain ⟨n2, rfl, b2⟩ := Addr.open_prefix (hval 2 27 v2 rfl rfl) h2
  clear hA0 hval0
  refine (walk a0 (.slice a1 len1 cap1) z1 n2 W b1 f1 b2).mono fun e W' ⟨he, bel⟩ => ?_
  subst he
  exact ⟨_, rfl, _, _, _, [], _, [], hW', trodAll_mk1 (shut_bool Try.underlying4 _), (trodAll_cons_mk (shut_bool Try.underlying4 a0) (trodAll_cons_mk (Below.trod laidOut (by kernel_rfl) (of_decide_eq_true (by kernel_rfl)) k1 bel lt1) (trodAll_cons_mk (Below.trod laidOut (by kernel_rfl) (of_decide_eq_true (by kernel_rfl)) k2 bel lt2) trodAll_mk0))), rfl, bel.frame _, fun h => by cases h⟩

theorem over : Rows.spanMakesRow.holds Try.pinned (OpenSpec.ofChange Rows.spanMakesSpec) :=
  OpenClaim.holds_of_wide 3 Try.f3 rfl rfl rfl rfl rfl rfl rfl ⟨rfl, rfl, rfl, rfl, rfl⟩ rfl rfl rfl rfl rfl (by kernel_rfl) Try.func3 (by kernel_rfl)
    (of_decide_eq_true (by kernel_rfl)) (by unfold Func.isWrapper; first | (rw [if_pos (by decide +kernel)]; kernel_rfl) | (rw [if_neg (by decide +kernel)]; exact ⟨rfl, rfl⟩))
    (fun os started H enc _ => lifted os started H enc)
end spanMakes
theorem span_makes_holds : Rows.SpanMakesSaid := spanMakes.over
#print axioms span_makes_holds
end Go.Proofs.Ytiemlaehhmlhmaa
