/- For every kind of addresses, any two rows of spans and any address: spoorlaw10.SpanSets returns true, and changes nothing that was there. No condition. -/
import Derived.Test.YtiemlaehhmlhmaaSpDZ
import Derived.Test.YtiemlaehhmlhmaaRows
import Derived.Test.YtiemlaehhmlhmaaSpHas
import Derived.Test.YtiemlaehhmlhmaaSpLives
import Derived.Test.YtiemlaehhmlhmaaSpOpen
import Derived.ProofKit
import Derived.OpenShut
import Derived.ShutString
import Derived.SizedLaws
set_option linter.unusedVariables false
namespace Go.Proofs.Ytiemlaehhmlhmaa.Sp
open Go.RowKit Go.Shelf
set_option maxHeartbeats 4000000 in
set_option maxRecDepth 20000 in
theorem few2_any (n m b c1 c2 : Nat) (o1 o2 : Option Addr) (w : World) (h0 : w.cell? ⟨b, 0, none⟩ = some (.slice o1 n c1)) (h1 : w.cell? ⟨b, 1, none⟩ = some (.slice o2 m c2)) :
    Calls Try.prog 9 #[.slice (some ⟨b, 0, none⟩) 2 2] w fun e w' => e = .returned (.bool (fewB n && fewB m)) ∧ Below w.heap.size w w' := by
  rcases few_cases n with ⟨n1, n2⟩ | ⟨n1, n1b, n2⟩ | ⟨n1, n2⟩ <;> rw [n2] <;> clear n2
  · have hqn1 : decide ((60 : Int) < (n : Int)) = false := decide_eq_false (by omega)
    have hqn2 : decide (60 < n) = false := decide_eq_false (by omega)
    rw [Bool.true_and]
    rcases few_cases m with ⟨m1, m2⟩ | ⟨m1, m1b, m2⟩ | ⟨m1, m2⟩ <;> rw [m2] <;> clear m2
    · have hqm1 : decide ((60 : Int) < (m : Int)) = false := decide_eq_false (by omega)
      have hqm2 : decide (60 < m) = false := decide_eq_false (by omega)
      go_enter Try.func9, Try.ntmps9
      go_wp2_with fail
      refine wp_loop_rounds 3 ?_
      rw [rounds_succ]
      go_wp2_with fail
      rw [rounds_succ]
      go_wp2_with fail
      rw [rounds_succ]
      go_wp2_with fail
      go_ret
      exact ⟨rfl, Below.refl _ _⟩
    · have hqm1 : decide ((60 : Int) < (m : Int)) = true := decide_eq_true (by omega)
      have hqm2 : decide (60 < m) = true := decide_eq_true (by omega)
      have hqm3 : decide ((m : Int) ≤ 1024) = true := decide_eq_true (by omega)
      have hqm4 : decide (m ≤ 1024) = true := decide_eq_true (by omega)
      go_enter Try.func9, Try.ntmps9
      go_wp2_with fail
      refine wp_loop_rounds 3 ?_
      rw [rounds_succ]
      go_wp2_with fail
      rw [rounds_succ]
      go_wp2_with fail
      go_ret
      exact ⟨rfl, Below.refl _ _⟩
    · have hqm1 : decide ((60 : Int) < (m : Int)) = true := decide_eq_true (by omega)
      have hqm2 : decide (60 < m) = true := decide_eq_true (by omega)
      have hqm3 : decide ((m : Int) ≤ 1024) = false := decide_eq_false (by omega)
      have hqm4 : decide (m ≤ 1024) = false := decide_eq_false (by omega)
      go_enter Try.func9, Try.ntmps9
      go_wp2_with fail
      refine wp_loop_rounds 3 ?_
      rw [rounds_succ]
      go_wp2_with fail
      rw [rounds_succ]
      go_wp2_with fail
      rw [rounds_succ]
      go_wp2_with fail
      go_ret
      exact ⟨rfl, Below.refl _ _⟩
  · have hqn1 : decide ((60 : Int) < (n : Int)) = true := decide_eq_true (by omega)
    have hqn2 : decide (60 < n) = true := decide_eq_true (by omega)
    have hqn3 : decide ((n : Int) ≤ 1024) = true := decide_eq_true (by omega)
    have hqn4 : decide (n ≤ 1024) = true := decide_eq_true (by omega)
    rw [Bool.false_and]
    go_enter Try.func9, Try.ntmps9
    go_wp2_with fail
    refine wp_loop_rounds 3 ?_
    rw [rounds_succ]
    go_wp2_with fail
    go_ret
    exact ⟨rfl, Below.refl _ _⟩
  · have hqn1 : decide ((60 : Int) < (n : Int)) = true := decide_eq_true (by omega)
    have hqn2 : decide (60 < n) = true := decide_eq_true (by omega)
    have hqn3 : decide ((n : Int) ≤ 1024) = false := decide_eq_false (by omega)
    have hqn4 : decide (n ≤ 1024) = false := decide_eq_false (by omega)
    rw [Bool.true_and]
    rcases few_cases m with ⟨m1, m2⟩ | ⟨m1, m1b, m2⟩ | ⟨m1, m2⟩ <;> rw [m2] <;> clear m2
    · have hqm1 : decide ((60 : Int) < (m : Int)) = false := decide_eq_false (by omega)
      have hqm2 : decide (60 < m) = false := decide_eq_false (by omega)
      go_enter Try.func9, Try.ntmps9
      go_wp2_with fail
      refine wp_loop_rounds 3 ?_
      rw [rounds_succ]
      go_wp2_with fail
      rw [rounds_succ]
      go_wp2_with fail
      rw [rounds_succ]
      go_wp2_with fail
      go_ret
      exact ⟨rfl, Below.refl _ _⟩
    · have hqm1 : decide ((60 : Int) < (m : Int)) = true := decide_eq_true (by omega)
      have hqm2 : decide (60 < m) = true := decide_eq_true (by omega)
      have hqm3 : decide ((m : Int) ≤ 1024) = true := decide_eq_true (by omega)
      have hqm4 : decide (m ≤ 1024) = true := decide_eq_true (by omega)
      go_enter Try.func9, Try.ntmps9
      go_wp2_with fail
      refine wp_loop_rounds 3 ?_
      rw [rounds_succ]
      go_wp2_with fail
      rw [rounds_succ]
      go_wp2_with fail
      go_ret
      exact ⟨rfl, Below.refl _ _⟩
    · have hqm1 : decide ((60 : Int) < (m : Int)) = true := decide_eq_true (by omega)
      have hqm2 : decide (60 < m) = true := decide_eq_true (by omega)
      have hqm3 : decide ((m : Int) ≤ 1024) = false := decide_eq_false (by omega)
      have hqm4 : decide (m ≤ 1024) = false := decide_eq_false (by omega)
      go_enter Try.func9, Try.ntmps9
      go_wp2_with fail
      refine wp_loop_rounds 3 ?_
      rw [rounds_succ]
      go_wp2_with fail
      rw [rounds_succ]
      go_wp2_with fail
      rw [rounds_succ]
      go_wp2_with fail
      go_ret
      exact ⟨rfl, Below.refl _ _⟩
end Go.Proofs.Ytiemlaehhmlhmaa.Sp
namespace Go.Proofs.Ytiemlaehhmlhmaa
namespace spanSets
open Go.ChangeShapes Go.WideShapes Go.ChangeAt Go.RowKit
open Go.ChangeMaps (open_string shut_string)
open Go.Proofs.Ytiemlaehhmlhmaa.Sp
open Go.Proofs.Ytiemlaehhmlhmaa.Lk (HasRow)
open Go.Proofs.Ytiemlaehhmlhmaa.Addr (Pf pfV okP lastN rightB hiN loN adV RowAt below2 below_drew below_new bset RowAt.lt RowAt.cell RowAt.frozen RowAt.below RowAt.drew RowAt.new RowAt.alloc cells2 cells4)
theorem own : ownKnob Try.prog.godebug = none := by kernel_rfl
theorem laidOut : laidOutB Try.prog = true := by kernel_rfl
set_option maxHeartbeats 16000000 in
set_option maxRecDepth 20000 in
theorem walk (six : Bool) (v : Value) (l : List Sp) (u : Value) (m : List Sp) (x : Nat) (w : World) (b1 : HasSps w v l) (f1 : ∀ s ∈ l, FitS s) (b2 : HasSps w u m) (f2 : ∀ s ∈ m, FitS s) (b3 : x < 2 ^ 128) :
    Calls Try.prog 4 #[.bool six, v, u, adV x] w fun e w' => e = .returned (.bool true) ∧ Below w.heap.size w w' := by
  have c0 := fun (W : World) => lives_any W
  have co := fun (W : World) (h : HasSps W v l) (g : HasSps W u m) => or_p six l m v u W h g f1 f2
  have ro := fun (W : World) (h : HasSps W v l) (g : HasSps W u m) => ror_p six l m v u W h g f1 f2
  have ca := fun (W : World) (h : HasSps W v l) (g : HasSps W u m) => and_p six l m v u W h g f1 f2
  have ra := fun (W : World) (h : HasSps W v l) (g : HasSps W u m) => rand_p six l m v u W h g f1 f2
  have cn := fun (W : World) (h : HasSps W v l) => not_p six l v W h f1
  have rn := fun (W : World) (h : HasSps W v l) => rnot_p six l v W h f1
  have ch := fun (W : World) (h : HasSps W v l) => has_any six l v x W h f1 b3
  have rh := fun (W : World) (h : HasSps W v l) => rhas10_any six l x v W h f1 b3
  obtain ⟨o1, c1, rfl, _, _⟩ := HasRow.slice b1
  obtain ⟨o2, c2, rfl, _, _⟩ := HasRow.slice b2
  have cf := fun (b : Nat) (W : World) (h : W.cell? ⟨b, 0, none⟩ = some (.slice o1 l.length c1)) (g : W.cell? ⟨b, 1, none⟩ = some (.slice o2 m.length c2)) => few2_any l.length m.length b c1 c2 o1 o2 W h g
  have hB : Below w.heap.size w w := Below.refl _ _
  generalize (hasE six l x).1 = hb1 at ch rh
  generalize (hasE six l x).2 = hw1 at ch rh
  clear f1 f2 b3
  unfold adV at *
  generalize l.length = n at *
  generalize m.length = n2 at *
  generalize hiN x = hx at *
  generalize loN x = lx at *
  generalize (fewB n && fewB n2) = F at *
  obtain ⟨X0, hX0⟩ : ∃ X, X = w.alloc (.cells #[.int .u64 (hx : Int), .int .u64 (lx : Int)] 25) := ⟨_, rfl⟩
  have hb : Below w.heap.size w X0 := by rw [hX0]; exact below_new (Below.refl _ _) _
  have rp : RowAt X0 w.heap.size [.int .u64 (hx : Int), .int .u64 (lx : Int)] 25 := by rw [hX0]; exact RowAt.new _ _ _
  obtain ⟨X1, hX1⟩ : ∃ X, X = X0.alloc (.cells #[.slice o1 n c1, .slice o2 n2 c2] 22) := ⟨_, rfl⟩
  have hb2 : Below X0.heap.size X0 X1 := by rw [hX1]; exact below_new (Below.refl _ _) _
  have rf : RowAt X1 X0.heap.size [.slice o1 n c1, .slice o2 n2 c2] 22 := by rw [hX1]; exact RowAt.new _ _ _
  replace rp := rp.below hb2
  replace b1 := (b1.keep hb).keep hb2
  replace b2 := (b2.keep hb).keep hb2
  replace hB := below2 (below2 hB hb) hb2
  have cf0 := cf X0.heap.size X1 (rf.cell 0) (rf.cell 1)
  go_enter Try.func4, Try.ntmps4
  go_upto_region 1 with fail
  rw [← hX0]
  generalize hgp : w.heap.size = gp at rp ⊢
  clear hX0 hgp hb
  go_wp2_with fail
  rw [← hX1]
  clear hX1 hb2 cf rf
  go_at_call 9; refine cf0.mono ?_; rintro e w1 ⟨rfl, hb⟩
  replace hB := below2 hB hb
  replace b1 := b1.keep hb
  replace b2 := b2.keep hb
  replace rp := rp.below hb
  clear hb cf0
  cases F
  · clear co ro ca ra cn rn ch rh
    go_wp2_with fail
    go_at_call 10; refine (c0 _).mono ?_; rintro e w2 ⟨rfl, hb⟩
    replace hB := below2 hB hb
    go_wp2_with fail
    go_ret
    exact ⟨rfl, hB⟩
  · go_wp2_with fail
    go_at_call 18; refine (co _ b1 b2).mono ?_; rintro e w2 ⟨u1, R1, y1, rfl, hr1, hb, hm1⟩
    replace hB := below2 hB hb
    replace b1 := b1.keep hb
    replace b2 := b2.keep hb
    replace rp := rp.below hb
    clear hb co
    obtain ⟨p1, k1, rfl, _, _⟩ := HasRow.slice hr1
    go_wp2_with fail
    go_at_call 19; refine (ro _ b1 b2).mono ?_; rintro e w3 ⟨v1, S1, z1, rfl, hs1, hb, hn1⟩
    replace hB := below2 hB hb
    replace b1 := b1.keep hb
    replace b2 := b2.keep hb
    replace rp := rp.below hb
    replace hr1 := hr1.keep hb
    clear hb ro
    obtain ⟨eR, eY⟩ := setR_same hm1 hn1
    subst eR eY
    clear hm1 hn1
    obtain ⟨q1, j1, rfl, _, _⟩ := HasRow.slice hs1
    have cs1 := fun (W : World) (h1 : HasSps W (.slice p1 R1.length k1) R1) (h2 : HasSps W (.slice q1 R1.length j1) R1) => same_any R1 _ _ W h1 h2
    generalize R1.length = m1 at *
    go_wp2_with fail
    go_at_call 20; refine (ca _ b1 b2).mono ?_; rintro e w4 ⟨u2, R2, y2, rfl, hr2, hb, hm2⟩
    replace hB := below2 hB hb
    replace b1 := b1.keep hb
    replace b2 := b2.keep hb
    replace rp := rp.below hb
    replace hr1 := hr1.keep hb
    replace hs1 := hs1.keep hb
    clear hb ca
    obtain ⟨p2, k2, rfl, _, _⟩ := HasRow.slice hr2
    go_wp2_with fail
    go_at_call 21; refine (ra _ b1 b2).mono ?_; rintro e w5 ⟨v2, S2, z2, rfl, hs2, hb, hn2⟩
    replace hB := below2 hB hb
    replace b1 := b1.keep hb
    replace b2 := b2.keep hb
    replace rp := rp.below hb
    replace hr1 := hr1.keep hb
    replace hs1 := hs1.keep hb
    replace hr2 := hr2.keep hb
    clear hb ra
    obtain ⟨eR, eY⟩ := setR_same hm2 hn2
    subst eR eY
    clear hm2 hn2
    obtain ⟨q2, j2, rfl, _, _⟩ := HasRow.slice hs2
    have cs2 := fun (W : World) (h1 : HasSps W (.slice p2 R2.length k2) R2) (h2 : HasSps W (.slice q2 R2.length j2) R2) => same_any R2 _ _ W h1 h2
    generalize R2.length = m2 at *
    go_wp2_with fail
    go_at_call 22; refine (cn _ b1).mono ?_; rintro e w6 ⟨u3, R3, y3, rfl, hr3, hb, hm3⟩
    replace hB := below2 hB hb
    replace b1 := b1.keep hb
    replace rp := rp.below hb
    replace hr1 := hr1.keep hb
    replace hs1 := hs1.keep hb
    replace hr2 := hr2.keep hb
    replace hs2 := hs2.keep hb
    clear hb cn
    obtain ⟨p3, k3, rfl, _, _⟩ := HasRow.slice hr3
    go_wp2_with fail
    go_at_call 23; refine (rn _ b1).mono ?_; rintro e w7 ⟨v3, S3, z3, rfl, hs3, hb, hn3⟩
    replace hB := below2 hB hb
    replace b1 := b1.keep hb
    replace rp := rp.below hb
    replace hr1 := hr1.keep hb
    replace hs1 := hs1.keep hb
    replace hr2 := hr2.keep hb
    replace hs2 := hs2.keep hb
    replace hr3 := hr3.keep hb
    clear hb rn
    obtain ⟨eR, eY⟩ := setR_same hm3 hn3
    subst eR eY
    clear hm3 hn3
    obtain ⟨q3, j3, rfl, _, _⟩ := HasRow.slice hs3
    have cs3 := fun (W : World) (h1 : HasSps W (.slice p3 R3.length k3) R3) (h2 : HasSps W (.slice q3 R3.length j3) R3) => same_any R3 _ _ W h1 h2
    generalize R3.length = m3 at *
    obtain ⟨x0, x1, xf⟩ := cells2 rp
    go_wp2_with fail
    go_at_call 24; refine (ch _ b1).mono ?_; rintro e w8 ⟨rfl, hb⟩
    replace hB := below2 hB hb
    replace b1 := b1.keep hb
    replace rp := rp.below hb
    replace hr1 := hr1.keep hb
    replace hs1 := hs1.keep hb
    replace hr2 := hr2.keep hb
    replace hs2 := hs2.keep hb
    replace hr3 := hr3.keep hb
    replace hs3 := hs3.keep hb
    clear hb ch x0 x1 xf
    obtain ⟨x0, x1, xf⟩ := cells2 rp
    go_wp2_with fail
    go_at_call 25; refine (rh _ b1).mono ?_; rintro e w9 ⟨rfl, hb⟩
    replace hB := below2 hB hb
    replace hr1 := hr1.keep hb
    replace hs1 := hs1.keep hb
    replace hr2 := hr2.keep hb
    replace hs2 := hs2.keep hb
    replace hr3 := hr3.keep hb
    replace hs3 := hs3.keep hb
    clear hb rh x0 x1 xf b1 rp
    go_wp2_with fail
    go_at_call 10; refine (c0 _).mono ?_; rintro e w10 ⟨rfl, hb⟩
    replace hB := below2 hB hb
    replace hr1 := hr1.keep hb
    replace hs1 := hs1.keep hb
    replace hr2 := hr2.keep hb
    replace hs2 := hs2.keep hb
    replace hr3 := hr3.keep hb
    replace hs3 := hs3.keep hb
    clear hb c0
    go_wp2_with fail
    go_at_call 15; refine (cs1 _ hr1 hs1).mono ?_; rintro e w11 ⟨rfl, hb⟩
    replace hB := below2 hB hb
    replace hr2 := hr2.keep hb
    replace hs2 := hs2.keep hb
    replace hr3 := hr3.keep hb
    replace hs3 := hs3.keep hb
    clear hb cs1 hr1 hs1
    go_wp2_with fail
    go_at_call 15; refine (cs2 _ hr2 hs2).mono ?_; rintro e w12 ⟨rfl, hb⟩
    replace hB := below2 hB hb
    replace hr3 := hr3.keep hb
    replace hs3 := hs3.keep hb
    clear hb cs2 hr2 hs2
    go_wp2_with fail
    go_at_call 15; refine (cs3 _ hr3 hs3).mono ?_; rintro e w13 ⟨rfl, hb⟩
    replace hB := below2 hB hb
    clear hb cs3 hr3 hs3
    go_wp2_with fail
    go_ret
    exact ⟨rfl, hB⟩
set_option maxRecDepth 100000 in
theorem lifted (os : Os) (started : os.Started) (H : Type) (enc : TypeId × Value → H) :
    ReturnsInHanded {} Try.checked os 4 .any (Rows.spanSetsSpec.pre6 enc Try.prog Try.f4 Rows.spanSetsRow.domain false) (Rows.spanSetsSpec.post enc Try.prog Try.f4 false true false false) := by
  refine returnsInHanded_of_change_sized (C := Try.checked) own started (by kernel_rfl) Try.func4
    (ChangeSpec.witness6 (enc := enc) (C := Try.checked) false ⟨#[], #[.bool false, .slice none 0 0, .slice none 0 0, .agg #[.int .u64 0, .int .u64 0]], []⟩ 8 (by kernel_rfl) (by kernel_rfl) (by kernel_rfl) (by kernel_rfl)) ?_
  intro W base args ds gs before hval0 hW _ hsz0 _
  have hsz : (DataW.weightsEach Try.prog (Try.f4.params.toList ++ Rows.spanSetsSpec.plain.varTypes Try.prog) (ds ++ gs)).all (· ≤ reachBytes) = true := hsz0
  clear hsz0
  have hval : ∀ (j : Nat) t v, Try.f4.params[j]? = some t → args[j]? = some v → Value.okWide Try.prog W .any base t v := hval0
  have hW' := hW
  obtain ⟨p, q, hA0, hV, rfl, hfz, hnd⟩ := hW
  have hA : DataW.TrodAll enc Try.prog W 0 (fun _ => true) true Try.f4.params.toList args.toList ds p := hA0
  rw [Try.params4] at hA hval hsz
  obtain ⟨v0, vs0, d0, ds0, p0, q0, hargs, rfl, rfl, h0, r0⟩ := trodAll_cons hA
  obtain ⟨v1, vs1, d1, ds1, p1, q1, rfl, rfl, rfl, h1, r1⟩ := trodAll_cons r0
  obtain ⟨v2, vs2, d2, ds2, p2, q2, rfl, rfl, rfl, h2, r2⟩ := trodAll_cons r1
  obtain ⟨v3, vs3, d3, ds3, p3, q3, rfl, rfl, rfl, h3, r3⟩ := trodAll_cons r2
  obtain ⟨rfl, rfl, rfl⟩ := trodAll_nil r3
  obtain rfl : args = #[v0, v1, v2, v3] := by cases args; simp_all
  obtain ⟨rfl, rfl⟩ := trodVars_none hV
  obtain ⟨a0, rfl, rfl, rfl⟩ := open_bool Try.underlying4 (hval 0 4 v0 rfl rfl) h0
  obtain ⟨a1, len1, cap1, rfl⟩ := okWide_slice Try.underlying22 (hval 1 22 v1 rfl rfl)
  have k1 := h1
  have lt1 : ∀ x ∈ p1, x.block < W.heap.size := by obtain ⟨m, hm⟩ := k1; exact DataW.trod_lt m _ _ _ hm
  obtain ⟨fuel1, hf1⟩ := h1
  obtain ⟨z1, b1, f1⟩ := Sp.open_spans hf1
  obtain ⟨a2, len2, cap2, rfl⟩ := okWide_slice Try.underlying22 (hval 2 22 v2 rfl rfl)
  have k2 := h2
  have lt2 : ∀ x ∈ p2, x.block < W.heap.size := by obtain ⟨m, hm⟩ := k2; exact DataW.trod_lt m _ _ _ hm
  obtain ⟨fuel2, hf2⟩ := h2
  obtain ⟨z2, b2, f2⟩ := Sp.open_spans hf2
  have k3 := h3
  have lt3 : ∀ x ∈ p3, x.block < W.heap.size := by obtain ⟨m, hm⟩ := k3; exact DataW.trod_lt m _ _ _ hm
  obtain ⟨n3, rfl, b3⟩ := Addr.open_addr (hval 3 25 v3 rfl rfl) h3
  clear hA0 hval0
  refine (walk a0 (.slice a1 len1 cap1) z1 (.slice a2 len2 cap2) z2 n3 W b1 f1 b2 f2 b3).mono fun e W' ⟨he, bel⟩ => ?_
  subst he
  exact ⟨_, rfl, _, _, _, [], _, [], hW', trodAll_mk1 (shut_bool Try.underlying4 _), (trodAll_cons_mk (shut_bool Try.underlying4 a0) (trodAll_cons_mk (Below.trod laidOut (by kernel_rfl) (of_decide_eq_true (by kernel_rfl)) k1 bel lt1) (trodAll_cons_mk (Below.trod laidOut (by kernel_rfl) (of_decide_eq_true (by kernel_rfl)) k2 bel lt2) (trodAll_cons_mk (Below.trod laidOut (by kernel_rfl) (of_decide_eq_true (by kernel_rfl)) k3 bel lt3) trodAll_mk0)))), rfl, bel.frame _, fun h => by cases h⟩

theorem over : Rows.spanSetsRow.holds Try.pinned (OpenSpec.ofChange Rows.spanSetsSpec) :=
  OpenClaim.holds_of_wide 4 Try.f4 rfl rfl rfl rfl rfl rfl rfl ⟨rfl, rfl, rfl, rfl, rfl⟩ rfl rfl rfl rfl rfl (by kernel_rfl) Try.func4 (by kernel_rfl)
    (of_decide_eq_true (by kernel_rfl)) (by unfold Func.isWrapper; first | (rw [if_pos (by decide +kernel)]; kernel_rfl) | (rw [if_neg (by decide +kernel)]; exact ⟨rfl, rfl⟩))
    (fun os started H enc _ => lifted os started H enc)
end spanSets
theorem span_sets_holds : Rows.SpanSetsSaid := spanSets.over
#print axioms span_sets_holds
end Go.Proofs.Ytiemlaehhmlhmaa
