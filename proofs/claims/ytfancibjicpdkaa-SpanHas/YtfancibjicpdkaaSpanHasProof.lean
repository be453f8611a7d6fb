/- For every kind of addresses, any two rows of spans, and any address: spoorlaw10.SpanHas returns true, and changes nothing that was there. No condition. -/
import Derived.Test.YtfancibjicpdkaaRows
import Derived.Test.YtfancibjicpdkaaSpLives
import Derived.Test.YtfancibjicpdkaaSpOpen
import Derived.ProofKit
import Derived.OpenShut
import Derived.ShutString
import Derived.SizedLaws
set_option linter.unusedVariables false
namespace Go.Proofs.Ytfancibjicpdkaa
namespace spanHas
open Go.ChangeShapes Go.WideShapes Go.ChangeAt Go.RowKit
open Go.ChangeMaps (open_string shut_string)
open Go.Proofs.Ytfancibjicpdkaa.Sp
open Go.Proofs.Ytfancibjicpdkaa.Lk (HasRow)
open Go.Proofs.Ytfancibjicpdkaa.Addr (rightB hiN loN adV RowAt below2 below_drew below_new bset RowAt.lt RowAt.cell RowAt.frozen RowAt.below RowAt.drew RowAt.new RowAt.alloc cells2)
theorem own : ownKnob Try.prog.godebug = none := by kernel_rfl
theorem laidOut : laidOutB Try.prog = true := by kernel_rfl
theorem cells1 {W : World} {b : Nat} {x : Value} {t : TypeId} (h : RowAt W b [x] t) : W.cell? ⟨b, 0, none⟩ = some x ∧ ∀ k, W.frozen? ⟨b, k, none⟩ = false := ⟨h.cell 0, h.frozen⟩
theorem long_any (why : Int) (o1 o2 : Option Addr) (na nb ca cb g5 g6 : Nat) (w : World) (ha : na ≤ 1024) (hb : nb ≤ 1024) (r5 : RowAt w g5 [.slice o1 na ca] 22) (r6 : RowAt w g6 [.slice o2 nb cb] 22) :
    Calls Try.prog 29 #[.int .i64 why, .pointer (some ⟨g5, 0, none⟩), .pointer (some ⟨g6, 0, none⟩)] w fun e w' => e = .returned (.bool (decide (why = 11) && decide (1024 ≤ na + nb))) ∧ w' = w := by
  obtain ⟨p5, q5⟩ := cells1 r5
  obtain ⟨p6, q6⟩ := cells1 r6
  clear r5 r6
  have hai : (na : Int) ≤ 1024 := by omega
  have hbi : (nb : Int) ≤ 1024 := by omega
  by_cases h : why = 11
  · subst h
    have hd : decide ((1024 : Int) ≤ (na : Int) + (nb : Int)) = decide (1024 ≤ na + nb) := decide_eq_decide.2 (by omega)
    generalize decide (1024 ≤ na + nb) = D at *
    go_enter Try.func29, Try.ntmps29
    go_wp2_with fail
    go_ret
    exact ⟨by rw [← hd]; simp, rfl⟩
  · have hne : (why == 11) = false := beq_eq_false_iff_ne.2 h
    have hd : decide (why = 11) = false := decide_eq_false h
    rw [hd]
    clear h hd
    go_enter Try.func29, Try.ntmps29
    go_wp2_with fail
    go_ret
    exact ⟨rfl, rfl⟩
/-- what an answered row tells of an address -/
theorem has_ans {six : Bool} {R : List Sp} {n : Nat} {m : Nat → Bool} {bound : Nat} {why : Int} (hr : rightB six n = true) (h : (why = 0 ∧ Row six R ∧ (∀ x, inB R x = m x) ∧ R.length ≤ 1024 ∧ R.length ≤ bound) ∨ (why = 11 ∧ R = [] ∧ ∃ L, Row six L ∧ (∀ x, inB L x = m x) ∧ 1024 < L.length ∧ L.length ≤ bound)) :
    (why = 0 ∧ hasE six R n = (m n, 0)) ∨ (why = 11 ∧ 1024 < bound ∧ hasE six R n = (false, 0)) := by
  rcases h with ⟨h1, h2, h3, h4, h5⟩ | ⟨h1, h2, L, h3, h4, h5, h6⟩
  · left
    refine ⟨h1, ?_⟩
    unfold hasE
    rw [okB_iff.2 ⟨h4, h2⟩, hr, h3]; rfl
  · right
    subst h2
    refine ⟨h1, by omega, ?_⟩
    unfold hasE
    rw [okB_iff.2 ⟨by simp, row_nil six⟩, hr]; rfl
set_option maxHeartbeats 16000000 in
set_option maxRecDepth 20000 in
theorem walk (six : Bool) (v : Value) (l : List Sp) (u : Value) (m : List Sp) (n : Nat) (w : World) (b1 : HasSps w v l) (f1 : ∀ s ∈ l, FitS s) (b2 : HasSps w u m) (f2 : ∀ s ∈ m, FitS s) (b3 : n < 2 ^ 128) :
    Calls Try.prog 6 #[.bool six, v, u, adV n] w fun e w' => e = .returned (.bool true) ∧ Below w.heap.size w w' := by
  have c0 := fun (W : World) => lives_any W
  have ch1 := fun (W : World) (h : HasSps W v l) => has_any six l v n W h f1 b3
  have ch2 := fun (W : World) (h : HasSps W u m) => has_any six m u n W h f2 b3
  have cor := fun (W : World) (h1 : HasSps W v l) (h2 : HasSps W u m) => or_any six l m v u W h1 h2 f1 f2
  have cand := fun (W : World) (h1 : HasSps W v l) (h2 : HasSps W u m) => and_any six l m v u W h1 h2 f1 f2
  have cnot := fun (W : World) (h1 : HasSps W v l) => not_any six l v W h1 f1
  have chR := fun (W : World) (u' : Value) (R : List Sp) (h : HasSps W u' R) (hf : ∀ s ∈ R, FitS s) => has_any six R u' n W h hf b3
  obtain ⟨o1, p1, rfl, _, _⟩ := HasRow.slice b1
  obtain ⟨o2, p2, rfl, _, _⟩ := HasRow.slice b2
  obtain ⟨n1, hn1⟩ : ∃ q, q = hiN n := ⟨_, rfl⟩
  obtain ⟨n2, hn2⟩ : ∃ q, q = loN n := ⟨_, rfl⟩
  unfold adV at *
  rw [← hn1, ← hn2] at ch1 ch2 chR ⊢
  clear hn1 hn2
  obtain ⟨X, hX⟩ : ∃ X, X = ((w.alloc (.cells #[.slice o1 l.length p1] 22)).alloc (.cells #[.slice o2 m.length p2] 22)).alloc (.cells #[.int .u64 (n1 : Int), .int .u64 (n2 : Int)] 25) := ⟨_, rfl⟩
  have hB : Below w.heap.size w X := by rw [hX]; exact below_new (below_new (below_new (Below.refl _ _) _) _) _
  have r5 : RowAt X w.heap.size [.slice o1 l.length p1] 22 := by rw [hX]; exact ((RowAt.new _ _ _).alloc _).alloc _
  have r6 : RowAt X (w.heap.size + 1) [.slice o2 m.length p2] 22 := by
    have h := (RowAt.new (w.alloc (.cells #[.slice o1 l.length p1] 22)) [.slice o2 m.length p2] 22).alloc (.cells #[.int .u64 (n1 : Int), .int .u64 (n2 : Int)] 25)
    simp only [World.size_alloc] at h
    rw [hX]; exact h
  have r7 : RowAt X (w.heap.size + 1 + 1) [.int .u64 (n1 : Int), .int .u64 (n2 : Int)] 25 := by
    have h := RowAt.new ((w.alloc (.cells #[.slice o1 l.length p1] 22)).alloc (.cells #[.slice o2 m.length p2] 22)) [.int .u64 (n1 : Int), .int .u64 (n2 : Int)] 25
    simp only [World.size_alloc] at h
    rw [hX]; exact h
  replace b1 := b1.keep hB
  replace b2 := b2.keep hB
  obtain ⟨g5, hg5⟩ : ∃ q, q = w.heap.size := ⟨_, rfl⟩
  obtain ⟨g6, hg6⟩ : ∃ q, q = w.heap.size + 1 := ⟨_, rfl⟩
  obtain ⟨g7, hg7⟩ : ∃ q, q = w.heap.size + 1 + 1 := ⟨_, rfl⟩
  rw [← hg5] at r5
  rw [← hg6] at r6
  rw [← hg7] at r7
  have HAN : Hid (∀ (R : List Sp) (mm : Nat → Bool) (bound : Nat) (why : Int), rightB six n = true → ((why = 0 ∧ Row six R ∧ (∀ x, inB R x = mm x) ∧ R.length ≤ 1024 ∧ R.length ≤ bound) ∨ (why = 11 ∧ R = [] ∧ ∃ L, Row six L ∧ (∀ x, inB L x = mm x) ∧ 1024 < L.length ∧ L.length ≤ bound)) → (why = 0 ∧ hasE six R n = (mm n, 0)) ∨ (why = 11 ∧ 1024 < bound ∧ hasE six R n = (false, 0))) := fun R mm bound why hr h => has_ans hr h
  have HRF : Hid (∀ (R : List Sp) (mm : Nat → Bool) (bound : Nat) (why : Int), ((why = 0 ∧ Row six R ∧ (∀ x, inB R x = mm x) ∧ R.length ≤ 1024 ∧ R.length ≤ bound) ∨ (why = 11 ∧ R = [] ∧ ∃ L, Row six L ∧ (∀ x, inB L x = mm x) ∧ 1024 < L.length ∧ L.length ≤ bound)) → ∀ s ∈ R, FitS s) := fun R mm bound why h s hs => by
    rcases h with ⟨_, h2, _⟩ | ⟨_, h2, _⟩
    · exact ok_fit (h2.1 s hs)
    · subst h2; cases hs
  have HTOP : Hid (rightB six n = true → decide (n ≤ topN six) = true) := fun h => decide_eq_true ((top_lt six n).1 h)
  clear b3
  go_enter Try.func6, Try.ntmps6
  go_upto_region 1 with fail
  rw [← hX, ← hg7, ← hg6, ← hg5]
  clear hX hg5 hg6 hg7
  go_wp2_with fail
  go_at_call 10; refine (c0 _).mono ?_; rintro e w1 ⟨rfl, hb⟩
  replace hB := below2 hB hb
  replace b1 := b1.keep hb
  replace b2 := b2.keep hb
  replace r5 := r5.below hb
  replace r6 := r6.below hb
  replace r7 := r7.below hb
  clear hb c0
  obtain ⟨y5, z5⟩ := cells1 r5
  obtain ⟨y6, z6⟩ := cells1 r6
  obtain ⟨y7, y8, z7⟩ := cells2 r7
  go_wp2_with fail
  clear y5 z5 y6 z6 y7 y8 z7
  go_at_call 24; refine (ch1 _ b1).mono ?_; rintro e w2 ⟨rfl, hb⟩
  replace hB := below2 hB hb
  replace b1 := b1.keep hb
  replace b2 := b2.keep hb
  replace r5 := r5.below hb
  replace r6 := r6.below hb
  replace r7 := r7.below hb
  clear hb ch1
  obtain ⟨y5, z5⟩ := cells1 r5
  obtain ⟨y6, z6⟩ := cells1 r6
  obtain ⟨y7, y8, z7⟩ := cells2 r7
  go_wp2_with fail
  clear y5 z5 y6 z6 y7 y8 z7
  go_at_call 24; refine (ch2 _ b2).mono ?_; rintro e w3 ⟨rfl, hb⟩
  replace hB := below2 hB hb
  replace b1 := b1.keep hb
  replace b2 := b2.keep hb
  replace r5 := r5.below hb
  replace r6 := r6.below hb
  replace r7 := r7.below hb
  clear hb ch2
  obtain ⟨y5, z5⟩ := cells1 r5
  obtain ⟨y6, z6⟩ := cells1 r6
  obtain ⟨y7, y8, z7⟩ := cells2 r7
  go_wp2_with fail
  clear y5 z5 y6 z6 y7 y8 z7
  go_at_call 18; refine (cor _ b1 b2).mono ?_; rintro e w4 ⟨u3, R3, y3, rfl, hO3, k31, k32⟩
  replace hB := below2 hB hO3.bl
  replace b1 := b1.keep hO3.bl
  replace b2 := b2.keep hO3.bl
  replace r5 := r5.below hO3.bl
  replace r6 := r6.below hO3.bl
  replace r7 := r7.below hO3.bl
  have h3 := hO3.has
  clear hO3 cor
  obtain ⟨y5, z5⟩ := cells1 r5
  obtain ⟨y6, z6⟩ := cells1 r6
  obtain ⟨y7, y8, z7⟩ := cells2 r7
  go_wp2_with fail
  clear y5 z5 y6 z6 y7 y8 z7
  go_at_call 20; refine (cand _ b1 b2).mono ?_; rintro e w5 ⟨u4, R4, y4, rfl, hO4, k41, k42⟩
  replace hB := below2 hB hO4.bl
  replace b1 := b1.keep hO4.bl
  replace b2 := b2.keep hO4.bl
  replace r5 := r5.below hO4.bl
  replace r6 := r6.below hO4.bl
  replace r7 := r7.below hO4.bl
  replace h3 := h3.keep hO4.bl
  have h4 := hO4.has
  clear hO4 cand
  obtain ⟨y5, z5⟩ := cells1 r5
  obtain ⟨y6, z6⟩ := cells1 r6
  obtain ⟨y7, y8, z7⟩ := cells2 r7
  go_wp2_with fail
  clear y5 z5 y6 z6 y7 y8 z7
  go_at_call 22; refine (cnot _ b1).mono ?_; rintro e w6 ⟨u5, R5, y5, rfl, hO5, k51, k52⟩
  replace hB := below2 hB hO5.bl
  replace b1 := b1.keep hO5.bl
  replace b2 := b2.keep hO5.bl
  replace r5 := r5.below hO5.bl
  replace r6 := r6.below hO5.bl
  replace r7 := r7.below hO5.bl
  replace h3 := h3.keep hO5.bl
  replace h4 := h4.keep hO5.bl
  have h5 := hO5.has
  clear hO5 cnot
  obtain ⟨o3, p3, e3, _, _⟩ := HasRow.slice h3
  obtain ⟨o4, p4, e4, _, _⟩ := HasRow.slice h4
  obtain ⟨o5, p5, e5, _, _⟩ := HasRow.slice h5
  subst e3 e4 e5
  have HH1 : Hid (∀ A C, okB six l = A → rightB six n = C → hasE six l n = if A && C then (inB l n, 0) else (false, 2)) := fun A C h1 h2 => by unfold hasE; rw [h1, h2]
  have HH2 : Hid (∀ A C, okB six m = A → rightB six n = C → hasE six m n = if A && C then (inB m n, 0) else (false, 2)) := fun A C h1 h2 => by unfold hasE; rw [h1, h2]
  cases hC : rightB six n
  · have e1 : hasE six l n = (false, 2) := by rw [HH1.out _ false rfl hC]; simp
    have e2 : hasE six m n = (false, 2) := by rw [HH2.out _ false rfl hC]; simp
    rw [e1, e2]
    clear HH1 HH2 HAN HRF HTOP chR h3 h4 h5 b1 b2 r5 r6 r7 k31 k32 k41 k42 k51 k52 e1 e2
    go_wp2_with fail
    go_ret
    exact ⟨rfl, hB⟩
  · cases hA1 : okB six l
    · have e1 : hasE six l n = (false, 2) := HH1.out false true hA1 hC
      have e2 : hasE six m n = (inB m n, 0) ∨ hasE six m n = (false, 2) := by
        cases hA2 : okB six m
        · exact .inr (HH2.out false true hA2 hC)
        · exact .inl (HH2.out true true hA2 hC)
      rw [e1]
      clear HH1 HH2 HAN HRF HTOP chR h3 h4 h5 b1 b2 r5 r6 r7 k31 k32 k41 k42 k51 k52 e1
      rcases e2 with e2 | e2
      · rw [e2]
        clear e2
        go_wp2_with fail
        go_ret
        exact ⟨rfl, hB⟩
      · rw [e2]
        clear e2
        go_wp2_with fail
        go_ret
        exact ⟨rfl, hB⟩
    · cases hA2 : okB six m
      · have e1 : hasE six l n = (inB l n, 0) := HH1.out true true hA1 hC
        have e2 : hasE six m n = (false, 2) := HH2.out false true hA2 hC
        rw [e1, e2]
        clear HH1 HH2 HAN HRF HTOP chR h3 h4 h5 b1 b2 r5 r6 r7 k31 k32 k41 k42 k51 k52 e1 e2
        go_wp2_with fail
        go_ret
        exact ⟨rfl, hB⟩
      · have e1 : hasE six l n = (inB l n, 0) := HH1.out true true hA1 hC
        have e2 : hasE six m n = (inB m n, 0) := HH2.out true true hA2 hC
        rw [e1, e2]
        have k3 := k32 (by rw [hA1, hA2]; rfl)
        have k4 := k42 (by rw [hA1, hA2]; rfl)
        have k5 := k52 hA1
        have q3 := HAN.out _ _ _ _ hC k3
        have q4 := HAN.out _ _ _ _ hC k4
        have q5 := HAN.out _ _ _ _ hC k5
        have c3 := fun (W : World) (u' : Value) (h : HasSps W u' R3) => chR W u' R3 h (HRF.out _ _ _ _ k3)
        have c4 := fun (W : World) (u' : Value) (h : HasSps W u' R4) => chR W u' R4 h (HRF.out _ _ _ _ k4)
        have c5 := fun (W : World) (u' : Value) (h : HasSps W u' R5) => chR W u' R5 h (HRF.out _ _ _ _ k5)
        have hll := (okB_iff.1 hA1).1
        have hml := (okB_iff.1 hA2).1
        have htop := HTOP.out hC
        simp only [htop, Bool.true_and] at q5
        clear HH1 HH2 HAN HRF HTOP chR k31 k32 k41 k42 k51 k52 e1 e2 k3 k4 k5 htop hA1 hA2 hC
        generalize inB l n = A at *
        generalize inB m n = C at *
        have cL0 := fun (W : World) (h1 : RowAt W g5 [.slice o1 l.length p1] 22) (h2 : RowAt W g6 [.slice o2 m.length p2] 22) => long_any 0 o1 o2 l.length m.length p1 p2 g5 g6 W hll hml h1 h2
        have cL1 := fun (W : World) (h1 : RowAt W g5 [.slice o1 l.length p1] 22) (h2 : RowAt W g6 [.slice o2 m.length p2] 22) => long_any 11 o1 o2 l.length m.length p1 p2 g5 g6 W hll hml h1 h2
        simp only [show decide ((0 : Int) = 11) = false from rfl, Bool.false_and] at cL0
        simp only [decide_true, Bool.true_and] at cL1
        have HL1 : Hid (1024 < l.length + m.length → decide (1024 ≤ l.length + m.length) = true) := fun h => decide_eq_true (by omega)
        have HL2 : Hid (1024 < l.length + 1 → decide (1024 ≤ l.length + m.length) = true) := fun h => decide_eq_true (by omega)
        clear b1 b2
        generalize decide (1024 ≤ l.length + m.length) = LG at *
        generalize l.length = la at *
        generalize m.length = lb at *
        obtain ⟨H3, hH3⟩ : ∃ p, p = hasE six R3 n := ⟨_, rfl⟩
        obtain ⟨H4, hH4⟩ : ∃ p, p = hasE six R4 n := ⟨_, rfl⟩
        obtain ⟨H5, hH5⟩ : ∃ p, p = hasE six R5 n := ⟨_, rfl⟩
        rw [← hH3] at c3 q3
        rw [← hH4] at c4 q4
        rw [← hH5] at c5 q5
        clear hH3 hH4 hH5
        obtain ⟨b3, d3⟩ := H3
        obtain ⟨b4, d4⟩ := H4
        obtain ⟨b5, d5⟩ := H5
        simp only [Prod.mk.injEq] at c3 c4 c5 q3 q4 q5
        have Q3 : Hid _ := q3
        have Q4 : Hid _ := q4
        have Q5 : Hid _ := q5
        clear q3 q4 q5 hll hml
        have hy3 : (y3 == 0) = (y3 == 0) := rfl
        clear hy3
        obtain ⟨y7, y8, z7⟩ := cells2 r7
        go_wp2_with fail
        clear y7 y8 z7
        go_at_call 24; refine (c3 _ _ h3).mono ?_; rintro e w7 ⟨rfl, hb⟩
        replace hB := below2 hB hb
        replace h4 := h4.keep hb
        replace h5 := h5.keep hb
        replace r5 := r5.below hb
        replace r6 := r6.below hb
        replace r7 := r7.below hb
        clear hb c3
        obtain ⟨y7, y8, z7⟩ := cells2 r7
        go_wp2_with fail
        clear y7 y8 z7
        go_at_call 24; refine (c4 _ _ h4).mono ?_; rintro e w8 ⟨rfl, hb⟩
        replace hB := below2 hB hb
        replace h5 := h5.keep hb
        replace r5 := r5.below hb
        replace r6 := r6.below hb
        replace r7 := r7.below hb
        clear hb c4
        obtain ⟨y7, y8, z7⟩ := cells2 r7
        go_wp2_with fail
        clear y7 y8 z7
        go_at_call 24; refine (c5 _ _ h5).mono ?_; rintro e w9 ⟨rfl, hb⟩
        replace hB := below2 hB hb
        replace r5 := r5.below hb
        replace r6 := r6.below hb
        clear hb c5 r7 h3 h4 h5
        have k0 := cL0 _ r5 r6
        have k1 := cL1 _ r5 r6
        clear cL0 cL1 r5 r6
        go_upto_region 14 with fail
        have q3 := Q3.out
        have q4 := Q4.out
        have q5 := Q5.out
        clear Q3 Q4 Q5
        rcases q3 with ⟨rfl, rfl, rfl⟩ | ⟨rfl, t3, rfl, rfl⟩
        all_goals rcases q4 with ⟨rfl, rfl, rfl⟩ | ⟨rfl, t4, rfl, rfl⟩
        all_goals rcases q5 with ⟨rfl, rfl, rfl⟩ | ⟨rfl, t5, rfl, rfl⟩
        all_goals (try (have hLG := HL1.out t3; subst hLG))
        all_goals (try (have hLG := HL1.out t4; subst hLG))
        all_goals (try (have hLG := HL2.out t5; subst hLG))
        all_goals clear HL1 HL2
        all_goals cases A
        all_goals cases C
        all_goals go_wp2_with fail
        all_goals (go_at_call 29; first | (with_reducible refine k0.mono ?_) | (with_reducible refine k1.mono ?_))
        all_goals (rintro e w10 ⟨rfl, rfl⟩)
        all_goals go_wp2_with fail
        all_goals (go_at_call 29; first | (with_reducible refine k0.mono ?_) | (with_reducible refine k1.mono ?_))
        all_goals (rintro e w10 ⟨rfl, rfl⟩)
        all_goals go_wp2_with fail
        all_goals (go_at_call 29; first | (with_reducible refine k0.mono ?_) | (with_reducible refine k1.mono ?_))
        all_goals (rintro e w10 ⟨rfl, rfl⟩)
        all_goals go_wp2_with fail
        all_goals go_ret
        all_goals exact ⟨rfl, hB⟩
set_option maxRecDepth 100000 in
theorem lifted (os : Os) (started : os.Started) (H : Type) (enc : TypeId × Value → H) :
    ReturnsInHanded {} Try.checked os 6 .any (Rows.spanHasSpec.pre6 enc Try.prog Try.f6 Rows.spanHasRow.domain false) (Rows.spanHasSpec.post enc Try.prog Try.f6 false true false false) := by
  refine returnsInHanded_of_change_sized (C := Try.checked) own started (by kernel_rfl) Try.func6
    (ChangeSpec.witness6 (enc := enc) (C := Try.checked) false ⟨#[], #[.bool false, .slice none 0 0, .slice none 0 0, .agg #[.int .u64 0, .int .u64 0]], []⟩ 8 (by kernel_rfl) (by kernel_rfl) (by kernel_rfl) (by kernel_rfl)) ?_
  intro W base args ds gs before hval0 hW _ hsz0 _
  have hsz : (DataW.weightsEach Try.prog (Try.f6.params.toList ++ Rows.spanHasSpec.plain.varTypes Try.prog) (ds ++ gs)).all (· ≤ reachBytes) = true := hsz0
  clear hsz0
  have hval : ∀ (j : Nat) t v, Try.f6.params[j]? = some t → args[j]? = some v → Value.okWide Try.prog W .any base t v := hval0
  have hW' := hW
  obtain ⟨p, q, hA0, hV, rfl, hfz, hnd⟩ := hW
  have hA : DataW.TrodAll enc Try.prog W 0 (fun _ => true) true Try.f6.params.toList args.toList ds p := hA0
  rw [Try.params6] at hA hval hsz
  obtain ⟨v0, vs0, d0, ds0, p0, q0, hargs, rfl, rfl, h0, r0⟩ := trodAll_cons hA
  obtain ⟨v1, vs1, d1, ds1, p1, q1, rfl, rfl, rfl, h1, r1⟩ := trodAll_cons r0
  obtain ⟨v2, vs2, d2, ds2, p2, q2, rfl, rfl, rfl, h2, r2⟩ := trodAll_cons r1
  obtain ⟨v3, vs3, d3, ds3, p3, q3, rfl, rfl, rfl, h3, r3⟩ := trodAll_cons r2
  obtain ⟨rfl, rfl, rfl⟩ := trodAll_nil r3
  obtain rfl : args = #[v0, v1, v2, v3] := by cases args; simp_all
  obtain ⟨rfl, rfl⟩ := trodVars_none hV
  obtain ⟨a0, rfl, rfl, rfl⟩ := open_bool Try.underlying4 (hval 0 4 v0 rfl rfl) h0
  obtain ⟨a1, len1, cap1, rfl⟩ := okWide_slice Try.underlying22 (hval 1 22 v1 rfl rfl)
  have k1 := h1
  have lt1 : ∀ x ∈ p1, x.block < W.heap.size := by obtain ⟨m, hm⟩ := k1; exact DataW.trod_lt m _ _ _ hm
  obtain ⟨fuel1, hf1⟩ := h1
  obtain ⟨z1, b1, f1⟩ := Sp.open_spans hf1
  obtain ⟨a2, len2, cap2, rfl⟩ := okWide_slice Try.underlying22 (hval 2 22 v2 rfl rfl)
  have k2 := h2
  have lt2 : ∀ x ∈ p2, x.block < W.heap.size := by obtain ⟨m, hm⟩ := k2; exact DataW.trod_lt m _ _ _ hm
  obtain ⟨fuel2, hf2⟩ := h2
  obtain ⟨z2, b2, f2⟩ := Sp.open_spans hf2
  have k3 := h3
  have lt3 : ∀ x ∈ p3, x.block < W.heap.size := by obtain ⟨m, hm⟩ := k3; exact DataW.trod_lt m _ _ _ hm
  obtain ⟨n3, rfl, b3⟩ := Addr.open_addr (hval 3 25 v3 rfl rfl) h3
  clear hA0 hval0
  refine (walk a0 (.slice a1 len1 cap1) z1 (.slice a2 len2 cap2) z2 n3 W b1 f1 b2 f2 b3).mono fun e W' ⟨he, bel⟩ => ?_
  subst he
  exact ⟨_, rfl, _, _, _, [], _, [], hW', trodAll_mk1 (shut_bool Try.underlying4 _), (trodAll_cons_mk (shut_bool Try.underlying4 a0) (trodAll_cons_mk (Below.trod laidOut (by kernel_rfl) (of_decide_eq_true (by kernel_rfl)) k1 bel lt1) (trodAll_cons_mk (Below.trod laidOut (by kernel_rfl) (of_decide_eq_true (by kernel_rfl)) k2 bel lt2) (trodAll_cons_mk (Below.trod laidOut (by kernel_rfl) (of_decide_eq_true (by kernel_rfl)) k3 bel lt3) trodAll_mk0)))), rfl, bel.frame _, fun h => by cases h⟩

theorem over : Rows.spanHasRow.holds Try.pinned (OpenSpec.ofChange Rows.spanHasSpec) :=
  OpenClaim.holds_of_wide 6 Try.f6 rfl rfl rfl rfl rfl rfl rfl ⟨rfl, rfl, rfl, rfl, rfl⟩ rfl rfl rfl rfl rfl (by kernel_rfl) Try.func6 (by kernel_rfl)
    (of_decide_eq_true (by kernel_rfl)) (by unfold Func.isWrapper; first | (rw [if_pos (by decide +kernel)]; kernel_rfl) | (rw [if_neg (by decide +kernel)]; exact ⟨rfl, rfl⟩))
    (fun os started H enc _ => lifted os started H enc)
end spanHas
theorem span_has_holds : Rows.SpanHasSaid := spanHas.over
#print axioms span_has_holds
end Go.Proofs.Ytfancibjicpdkaa
