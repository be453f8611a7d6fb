/- What the document's Covers and Halves return. -/
import Derived.Test.YtengicljipfckaaAddrRef4
set_option linter.unusedVariables false
namespace Go.Proofs.Ytengicljipfckaa.Addr
open Go.RowKit

theorem covers_swap (p q : Pf) : coversB p q = (okP q && (hasB p q.six q.n && decide (p.len ≤ q.len))) := by
  unfold coversB
  cases okP q <;> cases hasB p q.six q.n <;> simp
set_option maxHeartbeats 2000000 in
theorem rcovers_any (p q : Pf) (w : World) (hl : -9223372036854775808 ≤ p.len ∧ p.len ≤ 9223372036854775807) (hn : p.n < 2 ^ 128) (hl2 : -9223372036854775808 ≤ q.len ∧ q.len ≤ 9223372036854775807) (hn2 : q.n < 2 ^ 128) : Calls Try.prog 25 #[pfV p, pfV q] w fun e w' => e = .returned (.bool (coversB p q)) ∧ Below w.heap.size w w' := by
  have cc := fun w => rcheck_any q w hl2 hn2
  have ch := fun w => rhas_any p q.six q.n w hl hn hn2
  obtain ⟨X, hX⟩ : ∃ X, X = (w.alloc (.cells #[.bool p.six, .int .u64 (hiN p.n : Int), .int .u64 (loN p.n : Int), .int .i64 p.len] 33)).alloc (.cells #[.bool q.six, .int .u64 (hiN q.n : Int), .int .u64 (loN q.n : Int), .int .i64 q.len] 33) := ⟨_, rfl⟩
  have hB0 : Below w.heap.size w X := by rw [hX]; exact below_new (below_new (Below.refl _ _) _) _
  have r0 : RowAt X w.heap.size [.bool p.six, .int .u64 (hiN p.n : Int), .int .u64 (loN p.n : Int), .int .i64 p.len] 33 := by rw [hX]; exact (RowAt.new _ _ _).alloc _
  have r1 : RowAt X (w.heap.size + 1) [.bool q.six, .int .u64 (hiN q.n : Int), .int .u64 (loN q.n : Int), .int .i64 q.len] 33 := by rw [hX, ← World.size_alloc w (.cells #[.bool p.six, .int .u64 (hiN p.n : Int), .int .u64 (loN p.n : Int), .int .i64 p.len] 33)]; exact RowAt.new _ _ _
  have HH : Hid (coversB p q = (okP q && (hasB p q.six q.n && decide (p.len ≤ q.len)))) := covers_swap p q
  generalize coversB p q = R at *
  generalize hasB p q.six q.n = HB at *
  cases hok : okP q
  · rw [checkP_bad hok] at cc
    have HV : Hid (R = false) := by show _ = _; rw [HH.out, hok]; rfl
    clear HH hok ch hl hl2 hn hn2
    unfold pfV at *
    (try unfold adV at *)
    generalize hiN p.n = h at *
    generalize loN p.n = l at *
    generalize hiN q.n = qh at *
    generalize loN q.n = ql at *
    generalize p.six = sx at *
    generalize p.len = len at *
    generalize q.six = qs at *
    generalize q.len = qn at *
    go_enter Try.func25, Try.ntmps25
    go_wp2_with fail
    go_at_call 21; refine (cc _).mono ?_; rintro e w2 ⟨rfl, hb2⟩
    rw [← hX] at hb2
    have hW := below2 hB0 hb2
    clear hX cc hB0 r0 r1 hb2
    go_wp2_with fail
    go_ret
    exact ⟨by rw [HV.out]; rfl, hW⟩
  rw [checkP_ok hok] at cc
  rw [hok] at HH
  clear hok
  cases HB with
  | false =>
    have HV : Hid (R = false) := by show _ = _; rw [HH.out]; rfl
    clear HH hl hl2 hn hn2
    unfold pfV at *
    (try unfold adV at *)
    generalize hiN p.n = h at *
    generalize loN p.n = l at *
    generalize hiN q.n = qh at *
    generalize loN q.n = ql at *
    generalize p.six = sx at *
    generalize p.len = len at *
    generalize q.six = qs at *
    generalize q.len = qn at *
    go_enter Try.func25, Try.ntmps25
    go_wp2_with fail
    go_at_call 21; refine (cc _).mono ?_; rintro e w2 ⟨rfl, hb2⟩
    rw [← hX] at hb2
    have hW := below2 hB0 hb2
    have r0 := r0.below hb2
    have r1 := r1.below hb2
    obtain ⟨q0, q1, q2, q3, qf⟩ := cells4 r0
    obtain ⟨p0, p1, p2, p3, pf⟩ := cells4 r1
    clear hX cc hB0 hb2
    go_wp2_with fail
    go_at_call 23; refine (ch _).mono ?_; rintro e w3 ⟨rfl, hb3⟩
    have hW := below2 hW hb3
    clear q0 q1 q2 q3 qf p0 p1 p2 p3 pf ch
    obtain ⟨q0, q1, q2, q3, qf⟩ := cells4 (r0.below hb3)
    obtain ⟨p0, p1, p2, p3, pf⟩ := cells4 (r1.below hb3)
    clear r0 r1 hb3
    go_wp2_with fail
    go_ret
    exact ⟨by rw [HV.out]; rfl, hW⟩
  | true =>
    have HV : Hid (R = decide (p.len ≤ q.len)) := by show _ = _; rw [HH.out]; simp
    clear HH hl hl2 hn hn2
    unfold pfV at *
    (try unfold adV at *)
    generalize hiN p.n = h at *
    generalize loN p.n = l at *
    generalize hiN q.n = qh at *
    generalize loN q.n = ql at *
    generalize p.six = sx at *
    generalize p.len = len at *
    generalize q.six = qs at *
    generalize q.len = qn at *
    go_enter Try.func25, Try.ntmps25
    go_wp2_with fail
    go_at_call 21; refine (cc _).mono ?_; rintro e w2 ⟨rfl, hb2⟩
    rw [← hX] at hb2
    have hW := below2 hB0 hb2
    have r0 := r0.below hb2
    have r1 := r1.below hb2
    obtain ⟨q0, q1, q2, q3, qf⟩ := cells4 r0
    obtain ⟨p0, p1, p2, p3, pf⟩ := cells4 r1
    clear hX cc hB0 hb2
    go_wp2_with fail
    go_at_call 23; refine (ch _).mono ?_; rintro e w3 ⟨rfl, hb3⟩
    have hW := below2 hW hb3
    clear q0 q1 q2 q3 qf p0 p1 p2 p3 pf ch
    obtain ⟨q0, q1, q2, q3, qf⟩ := cells4 (r0.below hb3)
    obtain ⟨p0, p1, p2, p3, pf⟩ := cells4 (r1.below hb3)
    clear r0 r1 hb3
    go_wp2_with fail
    go_ret
    exact ⟨by rw [HV.out]; rfl, hW⟩
set_option maxHeartbeats 4000000 in
set_option maxRecDepth 20000 in
theorem rhalves_any (p : Pf) (w : World) (hl : -9223372036854775808 ≤ p.len ∧ p.len ≤ 9223372036854775807) (hn : p.n < 2 ^ 128) : Calls Try.prog 19 #[pfV p] w fun e w' => e = .returned (.tuple #[pfV (halvesE p).1, pfV (halvesE p).2.1, .int .i64 (halvesE p).2.2]) ∧ Below w.heap.size w w' := by
  have cc := fun w => rcheck_any p w hl hn
  have cw := fun w => rwide_any p.six w
  have hz : pfV ⟨false, 0, 0⟩ = .agg #[.bool false, .int .u64 0, .int .u64 0, .int .i64 0] := rfl
  obtain ⟨X, hX⟩ : ∃ X, X = ((w.alloc (.cells #[.bool p.six, .int .u64 (hiN p.n : Int), .int .u64 (loN p.n : Int), .int .i64 p.len] 33)).alloc (.cells #[.bool false, .int .u64 0, .int .u64 0, .int .i64 0] 33)).alloc (.cells #[.bool false, .int .u64 0, .int .u64 0, .int .i64 0] 33) := ⟨_, rfl⟩
  have hB0 : Below w.heap.size w X := by rw [hX]; exact below_new (below_new (below_new (Below.refl _ _) _) _) _
  have r0 : RowAt X w.heap.size [.bool p.six, .int .u64 (hiN p.n : Int), .int .u64 (loN p.n : Int), .int .i64 p.len] 33 := by rw [hX]; exact ((RowAt.new _ _ _).alloc _).alloc _
  have r1 : RowAt X (w.heap.size + 1) [.bool false, .int .u64 0, .int .u64 0, .int .i64 0] 33 := by rw [hX, ← World.size_alloc w (.cells #[.bool p.six, .int .u64 (hiN p.n : Int), .int .u64 (loN p.n : Int), .int .i64 p.len] 33)]; exact (RowAt.new _ _ _).alloc _
  have r2 : RowAt X (w.heap.size + 1 + 1) [.bool false, .int .u64 0, .int .u64 0, .int .i64 0] 33 := by
    rw [hX, ← World.size_alloc w (.cells #[.bool p.six, .int .u64 (hiN p.n : Int), .int .u64 (loN p.n : Int), .int .i64 p.len] 33), ← World.size_alloc _ (.cells #[.bool false, .int .u64 0, .int .u64 0, .int .i64 0] 33)]
    exact RowAt.new _ _ _
  cases hok : okP p
  · rw [checkP_bad hok] at cc
    have e1 : halvesE p = (⟨false, 0, 0⟩, ⟨false, 0, 0⟩, 2) := by unfold halvesE; rw [hok]; rfl
    rw [e1]
    simp only [hz]
    clear e1 hok hz cw
    unfold pfV at *
    generalize hiN p.n = h at *
    generalize loN p.n = l at *
    generalize p.six = sx at *
    generalize p.len = len at *
    go_enter Try.func19, Try.ntmps19
    go_wp2_with fail
    go_at_call 21; refine (cc _).mono ?_; rintro e w2 ⟨rfl, hb2⟩
    rw [← hX] at hb2
    have hW := below2 hB0 hb2
    obtain ⟨q0, q1, q2, q3, qf⟩ := cells4 (r1.below hb2)
    obtain ⟨p0, p1, p2, p3, pf⟩ := cells4 (r2.below hb2)
    clear hX cc hB0 r0 r1 r2 hb2
    go_wp2_with fail
    (try simp only [Exit.inBlock, Exit.then])
    refine bodyPost_ret (v := .tuple #[.agg #[.bool false, .int .u64 0, .int .u64 0, .int .i64 0], .agg #[.bool false, .int .u64 0, .int .u64 0, .int .i64 0], .int .i64 2]) ?_ rfl ⟨rfl, ?_⟩
    · rw [results_cct rfl]
      go_simp
    · repeat' (first | with_reducible exact hW | with_reducible apply below_new | with_reducible refine bset ?_ (by omega))
  rw [checkP_ok hok] at cc
  have hle := (okP_iff.1 hok).1
  have hWl := wideN_le p.six
  by_cases hm : p.len = (wideN p.six : Int)
  · have e1 : halvesE p = (⟨false, 0, 0⟩, ⟨false, 0, 0⟩, 3) := by unfold halvesE; rw [hok, if_pos rfl, if_pos hm]
    rw [e1]
    simp only [hz]
    have dm : (p.len == (wideN p.six : Int)) = true := by simpa using hm
    unfold pfV at *
    clear e1 hok hz hl hn hle hWl hm
    generalize hiN p.n = h at *
    generalize loN p.n = l at *
    generalize (wideN p.six : Int) = wd at *
    generalize p.six = sx at *
    generalize p.len = len at *
    go_enter Try.func19, Try.ntmps19
    go_wp2_with fail
    go_at_call 21; refine (cc _).mono ?_; rintro e w2 ⟨rfl, hb2⟩
    rw [← hX] at hb2
    have hW := below2 hB0 hb2
    have r0 := r0.below hb2
    have r1 := r1.below hb2
    have r2 := r2.below hb2
    clear hX cc hB0 hb2
    have q0 : ∀ p : Bl w2, p.W.cell? ⟨w.heap.size, 0, none⟩ = some (.bool sx) := fun p => (r0.below p.h).cell 0
    have q3 : ∀ p : Bl w2, p.W.cell? ⟨w.heap.size, 3, none⟩ = some (.int .i64 len) := fun p => (r0.below p.h).cell 3
    haveI := bl_ne w2
    go_wp2_with fail
    refine wp_region_bl (by kernel_rfl) (by kernel_rfl) ?_
    repeat (quiet_step (first | (go_at_call 37; with_reducible exact bl_same (cw _))))
    refine wpQuiet_nil ?_
    intro wq hw'
    obtain ⟨⟨wz, hq⟩, hw2⟩ := hw'
    subst hw2
    have hW := below2 hW hq
    clear q0 q3
    obtain ⟨q0, q1, q2, q3, qf⟩ := cells4 (r1.below hq)
    obtain ⟨p0, p1, p2, p3, pf⟩ := cells4 (r2.below hq)
    clear cw r0 r1 r2 hq this
    go_wp2_with fail
    (try simp only [Exit.inBlock, Exit.then])
    refine bodyPost_ret (v := .tuple #[.agg #[.bool false, .int .u64 0, .int .u64 0, .int .i64 0], .agg #[.bool false, .int .u64 0, .int .u64 0, .int .i64 0], .int .i64 3]) ?_ rfl ⟨rfl, ?_⟩
    · rw [results_cct rfl]
      go_simp
    · repeat' (first | with_reducible exact hW | with_reducible apply below_new | with_reducible refine bset ?_ (by omega))
  · rw [halves_ok hok hm]
    have dm : (p.len == (wideN p.six : Int)) = false := by simpa using hm
    have cb := fun w => rbits_any p.six p.n w hn
    unfold BitsIs at cb
    rw [bitL_len] at cb
    have hf := half_facts hok hm
    have hklen := okP_len hok
    have HHB : Hid (∀ m, (∀ j, m.testBit j = if j = kP p - 1 then true else p.n.testBit j) → m % 2 ^ wideN p.six = p.n + 2 ^ (kP p - 1)) := fun m h => half_bits (by omega) (okP_lt hok) (by rw [show kP p - 1 + 1 = kP p by omega]; exact okP_zero hok) h
    have HOF : Hid (∀ m g w, RowAt w g (celN (bitL (wideN p.six) m)) 3 → Calls Try.prog 35 #[.slice (some ⟨g, 0, none⟩) (wideN p.six) (wideN p.six)] w fun e w' => e = .returned (adV (m % 2 ^ wideN p.six)) ∧ Below w.heap.size w w') := fun m g w h => rof_row _ m g w hWl h
    have hK1 := hf.1
    generalize kP p = K at *
    generalize hR : p.n + 2 ^ (K - 1) = r at *
    have h128 : (2 : Nat) ^ wideN p.six ≤ 2 ^ 128 := Nat.pow_le_pow_right (by decide) hWl
    unfold pfV at *
    simp only
    obtain ⟨sx, n, len⟩ := p
    simp only at *
    obtain ⟨W, hWd⟩ : ∃ W, W = wideN sx := ⟨_, rfl⟩
    rw [← hWd] at cb cw dm hle hWl hklen HHB HOF hm
    obtain ⟨L, hL⟩ : ∃ L : Nat, len = (L : Int) := ⟨len.toNat, by omega⟩
    subst hL
    have hLW : L < W := by omega
    have HLK : Hid (W - 1 - L = K - 1) := by show _ = _; omega
    have hWi : (W : Int) ≤ 128 := by omega
    have hLi : (L : Int) < (W : Int) := by omega
    have hwr : IntKind.i64.wrap ((L : Int) + 1) = (L : Int) + 1 := by rw [IntKind.wrap_i64]; omega
    clear hok hz hl hn hWd hf hklen hle hWl hm hR h128 hK1
    unfold adV at cb HOF
    generalize hiN n = h at *
    generalize loN n = l at *
    go_enter Try.func19, Try.ntmps19
    go_wp2_with fail
    go_at_call 21; refine (cc _).mono ?_; rintro e w2 ⟨rfl, hb2⟩
    rw [← hX] at hb2
    have hs2 : w.heap.size + 3 ≤ X.heap.size := by rw [hX]; simp
    have hsX := hb2.size
    have hW := below2 hB0 hb2
    have r0 := r0.below hb2
    have r1 := r1.below hb2
    have r2 := r2.below hb2
    clear hX cc hB0 hb2
    have q0 : ∀ p : Bl w2, p.W.cell? ⟨w.heap.size, 0, none⟩ = some (.bool sx) := fun p => (r0.below p.h).cell 0
    have q3 : ∀ p : Bl w2, p.W.cell? ⟨w.heap.size, 3, none⟩ = some (.int .i64 (L : Int)) := fun p => (r0.below p.h).cell 3
    haveI := bl_ne w2
    go_wp2_with fail
    refine wp_region_bl (by kernel_rfl) (by kernel_rfl) ?_
    repeat (quiet_step (first | (go_at_call 37; with_reducible exact bl_same (cw _))))
    refine wpQuiet_nil ?_
    intro wq hw'
    obtain ⟨⟨wz, hq⟩, hw2⟩ := hw'
    subst hw2
    have hsq := hq.size
    have hW := below2 hW hq
    have r0 := r0.below hq
    have r1 := r1.below hq
    have r2 := r2.below hq
    clear q0 q3 cw hq this
    obtain ⟨q0, q1, q2, q3, qf⟩ := cells4 r0
    go_wp2_with fail
    go_at_call 34; refine (cb _).mono ?_; rintro e w3 ⟨g, rfl, hg, hrow, hb3⟩
    have hgw : w.heap.size + 3 ≤ g := by omega
    have hW := below2 hW hb3
    have r0 := r0.below hb3
    have r1 := r1.below hb3
    have r2 := r2.below hb3
    clear q0 q1 q2 q3 qf cb hg hb3 hsX hs2 hsq
    obtain ⟨q0, q1, q2, q3, qf⟩ := cells4 r0
    have hcell : ∃ z : Int, w3.cell? ⟨g, L, none⟩ = some (.int .i64 z) := ⟨_, by rw [hrow.cell, celN_get _ _ (by rw [bitL_len]; exact hLW)]⟩
    obtain ⟨z, hcell⟩ := hcell
    have hfz : w3.frozen? ⟨g, L, none⟩ = false := hrow.frozen L
    obtain ⟨m2, hm2, hm3⟩ := bitL_set W n (W - 1 - L) true (by omega)
    rw [show W - 1 - (W - 1 - L) = L by omega] at hm2
    have hr2 := hrow.set1 L (.int .i64 ((true.toNat : Nat) : Int))
    rw [celN_set, hm2] at hr2
    have hval := HHB.out m2 (fun j => by rw [hm3 j, HLK.out])
    obtain ⟨V, hV⟩ : ∃ V, V = w3.setCell ⟨g, L, none⟩ (.int .i64 1) := ⟨_, rfl⟩
    have hrV : RowAt V g (celN (bitL W m2)) 3 := by rw [hV]; exact hr2
    have R0 : RowAt V w.heap.size [.bool sx, .int .u64 (h : Int), .int .u64 (l : Int), .int .i64 (L : Int)] 33 := by rw [hV]; exact r0.far1 (by omega) _ _
    have R1 : RowAt V (w.heap.size + 1) [.bool false, .int .u64 0, .int .u64 0, .int .i64 0] 33 := by rw [hV]; exact r1.far1 (by omega) _ _
    have R2 : RowAt V (w.heap.size + 1 + 1) [.bool false, .int .u64 0, .int .u64 0, .int .i64 0] 33 := by rw [hV]; exact r2.far1 (by omega) _ _
    have hWV : Below w.heap.size w V := by rw [hV]; exact bset hW (by omega)
    have HCO : Hid (∀ V2, Below V.heap.size V V2 → Calls Try.prog 35 #[.slice (some ⟨g, 0, none⟩) W W] V2 fun e w' => e = .returned (.agg #[.int .u64 (hiN r : Int), .int .u64 (loN r : Int)]) ∧ Below V2.heap.size V2 w') := fun V2 hb => by
      have := HOF.out m2 g V2 (hrV.below hb)
      rw [hval] at this
      exact this
    clear hr2 hm2 hm3 hval hrow HHB HOF hrV HLK r0 r1 r2 hW
    go_upto_region 7 with fail
    rw [← hV]
    clear hV hcell hfz q0 q1 q2 q3 qf
    have HSK : Hid (∀ Z, V.grownBy Z (some (w.heap.size + 1)) ∨ (∃ Y, V.grownBy Y (some (w.heap.size + 1)) ∧ Y.grownBy Z (some (w.heap.size + 1 + 1))) → (Z.cell? ⟨w.heap.size, 0, none⟩ = some (.bool sx) ∧ Z.cell? ⟨w.heap.size, 1, none⟩ = some (.int .u64 (h : Int)) ∧ Z.cell? ⟨w.heap.size, 2, none⟩ = some (.int .u64 (l : Int)) ∧ Z.cell? ⟨w.heap.size, 3, none⟩ = some (.int .i64 (L : Int)))) := fun Z hz => by
      rcases hz with hz | ⟨Y, h1, h2⟩
      · have q := cells4 (R0.gkeep hz (by simp)); exact ⟨q.1, q.2.1, q.2.2.1, q.2.2.2.1⟩
      · have q := cells4 ((R0.gkeep h1 (by simp)).gkeep h2 (by simp; omega)); exact ⟨q.1, q.2.1, q.2.2.1, q.2.2.2.1⟩
    have HR1 : Hid (∀ Z, Below V.heap.size V Z → RowAt Z (w.heap.size + 1) [.bool false, .int .u64 0, .int .u64 0, .int .i64 0] 33) := fun Z hb => R1.below hb
    have HR2 : Hid (∀ Z, Below V.heap.size V Z → RowAt Z (w.heap.size + 1 + 1) [.bool false, .int .u64 0, .int .u64 0, .int .i64 0] 33) := fun Z hb => R2.below hb
    have hbA : Below V.heap.size V V := Below.refl _ _
    have hgA : V.grownBy V (some (w.heap.size + 1)) := grefl _ _
    clear R0 R1 R2
    go_region_held3 (fun w' => w'.cell? ⟨w.heap.size, 0, none⟩ = some (.bool sx) ∧ w'.cell? ⟨w.heap.size, 1, none⟩ = some (.int .u64 (h : Int)) ∧ w'.cell? ⟨w.heap.size, 2, none⟩ = some (.int .u64 (l : Int)) ∧ w'.cell? ⟨w.heap.size, 3, none⟩ = some (.int .i64 (L : Int)))
      (first
        | (refine HSK.out _ (.inl ?_)
           repeat' (first | with_reducible exact hgA | with_reducible apply gdrew | with_reducible apply gset)
           done)
        | (refine HSK.out _ (.inr ⟨_, ?_, gset (gset (gset (gset (grefl _ _))))⟩)
           repeat' (first | with_reducible exact hgA | with_reducible apply gdrew | with_reducible apply gset)))
      (first
        | (go_at_call 35; with_reducible refine (HCO.out _ (by repeat' (first | with_reducible exact hbA | with_reducible apply below_drew))).mono ?_; rintro e w4 ⟨rfl, hb4⟩
           have hbN : Below V.heap.size V w4 := below2 (by repeat' (first | with_reducible exact hbA | with_reducible apply below_drew)) hb4
           have hgN : V.grownBy w4 (some (w.heap.size + 1)) := gbelow (by repeat' (first | with_reducible exact hgA | with_reducible apply gdrew)) hb4
           clear hbA hgA hb4
           have hbA := hbN
           have hgA := hgN
           clear hbN hgN
           obtain ⟨a0, a1, a2, a3, haf⟩ := cells4 (HR1.out _ hbA)
           obtain ⟨b0, b1, b2, b3, hbf⟩ := cells4 (HR2.out _ hbA)))
    go_wp2_with fail
    (try simp only [Exit.inBlock, Exit.then])
    have hW4 := below2 hWV hbA
    refine bodyPost_ret (v := .tuple #[.agg #[.bool sx, .int .u64 (h : Int), .int .u64 (l : Int), .int .i64 ((L : Int) + 1)], .agg #[.bool sx, .int .u64 (hiN r : Int), .int .u64 (loN r : Int), .int .i64 ((L : Int) + 1)], .int .i64 0]) ?_ rfl ⟨rfl, ?_⟩
    · rw [results_cct rfl]
      go_simp
    · repeat' (first | with_reducible exact hW4 | with_reducible apply below_drew | with_reducible apply below_new | with_reducible refine bset ?_ (by omega))
end Go.Proofs.Ytengicljipfckaa.Addr
