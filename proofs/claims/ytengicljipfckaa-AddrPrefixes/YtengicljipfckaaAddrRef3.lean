/- What the document's Check and Last return. -/
import Derived.Test.YtengicljipfckaaAddrRef2
set_option linter.unusedVariables false
namespace Go.Proofs.Ytengicljipfckaa.Addr
open Go.RowKit

theorem check_bits {p : Pf} (h1 : 0 ≤ p.len ∧ p.len ≤ (wideN p.six : Int)) (h2 : rightB p.six p.n = true) :
    ((∀ j, j < wideN p.six → p.len ≤ (j : Int) → p.n.testBit (wideN p.six - 1 - j) = false) → checkP p = 0) ∧ (∀ j, j < wideN p.six → p.len ≤ (j : Int) → p.n.testBit (wideN p.six - 1 - j) = true → checkP p = 2) := by
  have hk : kP p = wideN p.six - p.len.toNat := rfl
  constructor
  · intro h
    apply checkP_ok
    rw [okP_first h1 h2]
    apply decide_eq_true
    rw [first_eq, mod_zero_bits]
    intro j hj
    have := h (wideN p.six - 1 - j) (by omega) (by omega)
    rwa [show wideN p.six - 1 - (wideN p.six - 1 - j) = j by omega] at this
  · intro j hj hl hb
    apply checkP_bad
    rw [okP_first h1 h2]
    apply decide_eq_false
    rw [first_eq, mod_zero_bits]
    intro h
    have := h (wideN p.six - 1 - j) (by omega)
    rw [hb] at this
    simp at this
set_option maxHeartbeats 2000000 in
set_option maxRecDepth 20000 in
theorem rcheck_any (p : Pf) (w : World) (hl : -9223372036854775808 ≤ p.len ∧ p.len ≤ 9223372036854775807) (ha : p.n < 2 ^ 128) : Calls Try.prog 21 #[pfV p] w fun e w' => e = .returned (.int .i64 (checkP p)) ∧ Below w.heap.size w w' := by
  have cs := fun w => rwide_any p.six w
  have cr := fun w => rright_any p.six p.n w ha
  have cb := fun w => rbits_any p.six p.n w ha
  have hw : (wideN p.six : Int) ≤ 128 := by have := wideN_le p.six; omega
  have HB1 : Hid (¬ (0 ≤ p.len ∧ p.len ≤ (wideN p.six : Int)) → checkP p = 2) := fun h => checkP_bad (okP_len_bad h)
  have HB2 : Hid (rightB p.six p.n = false → checkP p = 2) := fun h => checkP_bad (okP_right h)
  have HB3 : Hid (0 ≤ p.len ∧ p.len ≤ (wideN p.six : Int) → rightB p.six p.n = true → ((∀ j, j < wideN p.six → p.len ≤ (j : Int) → p.n.testBit (wideN p.six - 1 - j) = false) → checkP p = 0) ∧ (∀ j, j < wideN p.six → p.len ≤ (j : Int) → p.n.testBit (wideN p.six - 1 - j) = true → checkP p = 2)) := check_bits
  unfold BitsIs at cb
  rw [bitL_len] at cb
  generalize checkP p = R at *
  generalize rightB p.six p.n = B at *
  obtain ⟨six, n, len⟩ := p
  simp only at *
  unfold pfV adV at *
  simp only at *
  generalize hiN n = h at *
  generalize loN n = l at *
  obtain ⟨W, hWd⟩ : ∃ W, W = wideN six := ⟨_, rfl⟩
  rw [← hWd] at cb cs hw HB1 HB3
  clear ha hWd
  obtain ⟨hl0, hl1⟩ := hl
  obtain ⟨X, hX⟩ : ∃ X, X = w.alloc (.cells #[.bool six, .int .u64 (h : Int), .int .u64 (l : Int), .int .i64 len] 33) := ⟨_, rfl⟩
  have hB0 : Below w.heap.size w X := by rw [hX]; exact below_new (Below.refl _ _) _
  have r1 : RowAt X w.heap.size [.bool six, .int .u64 (h : Int), .int .u64 (l : Int), .int .i64 len] 33 := by rw [hX]; exact RowAt.new _ _ _
  have q0 : ∀ p : Bl X, p.W.cell? ⟨w.heap.size, 0, none⟩ = some (.bool six) := fun p => (r1.below p.h).cell 0
  have q1 : ∀ p : Bl X, p.W.cell? ⟨w.heap.size, 1, none⟩ = some (.int .u64 (h : Int)) := fun p => (r1.below p.h).cell 1
  have q2 : ∀ p : Bl X, p.W.cell? ⟨w.heap.size, 2, none⟩ = some (.int .u64 (l : Int)) := fun p => (r1.below p.h).cell 2
  have q3 : ∀ p : Bl X, p.W.cell? ⟨w.heap.size, 3, none⟩ = some (.int .i64 len) := fun p => (r1.below p.h).cell 3
  by_cases h0 : len < 0
  · have d0 : decide (len < 0) = true := decide_eq_true h0
    have HV : Hid (R = 2) := HB1.out (by omega)
    clear HB1 HB2 HB3 cb
    go_enter Try.func21, Try.ntmps21
    go_wp2_with fail
    rw [← hX]
    clear hX
    haveI := bl_ne X
    refine wp_region_bl (by kernel_rfl) (by kernel_rfl) ?_
    repeat (quiet_step (first | (go_at_call 37; with_reducible exact bl_same (cs _)) | (go_at_call 13; with_reducible exact bl_call (cr _))))
    refine wpQuiet_nil ?_
    intro wq hw'
    obtain ⟨⟨wz, hq⟩, hw2⟩ := hw'
    subst hw2
    have hW := below2 hB0 hq
    go_wp2_with fail
    go_ret
    exact ⟨by rw [HV.out]; rfl, hW⟩
  have d0 : decide (len < 0) = false := decide_eq_false h0
  by_cases h1 : (W : Int) < len
  · have d1 : decide ((W : Int) < len) = true := decide_eq_true h1
    have HV : Hid (R = 2) := HB1.out (by omega)
    clear HB1 HB2 HB3 cb
    go_enter Try.func21, Try.ntmps21
    go_wp2_with fail
    rw [← hX]
    clear hX
    haveI := bl_ne X
    refine wp_region_bl (by kernel_rfl) (by kernel_rfl) ?_
    repeat (quiet_step (first | (go_at_call 37; with_reducible exact bl_same (cs _)) | (go_at_call 13; with_reducible exact bl_call (cr _))))
    refine wpQuiet_nil ?_
    intro wq hw'
    obtain ⟨⟨wz, hq⟩, hw2⟩ := hw'
    subst hw2
    have hW := below2 hB0 hq
    go_wp2_with fail
    go_ret
    exact ⟨by rw [HV.out]; rfl, hW⟩
  have d1 : decide ((W : Int) < len) = false := decide_eq_false h1
  cases B with
  | false =>
    have HV : Hid (R = 2) := HB2.out rfl
    clear HB1 HB2 HB3 cb
    go_enter Try.func21, Try.ntmps21
    go_wp2_with fail
    rw [← hX]
    clear hX
    haveI := bl_ne X
    refine wp_region_bl (by kernel_rfl) (by kernel_rfl) ?_
    repeat (quiet_step (first | (go_at_call 37; with_reducible exact bl_same (cs _)) | (go_at_call 13; with_reducible exact bl_call (cr _))))
    refine wpQuiet_nil ?_
    intro wq hw'
    obtain ⟨⟨wz, hq⟩, hw2⟩ := hw'
    subst hw2
    have hW := below2 hB0 hq
    go_wp2_with fail
    go_ret
    exact ⟨by rw [HV.out]; rfl, hW⟩
  | true =>
    obtain ⟨hA, hC⟩ := HB3.out ⟨by omega, by omega⟩ rfl
    have HA : Hid ((∀ j, j < W → len ≤ (j : Int) → n.testBit (W - 1 - j) = false) → R = 0) := hA
    have HC : Hid (∀ j, j < W → len ≤ (j : Int) → n.testBit (W - 1 - j) = true → R = 2) := hC
    clear HB1 HB2 HB3 hA hC
    go_enter Try.func21, Try.ntmps21
    go_wp2_with fail
    rw [← hX]
    clear hX
    haveI := bl_ne X
    refine wp_region_bl (by kernel_rfl) (by kernel_rfl) ?_
    repeat (quiet_step (first | (go_at_call 37; with_reducible exact bl_same (cs _)) | (go_at_call 13; with_reducible exact bl_call (cr _))))
    refine wpQuiet_nil ?_
    intro wq hw'
    obtain ⟨⟨wz, hq⟩, hw2⟩ := hw'
    subst hw2
    have hW := below2 hB0 hq
    have r2 := r1.below hq
    clear r1 q0 q1 q2 q3 cs cr this hq hB0
    obtain ⟨q0, q1, q2, q3, qf⟩ := cells4 r2
    go_wp2_with fail
    go_at_call 34; refine (cb _).mono ?_; rintro e w3 ⟨g, rfl, hg, hrow, hb3⟩
    have hW := below2 hW hb3
    have r3 := r2.below hb3
    have hcl : ∀ j, j < W → w3.cell? ⟨g, j, none⟩ = some (.int .i64 ((n.testBit (W - 1 - j)).toNat : Int)) := fun j hj => by
      rw [hrow.cell, celN_get _ _ (by rw [bitL_len]; exact hj), bitL_get W n j hj]
    have HCL : Hid (∀ j, j < W → w3.cell? ⟨g, j, none⟩ = some (.int .i64 ((n.testBit (W - 1 - j)).toNat : Int))) := hcl
    clear q0 q1 q2 q3 qf cb hg hrow hcl r2 hb3
    obtain ⟨q0, q1, q2, q3, qf⟩ := cells4 r3
    clear r3
    go_wp2_with fail
    go_loop [30] (fun i => ∃ k : Nat, k ≤ W ∧ i = .int .i64 (k : Int) ∧ Hid (∀ j, j < k → len ≤ (j : Int) → n.testBit (W - 1 - j) = false)) (fun i => W - (intOf i).toNat)
    case atStart => exact ⟨0, by omega, rfl, fun j hj => by omega⟩
    case round =>
      obtain ⟨k, hk, rfl, HK⟩ := hrel
      by_cases hlt : k < W
      · have hki : (k : Int) < (W : Int) := by omega
        have hc := HCL.out k hlt
        by_cases hlk : len ≤ (k : Int)
        · have dl : decide (len ≤ (k : Int)) = true := decide_eq_true hlk
          cases hbt : n.testBit (W - 1 - k) with
          | false =>
            rw [hbt] at hc
            simp only [Bool.toNat_false, Int.natCast_zero] at hc
            have HK2 : Hid (∀ j, j < k + 1 → len ≤ (j : Int) → n.testBit (W - 1 - j) = false) := fun j hj hjl => by
              by_cases hjk : j < k
              · exact HK.out j hjk hjl
              · rw [show j = k by omega, hbt]
            clear hbt
            go_wp2_with fail
            go_round
            case rel => exact ⟨k + 1, by omega, by go_num, HK2⟩
            case measure => simp [intOf]; omega
          | true =>
            rw [hbt] at hc
            simp only [Bool.toNat_true, Int.natCast_one] at hc
            have HV : Hid (R = 2) := HC.out k hlt hlk hbt
            clear hbt
            go_wp2_with fail
            go_ret
            exact ⟨by rw [HV.out]; rfl, hW⟩
        · have dl : decide (len ≤ (k : Int)) = false := decide_eq_false hlk
          have HK2 : Hid (∀ j, j < k + 1 → len ≤ (j : Int) → n.testBit (W - 1 - j) = false) := fun j hj hjl => by
            by_cases hjk : j < k
            · exact HK.out j hjk hjl
            · omega
          go_wp2_with fail
          go_round
          case rel => exact ⟨k + 1, by omega, by go_num, HK2⟩
          case measure => simp [intOf]; omega
      · obtain rfl : k = W := by omega
        have HV : Hid (R = 0) := HA.out HK.out
        clear HK
        go_wp2_with fail
        go_ret
        exact ⟨by rw [HV.out]; rfl, hW⟩
set_option maxHeartbeats 2000000 in
set_option maxRecDepth 20000 in
theorem rlast_any (p : Pf) (w : World) (hl : -9223372036854775808 ≤ p.len ∧ p.len ≤ 9223372036854775807) (ha : p.n < 2 ^ 128) : Calls Try.prog 17 #[pfV p] w fun e w' => e = .returned (.tuple #[adV (lastE p).1, .int .i64 (lastE p).2]) ∧ Below w.heap.size w w' := by
  have cc := fun w => rcheck_any p w hl ha
  obtain ⟨X, hX⟩ : ∃ X, X = (w.alloc (.cells #[.bool p.six, .int .u64 (hiN p.n : Int), .int .u64 (loN p.n : Int), .int .i64 p.len] 33)).alloc (.cells #[.int .u64 0, .int .u64 0] 24) := ⟨_, rfl⟩
  have hB0 : Below w.heap.size w X := by rw [hX]; exact below_new (below_new (Below.refl _ _) _) _
  have r0 : RowAt X w.heap.size [.bool p.six, .int .u64 (hiN p.n : Int), .int .u64 (loN p.n : Int), .int .i64 p.len] 33 := by rw [hX]; exact (RowAt.new _ _ _).alloc _
  have r1 : RowAt X (w.heap.size + 1) [.int .u64 0, .int .u64 0] 24 := by rw [hX, ← World.size_alloc w (.cells #[.bool p.six, .int .u64 (hiN p.n : Int), .int .u64 (loN p.n : Int), .int .i64 p.len] 33)]; exact RowAt.new _ _ _
  cases hok : okP p
  · have e1 : lastE p = (0, 2) := by unfold lastE; rw [hok]; rfl
    rw [e1]
    rw [checkP_bad hok] at cc
    have hz : adV 0 = .agg #[.int .u64 0, .int .u64 0] := rfl
    simp only [hz]
    unfold pfV at *
    generalize hiN p.n = h at *
    generalize loN p.n = l at *
    generalize p.six = six at *
    generalize p.len = len at *
    clear hok e1 ha hl hz
    go_enter Try.func17, Try.ntmps17
    go_wp2_with fail
    go_at_call 21; refine (cc _).mono ?_; rintro e w2 ⟨rfl, hb2⟩
    rw [← hX] at hb2
    have hW := below2 hB0 hb2
    obtain ⟨q0, q1, qf⟩ := cells2 (r1.below hb2)
    clear hX cc r1 hB0 hb2
    go_wp2_with fail
    (try simp only [Exit.inBlock, Exit.then])
    refine bodyPost_ret (v := .tuple #[.agg #[.int .u64 0, .int .u64 0], .int .i64 2]) ?_ rfl ⟨rfl, ?_⟩
    · rw [results_cell_tmp rfl]
      go_simp
    · repeat' (first | with_reducible exact hW | with_reducible apply below_new | with_reducible refine bset ?_ (by omega))
  · have e1 : lastE p = (p.n + freeN (kP p), 0) := by unfold lastE; rw [hok]; rfl
    rw [e1]
    rw [checkP_ok hok] at cc
    have cb := fun w => rbits_any p.six p.n w ha
    have hWl := wideN_le p.six
    have hle := (okP_iff.1 hok).1
    have hklen := okP_len hok
    have HLB : Hid (∀ m, (∀ j, j < wideN p.six → m.testBit j = if j < kP p then true else p.n.testBit j) → m % 2 ^ wideN p.six = p.n + freeN (kP p)) := fun m h => last_bits hklen.1 (okP_lt hok) (okP_zero hok) h
    have HOF : Hid (∀ m g w, RowAt w g (celN (bitL (wideN p.six) m)) 3 → Calls Try.prog 35 #[.slice (some ⟨g, 0, none⟩) (wideN p.six) (wideN p.six)] w fun e w' => e = .returned (adV (m % 2 ^ wideN p.six)) ∧ Below w.heap.size w w') := fun m g w h => rof_row _ m g w hWl h
    unfold BitsIs at cb
    rw [bitL_len] at cb
    obtain ⟨K, hK⟩ : ∃ K, K = kP p := ⟨_, rfl⟩
    rw [← hK] at HLB hklen ⊢
    have HV : Hid (adV (p.n + freeN K) = .agg #[.int .u64 (hiN (p.n + freeN K) : Int), .int .u64 (loN (p.n + freeN K) : Int)]) := rfl
    unfold pfV at *
    simp only
    generalize adV (p.n + freeN K) = V at HV ⊢
    obtain ⟨six, n, len⟩ := p
    simp only at *
    unfold adV at cb
    obtain ⟨W, hWd⟩ : ∃ W, W = wideN six := ⟨_, rfl⟩
    rw [← hWd] at cb hWl hle hklen HLB HOF
    obtain ⟨L, hL⟩ : ∃ L : Nat, len = (L : Int) := ⟨len.toNat, by omega⟩
    subst hL
    have hKL : K + L = W := by omega
    have HKL : Hid (K + L = W) := hKL
    have hLW : L ≤ W := by omega
    have hWi : (W : Int) ≤ 128 := by omega
    clear hok e1 ha hl hWd hK hklen hKL hle hWl
    go_enter Try.func17, Try.ntmps17
    go_wp2_with fail
    go_at_call 21; refine (cc _).mono ?_; rintro e w2 ⟨rfl, hb2⟩
    rw [← hX] at hb2
    have hs2 : w.heap.size + 2 ≤ X.heap.size := by rw [hX]; simp
    have hsX := hb2.size
    have hW := below2 hB0 hb2
    have r0 := r0.below hb2
    have r1 := r1.below hb2
    obtain ⟨q0, q1, q2, q3, qf⟩ := cells4 r0
    clear hX cc hB0 hb2
    go_wp2_with fail
    go_at_call 34; refine (cb _).mono ?_; rintro e w3 ⟨g, rfl, hg, hrow, hb3⟩
    have hgw : w.heap.size + 2 ≤ g := by omega
    have hW := below2 hW hb3
    have r0 := r0.below hb3
    have r1 := r1.below hb3
    clear q0 q1 q2 q3 qf cb hg hb3 hsX hs2
    obtain ⟨q0, q1, q2, q3, qf⟩ := cells4 r0
    go_wp2_with fail
    clear q0 q1 q2 q3 qf
    go_loopw [5] (fun i wr => ∃ (k m : Nat), L ≤ k ∧ k ≤ W ∧ i = .int .i64 (k : Int) ∧ Hid (∀ j, j < W → m.testBit j = if W - k ≤ j ∧ j < K then true else n.testBit j) ∧ RowAt wr g (celN (bitL W m)) 3 ∧ RowAt wr (w.heap.size + 1) [.int .u64 0, .int .u64 0] 24 ∧ Below w.heap.size w wr) (fun i _ => W - (intOf i).toNat)
    case atStart => exact ⟨L, n, Nat.le_refl _, hLW, rfl, (fun j hj => by rw [if_neg (by have := HKL.out; omega)]), hrow, r1, hW⟩
    case round =>
      obtain ⟨k, m, hLk, hk, rfl, HM, hr, ra, hb⟩ := hrel
      clear hrow r1 hW r0
      by_cases hlt : k < W
      · have hki : (k : Int) < (W : Int) := by omega
        have hcell : ∃ z : Int, wr.cell? ⟨g, k, none⟩ = some (.int .i64 z) := ⟨_, by rw [hr.cell, celN_get _ _ (by rw [bitL_len]; exact hlt)]⟩
        obtain ⟨z, hcell⟩ := hcell
        have hfz : wr.frozen? ⟨g, k, none⟩ = false := hr.frozen k
        obtain ⟨m2, hm2, hm3⟩ := bitL_set W m (W - 1 - k) true (by omega)
        have hr2 := hr.set1 k (.int .i64 ((true.toNat : Nat) : Int))
        rw [celN_set] at hr2
        rw [show W - 1 - (W - 1 - k) = k by omega] at hm2
        rw [hm2] at hr2
        have HR : Hid (RowAt (wr.setCell ⟨g, k, none⟩ (.int .i64 1)) g (celN (bitL W m2)) 3) := hr2
        have HA : Hid (RowAt (wr.setCell ⟨g, k, none⟩ (.int .i64 1)) (w.heap.size + 1) [.int .u64 0, .int .u64 0] 24) := ra.far1 (by omega) _ _
        have HM2 : Hid (∀ j, j < W → m2.testBit j = if W - (k + 1) ≤ j ∧ j < K then true else n.testBit j) := fun j hj => by
          have := HKL.out
          rw [hm3 j]
          by_cases hjt : j = W - 1 - k
          · rw [if_pos hjt, if_pos (by omega)]
          · rw [if_neg hjt, HM.out j hj]
            by_cases hj2 : W - k ≤ j ∧ j < K
            · rw [if_pos hj2, if_pos (by omega)]
            · rw [if_neg hj2, if_neg (by omega)]
        clear hr hr2 hm2 hm3 ra HM
        go_wp2_with fail
        go_roundw
        case rel => exact ⟨k + 1, m2, by omega, by omega, by go_num, HM2, HR.out, HA.out, bset hb (by omega)⟩
        case measure => simp [intOf]; omega
      · obtain rfl : k = W := by omega
        have hval := HLB.out m (fun j hj => by
          rw [HM.out j hj]
          by_cases hjk : j < K
          · rw [if_pos ⟨by omega, hjk⟩, if_pos hjk]
          · rw [if_neg (fun h => hjk h.2), if_neg hjk])
        have cof := HOF.out m g _ hr
        rw [hval] at cof
        unfold adV at cof
        generalize hiN (n + freeN K) = Fh at *
        generalize loN (n + freeN K) = Fl at *
        clear HM hval hr HLB HOF
        go_wp2_with fail
        go_at_call 35; refine cof.mono ?_; rintro e w4 ⟨rfl, hb4⟩
        have hW4 := below2 hb hb4
        obtain ⟨q0, q1, qf⟩ := cells2 (ra.below hb4)
        clear cof ra hb4
        go_wp2_with fail
        (try simp only [Exit.inBlock, Exit.then])
        refine bodyPost_ret (v := .tuple #[.agg #[.int .u64 (Fh : Int), .int .u64 (Fl : Int)], .int .i64 0]) ?_ rfl ⟨by rw [HV.out], ?_⟩
        · rw [results_cell_tmp rfl]
          go_simp
        · repeat' (first | with_reducible exact hW4 | with_reducible apply below_new | with_reducible refine bset ?_ (by omega))
end Go.Proofs.Ytengicljipfckaa.Addr
