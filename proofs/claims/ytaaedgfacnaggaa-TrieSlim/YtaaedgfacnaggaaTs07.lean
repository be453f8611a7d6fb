/- The document's answer of routes: one, Less, Check. -/
import Derived.Test.YtaaedgfacnaggaaTs06
import Derived.Test.YtaaedgfacnaggaaTs04
import Derived.Test.YtaaedgfacnaggaaTs05
set_option linter.unusedVariables false
namespace Go.Proofs.Ytaaedgfacnaggaa.Addr
open Go.RowKit

theorem check_bits {p : Pf} (h1 : 0 ≤ p.len ∧ p.len ≤ (wideN p.six : Int)) (h2 : rightB p.six p.n = true) :
    ((∀ j, j < wideN p.six → p.len ≤ (j : Int) → p.n.testBit (wideN p.six - 1 - j) = false) → checkP p = 0) ∧ (∀ j, j < wideN p.six → p.len ≤ (j : Int) → p.n.testBit (wideN p.six - 1 - j) = true → checkP p = 2) := by
  have hk : kP p = wideN p.six - p.len.toNat := rfl
  constructor
  · intro h
    apply checkP_ok
    rw [okP_first h1 h2]
    apply decide_eq_true
    rw [first_eq, mod_zero_bits]
    intro j hj
    have := h (wideN p.six - 1 - j) (by omega) (by omega)
    rwa [show wideN p.six - 1 - (wideN p.six - 1 - j) = j by omega] at this
  · intro j hj hl hb
    apply checkP_bad
    rw [okP_first h1 h2]
    apply decide_eq_false
    rw [first_eq, mod_zero_bits]
    intro h
    have := h (wideN p.six - 1 - j) (by omega)
    rw [hb] at this
    simp at this
set_option maxHeartbeats 2000000 in
set_option maxRecDepth 20000 in
theorem rcheck_any (p : Pf) (w : World) (hl : -9223372036854775808 ≤ p.len ∧ p.len ≤ 9223372036854775807) (ha : p.n < 2 ^ 128) : Calls Try.prog 27 #[pfV p] w fun e w' => e = .returned (.int .i64 (checkP p)) ∧ Below w.heap.size w w' := by
  have cs := fun w => rwide_any p.six w
  have cr := fun w => rright_any p.six p.n w ha
  have cb := fun w => rbits_any p.six p.n w ha
  have hw : (wideN p.six : Int) ≤ 128 := by have := wideN_le p.six; omega
  have HB1 : Hid (¬ (0 ≤ p.len ∧ p.len ≤ (wideN p.six : Int)) → checkP p = 2) := fun h => checkP_bad (okP_len_bad h)
  have HB2 : Hid (rightB p.six p.n = false → checkP p = 2) := fun h => checkP_bad (okP_right h)
  have HB3 : Hid (0 ≤ p.len ∧ p.len ≤ (wideN p.six : Int) → rightB p.six p.n = true → ((∀ j, j < wideN p.six → p.len ≤ (j : Int) → p.n.testBit (wideN p.six - 1 - j) = false) → checkP p = 0) ∧ (∀ j, j < wideN p.six → p.len ≤ (j : Int) → p.n.testBit (wideN p.six - 1 - j) = true → checkP p = 2)) := check_bits
  unfold BitsIs at cb
  rw [bitL_len] at cb
  generalize checkP p = R at *
  generalize rightB p.six p.n = B at *
  obtain ⟨six, n, len⟩ := p
  simp only at *
  unfold pfV adV at *
  simp only at *
  generalize hiN n = h at *
  generalize loN n = l at *
  obtain ⟨W, hWd⟩ : ∃ W, W = wideN six := ⟨_, rfl⟩
  rw [← hWd] at cb cs hw HB1 HB3
  clear ha hWd
  obtain ⟨hl0, hl1⟩ := hl
  obtain ⟨X, hX⟩ : ∃ X, X = w.alloc (.cells #[.bool six, .int .u64 (h : Int), .int .u64 (l : Int), .int .i64 len] 32) := ⟨_, rfl⟩
  have hB0 : Below w.heap.size w X := by rw [hX]; exact below_new (Below.refl _ _) _
  have r1 : RowAt X w.heap.size [.bool six, .int .u64 (h : Int), .int .u64 (l : Int), .int .i64 len] 32 := by rw [hX]; exact RowAt.new _ _ _
  have q0 : ∀ p : Bl X, p.W.cell? ⟨w.heap.size, 0, none⟩ = some (.bool six) := fun p => (r1.below p.h).cell 0
  have q1 : ∀ p : Bl X, p.W.cell? ⟨w.heap.size, 1, none⟩ = some (.int .u64 (h : Int)) := fun p => (r1.below p.h).cell 1
  have q2 : ∀ p : Bl X, p.W.cell? ⟨w.heap.size, 2, none⟩ = some (.int .u64 (l : Int)) := fun p => (r1.below p.h).cell 2
  have q3 : ∀ p : Bl X, p.W.cell? ⟨w.heap.size, 3, none⟩ = some (.int .i64 len) := fun p => (r1.below p.h).cell 3
  by_cases h0 : len < 0
  · have d0 : decide (len < 0) = true := decide_eq_true h0
    have HV : Hid (R = 2) := HB1.out (by omega)
    clear HB1 HB2 HB3 cb
    go_enter Try.func27, Try.ntmps27
    go_wp2_with fail
    rw [← hX]
    clear hX
    haveI := bl_ne X
    refine wp_region_bl (by kernel_rfl) (by kernel_rfl) ?_
    repeat (quiet_step (first | (go_at_call 49; with_reducible exact bl_same (cs _)) | (go_at_call 50; with_reducible exact bl_call (cr _))))
    refine wpQuiet_nil ?_
    intro wq hw'
    obtain ⟨⟨wz, hq⟩, hw2⟩ := hw'
    subst hw2
    have hW := below2 hB0 hq
    go_wp2_with fail
    go_ret
    exact ⟨by rw [HV.out]; rfl, hW⟩
  have d0 : decide (len < 0) = false := decide_eq_false h0
  by_cases h1 : (W : Int) < len
  · have d1 : decide ((W : Int) < len) = true := decide_eq_true h1
    have HV : Hid (R = 2) := HB1.out (by omega)
    clear HB1 HB2 HB3 cb
    go_enter Try.func27, Try.ntmps27
    go_wp2_with fail
    rw [← hX]
    clear hX
    haveI := bl_ne X
    refine wp_region_bl (by kernel_rfl) (by kernel_rfl) ?_
    repeat (quiet_step (first | (go_at_call 49; with_reducible exact bl_same (cs _)) | (go_at_call 50; with_reducible exact bl_call (cr _))))
    refine wpQuiet_nil ?_
    intro wq hw'
    obtain ⟨⟨wz, hq⟩, hw2⟩ := hw'
    subst hw2
    have hW := below2 hB0 hq
    go_wp2_with fail
    go_ret
    exact ⟨by rw [HV.out]; rfl, hW⟩
  have d1 : decide ((W : Int) < len) = false := decide_eq_false h1
  cases B with
  | false =>
    have HV : Hid (R = 2) := HB2.out rfl
    clear HB1 HB2 HB3 cb
    go_enter Try.func27, Try.ntmps27
    go_wp2_with fail
    rw [← hX]
    clear hX
    haveI := bl_ne X
    refine wp_region_bl (by kernel_rfl) (by kernel_rfl) ?_
    repeat (quiet_step (first | (go_at_call 49; with_reducible exact bl_same (cs _)) | (go_at_call 50; with_reducible exact bl_call (cr _))))
    refine wpQuiet_nil ?_
    intro wq hw'
    obtain ⟨⟨wz, hq⟩, hw2⟩ := hw'
    subst hw2
    have hW := below2 hB0 hq
    go_wp2_with fail
    go_ret
    exact ⟨by rw [HV.out]; rfl, hW⟩
  | true =>
    obtain ⟨hA, hC⟩ := HB3.out ⟨by omega, by omega⟩ rfl
    have HA : Hid ((∀ j, j < W → len ≤ (j : Int) → n.testBit (W - 1 - j) = false) → R = 0) := hA
    have HC : Hid (∀ j, j < W → len ≤ (j : Int) → n.testBit (W - 1 - j) = true → R = 2) := hC
    clear HB1 HB2 HB3 hA hC
    go_enter Try.func27, Try.ntmps27
    go_wp2_with fail
    rw [← hX]
    clear hX
    haveI := bl_ne X
    refine wp_region_bl (by kernel_rfl) (by kernel_rfl) ?_
    repeat (quiet_step (first | (go_at_call 49; with_reducible exact bl_same (cs _)) | (go_at_call 50; with_reducible exact bl_call (cr _))))
    refine wpQuiet_nil ?_
    intro wq hw'
    obtain ⟨⟨wz, hq⟩, hw2⟩ := hw'
    subst hw2
    have hW := below2 hB0 hq
    have r2 := r1.below hq
    clear r1 q0 q1 q2 q3 cs cr this hq hB0
    obtain ⟨q0, q1, q2, q3, qf⟩ := cells4 r2
    go_wp2_with fail
    go_at_call 51; refine (cb _).mono ?_; rintro e w3 ⟨g, rfl, hg, hrow, hb3⟩
    have hW := below2 hW hb3
    have r3 := r2.below hb3
    have hcl : ∀ j, j < W → w3.cell? ⟨g, j, none⟩ = some (.int .i64 ((n.testBit (W - 1 - j)).toNat : Int)) := fun j hj => by
      rw [hrow.cell, celN_get _ _ (by rw [bitL_len]; exact hj), bitL_get W n j hj]
    have HCL : Hid (∀ j, j < W → w3.cell? ⟨g, j, none⟩ = some (.int .i64 ((n.testBit (W - 1 - j)).toNat : Int))) := hcl
    clear q0 q1 q2 q3 qf cb hg hrow hcl r2 hb3
    obtain ⟨q0, q1, q2, q3, qf⟩ := cells4 r3
    clear r3
    go_wp2_with fail
    go_loop [30] (fun i => ∃ k : Nat, k ≤ W ∧ i = .int .i64 (k : Int) ∧ Hid (∀ j, j < k → len ≤ (j : Int) → n.testBit (W - 1 - j) = false)) (fun i => W - (intOf i).toNat)
    case atStart => exact ⟨0, by omega, rfl, fun j hj => by omega⟩
    case round =>
      obtain ⟨k, hk, rfl, HK⟩ := hrel
      by_cases hlt : k < W
      · have hki : (k : Int) < (W : Int) := by omega
        have hc := HCL.out k hlt
        by_cases hlk : len ≤ (k : Int)
        · have dl : decide (len ≤ (k : Int)) = true := decide_eq_true hlk
          cases hbt : n.testBit (W - 1 - k) with
          | false =>
            rw [hbt] at hc
            simp only [Bool.toNat_false, Int.natCast_zero] at hc
            have HK2 : Hid (∀ j, j < k + 1 → len ≤ (j : Int) → n.testBit (W - 1 - j) = false) := fun j hj hjl => by
              by_cases hjk : j < k
              · exact HK.out j hjk hjl
              · rw [show j = k by omega, hbt]
            clear hbt
            go_wp2_with fail
            go_round
            case rel => exact ⟨k + 1, by omega, by go_num, HK2⟩
            case measure => simp [intOf]; omega
          | true =>
            rw [hbt] at hc
            simp only [Bool.toNat_true, Int.natCast_one] at hc
            have HV : Hid (R = 2) := HC.out k hlt hlk hbt
            clear hbt
            go_wp2_with fail
            go_ret
            exact ⟨by rw [HV.out]; rfl, hW⟩
        · have dl : decide (len ≤ (k : Int)) = false := decide_eq_false hlk
          have HK2 : Hid (∀ j, j < k + 1 → len ≤ (j : Int) → n.testBit (W - 1 - j) = false) := fun j hj hjl => by
            by_cases hjk : j < k
            · exact HK.out j hjk hjl
            · omega
          go_wp2_with fail
          go_round
          case rel => exact ⟨k + 1, by omega, by go_num, HK2⟩
          case measure => simp [intOf]; omega
      · obtain rfl : k = W := by omega
        have HV : Hid (R = 0) := HA.out HK.out
        clear HK
        go_wp2_with fail
        go_ret
        exact ⟨by rw [HV.out]; rfl, hW⟩
end Go.Proofs.Ytaaedgfacnaggaa.Addr
namespace Go.Proofs.Ytaaedgfacnaggaa.Msg
open Go.RowKit
open Go.Proofs.Ytaaedgfacnaggaa.Addr (RowAt below_new RowAt.new RowAt.alloc cells2)

set_option maxHeartbeats 2000000 in
theorem acts_any (a : Ac) (w : World) (hf : FitA a) : Calls Try.prog 47 #[acV a] w fun e w' => e = .returned (.bool (okA a)) ∧ Below w.heap.size w w' := by
  have hk : okA a = if (a.k : Int) = 1 then (decide (0 ≤ a.i) && decide (a.i ≤ 65536)) else ((decide ((a.k : Int) = 2) || decide ((a.k : Int) = 3)) && decide (a.i = 0)) := by
    rw [Bool.eq_iff_iff]
    unfold okA
    split <;> simp only [Bool.and_eq_true, Bool.or_eq_true, decide_eq_true_eq] <;> omega
  rw [hk]
  unfold acV
  clear hk hf
  generalize (a.k : Int) = k
  generalize a.i = i
  by_cases h1 : k = 1
  · subst h1
    rw [if_pos rfl]
    cases h2 : decide (0 ≤ i)
    all_goals
      go_enter Try.func47, Try.ntmps47
      go_upto_region 1 with fail
      obtain ⟨Y1, hY⟩ : ∃ Y1, Y1 = w.alloc (.cells #[.int .u8 1, .int .i64 i] 35) := ⟨_, rfl⟩
      have hbY : Below w.heap.size w Y1 := by rw [hY]; exact below_new (Below.refl _ _) _
      have ra : RowAt Y1 w.heap.size [.int .u8 1, .int .i64 i] 35 := by rw [hY]; exact RowAt.new _ _ _
      rw [← hY]
      clear hY
      obtain ⟨u0, u1, uf⟩ := cells2 ra
      go_wp2_with fail
      go_ret
      exact ⟨by simp_all, hbY⟩
  · have h1' : (k == 1) = false := beq_eq_false_iff_ne.2 h1
    rw [if_neg h1]
    by_cases h2 : k = 2
    · subst h2
      cases h3 : decide (i = 0)
      all_goals
        go_enter Try.func47, Try.ntmps47
        go_upto_region 1 with fail
        obtain ⟨Y1, hY⟩ : ∃ Y1, Y1 = w.alloc (.cells #[.int .u8 2, .int .i64 i] 35) := ⟨_, rfl⟩
        have hbY : Below w.heap.size w Y1 := by rw [hY]; exact below_new (Below.refl _ _) _
        have ra : RowAt Y1 w.heap.size [.int .u8 2, .int .i64 i] 35 := by rw [hY]; exact RowAt.new _ _ _
        rw [← hY]
        clear hY
        obtain ⟨u0, u1, uf⟩ := cells2 ra
        go_wp2_with fail
        go_ret
        exact ⟨by simp_all, hbY⟩
    · have h2' : (k == 2) = false := beq_eq_false_iff_ne.2 h2
      by_cases h3 : k = 3
      · subst h3
        cases h4 : decide (i = 0)
        all_goals
          go_enter Try.func47, Try.ntmps47
          go_upto_region 1 with fail
          obtain ⟨Y1, hY⟩ : ∃ Y1, Y1 = w.alloc (.cells #[.int .u8 3, .int .i64 i] 35) := ⟨_, rfl⟩
          have hbY : Below w.heap.size w Y1 := by rw [hY]; exact below_new (Below.refl _ _) _
          have ra : RowAt Y1 w.heap.size [.int .u8 3, .int .i64 i] 35 := by rw [hY]; exact RowAt.new _ _ _
          rw [← hY]
          clear hY
          obtain ⟨u0, u1, uf⟩ := cells2 ra
          go_wp2_with fail
          go_ret
          exact ⟨by simp_all, hbY⟩
      · have h3' : (k == 3) = false := beq_eq_false_iff_ne.2 h3
        go_enter Try.func47, Try.ntmps47
        go_upto_region 1 with fail
        obtain ⟨Y1, hY⟩ : ∃ Y1, Y1 = w.alloc (.cells #[.int .u8 k, .int .i64 i] 35) := ⟨_, rfl⟩
        have hbY : Below w.heap.size w Y1 := by rw [hY]; exact below_new (Below.refl _ _) _
        have ra : RowAt Y1 w.heap.size [.int .u8 k, .int .i64 i] 35 := by rw [hY]; exact RowAt.new _ _ _
        rw [← hY]
        clear hY
        obtain ⟨u0, u1, uf⟩ := cells2 ra
        go_wp2_with fail
        go_ret
        exact ⟨by simp_all, hbY⟩
end Go.Proofs.Ytaaedgfacnaggaa.Msg
namespace Go.Proofs.Ytaaedgfacnaggaa.Tr
open Go.RowKit
open Go.Proofs.Ytaaedgfacnaggaa.Msg (okA)
open Go.Proofs.Ytaaedgfacnaggaa.Lk (HasRow)
open Go.Proofs.Ytaaedgfacnaggaa.Addr (Pf okP cmpN hiN loN RowAt below2 below_new RowAt.cell RowAt.below RowAt.new RowAt.alloc cells4 Bl bl_ne wp_region_bl bl_call)
theorem less_swap (p q : Pf) : decide (ordP p q < 0) = !decide (ordP q p ≤ 0) := by
  have h1 := ordP_lt p q
  have h2 := ordP_gt q p
  by_cases h : ltP p q
  · rw [decide_eq_true (h1.2 h), decide_eq_false (by have := h2.2 h; omega)]; rfl
  · rw [decide_eq_false (fun c => h (h1.1 c)), decide_eq_true (by rcases Int.lt_or_le 0 (ordP q p) with c | c; exact absurd (h2.1 c) h; exact c)]; rfl
set_option maxHeartbeats 2000000 in
theorem one_any (r : Rt) (w : World) (hf : FitR r) : Calls Try.prog 25 #[.agg #[.bool r.pf.six, .int .u64 (hiN r.pf.n : Int), .int .u64 (loN r.pf.n : Int), .int .i64 r.pf.len, .int .u8 (r.act.k : Int), .int .i64 r.act.i]] w fun e w' => e = .returned (.bool (okR r)) ∧ Below w.heap.size w w' := by
  have c1 : ∀ W, Calls Try.prog 27 #[.agg #[.bool r.pf.six, .int .u64 (hiN r.pf.n : Int), .int .u64 (loN r.pf.n : Int), .int .i64 r.pf.len]] W fun e w' => e = .returned (.int .i64 (if okP r.pf then 0 else 2)) ∧ Below W.heap.size W w' := fun W => Addr.rcheck_any r.pf W hf.1.1 hf.1.2
  have c2 : ∀ W, Calls Try.prog 47 #[.agg #[.int .u8 (r.act.k : Int), .int .i64 r.act.i]] W fun e w' => e = .returned (.bool (okA r.act)) ∧ Below W.heap.size W w' := fun W => Msg.acts_any r.act W hf.2
  have hR : okR r = (okP r.pf && okA r.act) := rfl
  rw [hR]
  generalize okP r.pf = kp at c1 ⊢
  generalize okA r.act = ka at c2 ⊢
  generalize r.pf.six = z0 at *
  generalize (hiN r.pf.n : Int) = z1 at *
  generalize (loN r.pf.n : Int) = z2 at *
  generalize r.pf.len = z3 at *
  generalize (r.act.k : Int) = z4 at *
  generalize r.act.i = z5 at *
  clear hf
  obtain ⟨X, hX⟩ : ∃ X, X = w.alloc (.cells #[.bool z0, .int .u64 z1, .int .u64 z2, .int .i64 z3, .int .u8 z4, .int .i64 z5] 37) := ⟨_, rfl⟩
  have hB : Below w.heap.size w X := by rw [hX]; exact below_new (Below.refl _ _) _
  have r0 : RowAt X w.heap.size [.bool z0, .int .u64 z1, .int .u64 z2, .int .i64 z3, .int .u8 z4, .int .i64 z5] 37 := by rw [hX]; exact RowAt.new _ _ _
  go_enter Try.func25, Try.ntmps25
  go_upto_region 1 with fail
  rw [← hX]
  clear hX
  have s0 := RowAt.cell r0 0
  have s1 := RowAt.cell r0 1
  have s2 := RowAt.cell r0 2
  have s3 := RowAt.cell r0 3
  simp only [List.getElem?_cons_succ, List.getElem?_cons_zero] at s0 s1 s2 s3
  go_wp2_with fail
  clear s0 s1 s2 s3
  go_at_call 27; refine (c1 _).mono ?_; rintro e w1 ⟨rfl, hb1⟩
  replace hB := below2 hB hb1
  replace r0 := RowAt.below r0 hb1
  clear hb1 c1
  cases kp
  · go_wp2_with fail
    go_ret
    exact ⟨rfl, hB⟩
  · have s4 := RowAt.cell r0 4
    have s5 := RowAt.cell r0 5
    simp only [List.getElem?_cons_succ, List.getElem?_cons_zero] at s4 s5
    go_wp2_with fail
    clear s4 s5
    go_at_call 47; refine (c2 _).mono ?_; rintro e w2 ⟨rfl, hb2⟩
    replace hB := below2 hB hb2
    go_wp2_with fail
    go_ret
    exact ⟨by cases ka <;> rfl, hB⟩
set_option maxHeartbeats 2000000 in
theorem less_any (p q : Pf) (w : World) (hp : FitP p) (hq : FitP q) : Calls Try.prog 26 #[.agg #[.bool p.six, .int .u64 (hiN p.n : Int), .int .u64 (loN p.n : Int), .int .i64 p.len], .agg #[.bool q.six, .int .u64 (hiN q.n : Int), .int .u64 (loN q.n : Int), .int .i64 q.len]] w fun e w' => e = .returned (.bool (decide (ordP p q < 0))) ∧ Below w.heap.size w w' := by
  have c1 : ∀ W, Calls Try.prog 48 #[.agg #[.int .u64 (hiN p.n : Int), .int .u64 (loN p.n : Int)], .agg #[.int .u64 (hiN q.n : Int), .int .u64 (loN q.n : Int)]] W fun e w' => e = .returned (.int .i64 (cmpN p.n q.n)) ∧ Below W.heap.size W w' := fun W => Addr.rcmp_any p.n q.n W hp.2 hq.2
  have HR : Hid (decide (ordP p q < 0) = if p.six = q.six then (decide (cmpN p.n q.n < 0) || (decide (cmpN p.n q.n = 0) && decide (p.len < q.len))) else q.six) := by
    show _ = _
    unfold ordP cmpN cmpI kindN
    cases p.six <;> cases q.six <;> simp <;> (repeat' split) <;> simp_all <;> omega
  generalize decide (ordP p q < 0) = D at HR ⊢
  generalize cmpN p.n q.n = C at c1 HR
  generalize p.six = ps at *
  generalize q.six = qs at *
  generalize (hiN p.n : Int) = p1 at *
  generalize (loN p.n : Int) = p2 at *
  generalize (hiN q.n : Int) = q1 at *
  generalize (loN q.n : Int) = q2 at *
  generalize p.len = pl at *
  generalize q.len = ql at *
  clear hp hq
  obtain ⟨X, hX⟩ : ∃ X, X = (w.alloc (.cells #[.bool ps, .int .u64 p1, .int .u64 p2, .int .i64 pl] 32)).alloc (.cells #[.bool qs, .int .u64 q1, .int .u64 q2, .int .i64 ql] 32) := ⟨_, rfl⟩
  have hB : Below w.heap.size w X := by rw [hX]; exact below_new (below_new (Below.refl _ _) _) _
  have r0 : RowAt X w.heap.size [.bool ps, .int .u64 p1, .int .u64 p2, .int .i64 pl] 32 := by rw [hX]; exact (RowAt.new _ _ _).alloc _
  have r1 : RowAt X (w.heap.size + 1) [.bool qs, .int .u64 q1, .int .u64 q2, .int .i64 ql] 32 := by rw [hX, ← World.size_alloc w (.cells #[.bool ps, .int .u64 p1, .int .u64 p2, .int .i64 pl] 32)]; exact RowAt.new _ _ _
  obtain ⟨a0, a1, a2, a3, af⟩ := cells4 r0
  obtain ⟨b0, b1, b2, b3, bf⟩ := cells4 r1
  by_cases hs : ps = qs
  · have HV : Hid (D = (decide (C < 0) || (decide (C = 0) && decide (pl < ql)))) := by show _ = _; rw [HR.out, if_pos hs]
    clear HR
    subst hs
    go_enter Try.func26, Try.ntmps26
    go_upto_region 1 with fail
    rw [← hX]
    clear hX
    go_wp2_with fail
    clear a0 a1 a2 a3 af b0 b1 b2 b3 bf
    go_at_call 48; refine (c1 _).mono ?_; rintro e w1 ⟨rfl, hb1⟩
    replace hB := below2 hB hb1
    obtain ⟨a0, a1, a2, a3, af⟩ := cells4 (RowAt.below r0 hb1)
    obtain ⟨b0, b1, b2, b3, bf⟩ := cells4 (RowAt.below r1 hb1)
    clear hb1 c1 r0 r1
    by_cases hC : C < 0
    · have HW : Hid (D = true) := by show _ = _; rw [HV.out, decide_eq_true hC]; rfl
      have hCb : decide (C < 0) = true := decide_eq_true hC
      clear HV hC
      go_wp2_with fail
      go_ret
      exact ⟨by rw [HW.out]; rfl, hB⟩
    · have hCb : decide (C < 0) = false := decide_eq_false hC
      by_cases hC0 : C = 0
      · have HW : Hid (D = decide (pl < ql)) := by show _ = _; rw [HV.out, decide_eq_false hC, decide_eq_true hC0]; simp
        have hCe : (C == 0) = true := by simpa using hC0
        clear HV hC hC0
        go_wp2_with fail
        go_ret
        exact ⟨by rw [HW.out]; rfl, hB⟩
      · have HW : Hid (D = false) := by show _ = _; rw [HV.out, decide_eq_false hC, decide_eq_false hC0]; simp
        have hCe : (C == 0) = false := by simpa using hC0
        clear HV hC hC0
        go_wp2_with fail
        go_ret
        exact ⟨by rw [HW.out]; rfl, hB⟩
  · have HV : Hid (D = qs) := by show _ = _; rw [HR.out, if_neg hs]
    clear HR
    cases ps <;> cases qs
    any_goals exact absurd rfl hs
    all_goals clear hs
    all_goals go_enter Try.func26, Try.ntmps26
    all_goals go_upto_region 1 with fail
    all_goals rw [← hX]
    all_goals clear hX
    all_goals go_wp2_with fail
    all_goals go_ret
    all_goals exact ⟨by rw [HV.out]; rfl, hB⟩
set_option maxHeartbeats 8000000 in
set_option maxRecDepth 20000 in
theorem rcheck_any (l : List Rt) (v : Value) (w : World) (h : HasRts w v l) (hfit : ∀ r ∈ l, FitR r) :
    Calls Try.prog 12 #[v] w fun e w' => e = .returned (.int .i64 (checkT l)) ∧ Below w.heap.size w w' := by
  obtain ⟨o, c, rfl, hc1, hc2⟩ := Lk.HasRow.slice h
  have HR : Hid (∀ wr : World, Below w.heap.size w wr → HasRts wr (.slice o l.length c) l) := fun wr hb => h.keep hb
  obtain ⟨n, hn⟩ : ∃ n, n = l.length := ⟨_, rfl⟩
  have HN : Hid (n = l.length) := hn
  rw [← hn] at HR hc1 ⊢
  have HC : Hid (checkT l = if (decide (n ≤ 256) && rise none l) then 0 else 2) := by show _ = _; unfold checkT okT; rw [← hn]
  generalize checkT l = R at HC ⊢
  clear h hn
  by_cases h256 : 256 < n
  · have HV : Hid (R = 2) := by show _ = _; rw [HC.out, decide_eq_false (by omega)]; rfl
    have q1 : decide ((256 : Int) < (n : Int)) = true := decide_eq_true (by omega)
    have q2 : decide (256 < n) = true := decide_eq_true h256
    clear HC HR
    go_enter Try.func12, Try.ntmps12
    go_wp2_with fail
    go_ret
    exact ⟨by first | (rw [HV.out]; rfl) | rfl, Below.refl _ _⟩
  · have HD : Hid (R = if rise none l then 0 else 2) := by show _ = _; rw [HC.out, decide_eq_true (by omega)]; rfl
    have hni : (n : Int) ≤ 256 := by omega
    have q1 : decide ((256 : Int) < (n : Int)) = false := decide_eq_false (by omega)
    have q2 : decide (256 < n) = false := decide_eq_false h256
    clear HC h256
    go_enter Try.func12, Try.ntmps12
    go_wp2_with fail
    go_loopw [10] (fun i wr => ∃ k : Nat, k ≤ n ∧ i = .int .i64 k ∧ Below w.heap.size w wr ∧ Hid (rise none l = rise (prevR l k) (l.drop k))) (fun i _ => n - (Go.RowKit.intOf i).toNat)
    case atStart => exact ⟨0, by omega, rfl, Below.refl _ _, (rfl : rise none l = _)⟩
    case round =>
      obtain ⟨k, hk, rfl, hB, HG⟩ := hrel
      have hh := HR.out _ hB
      by_cases hlt : k < n
      · have hkz : k < l.length := by rw [← HN.out]; exact hlt
        obtain ⟨g1, i1, rfl, hg1, ax⟩ := HasRts.cell hh k hkz
        obtain ⟨a0, a1, a2, a3, a4, a5⟩ := six_at ax
        clear ax
        have hfk := hfit l[k] (List.getElem_mem hkz)
        have cr := fun W : World => one_any l[k] W hfk
        have hki : (k : Int) < (n : Int) := by omega
        have HB1 : Hid (okR l[k] = false → R = 2) := fun h => round_bad hkz HD.out HG.out h
        have HB2 : Hid (okR l[k] = true → k = 0 → rise none l = rise (prevR l 1) (l.drop 1)) := fun h h0 => round_first hkz HG.out h h0
        have HB3 : Hid (okR l[k] = true → ∀ (j : Nat) (hj : j < l.length), k = j + 1 → (decide (ordP l[k].pf l[j].pf ≤ 0) = false → rise none l = rise (prevR l (k + 1)) (l.drop (k + 1))) ∧ (decide (ordP l[k].pf l[j].pf ≤ 0) = true → R = 2)) := fun h j hj h0 => round_next hkz HD.out HG.out h h0 hj
        have HCO : Hid (∀ (j : Nat) (hj : j < l.length) (W : World), Calls Try.prog 26 #[.agg #[.bool l[j].pf.six, .int .u64 (hiN l[j].pf.n : Int), .int .u64 (loN l[j].pf.n : Int), .int .i64 l[j].pf.len], .agg #[.bool l[k].pf.six, .int .u64 (hiN l[k].pf.n : Int), .int .u64 (loN l[k].pf.n : Int), .int .i64 l[k].pf.len]] W fun e w' => e = .returned (.bool (!decide (ordP l[k].pf l[j].pf ≤ 0))) ∧ Below W.heap.size W w') := fun j hj W => by
          have h := less_any l[j].pf l[k].pf W (hfit l[j] (List.getElem_mem hj)).1 hfk.1
          rw [less_swap] at h
          exact h
        clear HG hfk
        generalize okR l[k] = B1 at cr HB1 HB2 HB3
        obtain ⟨rk, hrk⟩ : ∃ rk, rk = l[k] := ⟨_, rfl⟩
        rw [← hrk] at a0 a1 a2 a3 a4 a5 cr HB3 HCO
        clear hrk
        have HPX : Hid (∀ p q, ordP rk.pf q = p → ordP rk.pf q = p) := fun _ _ h => h
        obtain ⟨rp, ra⟩ := rk
        obtain ⟨s0, sn, s3⟩ := rp
        obtain ⟨sk, s5⟩ := ra
        simp only at a0 a1 a2 a3 a4 a5 cr HCO HB3
        generalize (hiN sn : Int) = s1 at a1 cr HCO
        generalize (loN sn : Int) = s2 at a2 cr HCO
        generalize (sk : Int) = s4 at a4 cr
        clear HPX
        go_upto_region 6 with fail
        obtain ⟨X, hX⟩ : ∃ X, X = wr.alloc (.cells #[.bool s0, .int .u64 s1, .int .u64 s2, .int .i64 s3, .int .u8 s4, .int .i64 s5] 37) := ⟨_, rfl⟩
        have hbX : Below wr.heap.size wr X := by rw [hX]; exact below_new (Below.refl _ _) _
        have rx : RowAt X wr.heap.size [.bool s0, .int .u64 s1, .int .u64 s2, .int .i64 s3, .int .u8 s4, .int .i64 s5] 37 := by rw [hX]; exact RowAt.new _ _ _
        rw [← hX]
        have hBX := below2 hB hbX
        have hhX := hh.keep hbX
        clear hX
        obtain ⟨gs, hgs⟩ : ∃ g, g = wr.heap.size := ⟨_, rfl⟩
        rw [← hgs] at rx ⊢
        clear hgs a0 a1 a2 a3 a4 a5 hg1
        have m0 : ∀ p : Bl X, p.W.cell? ⟨gs, 0, none⟩ = some (.bool s0) := fun p => (rx.below p.h).cell 0
        have m1 : ∀ p : Bl X, p.W.cell? ⟨gs, 1, none⟩ = some (.int .u64 s1) := fun p => (rx.below p.h).cell 1
        have m2 : ∀ p : Bl X, p.W.cell? ⟨gs, 2, none⟩ = some (.int .u64 s2) := fun p => (rx.below p.h).cell 2
        have m3 : ∀ p : Bl X, p.W.cell? ⟨gs, 3, none⟩ = some (.int .i64 s3) := fun p => (rx.below p.h).cell 3
        have m4 : ∀ p : Bl X, p.W.cell? ⟨gs, 4, none⟩ = some (.int .u8 s4) := fun p => (rx.below p.h).cell 4
        have m5 : ∀ p : Bl X, p.W.cell? ⟨gs, 5, none⟩ = some (.int .i64 s5) := fun p => (rx.below p.h).cell 5
        haveI := bl_ne X
        cases B1
        · have HV : Hid (R = 2) := HB1.out rfl
          clear HB1 HB2 HB3 HD hh hhX
          refine wp_region_bl (by kernel_rfl) (by kernel_rfl) ?_
          repeat (go_big_quiet_step (first | (go_at_call 25; with_reducible exact bl_call (cr _))))
          refine wpQuiet_nil ?_
          intro wq hw'
          obtain ⟨⟨wz, hq⟩, hw2⟩ := hw'
          subst hw2
          have hW := below2 hBX hq
          go_wp2_with fail
          go_ret
          exact ⟨by first | (rw [HV.out]; rfl) | rfl, hW⟩
        · by_cases hk0 : k = 0
          · have HS1 : Hid (rise none l = rise (prevR l 1) (l.drop 1)) := HB2.out rfl hk0
            clear HB1 HB2 HB3 hh hhX
            have hz1 : decide ((0 : Int) < (k : Int)) = false := decide_eq_false (by omega)
            have hz2 : decide (0 < k) = false := decide_eq_false (by omega)
            have HK : Hid (k = 0) := hk0
            clear hk0
            refine wp_region_bl (by kernel_rfl) (by kernel_rfl) ?_
            repeat (go_big_quiet_step (first | (go_at_call 25; with_reducible exact bl_call (cr _))))
            refine wpQuiet_nil ?_
            intro wq hw'
            obtain ⟨⟨wz, hq⟩, hw2⟩ := hw'
            subst hw2
            have hW := below2 hBX hq
            go_wp2_with fail
            go_roundw
            case rel => exact ⟨k + 1, by omega, by go_num, hW, by rw [HK.out]; exact HS1⟩
            case measure => simp [Go.RowKit.intOf]; omega
          · obtain ⟨j, hj⟩ : ∃ j, k = j + 1 := ⟨k - 1, by omega⟩
            have hj2 : j < l.length := by omega
            obtain ⟨g2, i2, e12, hg2, bx⟩ := HasRts.cell hhX j hj2
            obtain ⟨b0, b1, b2, b3, _, _⟩ := six_at bx
            clear bx
            injection e12 with e12
            injection e12 with e1 e2
            subst e1 e2
            obtain ⟨HN1, HN2⟩ := HB3.out rfl j hj2 hj
            have co := HCO.out j hj2
            clear HCO HB1 HB2 HB3 hh hhX
            generalize ordP ⟨s0, sn, s3⟩ l[j].pf = OR at HN1 HN2 co
            have HN1 : Hid (decide (OR ≤ 0) = false → rise none l = rise (prevR l (k + 1)) (l.drop (k + 1))) := HN1
            have HN2 : Hid (decide (OR ≤ 0) = true → R = 2) := HN2
            generalize l[j].pf.six = t0 at co b0
            generalize (hiN l[j].pf.n : Int) = t1 at co b1
            generalize (loN l[j].pf.n : Int) = t2 at co b2
            generalize l[j].pf.len = t3 at co b3
            have u0 : ∀ p : Bl X, p.W.cell? ⟨g1, i1 + j * 6, none⟩ = some (.bool t0) := fun p => (p.h.cell (p := ⟨g1, i1 + j * 6, none⟩) hg2).trans b0
            have u1 : ∀ p : Bl X, p.W.cell? ⟨g1, i1 + j * 6 + 1, none⟩ = some (.int .u64 t1) := fun p => (p.h.cell (p := ⟨g1, i1 + j * 6 + 1, none⟩) hg2).trans b1
            have u2 : ∀ p : Bl X, p.W.cell? ⟨g1, i1 + j * 6 + 2, none⟩ = some (.int .u64 t2) := fun p => (p.h.cell (p := ⟨g1, i1 + j * 6 + 2, none⟩) hg2).trans b2
            have u3 : ∀ p : Bl X, p.W.cell? ⟨g1, i1 + j * 6 + 3, none⟩ = some (.int .i64 t3) := fun p => (p.h.cell (p := ⟨g1, i1 + j * 6 + 3, none⟩) hg2).trans b3
            clear b0 b1 b2 b3 hg2
            have e1 : (k : Int) - 1 = (j : Int) := by omega
            have e2 : IntKind.i64.wrap (j : Int) = (j : Int) := by rw [IntKind.wrap_i64]; omega
            have hkp : decide ((0 : Int) < (k : Int)) = true := decide_eq_true (by omega)
            have hkp' : decide (0 < k) = true := decide_eq_true (by omega)
            have hjn : (j : Int) < (n : Int) := by omega
            clear hj hk0
            cases B2 : decide (OR ≤ 0)
            · rw [B2] at co
              simp only [Bool.not_false] at co
              have HS1 : Hid (rise none l = rise (prevR l (k + 1)) (l.drop (k + 1))) := HN1.out B2
              clear HN1 HN2
              refine wp_region_bl (by kernel_rfl) (by kernel_rfl) ?_
              repeat (go_big_quiet_step (first | (go_at_call 25; with_reducible exact bl_call (cr _)) | (go_at_call 26; with_reducible exact bl_call (co _))))
              refine wpQuiet_nil ?_
              intro wq hw'
              obtain ⟨⟨wz, hq⟩, hw2⟩ := hw'
              subst hw2
              have hW := below2 hBX hq
              go_wp2_with fail
              go_roundw
              case rel => exact ⟨k + 1, by omega, by go_num, hW, HS1⟩
              case measure => simp [Go.RowKit.intOf]; omega
            · rw [B2] at co
              simp only [Bool.not_true] at co
              have HV : Hid (R = 2) := HN2.out B2
              clear HN1 HN2 HD
              refine wp_region_bl (by kernel_rfl) (by kernel_rfl) ?_
              repeat (go_big_quiet_step (first | (go_at_call 25; with_reducible exact bl_call (cr _)) | (go_at_call 26; with_reducible exact bl_call (co _))))
              refine wpQuiet_nil ?_
              intro wq hw'
              obtain ⟨⟨wz, hq⟩, hw2⟩ := hw'
              subst hw2
              have hW := below2 hBX hq
              go_wp2_with fail
              go_ret
              exact ⟨by first | (rw [HV.out]; rfl) | rfl, hW⟩
      · obtain rfl : k = n := by omega
        have HV : Hid (R = 0) := by
          show _ = _
          rw [HD.out, HG.out, List.drop_of_length_le (by rw [← HN.out]; exact Nat.le_refl _)]
          unfold prevR
          split <;> rfl
        clear hh HG HD
        go_wp2
        go_ret
        exact ⟨by first | (rw [HV.out]; rfl) | rfl, hB⟩
end Go.Proofs.Ytaaedgfacnaggaa.Tr
