/- The document's answer of layer 11: the prefix that bytes begin with, whole. -/
import Derived.Test.YtopabkkapbaibaaGreatMsgRX2
import Derived.Test.YtopabkkapbaibaaGreatMsgGet
import Derived.Test.YtopabkkapbaibaaGreatMsgBackM
set_option linter.unusedVariables false
namespace Go.Proofs.YtopabkkapbaibaaGreat.Msg
open Go.RowKit
open Go.Proofs.YtopabkkapbaibaaGreat.Addr (Pf okP checkP wideN firstN kP hiN loN adV pfV RowAt below2 below_drew below_new bset RowAt.lt RowAt.cell RowAt.frozen RowAt.below RowAt.drew RowAt.new RowAt.alloc gdrew gset gbelow galloc grefl cells2 cells4 results_cell Bl bl_ne wp_region_bl bl_call bl_same)

theorem wrap_byte (b : UInt8) : wrap64 (b.toNat : Int) = (b.toNat : Int) := by
  have := b.toNat_lt
  unfold wrap64
  omega
set_option maxHeartbeats 4000000 in
theorem rgp_short (S : ByteArray) (w : World) (h : (S.size : Int) < 2) :
    Calls Tryz.prog 21 #[.string S] w fun e w' => e = .returned (.tuple #[.agg #[.bool false, .int .u64 0, .int .u64 0, .int .i64 0], .string ⟨#[]⟩, .int .i64 7]) ∧ Below w.heap.size w w' := by
  have q1 : decide ((S.size : Int) < 2) = true := decide_eq_true h
  have q2 : decide (S.size < 2) = true := decide_eq_true (by omega)
  obtain ⟨X, hX⟩ : ∃ X, X = w.alloc (.cells #[.bool false, .int .u64 0, .int .u64 0, .int .i64 0] 30) := ⟨_, rfl⟩
  have hB : Below w.heap.size w X := by rw [hX]; exact below_new (Below.refl _ _) _
  have rx : RowAt X w.heap.size [.bool false, .int .u64 0, .int .u64 0, .int .i64 0] 30 := by rw [hX]; exact RowAt.new _ _ _
  go_enter Tryz.func21, Tryz.ntmps21
  go_upto_region 1 with fail
  rw [← hX]
  clear hX
  obtain ⟨g0, hg0⟩ : ∃ g, g = w.heap.size := ⟨_, rfl⟩
  have hgw : w.heap.size ≤ g0 := by omega
  rw [← hg0] at rx ⊢
  clear hg0
  obtain ⟨x0, x1, x2, x3, xf⟩ := cells4 rx
  have hlx := RowAt.lt rx
  go_wp2_with fail
  refine bodyPost_ret (v := .tuple #[.agg #[.bool false, .int .u64 0, .int .u64 0, .int .i64 0], .string ⟨#[]⟩, .int .i64 7]) ?_ rfl ⟨rfl, ?_⟩
  any_goals (rw [results_cell_tmp2 rfl]; go_simp)
  all_goals (repeat' (first | with_reducible exact hB | with_reducible apply below_drew | with_reducible refine bset ?_ (by omega)))
set_option maxHeartbeats 4000000 in
theorem rgp_mark (S : ByteArray) (w : World) (b0 : UInt8) (h : 2 ≤ (S.size : Int)) (h0 : ∀ h : 0 < S.size, S[0]'h = b0) (h4 : ¬ b0.toNat = 4) (h6 : ¬ b0.toNat = 6) :
    Calls Tryz.prog 21 #[.string S] w fun e w' => e = .returned (.tuple #[.agg #[.bool false, .int .u64 0, .int .u64 0, .int .i64 0], .string ⟨#[]⟩, .int .i64 7]) ∧ Below w.heap.size w w' := by
  have q1 : decide ((S.size : Int) < 2) = false := decide_eq_false (by omega)
  have q2 : decide (S.size < 2) = false := decide_eq_false (by omega)
  have q3 : ((b0.toNat : Int) != 4) = true := bne_iff_ne.2 (by omega)
  have q4 : ((b0.toNat : Int) != 6) = true := bne_iff_ne.2 (by omega)
  have q5 : (b0.toNat != 4) = true := bne_iff_ne.2 h4
  have q6 : (b0.toNat != 6) = true := bne_iff_ne.2 h6
  obtain ⟨X, hX⟩ : ∃ X, X = w.alloc (.cells #[.bool false, .int .u64 0, .int .u64 0, .int .i64 0] 30) := ⟨_, rfl⟩
  have hB : Below w.heap.size w X := by rw [hX]; exact below_new (Below.refl _ _) _
  have rx : RowAt X w.heap.size [.bool false, .int .u64 0, .int .u64 0, .int .i64 0] 30 := by rw [hX]; exact RowAt.new _ _ _
  go_enter Tryz.func21, Tryz.ntmps21
  go_upto_region 1 with fail
  rw [← hX]
  clear hX
  obtain ⟨g0, hg0⟩ : ∃ g, g = w.heap.size := ⟨_, rfl⟩
  have hgw : w.heap.size ≤ g0 := by omega
  rw [← hg0] at rx ⊢
  clear hg0
  obtain ⟨x0, x1, x2, x3, xf⟩ := cells4 rx
  have hlx := RowAt.lt rx
  go_wp2_with fail
  refine bodyPost_ret (v := .tuple #[.agg #[.bool false, .int .u64 0, .int .u64 0, .int .i64 0], .string ⟨#[]⟩, .int .i64 7]) ?_ rfl ⟨rfl, ?_⟩
  any_goals (rw [results_cell_tmp2 rfl]; go_simp)
  all_goals (repeat' (first | with_reducible exact hB | with_reducible apply below_drew | with_reducible refine bset ?_ (by omega)))
set_option maxRecDepth 20000 in
set_option maxHeartbeats 4000000 in
theorem rgp_wide_false (S : ByteArray) (w : World) (b1 : UInt8) (k mn wd : Nat) (h : 2 ≤ (S.size : Int)) (h0 : ∀ h : 0 < S.size, S[0]'h = 4) (h1 : ∀ h : 1 < S.size, S[1]'h = b1) (hk : b1.toNat = k) (hmn : (mn : Int) = ((k : Int) + 7) / 8) (cW : ∀ W : World, Calls Tryz.prog 34 #[.bool false] W fun e w' => e = .returned (.int .i64 (wd : Int)) ∧ w' = W) (hwk : (wd : Int) < (k : Int)) :
    Calls Tryz.prog 21 #[.string S] w fun e w' => e = .returned (.tuple #[.agg #[.bool false, .int .u64 0, .int .u64 0, .int .i64 0], .string ⟨#[]⟩, .int .i64 7]) ∧ Below w.heap.size w w' := by
  have q1 : decide ((S.size : Int) < 2) = false := decide_eq_false (by omega)
  have q2 : decide (S.size < 2) = false := decide_eq_false (by omega)
  have hk8 : (k : Int) ≤ 255 := by have := b1.toNat_lt; omega
  have e2 : IntKind.i64.wrap ((k : Int) + 7) = (k : Int) + 7 := by rw [IntKind.wrap_i64]; omega
  have hmw : IntKind.i64.wrap (mn : Int) = (mn : Int) := by rw [IntKind.wrap_i64]; omega
  have e3 : IntKind.i64.wrap (((k : Int) + 7).tdiv 8) = (mn : Int) := by rw [Int.tdiv_eq_ediv_of_nonneg (by omega), ← hmn]; exact hmw
  have e4 : ((k : Int) + 7).tdiv 8 = (mn : Int) := by rw [Int.tdiv_eq_ediv_of_nonneg (by omega), ← hmn]
  have e5 : ((k : Int) + 7) / 8 = (mn : Int) := hmn.symm
  have hm33 : (mn : Int) ≤ 33 := by omega
  clear hmn
  obtain ⟨X, hX⟩ : ∃ X, X = w.alloc (.cells #[.bool false, .int .u64 0, .int .u64 0, .int .i64 0] 30) := ⟨_, rfl⟩
  have hB : Below w.heap.size w X := by rw [hX]; exact below_new (Below.refl _ _) _
  have rx : RowAt X w.heap.size [.bool false, .int .u64 0, .int .u64 0, .int .i64 0] 30 := by rw [hX]; exact RowAt.new _ _ _
  go_enter Tryz.func21, Tryz.ntmps21
  go_upto_region 1 with fail
  rw [← hX]
  clear hX
  obtain ⟨g0, hg0⟩ : ∃ g, g = w.heap.size := ⟨_, rfl⟩
  have hgw : w.heap.size ≤ g0 := by omega
  rw [← hg0] at rx ⊢
  clear hg0
  obtain ⟨x0, x1, x2, x3, xf⟩ := cells4 rx
  have hlx := RowAt.lt rx
  go_upto_region 3 with fail
  have hi1 : 1 < S.size := by omega
  go_cut [5] (fun v wc => ∃ g, v = .pointer (some ⟨g, 0, none⟩) ∧ X.heap.size ≤ g ∧ RowAt wc g [.bool false, .int .u64 0, .int .u64 0, .int .i64 (k : Int)] 30 ∧ Below X.heap.size X wc)
  case first =>
    clear e2 e3 e4 e5 hmw hm33 cW q1 q2 hk8
    subst hk
    have hw0 : IntKind.i64.wrap (b1.toNat : Int) = (b1.toNat : Int) := by rw [IntKind.wrap_i64]; have := b1.toNat_lt; omega
    have hw := wrap_byte b1
    go_region
    all_goals go_wp2_with fail
    all_goals go_meet
    refine ⟨_, rfl, by simp, ?_, below_drew (below_new (Below.refl _ _) _)⟩
    exact (RowAt.new X [.bool false, .int .u64 0, .int .u64 0, .int .i64 (b1.toNat : Int)] 30).drew
  case rest =>
  obtain ⟨g1, rfl, hg1, r1, hbc⟩ := hcut
  replace rx := RowAt.below rx hbc
  replace hB := below2 hB hbc
  have hgl : g0 < g1 := by omega
  clear x0 x1 x2 x3 xf hlx hbc hg1 q1 q2 h1 h0 hi1
  obtain ⟨y0, y1, y2, y3, yf⟩ := cells4 r1
  have hly := RowAt.lt r1
  go_upto_region 5 with fail
  have d1 : decide ((wd : Int) < (k : Int)) = true := decide_eq_true hwk
  have d2 : decide (wd < k) = true := decide_eq_true (by omega)
  have m0 : ∀ p : Bl wc, p.W.cell? ⟨g1, 0, none⟩ = some (.bool false) := fun p => (r1.below p.h).cell 0
  have m3 : ∀ p : Bl wc, p.W.cell? ⟨g1, 3, none⟩ = some (.int .i64 (k : Int)) := fun p => (r1.below p.h).cell 3
  haveI := bl_ne wc
  refine wp_region_bl (by kernel_rfl) (by kernel_rfl) ?_
  repeat (quiet_step (first | (go_at_call 34; with_reducible exact bl_same (cW _))))
  refine wpQuiet_nil ?_
  intro wq hw'
  obtain ⟨⟨wz, hq⟩, hw2⟩ := hw'
  subst hw2
  replace rx := RowAt.below rx hq
  replace r1 := RowAt.below r1 hq
  replace hB := below2 hB hq
  clear y0 y1 y2 y3 yf hly m0 m3
  obtain ⟨y0, y1, y2, y3, yf⟩ := cells4 r1
  obtain ⟨x0, x1, x2, x3, xf⟩ := cells4 rx
  have hly := RowAt.lt r1
  have hlx := RowAt.lt rx
  go_wp2_with fail
  refine bodyPost_ret (v := .tuple #[.agg #[.bool false, .int .u64 0, .int .u64 0, .int .i64 0], .string ⟨#[]⟩, .int .i64 7]) ?_ rfl ⟨rfl, ?_⟩
  any_goals (rw [results_cell_tmp2 rfl]; go_simp)
  all_goals (repeat' (first | with_reducible exact hB | with_reducible apply below_drew | with_reducible refine bset ?_ (by omega)))
set_option maxRecDepth 20000 in
set_option maxHeartbeats 4000000 in
theorem rgp_less_false (S : ByteArray) (w : World) (b1 : UInt8) (k mn wd : Nat) (h : 2 ≤ (S.size : Int)) (h0 : ∀ h : 0 < S.size, S[0]'h = 4) (h1 : ∀ h : 1 < S.size, S[1]'h = b1) (hk : b1.toNat = k) (hmn : (mn : Int) = ((k : Int) + 7) / 8) (cW : ∀ W : World, Calls Tryz.prog 34 #[.bool false] W fun e w' => e = .returned (.int .i64 (wd : Int)) ∧ w' = W) (hwk : (k : Int) ≤ (wd : Int)) (hz : (S.size : Int) < 2 + (mn : Int)) :
    Calls Tryz.prog 21 #[.string S] w fun e w' => e = .returned (.tuple #[.agg #[.bool false, .int .u64 0, .int .u64 0, .int .i64 0], .string ⟨#[]⟩, .int .i64 7]) ∧ Below w.heap.size w w' := by
  have q1 : decide ((S.size : Int) < 2) = false := decide_eq_false (by omega)
  have q2 : decide (S.size < 2) = false := decide_eq_false (by omega)
  have hk8 : (k : Int) ≤ 255 := by have := b1.toNat_lt; omega
  have e2 : IntKind.i64.wrap ((k : Int) + 7) = (k : Int) + 7 := by rw [IntKind.wrap_i64]; omega
  have hmw : IntKind.i64.wrap (mn : Int) = (mn : Int) := by rw [IntKind.wrap_i64]; omega
  have e3 : IntKind.i64.wrap (((k : Int) + 7).tdiv 8) = (mn : Int) := by rw [Int.tdiv_eq_ediv_of_nonneg (by omega), ← hmn]; exact hmw
  have e4 : ((k : Int) + 7).tdiv 8 = (mn : Int) := by rw [Int.tdiv_eq_ediv_of_nonneg (by omega), ← hmn]
  have e5 : ((k : Int) + 7) / 8 = (mn : Int) := hmn.symm
  have hm33 : (mn : Int) ≤ 33 := by omega
  clear hmn
  obtain ⟨X, hX⟩ : ∃ X, X = w.alloc (.cells #[.bool false, .int .u64 0, .int .u64 0, .int .i64 0] 30) := ⟨_, rfl⟩
  have hB : Below w.heap.size w X := by rw [hX]; exact below_new (Below.refl _ _) _
  have rx : RowAt X w.heap.size [.bool false, .int .u64 0, .int .u64 0, .int .i64 0] 30 := by rw [hX]; exact RowAt.new _ _ _
  go_enter Tryz.func21, Tryz.ntmps21
  go_upto_region 1 with fail
  rw [← hX]
  clear hX
  obtain ⟨g0, hg0⟩ : ∃ g, g = w.heap.size := ⟨_, rfl⟩
  have hgw : w.heap.size ≤ g0 := by omega
  rw [← hg0] at rx ⊢
  clear hg0
  obtain ⟨x0, x1, x2, x3, xf⟩ := cells4 rx
  have hlx := RowAt.lt rx
  go_upto_region 3 with fail
  have hi1 : 1 < S.size := by omega
  go_cut [5] (fun v wc => ∃ g, v = .pointer (some ⟨g, 0, none⟩) ∧ X.heap.size ≤ g ∧ RowAt wc g [.bool false, .int .u64 0, .int .u64 0, .int .i64 (k : Int)] 30 ∧ Below X.heap.size X wc)
  case first =>
    clear e2 e3 e4 e5 hmw hm33 cW q1 q2 hk8
    subst hk
    have hw0 : IntKind.i64.wrap (b1.toNat : Int) = (b1.toNat : Int) := by rw [IntKind.wrap_i64]; have := b1.toNat_lt; omega
    have hw := wrap_byte b1
    go_region
    all_goals go_wp2_with fail
    all_goals go_meet
    refine ⟨_, rfl, by simp, ?_, below_drew (below_new (Below.refl _ _) _)⟩
    exact (RowAt.new X [.bool false, .int .u64 0, .int .u64 0, .int .i64 (b1.toNat : Int)] 30).drew
  case rest =>
  obtain ⟨g1, rfl, hg1, r1, hbc⟩ := hcut
  replace rx := RowAt.below rx hbc
  replace hB := below2 hB hbc
  have hgl : g0 < g1 := by omega
  clear x0 x1 x2 x3 xf hlx hbc hg1 q1 q2 h1 h0 hi1
  obtain ⟨y0, y1, y2, y3, yf⟩ := cells4 r1
  have hly := RowAt.lt r1
  go_upto_region 5 with fail
  have d1 : decide ((wd : Int) < (k : Int)) = false := decide_eq_false (by omega)
  have d2 : decide (wd < k) = false := decide_eq_false (by omega)
  have d3 : IntKind.i64.wrap (2 + (mn : Int)) = 2 + (mn : Int) := by rw [IntKind.wrap_i64]; omega
  have d4 : decide ((S.size : Int) < 2 + (mn : Int)) = true := decide_eq_true hz
  have m0 : ∀ p : Bl wc, p.W.cell? ⟨g1, 0, none⟩ = some (.bool false) := fun p => (r1.below p.h).cell 0
  have m3 : ∀ p : Bl wc, p.W.cell? ⟨g1, 3, none⟩ = some (.int .i64 (k : Int)) := fun p => (r1.below p.h).cell 3
  haveI := bl_ne wc
  refine wp_region_bl (by kernel_rfl) (by kernel_rfl) ?_
  repeat (quiet_step (first | (go_at_call 34; with_reducible exact bl_same (cW _))))
  refine wpQuiet_nil ?_
  intro wq hw'
  obtain ⟨⟨wz, hq⟩, hw2⟩ := hw'
  subst hw2
  replace rx := RowAt.below rx hq
  replace r1 := RowAt.below r1 hq
  replace hB := below2 hB hq
  clear y0 y1 y2 y3 yf hly m0 m3
  obtain ⟨y0, y1, y2, y3, yf⟩ := cells4 r1
  obtain ⟨x0, x1, x2, x3, xf⟩ := cells4 rx
  have hly := RowAt.lt r1
  have hlx := RowAt.lt rx
  go_wp2_with fail
  refine bodyPost_ret (v := .tuple #[.agg #[.bool false, .int .u64 0, .int .u64 0, .int .i64 0], .string ⟨#[]⟩, .int .i64 7]) ?_ rfl ⟨rfl, ?_⟩
  any_goals (rw [results_cell_tmp2 rfl]; go_simp)
  all_goals (repeat' (first | with_reducible exact hB | with_reducible apply below_drew | with_reducible refine bset ?_ (by omega)))
set_option maxRecDepth 20000 in
set_option maxHeartbeats 4000000 in
theorem rgp_wide_true (S : ByteArray) (w : World) (b1 : UInt8) (k mn wd : Nat) (h : 2 ≤ (S.size : Int)) (h0 : ∀ h : 0 < S.size, S[0]'h = 6) (h1 : ∀ h : 1 < S.size, S[1]'h = b1) (hk : b1.toNat = k) (hmn : (mn : Int) = ((k : Int) + 7) / 8) (cW : ∀ W : World, Calls Tryz.prog 34 #[.bool true] W fun e w' => e = .returned (.int .i64 (wd : Int)) ∧ w' = W) (hwk : (wd : Int) < (k : Int)) :
    Calls Tryz.prog 21 #[.string S] w fun e w' => e = .returned (.tuple #[.agg #[.bool false, .int .u64 0, .int .u64 0, .int .i64 0], .string ⟨#[]⟩, .int .i64 7]) ∧ Below w.heap.size w w' := by
  have q1 : decide ((S.size : Int) < 2) = false := decide_eq_false (by omega)
  have q2 : decide (S.size < 2) = false := decide_eq_false (by omega)
  have hk8 : (k : Int) ≤ 255 := by have := b1.toNat_lt; omega
  have e2 : IntKind.i64.wrap ((k : Int) + 7) = (k : Int) + 7 := by rw [IntKind.wrap_i64]; omega
  have hmw : IntKind.i64.wrap (mn : Int) = (mn : Int) := by rw [IntKind.wrap_i64]; omega
  have e3 : IntKind.i64.wrap (((k : Int) + 7).tdiv 8) = (mn : Int) := by rw [Int.tdiv_eq_ediv_of_nonneg (by omega), ← hmn]; exact hmw
  have e4 : ((k : Int) + 7).tdiv 8 = (mn : Int) := by rw [Int.tdiv_eq_ediv_of_nonneg (by omega), ← hmn]
  have e5 : ((k : Int) + 7) / 8 = (mn : Int) := hmn.symm
  have hm33 : (mn : Int) ≤ 33 := by omega
  clear hmn
  obtain ⟨X, hX⟩ : ∃ X, X = w.alloc (.cells #[.bool false, .int .u64 0, .int .u64 0, .int .i64 0] 30) := ⟨_, rfl⟩
  have hB : Below w.heap.size w X := by rw [hX]; exact below_new (Below.refl _ _) _
  have rx : RowAt X w.heap.size [.bool false, .int .u64 0, .int .u64 0, .int .i64 0] 30 := by rw [hX]; exact RowAt.new _ _ _
  go_enter Tryz.func21, Tryz.ntmps21
  go_upto_region 1 with fail
  rw [← hX]
  clear hX
  obtain ⟨g0, hg0⟩ : ∃ g, g = w.heap.size := ⟨_, rfl⟩
  have hgw : w.heap.size ≤ g0 := by omega
  rw [← hg0] at rx ⊢
  clear hg0
  obtain ⟨x0, x1, x2, x3, xf⟩ := cells4 rx
  have hlx := RowAt.lt rx
  go_upto_region 3 with fail
  have hi1 : 1 < S.size := by omega
  go_cut [5] (fun v wc => ∃ g, v = .pointer (some ⟨g, 0, none⟩) ∧ X.heap.size ≤ g ∧ RowAt wc g [.bool true, .int .u64 0, .int .u64 0, .int .i64 (k : Int)] 30 ∧ Below X.heap.size X wc)
  case first =>
    clear e2 e3 e4 e5 hmw hm33 cW q1 q2 hk8
    subst hk
    have hw0 : IntKind.i64.wrap (b1.toNat : Int) = (b1.toNat : Int) := by rw [IntKind.wrap_i64]; have := b1.toNat_lt; omega
    have hw := wrap_byte b1
    go_region
    all_goals go_wp2_with fail
    all_goals go_meet
    refine ⟨_, rfl, by simp, ?_, below_drew (below_new (Below.refl _ _) _)⟩
    exact (RowAt.new X [.bool true, .int .u64 0, .int .u64 0, .int .i64 (b1.toNat : Int)] 30).drew
  case rest =>
  obtain ⟨g1, rfl, hg1, r1, hbc⟩ := hcut
  replace rx := RowAt.below rx hbc
  replace hB := below2 hB hbc
  have hgl : g0 < g1 := by omega
  clear x0 x1 x2 x3 xf hlx hbc hg1 q1 q2 h1 h0 hi1
  obtain ⟨y0, y1, y2, y3, yf⟩ := cells4 r1
  have hly := RowAt.lt r1
  go_upto_region 5 with fail
  have d1 : decide ((wd : Int) < (k : Int)) = true := decide_eq_true hwk
  have d2 : decide (wd < k) = true := decide_eq_true (by omega)
  have m0 : ∀ p : Bl wc, p.W.cell? ⟨g1, 0, none⟩ = some (.bool true) := fun p => (r1.below p.h).cell 0
  have m3 : ∀ p : Bl wc, p.W.cell? ⟨g1, 3, none⟩ = some (.int .i64 (k : Int)) := fun p => (r1.below p.h).cell 3
  haveI := bl_ne wc
  refine wp_region_bl (by kernel_rfl) (by kernel_rfl) ?_
  repeat (quiet_step (first | (go_at_call 34; with_reducible exact bl_same (cW _))))
  refine wpQuiet_nil ?_
  intro wq hw'
  obtain ⟨⟨wz, hq⟩, hw2⟩ := hw'
  subst hw2
  replace rx := RowAt.below rx hq
  replace r1 := RowAt.below r1 hq
  replace hB := below2 hB hq
  clear y0 y1 y2 y3 yf hly m0 m3
  obtain ⟨y0, y1, y2, y3, yf⟩ := cells4 r1
  obtain ⟨x0, x1, x2, x3, xf⟩ := cells4 rx
  have hly := RowAt.lt r1
  have hlx := RowAt.lt rx
  go_wp2_with fail
  refine bodyPost_ret (v := .tuple #[.agg #[.bool false, .int .u64 0, .int .u64 0, .int .i64 0], .string ⟨#[]⟩, .int .i64 7]) ?_ rfl ⟨rfl, ?_⟩
  any_goals (rw [results_cell_tmp2 rfl]; go_simp)
  all_goals (repeat' (first | with_reducible exact hB | with_reducible apply below_drew | with_reducible refine bset ?_ (by omega)))
set_option maxRecDepth 20000 in
set_option maxHeartbeats 4000000 in
theorem rgp_less_true (S : ByteArray) (w : World) (b1 : UInt8) (k mn wd : Nat) (h : 2 ≤ (S.size : Int)) (h0 : ∀ h : 0 < S.size, S[0]'h = 6) (h1 : ∀ h : 1 < S.size, S[1]'h = b1) (hk : b1.toNat = k) (hmn : (mn : Int) = ((k : Int) + 7) / 8) (cW : ∀ W : World, Calls Tryz.prog 34 #[.bool true] W fun e w' => e = .returned (.int .i64 (wd : Int)) ∧ w' = W) (hwk : (k : Int) ≤ (wd : Int)) (hz : (S.size : Int) < 2 + (mn : Int)) :
    Calls Tryz.prog 21 #[.string S] w fun e w' => e = .returned (.tuple #[.agg #[.bool false, .int .u64 0, .int .u64 0, .int .i64 0], .string ⟨#[]⟩, .int .i64 7]) ∧ Below w.heap.size w w' := by
  have q1 : decide ((S.size : Int) < 2) = false := decide_eq_false (by omega)
  have q2 : decide (S.size < 2) = false := decide_eq_false (by omega)
  have hk8 : (k : Int) ≤ 255 := by have := b1.toNat_lt; omega
  have e2 : IntKind.i64.wrap ((k : Int) + 7) = (k : Int) + 7 := by rw [IntKind.wrap_i64]; omega
  have hmw : IntKind.i64.wrap (mn : Int) = (mn : Int) := by rw [IntKind.wrap_i64]; omega
  have e3 : IntKind.i64.wrap (((k : Int) + 7).tdiv 8) = (mn : Int) := by rw [Int.tdiv_eq_ediv_of_nonneg (by omega), ← hmn]; exact hmw
  have e4 : ((k : Int) + 7).tdiv 8 = (mn : Int) := by rw [Int.tdiv_eq_ediv_of_nonneg (by omega), ← hmn]
  have e5 : ((k : Int) + 7) / 8 = (mn : Int) := hmn.symm
  have hm33 : (mn : Int) ≤ 33 := by omega
  clear hmn
  obtain ⟨X, hX⟩ : ∃ X, X = w.alloc (.cells #[.bool false, .int .u64 0, .int .u64 0, .int .i64 0] 30) := ⟨_, rfl⟩
  have hB : Below w.heap.size w X := by rw [hX]; exact below_new (Below.refl _ _) _
  have rx : RowAt X w.heap.size [.bool false, .int .u64 0, .int .u64 0, .int .i64 0] 30 := by rw [hX]; exact RowAt.new _ _ _
  go_enter Tryz.func21, Tryz.ntmps21
  go_upto_region 1 with fail
  rw [← hX]
  clear hX
  obtain ⟨g0, hg0⟩ : ∃ g, g = w.heap.size := ⟨_, rfl⟩
  have hgw : w.heap.size ≤ g0 := by omega
  rw [← hg0] at rx ⊢
  clear hg0
  obtain ⟨x0, x1, x2, x3, xf⟩ := cells4 rx
  have hlx := RowAt.lt rx
  go_upto_region 3 with fail
  have hi1 : 1 < S.size := by omega
  go_cut [5] (fun v wc => ∃ g, v = .pointer (some ⟨g, 0, none⟩) ∧ X.heap.size ≤ g ∧ RowAt wc g [.bool true, .int .u64 0, .int .u64 0, .int .i64 (k : Int)] 30 ∧ Below X.heap.size X wc)
  case first =>
    clear e2 e3 e4 e5 hmw hm33 cW q1 q2 hk8
    subst hk
    have hw0 : IntKind.i64.wrap (b1.toNat : Int) = (b1.toNat : Int) := by rw [IntKind.wrap_i64]; have := b1.toNat_lt; omega
    have hw := wrap_byte b1
    go_region
    all_goals go_wp2_with fail
    all_goals go_meet
    refine ⟨_, rfl, by simp, ?_, below_drew (below_new (Below.refl _ _) _)⟩
    exact (RowAt.new X [.bool true, .int .u64 0, .int .u64 0, .int .i64 (b1.toNat : Int)] 30).drew
  case rest =>
  obtain ⟨g1, rfl, hg1, r1, hbc⟩ := hcut
  replace rx := RowAt.below rx hbc
  replace hB := below2 hB hbc
  have hgl : g0 < g1 := by omega
  clear x0 x1 x2 x3 xf hlx hbc hg1 q1 q2 h1 h0 hi1
  obtain ⟨y0, y1, y2, y3, yf⟩ := cells4 r1
  have hly := RowAt.lt r1
  go_upto_region 5 with fail
  have d1 : decide ((wd : Int) < (k : Int)) = false := decide_eq_false (by omega)
  have d2 : decide (wd < k) = false := decide_eq_false (by omega)
  have d3 : IntKind.i64.wrap (2 + (mn : Int)) = 2 + (mn : Int) := by rw [IntKind.wrap_i64]; omega
  have d4 : decide ((S.size : Int) < 2 + (mn : Int)) = true := decide_eq_true hz
  have m0 : ∀ p : Bl wc, p.W.cell? ⟨g1, 0, none⟩ = some (.bool true) := fun p => (r1.below p.h).cell 0
  have m3 : ∀ p : Bl wc, p.W.cell? ⟨g1, 3, none⟩ = some (.int .i64 (k : Int)) := fun p => (r1.below p.h).cell 3
  haveI := bl_ne wc
  refine wp_region_bl (by kernel_rfl) (by kernel_rfl) ?_
  repeat (quiet_step (first | (go_at_call 34; with_reducible exact bl_same (cW _))))
  refine wpQuiet_nil ?_
  intro wq hw'
  obtain ⟨⟨wz, hq⟩, hw2⟩ := hw'
  subst hw2
  replace rx := RowAt.below rx hq
  replace r1 := RowAt.below r1 hq
  replace hB := below2 hB hq
  clear y0 y1 y2 y3 yf hly m0 m3
  obtain ⟨y0, y1, y2, y3, yf⟩ := cells4 r1
  obtain ⟨x0, x1, x2, x3, xf⟩ := cells4 rx
  have hly := RowAt.lt r1
  have hlx := RowAt.lt rx
  go_wp2_with fail
  refine bodyPost_ret (v := .tuple #[.agg #[.bool false, .int .u64 0, .int .u64 0, .int .i64 0], .string ⟨#[]⟩, .int .i64 7]) ?_ rfl ⟨rfl, ?_⟩
  any_goals (rw [results_cell_tmp2 rfl]; go_simp)
  all_goals (repeat' (first | with_reducible exact hB | with_reducible apply below_drew | with_reducible refine bset ?_ (by omega)))
end Go.Proofs.YtopabkkapbaibaaGreat.Msg
namespace Go.Proofs.YtopabkkapbaibaaGreat.Msg
open Go.RowKit
open Go.Proofs.YtopabkkapbaibaaGreat.Addr (Pf okP checkP wideN firstN kP hiN loN adV pfV RowAt below2 below_drew below_new bset RowAt.lt RowAt.cell RowAt.frozen RowAt.below RowAt.drew RowAt.new RowAt.alloc gdrew gset gbelow galloc grefl cells2 cells4 results_cell Bl bl_ne wp_region_bl bl_call bl_same)

set_option maxRecDepth 20000 in
set_option maxHeartbeats 8000000 in
theorem rgp_no_false (S : ByteArray) (w : World) (b1 : UInt8) (k mn wd : Nat) (h : 2 ≤ (S.size : Int)) (h0 : ∀ h : 0 < S.size, S[0]'h = 4) (h1 : ∀ h : 1 < S.size, S[1]'h = b1) (hk : b1.toNat = k) (hmn : (mn : Int) = ((k : Int) + 7) / 8) (cW : ∀ W : World, Calls Tryz.prog 34 #[.bool false] W fun e w' => e = .returned (.int .i64 (wd : Int)) ∧ w' = W) (hwk : (k : Int) ≤ (wd : Int)) (n2 : Nat) (HN2 : Hid ((n2 : Int) = 2 + (mn : Int))) (hz : (n2 : Int) ≤ (S.size : Int)) (hn2 : 2 ≤ (n2 : Int)) (zn : Nat) (HWZ : Hid ((wd : Int) = 8 * ((mn : Int) + (zn : Int)))) (hw1 : (wd : Int) ≤ 128) (B Z BZ : ByteArray)
    (hS : (S.size : Int) ≤ 200000000000000)
    (cZ : ∀ W : World, Calls Tryz.prog 35 #[.int .i64 (zn : Int)] W fun e w' => e = .returned (.string Z) ∧ Below W.heap.size W w')
    (hBx : S.extract 2 n2 = B) (hBZ : B ++ Z = BZ) (hBs : B.size = mn) (hZs : Z.size = zn) (hi lo : Int)
    (hhi : hi = 0)
    (cN : ∀ W : World, Calls Tryz.prog 36 #[.string BZ] W fun e w' => e = .returned (.int .u64 lo) ∧ w' = W) (cP : ∀ W : World, Calls Tryz.prog 37 #[.agg #[.bool false, .int .u64 hi, .int .u64 lo, .int .i64 (k : Int)]] W fun e w' => e = .returned (.int .i64 2) ∧ Below W.heap.size W w') :
    Calls Tryz.prog 21 #[.string S] w fun e w' => e = .returned (.tuple #[.agg #[.bool false, .int .u64 0, .int .u64 0, .int .i64 0], .string ⟨#[]⟩, .int .i64 7]) ∧ Below w.heap.size w w' := by
  have q1 : decide ((S.size : Int) < 2) = false := decide_eq_false (by omega)
  have q2 : decide (S.size < 2) = false := decide_eq_false (by omega)
  have hk8 : (k : Int) ≤ 255 := by have := b1.toNat_lt; omega
  have e2 : IntKind.i64.wrap ((k : Int) + 7) = (k : Int) + 7 := by rw [IntKind.wrap_i64]; omega
  have hmw : IntKind.i64.wrap (mn : Int) = (mn : Int) := by rw [IntKind.wrap_i64]; omega
  have e3 : IntKind.i64.wrap (((k : Int) + 7).tdiv 8) = (mn : Int) := by rw [Int.tdiv_eq_ediv_of_nonneg (by omega), ← hmn]; exact hmw
  have e4 : ((k : Int) + 7).tdiv 8 = (mn : Int) := by rw [Int.tdiv_eq_ediv_of_nonneg (by omega), ← hmn]
  have e5 : ((k : Int) + 7) / 8 = (mn : Int) := hmn.symm
  have hm33 : (mn : Int) ≤ 33 := by omega
  clear hmn
  obtain ⟨X, hX⟩ : ∃ X, X = w.alloc (.cells #[.bool false, .int .u64 0, .int .u64 0, .int .i64 0] 30) := ⟨_, rfl⟩
  have hB : Below w.heap.size w X := by rw [hX]; exact below_new (Below.refl _ _) _
  have rx : RowAt X w.heap.size [.bool false, .int .u64 0, .int .u64 0, .int .i64 0] 30 := by rw [hX]; exact RowAt.new _ _ _
  go_enter Tryz.func21, Tryz.ntmps21
  go_upto_region 1 with fail
  rw [← hX]
  clear hX
  obtain ⟨g0, hg0⟩ : ∃ g, g = w.heap.size := ⟨_, rfl⟩
  have hgw : w.heap.size ≤ g0 := by omega
  rw [← hg0] at rx ⊢
  clear hg0
  obtain ⟨x0, x1, x2, x3, xf⟩ := cells4 rx
  have hlx := RowAt.lt rx
  go_upto_region 3 with fail
  have hi1 : 1 < S.size := by omega
  go_cut [5] (fun v wc => ∃ g, v = .pointer (some ⟨g, 0, none⟩) ∧ X.heap.size ≤ g ∧ RowAt wc g [.bool false, .int .u64 0, .int .u64 0, .int .i64 (k : Int)] 30 ∧ Below X.heap.size X wc)
  case first =>
    clear e2 e3 e4 e5 hmw hm33 cW q1 q2 hk8
    subst hk
    have hw0 : IntKind.i64.wrap (b1.toNat : Int) = (b1.toNat : Int) := by rw [IntKind.wrap_i64]; have := b1.toNat_lt; omega
    have hw := wrap_byte b1
    go_region
    all_goals go_wp2_with fail
    all_goals go_meet
    refine ⟨_, rfl, by simp, ?_, below_drew (below_new (Below.refl _ _) _)⟩
    exact (RowAt.new X [.bool false, .int .u64 0, .int .u64 0, .int .i64 (b1.toNat : Int)] 30).drew
  case rest =>
  obtain ⟨g1, rfl, hg1, r1, hbc⟩ := hcut
  replace rx := RowAt.below rx hbc
  replace hB := below2 hB hbc
  have hgl : g0 < g1 := by omega
  clear x0 x1 x2 x3 xf hlx hbc hg1 q1 q2 h1 h0 hi1
  obtain ⟨y0, y1, y2, y3, yf⟩ := cells4 r1
  have hly := RowAt.lt r1
  go_upto_region 5 with fail
  have d1 : decide ((wd : Int) < (k : Int)) = false := decide_eq_false (by omega)
  have d2 : decide (wd < k) = false := decide_eq_false (by omega)
  have d0 : IntKind.i64.wrap (n2 : Int) = (n2 : Int) := by rw [IntKind.wrap_i64]; omega
  have d3 : 2 + (mn : Int) = (n2 : Int) := HN2.out.symm
  have d4 : decide ((S.size : Int) < (n2 : Int)) = false := decide_eq_false (by omega)
  have d4' : decide (S.size < n2) = false := decide_eq_false (by omega)
  have m0 : ∀ p : Bl wc, p.W.cell? ⟨g1, 0, none⟩ = some (.bool false) := fun p => (r1.below p.h).cell 0
  have m3 : ∀ p : Bl wc, p.W.cell? ⟨g1, 3, none⟩ = some (.int .i64 (k : Int)) := fun p => (r1.below p.h).cell 3
  haveI := bl_ne wc
  refine wp_region_bl (by kernel_rfl) (by kernel_rfl) ?_
  repeat (quiet_step (first | (go_at_call 34; with_reducible exact bl_same (cW _))))
  refine wpQuiet_nil ?_
  intro wq hw'
  obtain ⟨⟨wz, hq⟩, hw2⟩ := hw'
  subst hw2
  replace rx := RowAt.below rx hq
  replace r1 := RowAt.below r1 hq
  replace hB := below2 hB hq
  clear y0 y1 y2 y3 yf hly m0 m3
  obtain ⟨y0, y1, y2, y3, yf⟩ := cells4 r1
  obtain ⟨x0, x1, x2, x3, xf⟩ := cells4 rx
  have hly := RowAt.lt r1
  have hlx := RowAt.lt rx
  clear d1 d2 d4 d4'
  have d5 : (wd : Int).tdiv 8 = (mn : Int) + (zn : Int) := by have := HWZ.out; rw [Int.tdiv_eq_ediv_of_nonneg (by omega)]; omega
  have hzn : (zn : Int) ≤ 16 := by have := HWZ.out; omega
  have d6 : IntKind.i64.wrap ((mn : Int) + (zn : Int)) = (mn : Int) + (zn : Int) := by rw [IntKind.wrap_i64]; omega
  have d7 : (mn : Int) + (zn : Int) - (mn : Int) = (zn : Int) := by omega
  have d8 : IntKind.i64.wrap (zn : Int) = (zn : Int) := by rw [IntKind.wrap_i64]; omega
  have d9 : ¬ 9223372036854775807 < B.size + Z.size := by omega
  have d9' : ¬ 9223372036854775807 < mn + zn := by omega
  go_upto_region 7 with fail
  have m0 : ∀ p : Bl wq, p.W.cell? ⟨g1, 0, none⟩ = some (.bool false) := fun p => (r1.below p.h).cell 0
  have m3 : ∀ p : Bl wq, p.W.cell? ⟨g1, 3, none⟩ = some (.int .i64 (k : Int)) := fun p => (r1.below p.h).cell 3
  haveI := bl_ne wq
  refine wp_region_bl (by kernel_rfl) (by kernel_rfl) ?_
  repeat (quiet_step (first | (go_at_call 34; with_reducible exact bl_same (cW _)) | (go_at_call 35; with_reducible exact bl_call (cZ _))))
  refine wpQuiet_nil ?_
  intro wv hw'
  obtain ⟨⟨wz, hv⟩, hw2⟩ := hw'
  subst hw2
  replace rx := RowAt.below rx hv
  replace r1 := RowAt.below r1 hv
  replace hB := below2 hB hv
  clear y0 y1 y2 y3 yf hly m0 m3
  obtain ⟨y0, y1, y2, y3, yf⟩ := cells4 r1
  obtain ⟨x0, x1, x2, x3, xf⟩ := cells4 rx
  have hly := RowAt.lt r1
  have hlx := RowAt.lt rx
  subst hhi
  go_wp2_with fail
  go_at_call 36; refine (cN _).mono ?_; rintro e w8 ⟨rfl, rfl⟩
  go_upto_region 11 with fail
  have s1 := set1 (r1) 2 (.int .u64 lo)
  have s0 := gkeep (rx) (gsetO _ g1 2 (.int .u64 lo)) (by omega)
  have sB : Below w.heap.size w ((w8).setCell ⟨g1, 2, none⟩ (.int .u64 lo)) := bset (hB) (by omega)
  generalize (w8).setCell ⟨g1, 2, none⟩ (.int .u64 lo) = V at *
  simp only [List.set_cons_succ, List.set_cons_zero] at s1
  clear rx r1 hB y0 y1 y2 y3 yf hly x0 x1 x2 x3 xf hlx
  have rx := s0
  have r1 := s1
  have hB := sB
  clear s0 s1 sB
  obtain ⟨y0, y1, y2, y3, yf⟩ := cells4 r1
  have hly := RowAt.lt r1
  go_wp2_with fail
  go_at_call 37; refine (cP _).mono ?_; rintro e w9 ⟨rfl, hb9⟩
  replace rx := RowAt.below rx hb9
  replace r1 := RowAt.below r1 hb9
  replace hB := below2 hB hb9
  clear y0 y1 y2 y3 yf hly hb9
  obtain ⟨y0, y1, y2, y3, yf⟩ := cells4 r1
  obtain ⟨x0, x1, x2, x3, xf⟩ := cells4 rx
  have hly := RowAt.lt r1
  have hlx := RowAt.lt rx
  go_wp2_with fail
  refine bodyPost_ret (v := .tuple #[.agg #[.bool false, .int .u64 0, .int .u64 0, .int .i64 0], .string ⟨#[]⟩, .int .i64 7]) ?_ rfl ⟨rfl, ?_⟩
  any_goals (rw [results_cell_tmp2 rfl]; go_simp)
  all_goals (repeat' (first | with_reducible exact hB | with_reducible apply below_drew | with_reducible refine bset ?_ (by omega)))
set_option maxRecDepth 20000 in
set_option maxHeartbeats 8000000 in
theorem rgp_yes_false (S : ByteArray) (w : World) (b1 : UInt8) (k mn wd : Nat) (h : 2 ≤ (S.size : Int)) (h0 : ∀ h : 0 < S.size, S[0]'h = 4) (h1 : ∀ h : 1 < S.size, S[1]'h = b1) (hk : b1.toNat = k) (hmn : (mn : Int) = ((k : Int) + 7) / 8) (cW : ∀ W : World, Calls Tryz.prog 34 #[.bool false] W fun e w' => e = .returned (.int .i64 (wd : Int)) ∧ w' = W) (hwk : (k : Int) ≤ (wd : Int)) (n2 : Nat) (HN2 : Hid ((n2 : Int) = 2 + (mn : Int))) (hz : (n2 : Int) ≤ (S.size : Int)) (hn2 : 2 ≤ (n2 : Int)) (zn : Nat) (HWZ : Hid ((wd : Int) = 8 * ((mn : Int) + (zn : Int)))) (hw1 : (wd : Int) ≤ 128) (B Z BZ : ByteArray)
    (hS : (S.size : Int) ≤ 200000000000000)
    (cZ : ∀ W : World, Calls Tryz.prog 35 #[.int .i64 (zn : Int)] W fun e w' => e = .returned (.string Z) ∧ Below W.heap.size W w')
    (hBx : S.extract 2 n2 = B) (hBZ : B ++ Z = BZ) (hBs : B.size = mn) (hZs : Z.size = zn) (hi lo : Int)
    (hhi : hi = 0)
    (cN : ∀ W : World, Calls Tryz.prog 36 #[.string BZ] W fun e w' => e = .returned (.int .u64 lo) ∧ w' = W) (cP : ∀ W : World, Calls Tryz.prog 37 #[.agg #[.bool false, .int .u64 hi, .int .u64 lo, .int .i64 (k : Int)]] W fun e w' => e = .returned (.int .i64 0) ∧ Below W.heap.size W w') (R : ByteArray) (hR : S.extract n2 S.size = R) :
    Calls Tryz.prog 21 #[.string S] w fun e w' => e = .returned (.tuple #[.agg #[.bool false, .int .u64 hi, .int .u64 lo, .int .i64 (k : Int)], .string R, .int .i64 0]) ∧ Below w.heap.size w w' := by
  have q1 : decide ((S.size : Int) < 2) = false := decide_eq_false (by omega)
  have q2 : decide (S.size < 2) = false := decide_eq_false (by omega)
  have hk8 : (k : Int) ≤ 255 := by have := b1.toNat_lt; omega
  have e2 : IntKind.i64.wrap ((k : Int) + 7) = (k : Int) + 7 := by rw [IntKind.wrap_i64]; omega
  have hmw : IntKind.i64.wrap (mn : Int) = (mn : Int) := by rw [IntKind.wrap_i64]; omega
  have e3 : IntKind.i64.wrap (((k : Int) + 7).tdiv 8) = (mn : Int) := by rw [Int.tdiv_eq_ediv_of_nonneg (by omega), ← hmn]; exact hmw
  have e4 : ((k : Int) + 7).tdiv 8 = (mn : Int) := by rw [Int.tdiv_eq_ediv_of_nonneg (by omega), ← hmn]
  have e5 : ((k : Int) + 7) / 8 = (mn : Int) := hmn.symm
  have hm33 : (mn : Int) ≤ 33 := by omega
  clear hmn
  obtain ⟨X, hX⟩ : ∃ X, X = w.alloc (.cells #[.bool false, .int .u64 0, .int .u64 0, .int .i64 0] 30) := ⟨_, rfl⟩
  have hB : Below w.heap.size w X := by rw [hX]; exact below_new (Below.refl _ _) _
  have rx : RowAt X w.heap.size [.bool false, .int .u64 0, .int .u64 0, .int .i64 0] 30 := by rw [hX]; exact RowAt.new _ _ _
  go_enter Tryz.func21, Tryz.ntmps21
  go_upto_region 1 with fail
  rw [← hX]
  clear hX
  obtain ⟨g0, hg0⟩ : ∃ g, g = w.heap.size := ⟨_, rfl⟩
  have hgw : w.heap.size ≤ g0 := by omega
  rw [← hg0] at rx ⊢
  clear hg0
  obtain ⟨x0, x1, x2, x3, xf⟩ := cells4 rx
  have hlx := RowAt.lt rx
  go_upto_region 3 with fail
  have hi1 : 1 < S.size := by omega
  go_cut [5] (fun v wc => ∃ g, v = .pointer (some ⟨g, 0, none⟩) ∧ X.heap.size ≤ g ∧ RowAt wc g [.bool false, .int .u64 0, .int .u64 0, .int .i64 (k : Int)] 30 ∧ Below X.heap.size X wc)
  case first =>
    clear e2 e3 e4 e5 hmw hm33 cW q1 q2 hk8
    subst hk
    have hw0 : IntKind.i64.wrap (b1.toNat : Int) = (b1.toNat : Int) := by rw [IntKind.wrap_i64]; have := b1.toNat_lt; omega
    have hw := wrap_byte b1
    go_region
    all_goals go_wp2_with fail
    all_goals go_meet
    refine ⟨_, rfl, by simp, ?_, below_drew (below_new (Below.refl _ _) _)⟩
    exact (RowAt.new X [.bool false, .int .u64 0, .int .u64 0, .int .i64 (b1.toNat : Int)] 30).drew
  case rest =>
  obtain ⟨g1, rfl, hg1, r1, hbc⟩ := hcut
  replace rx := RowAt.below rx hbc
  replace hB := below2 hB hbc
  have hgl : g0 < g1 := by omega
  clear x0 x1 x2 x3 xf hlx hbc hg1 q1 q2 h1 h0 hi1
  obtain ⟨y0, y1, y2, y3, yf⟩ := cells4 r1
  have hly := RowAt.lt r1
  go_upto_region 5 with fail
  have d1 : decide ((wd : Int) < (k : Int)) = false := decide_eq_false (by omega)
  have d2 : decide (wd < k) = false := decide_eq_false (by omega)
  have d0 : IntKind.i64.wrap (n2 : Int) = (n2 : Int) := by rw [IntKind.wrap_i64]; omega
  have d3 : 2 + (mn : Int) = (n2 : Int) := HN2.out.symm
  have d4 : decide ((S.size : Int) < (n2 : Int)) = false := decide_eq_false (by omega)
  have d4' : decide (S.size < n2) = false := decide_eq_false (by omega)
  have m0 : ∀ p : Bl wc, p.W.cell? ⟨g1, 0, none⟩ = some (.bool false) := fun p => (r1.below p.h).cell 0
  have m3 : ∀ p : Bl wc, p.W.cell? ⟨g1, 3, none⟩ = some (.int .i64 (k : Int)) := fun p => (r1.below p.h).cell 3
  haveI := bl_ne wc
  refine wp_region_bl (by kernel_rfl) (by kernel_rfl) ?_
  repeat (quiet_step (first | (go_at_call 34; with_reducible exact bl_same (cW _))))
  refine wpQuiet_nil ?_
  intro wq hw'
  obtain ⟨⟨wz, hq⟩, hw2⟩ := hw'
  subst hw2
  replace rx := RowAt.below rx hq
  replace r1 := RowAt.below r1 hq
  replace hB := below2 hB hq
  clear y0 y1 y2 y3 yf hly m0 m3
  obtain ⟨y0, y1, y2, y3, yf⟩ := cells4 r1
  obtain ⟨x0, x1, x2, x3, xf⟩ := cells4 rx
  have hly := RowAt.lt r1
  have hlx := RowAt.lt rx
  clear d1 d2 d4 d4'
  have d5 : (wd : Int).tdiv 8 = (mn : Int) + (zn : Int) := by have := HWZ.out; rw [Int.tdiv_eq_ediv_of_nonneg (by omega)]; omega
  have hzn : (zn : Int) ≤ 16 := by have := HWZ.out; omega
  have d6 : IntKind.i64.wrap ((mn : Int) + (zn : Int)) = (mn : Int) + (zn : Int) := by rw [IntKind.wrap_i64]; omega
  have d7 : (mn : Int) + (zn : Int) - (mn : Int) = (zn : Int) := by omega
  have d8 : IntKind.i64.wrap (zn : Int) = (zn : Int) := by rw [IntKind.wrap_i64]; omega
  have d9 : ¬ 9223372036854775807 < B.size + Z.size := by omega
  have d9' : ¬ 9223372036854775807 < mn + zn := by omega
  go_upto_region 7 with fail
  have m0 : ∀ p : Bl wq, p.W.cell? ⟨g1, 0, none⟩ = some (.bool false) := fun p => (r1.below p.h).cell 0
  have m3 : ∀ p : Bl wq, p.W.cell? ⟨g1, 3, none⟩ = some (.int .i64 (k : Int)) := fun p => (r1.below p.h).cell 3
  haveI := bl_ne wq
  refine wp_region_bl (by kernel_rfl) (by kernel_rfl) ?_
  repeat (quiet_step (first | (go_at_call 34; with_reducible exact bl_same (cW _)) | (go_at_call 35; with_reducible exact bl_call (cZ _))))
  refine wpQuiet_nil ?_
  intro wv hw'
  obtain ⟨⟨wz, hv⟩, hw2⟩ := hw'
  subst hw2
  replace rx := RowAt.below rx hv
  replace r1 := RowAt.below r1 hv
  replace hB := below2 hB hv
  clear y0 y1 y2 y3 yf hly m0 m3
  obtain ⟨y0, y1, y2, y3, yf⟩ := cells4 r1
  obtain ⟨x0, x1, x2, x3, xf⟩ := cells4 rx
  have hly := RowAt.lt r1
  have hlx := RowAt.lt rx
  subst hhi
  go_wp2_with fail
  go_at_call 36; refine (cN _).mono ?_; rintro e w8 ⟨rfl, rfl⟩
  go_upto_region 11 with fail
  have s1 := set1 (r1) 2 (.int .u64 lo)
  have s0 := gkeep (rx) (gsetO _ g1 2 (.int .u64 lo)) (by omega)
  have sB : Below w.heap.size w ((w8).setCell ⟨g1, 2, none⟩ (.int .u64 lo)) := bset (hB) (by omega)
  generalize (w8).setCell ⟨g1, 2, none⟩ (.int .u64 lo) = V at *
  simp only [List.set_cons_succ, List.set_cons_zero] at s1
  clear rx r1 hB y0 y1 y2 y3 yf hly x0 x1 x2 x3 xf hlx
  have rx := s0
  have r1 := s1
  have hB := sB
  clear s0 s1 sB
  obtain ⟨y0, y1, y2, y3, yf⟩ := cells4 r1
  have hly := RowAt.lt r1
  go_wp2_with fail
  go_at_call 37; refine (cP _).mono ?_; rintro e w9 ⟨rfl, hb9⟩
  replace rx := RowAt.below rx hb9
  replace r1 := RowAt.below r1 hb9
  replace hB := below2 hB hb9
  clear y0 y1 y2 y3 yf hly hb9
  obtain ⟨y0, y1, y2, y3, yf⟩ := cells4 r1
  obtain ⟨x0, x1, x2, x3, xf⟩ := cells4 rx
  have hly := RowAt.lt r1
  have hlx := RowAt.lt rx
  go_upto_region 13 with fail
  go_region
  go_wp2_with fail
  refine bodyPost_ret (v := .tuple #[.agg #[.bool false, .int .u64 0, .int .u64 lo, .int .i64 (k : Int)], .string R, .int .i64 0]) ?_ rfl ⟨rfl, ?_⟩
  any_goals (rw [results_cell_tmp2 rfl]; go_simp)
  all_goals (repeat' (first | with_reducible exact hB | with_reducible apply below_drew | with_reducible refine bset ?_ (by omega)))
end Go.Proofs.YtopabkkapbaibaaGreat.Msg
namespace Go.Proofs.YtopabkkapbaibaaGreat.Msg
open Go.RowKit
open Go.Proofs.YtopabkkapbaibaaGreat.Addr (Pf okP checkP wideN firstN kP hiN loN adV pfV RowAt below2 below_drew below_new bset RowAt.lt RowAt.cell RowAt.frozen RowAt.below RowAt.drew RowAt.new RowAt.alloc gdrew gset gbelow galloc grefl cells2 cells4 results_cell Bl bl_ne wp_region_bl bl_call bl_same)

set_option maxRecDepth 20000 in
set_option maxHeartbeats 8000000 in
theorem rgp_no_true (S : ByteArray) (w : World) (b1 : UInt8) (k mn wd : Nat) (h : 2 ≤ (S.size : Int)) (h0 : ∀ h : 0 < S.size, S[0]'h = 6) (h1 : ∀ h : 1 < S.size, S[1]'h = b1) (hk : b1.toNat = k) (hmn : (mn : Int) = ((k : Int) + 7) / 8) (cW : ∀ W : World, Calls Tryz.prog 34 #[.bool true] W fun e w' => e = .returned (.int .i64 (wd : Int)) ∧ w' = W) (hwk : (k : Int) ≤ (wd : Int)) (n2 : Nat) (HN2 : Hid ((n2 : Int) = 2 + (mn : Int))) (hz : (n2 : Int) ≤ (S.size : Int)) (hn2 : 2 ≤ (n2 : Int)) (zn : Nat) (HWZ : Hid ((wd : Int) = 8 * ((mn : Int) + (zn : Int)))) (hw1 : (wd : Int) ≤ 128) (B Z BZ : ByteArray)
    (hS : (S.size : Int) ≤ 200000000000000)
    (cZ : ∀ W : World, Calls Tryz.prog 35 #[.int .i64 (zn : Int)] W fun e w' => e = .returned (.string Z) ∧ Below W.heap.size W w')
    (hBx : S.extract 2 n2 = B) (hBZ : B ++ Z = BZ) (hBs : B.size = mn) (hZs : Z.size = zn) (hi lo : Int)
    (B1 B2 : ByteArray) (hb16 : BZ.size = 16) (hb1 : BZ.extract 0 8 = B1) (hb2 : BZ.extract 8 16 = B2)
    (cN1 : ∀ W : World, Calls Tryz.prog 36 #[.string B1] W fun e w' => e = .returned (.int .u64 hi) ∧ w' = W)
    (cN2 : ∀ W : World, Calls Tryz.prog 36 #[.string B2] W fun e w' => e = .returned (.int .u64 lo) ∧ w' = W) (cP : ∀ W : World, Calls Tryz.prog 37 #[.agg #[.bool true, .int .u64 hi, .int .u64 lo, .int .i64 (k : Int)]] W fun e w' => e = .returned (.int .i64 2) ∧ Below W.heap.size W w') :
    Calls Tryz.prog 21 #[.string S] w fun e w' => e = .returned (.tuple #[.agg #[.bool false, .int .u64 0, .int .u64 0, .int .i64 0], .string ⟨#[]⟩, .int .i64 7]) ∧ Below w.heap.size w w' := by
  have q1 : decide ((S.size : Int) < 2) = false := decide_eq_false (by omega)
  have q2 : decide (S.size < 2) = false := decide_eq_false (by omega)
  have hk8 : (k : Int) ≤ 255 := by have := b1.toNat_lt; omega
  have e2 : IntKind.i64.wrap ((k : Int) + 7) = (k : Int) + 7 := by rw [IntKind.wrap_i64]; omega
  have hmw : IntKind.i64.wrap (mn : Int) = (mn : Int) := by rw [IntKind.wrap_i64]; omega
  have e3 : IntKind.i64.wrap (((k : Int) + 7).tdiv 8) = (mn : Int) := by rw [Int.tdiv_eq_ediv_of_nonneg (by omega), ← hmn]; exact hmw
  have e4 : ((k : Int) + 7).tdiv 8 = (mn : Int) := by rw [Int.tdiv_eq_ediv_of_nonneg (by omega), ← hmn]
  have e5 : ((k : Int) + 7) / 8 = (mn : Int) := hmn.symm
  have hm33 : (mn : Int) ≤ 33 := by omega
  clear hmn
  obtain ⟨X, hX⟩ : ∃ X, X = w.alloc (.cells #[.bool false, .int .u64 0, .int .u64 0, .int .i64 0] 30) := ⟨_, rfl⟩
  have hB : Below w.heap.size w X := by rw [hX]; exact below_new (Below.refl _ _) _
  have rx : RowAt X w.heap.size [.bool false, .int .u64 0, .int .u64 0, .int .i64 0] 30 := by rw [hX]; exact RowAt.new _ _ _
  go_enter Tryz.func21, Tryz.ntmps21
  go_upto_region 1 with fail
  rw [← hX]
  clear hX
  obtain ⟨g0, hg0⟩ : ∃ g, g = w.heap.size := ⟨_, rfl⟩
  have hgw : w.heap.size ≤ g0 := by omega
  rw [← hg0] at rx ⊢
  clear hg0
  obtain ⟨x0, x1, x2, x3, xf⟩ := cells4 rx
  have hlx := RowAt.lt rx
  go_upto_region 3 with fail
  have hi1 : 1 < S.size := by omega
  go_cut [5] (fun v wc => ∃ g, v = .pointer (some ⟨g, 0, none⟩) ∧ X.heap.size ≤ g ∧ RowAt wc g [.bool true, .int .u64 0, .int .u64 0, .int .i64 (k : Int)] 30 ∧ Below X.heap.size X wc)
  case first =>
    clear e2 e3 e4 e5 hmw hm33 cW q1 q2 hk8
    subst hk
    have hw0 : IntKind.i64.wrap (b1.toNat : Int) = (b1.toNat : Int) := by rw [IntKind.wrap_i64]; have := b1.toNat_lt; omega
    have hw := wrap_byte b1
    go_region
    all_goals go_wp2_with fail
    all_goals go_meet
    refine ⟨_, rfl, by simp, ?_, below_drew (below_new (Below.refl _ _) _)⟩
    exact (RowAt.new X [.bool true, .int .u64 0, .int .u64 0, .int .i64 (b1.toNat : Int)] 30).drew
  case rest =>
  obtain ⟨g1, rfl, hg1, r1, hbc⟩ := hcut
  replace rx := RowAt.below rx hbc
  replace hB := below2 hB hbc
  have hgl : g0 < g1 := by omega
  clear x0 x1 x2 x3 xf hlx hbc hg1 q1 q2 h1 h0 hi1
  obtain ⟨y0, y1, y2, y3, yf⟩ := cells4 r1
  have hly := RowAt.lt r1
  go_upto_region 5 with fail
  have d1 : decide ((wd : Int) < (k : Int)) = false := decide_eq_false (by omega)
  have d2 : decide (wd < k) = false := decide_eq_false (by omega)
  have d0 : IntKind.i64.wrap (n2 : Int) = (n2 : Int) := by rw [IntKind.wrap_i64]; omega
  have d3 : 2 + (mn : Int) = (n2 : Int) := HN2.out.symm
  have d4 : decide ((S.size : Int) < (n2 : Int)) = false := decide_eq_false (by omega)
  have d4' : decide (S.size < n2) = false := decide_eq_false (by omega)
  have m0 : ∀ p : Bl wc, p.W.cell? ⟨g1, 0, none⟩ = some (.bool true) := fun p => (r1.below p.h).cell 0
  have m3 : ∀ p : Bl wc, p.W.cell? ⟨g1, 3, none⟩ = some (.int .i64 (k : Int)) := fun p => (r1.below p.h).cell 3
  haveI := bl_ne wc
  refine wp_region_bl (by kernel_rfl) (by kernel_rfl) ?_
  repeat (quiet_step (first | (go_at_call 34; with_reducible exact bl_same (cW _))))
  refine wpQuiet_nil ?_
  intro wq hw'
  obtain ⟨⟨wz, hq⟩, hw2⟩ := hw'
  subst hw2
  replace rx := RowAt.below rx hq
  replace r1 := RowAt.below r1 hq
  replace hB := below2 hB hq
  clear y0 y1 y2 y3 yf hly m0 m3
  obtain ⟨y0, y1, y2, y3, yf⟩ := cells4 r1
  obtain ⟨x0, x1, x2, x3, xf⟩ := cells4 rx
  have hly := RowAt.lt r1
  have hlx := RowAt.lt rx
  clear d1 d2 d4 d4'
  have d5 : (wd : Int).tdiv 8 = (mn : Int) + (zn : Int) := by have := HWZ.out; rw [Int.tdiv_eq_ediv_of_nonneg (by omega)]; omega
  have hzn : (zn : Int) ≤ 16 := by have := HWZ.out; omega
  have d6 : IntKind.i64.wrap ((mn : Int) + (zn : Int)) = (mn : Int) + (zn : Int) := by rw [IntKind.wrap_i64]; omega
  have d7 : (mn : Int) + (zn : Int) - (mn : Int) = (zn : Int) := by omega
  have d8 : IntKind.i64.wrap (zn : Int) = (zn : Int) := by rw [IntKind.wrap_i64]; omega
  have d9 : ¬ 9223372036854775807 < B.size + Z.size := by omega
  have d9' : ¬ 9223372036854775807 < mn + zn := by omega
  go_upto_region 7 with fail
  have m0 : ∀ p : Bl wq, p.W.cell? ⟨g1, 0, none⟩ = some (.bool true) := fun p => (r1.below p.h).cell 0
  have m3 : ∀ p : Bl wq, p.W.cell? ⟨g1, 3, none⟩ = some (.int .i64 (k : Int)) := fun p => (r1.below p.h).cell 3
  haveI := bl_ne wq
  refine wp_region_bl (by kernel_rfl) (by kernel_rfl) ?_
  repeat (quiet_step (first | (go_at_call 34; with_reducible exact bl_same (cW _)) | (go_at_call 35; with_reducible exact bl_call (cZ _))))
  refine wpQuiet_nil ?_
  intro wv hw'
  obtain ⟨⟨wz, hv⟩, hw2⟩ := hw'
  subst hw2
  replace rx := RowAt.below rx hv
  replace r1 := RowAt.below r1 hv
  replace hB := below2 hB hv
  clear y0 y1 y2 y3 yf hly m0 m3
  obtain ⟨y0, y1, y2, y3, yf⟩ := cells4 r1
  obtain ⟨x0, x1, x2, x3, xf⟩ := cells4 rx
  have hly := RowAt.lt r1
  have hlx := RowAt.lt rx
  go_upto_region 9 with fail
  go_cut [7] (fun v wc => v = .string BZ ∧ RowAt wc g0 [.bool false, .int .u64 0, .int .u64 0, .int .i64 0] 30 ∧ RowAt wc g1 [.bool true, .int .u64 hi, .int .u64 lo, .int .i64 (k : Int)] 30 ∧ Below w.heap.size w wc)
  case first =>
    go_region_with (first | (go_at_call 36; with_reducible refine (cN1 _).mono ?_; rintro e w8 ⟨rfl, rfl⟩) | (go_at_call 36; with_reducible refine (cN2 _).mono ?_; rintro e w8 ⟨rfl, rfl⟩))
    all_goals go_wp2_with fail
    all_goals go_meet
    all_goals
      refine ⟨rfl, ?_, ?_, ?_⟩
      · exact RowAt.drew (gkeep (gkeep (rx) (gsetO _ g1 1 (.int .u64 hi)) (by omega)) (gsetO _ g1 2 (.int .u64 lo)) (by omega))
      · have s1 := set1 (set1 (r1) 1 (.int .u64 hi)) 2 (.int .u64 lo)
        simp only [List.set_cons_succ, List.set_cons_zero] at s1
        exact RowAt.drew s1
      · exact below_drew (bset (bset (hB) (by omega)) (by omega))
  case rest =>
  clear rx r1 hB y0 y1 y2 y3 yf hly x0 x1 x2 x3 xf hlx
  obtain ⟨rfl, rx, r1, hB⟩ := hcut
  obtain ⟨y0, y1, y2, y3, yf⟩ := cells4 r1
  have hly := RowAt.lt r1
  go_wp2_with fail
  go_at_call 37; refine (cP _).mono ?_; rintro e w9 ⟨rfl, hb9⟩
  replace rx := RowAt.below rx hb9
  replace r1 := RowAt.below r1 hb9
  replace hB := below2 hB hb9
  clear y0 y1 y2 y3 yf hly hb9
  obtain ⟨y0, y1, y2, y3, yf⟩ := cells4 r1
  obtain ⟨x0, x1, x2, x3, xf⟩ := cells4 rx
  have hly := RowAt.lt r1
  have hlx := RowAt.lt rx
  go_wp2_with fail
  refine bodyPost_ret (v := .tuple #[.agg #[.bool false, .int .u64 0, .int .u64 0, .int .i64 0], .string ⟨#[]⟩, .int .i64 7]) ?_ rfl ⟨rfl, ?_⟩
  any_goals (rw [results_cell_tmp2 rfl]; go_simp)
  all_goals (repeat' (first | with_reducible exact hB | with_reducible apply below_drew | with_reducible refine bset ?_ (by omega)))
set_option maxRecDepth 20000 in
set_option maxHeartbeats 8000000 in
theorem rgp_yes_true (S : ByteArray) (w : World) (b1 : UInt8) (k mn wd : Nat) (h : 2 ≤ (S.size : Int)) (h0 : ∀ h : 0 < S.size, S[0]'h = 6) (h1 : ∀ h : 1 < S.size, S[1]'h = b1) (hk : b1.toNat = k) (hmn : (mn : Int) = ((k : Int) + 7) / 8) (cW : ∀ W : World, Calls Tryz.prog 34 #[.bool true] W fun e w' => e = .returned (.int .i64 (wd : Int)) ∧ w' = W) (hwk : (k : Int) ≤ (wd : Int)) (n2 : Nat) (HN2 : Hid ((n2 : Int) = 2 + (mn : Int))) (hz : (n2 : Int) ≤ (S.size : Int)) (hn2 : 2 ≤ (n2 : Int)) (zn : Nat) (HWZ : Hid ((wd : Int) = 8 * ((mn : Int) + (zn : Int)))) (hw1 : (wd : Int) ≤ 128) (B Z BZ : ByteArray)
    (hS : (S.size : Int) ≤ 200000000000000)
    (cZ : ∀ W : World, Calls Tryz.prog 35 #[.int .i64 (zn : Int)] W fun e w' => e = .returned (.string Z) ∧ Below W.heap.size W w')
    (hBx : S.extract 2 n2 = B) (hBZ : B ++ Z = BZ) (hBs : B.size = mn) (hZs : Z.size = zn) (hi lo : Int)
    (B1 B2 : ByteArray) (hb16 : BZ.size = 16) (hb1 : BZ.extract 0 8 = B1) (hb2 : BZ.extract 8 16 = B2)
    (cN1 : ∀ W : World, Calls Tryz.prog 36 #[.string B1] W fun e w' => e = .returned (.int .u64 hi) ∧ w' = W)
    (cN2 : ∀ W : World, Calls Tryz.prog 36 #[.string B2] W fun e w' => e = .returned (.int .u64 lo) ∧ w' = W) (cP : ∀ W : World, Calls Tryz.prog 37 #[.agg #[.bool true, .int .u64 hi, .int .u64 lo, .int .i64 (k : Int)]] W fun e w' => e = .returned (.int .i64 0) ∧ Below W.heap.size W w') (R : ByteArray) (hR : S.extract n2 S.size = R) :
    Calls Tryz.prog 21 #[.string S] w fun e w' => e = .returned (.tuple #[.agg #[.bool true, .int .u64 hi, .int .u64 lo, .int .i64 (k : Int)], .string R, .int .i64 0]) ∧ Below w.heap.size w w' := by
  have q1 : decide ((S.size : Int) < 2) = false := decide_eq_false (by omega)
  have q2 : decide (S.size < 2) = false := decide_eq_false (by omega)
  have hk8 : (k : Int) ≤ 255 := by have := b1.toNat_lt; omega
  have e2 : IntKind.i64.wrap ((k : Int) + 7) = (k : Int) + 7 := by rw [IntKind.wrap_i64]; omega
  have hmw : IntKind.i64.wrap (mn : Int) = (mn : Int) := by rw [IntKind.wrap_i64]; omega
  have e3 : IntKind.i64.wrap (((k : Int) + 7).tdiv 8) = (mn : Int) := by rw [Int.tdiv_eq_ediv_of_nonneg (by omega), ← hmn]; exact hmw
  have e4 : ((k : Int) + 7).tdiv 8 = (mn : Int) := by rw [Int.tdiv_eq_ediv_of_nonneg (by omega), ← hmn]
  have e5 : ((k : Int) + 7) / 8 = (mn : Int) := hmn.symm
  have hm33 : (mn : Int) ≤ 33 := by omega
  clear hmn
  obtain ⟨X, hX⟩ : ∃ X, X = w.alloc (.cells #[.bool false, .int .u64 0, .int .u64 0, .int .i64 0] 30) := ⟨_, rfl⟩
  have hB : Below w.heap.size w X := by rw [hX]; exact below_new (Below.refl _ _) _
  have rx : RowAt X w.heap.size [.bool false, .int .u64 0, .int .u64 0, .int .i64 0] 30 := by rw [hX]; exact RowAt.new _ _ _
  go_enter Tryz.func21, Tryz.ntmps21
  go_upto_region 1 with fail
  rw [← hX]
  clear hX
  obtain ⟨g0, hg0⟩ : ∃ g, g = w.heap.size := ⟨_, rfl⟩
  have hgw : w.heap.size ≤ g0 := by omega
  rw [← hg0] at rx ⊢
  clear hg0
  obtain ⟨x0, x1, x2, x3, xf⟩ := cells4 rx
  have hlx := RowAt.lt rx
  go_upto_region 3 with fail
  have hi1 : 1 < S.size := by omega
  go_cut [5] (fun v wc => ∃ g, v = .pointer (some ⟨g, 0, none⟩) ∧ X.heap.size ≤ g ∧ RowAt wc g [.bool true, .int .u64 0, .int .u64 0, .int .i64 (k : Int)] 30 ∧ Below X.heap.size X wc)
  case first =>
    clear e2 e3 e4 e5 hmw hm33 cW q1 q2 hk8
    subst hk
    have hw0 : IntKind.i64.wrap (b1.toNat : Int) = (b1.toNat : Int) := by rw [IntKind.wrap_i64]; have := b1.toNat_lt; omega
    have hw := wrap_byte b1
    go_region
    all_goals go_wp2_with fail
    all_goals go_meet
    refine ⟨_, rfl, by simp, ?_, below_drew (below_new (Below.refl _ _) _)⟩
    exact (RowAt.new X [.bool true, .int .u64 0, .int .u64 0, .int .i64 (b1.toNat : Int)] 30).drew
  case rest =>
  obtain ⟨g1, rfl, hg1, r1, hbc⟩ := hcut
  replace rx := RowAt.below rx hbc
  replace hB := below2 hB hbc
  have hgl : g0 < g1 := by omega
  clear x0 x1 x2 x3 xf hlx hbc hg1 q1 q2 h1 h0 hi1
  obtain ⟨y0, y1, y2, y3, yf⟩ := cells4 r1
  have hly := RowAt.lt r1
  go_upto_region 5 with fail
  have d1 : decide ((wd : Int) < (k : Int)) = false := decide_eq_false (by omega)
  have d2 : decide (wd < k) = false := decide_eq_false (by omega)
  have d0 : IntKind.i64.wrap (n2 : Int) = (n2 : Int) := by rw [IntKind.wrap_i64]; omega
  have d3 : 2 + (mn : Int) = (n2 : Int) := HN2.out.symm
  have d4 : decide ((S.size : Int) < (n2 : Int)) = false := decide_eq_false (by omega)
  have d4' : decide (S.size < n2) = false := decide_eq_false (by omega)
  have m0 : ∀ p : Bl wc, p.W.cell? ⟨g1, 0, none⟩ = some (.bool true) := fun p => (r1.below p.h).cell 0
  have m3 : ∀ p : Bl wc, p.W.cell? ⟨g1, 3, none⟩ = some (.int .i64 (k : Int)) := fun p => (r1.below p.h).cell 3
  haveI := bl_ne wc
  refine wp_region_bl (by kernel_rfl) (by kernel_rfl) ?_
  repeat (quiet_step (first | (go_at_call 34; with_reducible exact bl_same (cW _))))
  refine wpQuiet_nil ?_
  intro wq hw'
  obtain ⟨⟨wz, hq⟩, hw2⟩ := hw'
  subst hw2
  replace rx := RowAt.below rx hq
  replace r1 := RowAt.below r1 hq
  replace hB := below2 hB hq
  clear y0 y1 y2 y3 yf hly m0 m3
  obtain ⟨y0, y1, y2, y3, yf⟩ := cells4 r1
  obtain ⟨x0, x1, x2, x3, xf⟩ := cells4 rx
  have hly := RowAt.lt r1
  have hlx := RowAt.lt rx
  clear d1 d2 d4 d4'
  have d5 : (wd : Int).tdiv 8 = (mn : Int) + (zn : Int) := by have := HWZ.out; rw [Int.tdiv_eq_ediv_of_nonneg (by omega)]; omega
  have hzn : (zn : Int) ≤ 16 := by have := HWZ.out; omega
  have d6 : IntKind.i64.wrap ((mn : Int) + (zn : Int)) = (mn : Int) + (zn : Int) := by rw [IntKind.wrap_i64]; omega
  have d7 : (mn : Int) + (zn : Int) - (mn : Int) = (zn : Int) := by omega
  have d8 : IntKind.i64.wrap (zn : Int) = (zn : Int) := by rw [IntKind.wrap_i64]; omega
  have d9 : ¬ 9223372036854775807 < B.size + Z.size := by omega
  have d9' : ¬ 9223372036854775807 < mn + zn := by omega
  go_upto_region 7 with fail
  have m0 : ∀ p : Bl wq, p.W.cell? ⟨g1, 0, none⟩ = some (.bool true) := fun p => (r1.below p.h).cell 0
  have m3 : ∀ p : Bl wq, p.W.cell? ⟨g1, 3, none⟩ = some (.int .i64 (k : Int)) := fun p => (r1.below p.h).cell 3
  haveI := bl_ne wq
  refine wp_region_bl (by kernel_rfl) (by kernel_rfl) ?_
  repeat (quiet_step (first | (go_at_call 34; with_reducible exact bl_same (cW _)) | (go_at_call 35; with_reducible exact bl_call (cZ _))))
  refine wpQuiet_nil ?_
  intro wv hw'
  obtain ⟨⟨wz, hv⟩, hw2⟩ := hw'
  subst hw2
  replace rx := RowAt.below rx hv
  replace r1 := RowAt.below r1 hv
  replace hB := below2 hB hv
  clear y0 y1 y2 y3 yf hly m0 m3
  obtain ⟨y0, y1, y2, y3, yf⟩ := cells4 r1
  obtain ⟨x0, x1, x2, x3, xf⟩ := cells4 rx
  have hly := RowAt.lt r1
  have hlx := RowAt.lt rx
  go_upto_region 9 with fail
  go_cut [7] (fun v wc => v = .string BZ ∧ RowAt wc g0 [.bool false, .int .u64 0, .int .u64 0, .int .i64 0] 30 ∧ RowAt wc g1 [.bool true, .int .u64 hi, .int .u64 lo, .int .i64 (k : Int)] 30 ∧ Below w.heap.size w wc)
  case first =>
    go_region_with (first | (go_at_call 36; with_reducible refine (cN1 _).mono ?_; rintro e w8 ⟨rfl, rfl⟩) | (go_at_call 36; with_reducible refine (cN2 _).mono ?_; rintro e w8 ⟨rfl, rfl⟩))
    all_goals go_wp2_with fail
    all_goals go_meet
    all_goals
      refine ⟨rfl, ?_, ?_, ?_⟩
      · exact RowAt.drew (gkeep (gkeep (rx) (gsetO _ g1 1 (.int .u64 hi)) (by omega)) (gsetO _ g1 2 (.int .u64 lo)) (by omega))
      · have s1 := set1 (set1 (r1) 1 (.int .u64 hi)) 2 (.int .u64 lo)
        simp only [List.set_cons_succ, List.set_cons_zero] at s1
        exact RowAt.drew s1
      · exact below_drew (bset (bset (hB) (by omega)) (by omega))
  case rest =>
  clear rx r1 hB y0 y1 y2 y3 yf hly x0 x1 x2 x3 xf hlx
  obtain ⟨rfl, rx, r1, hB⟩ := hcut
  obtain ⟨y0, y1, y2, y3, yf⟩ := cells4 r1
  have hly := RowAt.lt r1
  go_wp2_with fail
  go_at_call 37; refine (cP _).mono ?_; rintro e w9 ⟨rfl, hb9⟩
  replace rx := RowAt.below rx hb9
  replace r1 := RowAt.below r1 hb9
  replace hB := below2 hB hb9
  clear y0 y1 y2 y3 yf hly hb9
  obtain ⟨y0, y1, y2, y3, yf⟩ := cells4 r1
  obtain ⟨x0, x1, x2, x3, xf⟩ := cells4 rx
  have hly := RowAt.lt r1
  have hlx := RowAt.lt rx
  go_upto_region 13 with fail
  go_region
  go_wp2_with fail
  refine bodyPost_ret (v := .tuple #[.agg #[.bool true, .int .u64 hi, .int .u64 lo, .int .i64 (k : Int)], .string R, .int .i64 0]) ?_ rfl ⟨rfl, ?_⟩
  any_goals (rw [results_cell_tmp2 rfl]; go_simp)
  all_goals (repeat' (first | with_reducible exact hB | with_reducible apply below_drew | with_reducible refine bset ?_ (by omega)))
end Go.Proofs.YtopabkkapbaibaaGreat.Msg
namespace Go.Proofs.YtopabkkapbaibaaGreat.Msg
open Go.RowKit
open Go.Proofs.YtopabkkapbaibaaGreat.Addr (Pf okP checkP wideN firstN kP hiN loN adV pfV)

theorem mid_ext (l : List UInt8) (i j : Nat) (h : j ≤ l.length) : (⟨l.toArray⟩ : ByteArray).extract i j = ⟨((l.drop i).take (j - i)).toArray⟩ := by
  apply ByteArray.ext
  simp [List.take_drop]
theorem rdP_mark (six : Bool) (b : UInt8) (t : List UInt8) : rdP (some (markB six :: b :: t)) = if t.length < manyN b.toNat then (⟨six, 0, (b.toNat : Int)⟩, none) else (⟨six, gaN six (t.take (manyN b.toNat)), (b.toNat : Int)⟩, some (t.drop (manyN b.toNat))) := by
  have e1 : part false fSix (some (markB six :: b :: t)) = (six, some (b :: t)) := by cases six <;> rfl
  have e2 : part 0 f1 (some (b :: t)) = (b.toNat, some t) := rfl
  unfold rdP
  simp only [e1, e2]
  by_cases h : t.length < manyN b.toNat
  · rw [if_pos h, part_no (by unfold fAd; rw [if_pos h])]
  · rw [if_neg h, part_yes (by unfold fAd; rw [if_neg h])]
theorem firstPf_short {s : List UInt8} (h : s.length < 2) : firstP rdP okP zeroPf s = (zeroPf, [], 7) := by
  match s with
  | [] => unfold firstP rdP; rfl
  | [x] =>
    unfold firstP
    have : (rdP (some [x])).2 = none := by
      unfold rdP
      by_cases h6 : x = 6
      · subst h6; kernel_rfl
      by_cases h4 : x = 4
      · subst h4; kernel_rfl
      have e1 : part false fSix (some [x]) = (false, none) := part_no (by unfold fSix; simp only; rw [if_neg h6, if_neg h4])
      simp only [e1]
      rfl
    rw [this]
  | x :: y :: t => simp at h; omega
theorem firstPf_mark {x : UInt8} {t : List UInt8} (h4 : ¬ x.toNat = 4) (h6 : ¬ x.toNat = 6) : firstP rdP okP zeroPf (x :: t) = (zeroPf, [], 7) := by
  have h4' : ¬ x = 4 := fun e => h4 (by rw [e]; rfl)
  have h6' : ¬ x = 6 := fun e => h6 (by rw [e]; rfl)
  have e1 : part false fSix (some (x :: t)) = (false, none) := part_no (by unfold fSix; simp only; rw [if_neg h6', if_neg h4'])
  unfold firstP rdP
  simp only [e1]
  rfl
theorem firstPf_wide {six : Bool} {b : UInt8} {t : List UInt8} (h : wideN six < b.toNat) : firstP rdP okP zeroPf (markB six :: b :: t) = (zeroPf, [], 7) := by
  unfold firstP
  rw [rdP_mark]
  by_cases hl : t.length < manyN b.toNat
  · rw [if_pos hl]
  · rw [if_neg hl]
    simp only
    rw [if_neg]
    intro hok
    have := (Addr.okP_iff.1 hok).1
    simp only at this
    omega
theorem firstPf_less {six : Bool} {b : UInt8} {t : List UInt8} (h : t.length < manyN b.toNat) : firstP rdP okP zeroPf (markB six :: b :: t) = (zeroPf, [], 7) := by
  unfold firstP
  rw [rdP_mark, if_pos h]
theorem firstPf_ok {six : Bool} {b : UInt8} {t : List UInt8} (h : ¬ t.length < manyN b.toNat) : firstP rdP okP zeroPf (markB six :: b :: t) = if okP ⟨six, gaN six (t.take (manyN b.toNat)), (b.toNat : Int)⟩ then (⟨six, gaN six (t.take (manyN b.toNat)), (b.toNat : Int)⟩, t.drop (manyN b.toNat), 0) else (zeroPf, [], 7) := by
  unfold firstP
  rw [rdP_mark, if_neg h]
theorem gaN_lay (six : Bool) (t : List UInt8) (m : Nat) (hm : m ≤ wB six) (ht : m ≤ t.length) : gaN six (t.take m) = nb 0 (t.take m ++ List.replicate (wB six - m) 0) := by
  have hl : (t.take m).length = m := by rw [List.length_take]; omega
  unfold gaN
  rw [List.take_of_length_le (by omega), hl]
theorem rgetPrefix_any (s : List UInt8) (w : World) (hs : (s.length : Int) ≤ 200000000000000) :
    Calls Tryz.prog 21 #[.string ⟨s.toArray⟩] w fun e w' => e = .returned (.tuple #[pfV (firstP rdP okP zeroPf s).1, .string ⟨(firstP rdP okP zeroPf s).2.1.toArray⟩, .int .i64 (firstP rdP okP zeroPf s).2.2]) ∧ Below w.heap.size w w' := by
  have hz := pfV0
  rcases s with _ | ⟨x, _ | ⟨b, t⟩⟩
  · rw [firstPf_short (by simp), hz]; exact rgp_short _ w (by rw [size_list]; decide)
  · rw [firstPf_short (by simp), hz]; exact rgp_short _ w (by rw [size_list]; show ((1 : Nat) : Int) < 2; decide)
  ·
    have hsz : (⟨(x :: b :: t).toArray⟩ : ByteArray).size = t.length + 2 := by rw [size_list]; rfl
    have h2 : 2 ≤ ((⟨(x :: b :: t).toArray⟩ : ByteArray).size : Int) := by rw [hsz]; omega
    have h0 : ∀ h : 0 < (⟨(x :: b :: t).toArray⟩ : ByteArray).size, (⟨(x :: b :: t).toArray⟩ : ByteArray)[0]'h = x := fun h => rfl
    have h1 : ∀ h : 1 < (⟨(x :: b :: t).toArray⟩ : ByteArray).size, (⟨(x :: b :: t).toArray⟩ : ByteArray)[1]'h = b := fun h => rfl
    by_cases hm : x.toNat = 4 ∨ x.toNat = 6
    · obtain ⟨six, hx⟩ : ∃ six, x = markB six := by
        rcases hm with h | h
        · exact ⟨false, UInt8.toNat_inj.1 h⟩
        · exact ⟨true, UInt8.toNat_inj.1 h⟩
      clear hm
      have cW := fun W : World => Addr.rwide_any six W
      have hw8 := wB8 six
      have hmn : ((manyN b.toNat : Nat) : Int) = ((b.toNat : Int) + 7) / 8 := by unfold manyN; omega
      have hb8 := b.toNat_lt
      have hsl : (⟨(x :: b :: t).toArray⟩ : ByteArray).size ≤ 200000000000000 := by rw [hsz]; rw [List.length_cons, List.length_cons] at hs; omega
      by_cases hwk : wideN six < b.toNat
      · rw [hx, firstPf_wide hwk, hz, ← hx]
        cases six
        · exact rgp_wide_false _ w b b.toNat (manyN b.toNat) _ h2 (fun h => (h0 h).trans hx) h1 rfl hmn cW (by omega)
        · exact rgp_wide_true _ w b b.toNat (manyN b.toNat) _ h2 (fun h => (h0 h).trans hx) h1 rfl hmn cW (by omega)
      · by_cases hl : t.length < manyN b.toNat
        · rw [hx, firstPf_less hl, hz, ← hx]
          cases six
          · exact rgp_less_false _ w b b.toNat (manyN b.toNat) _ h2 (fun h => (h0 h).trans hx) h1 rfl hmn cW (by omega) (by rw [hsz]; omega)
          · exact rgp_less_true _ w b b.toNat (manyN b.toNat) _ h2 (fun h => (h0 h).trans hx) h1 rfl hmn cW (by omega) (by rw [hsz]; omega)
        · have hmw : manyN b.toNat ≤ wB six := by omega
          have hga := gaN_lay six t (manyN b.toNat) hmw (by omega)
          have hfirst := firstPf_ok (six := six) (b := b) (t := t) hl
          have hBx : (⟨(x :: b :: t).toArray⟩ : ByteArray).extract 2 (2 + manyN b.toNat) = ⟨(t.take (manyN b.toNat)).toArray⟩ := by
            rw [mid_ext _ _ _ (by simp; omega)]
            simp
          have hR : (⟨(x :: b :: t).toArray⟩ : ByteArray).extract (2 + manyN b.toNat) (⟨(x :: b :: t).toArray⟩ : ByteArray).size = ⟨(t.drop (manyN b.toNat)).toArray⟩ := by
            rw [hsz, mid_ext _ _ _ (by simp)]
            rw [List.take_of_length_le (by simp), Nat.add_comm 2]
            rfl
          have hBZ := bytes_cat (t.take (manyN b.toNat)) (List.replicate (wB six - manyN b.toNat) 0)
          have cZ := fun W : World => Page.zeros_any (wB six - manyN b.toNat) W (by have : wB six ≤ 16 := (by cases six <;> decide); omega)
          have hlen : (t.take (manyN b.toNat) ++ List.replicate (wB six - manyN b.toNat) 0).length = wB six := by
            rw [List.length_append, List.length_take, List.length_replicate]; omega
          have hBs : (⟨(t.take (manyN b.toNat)).toArray⟩ : ByteArray).size = manyN b.toNat := by rw [size_list, List.length_take]; omega
          have hZs : (⟨(List.replicate (wB six - manyN b.toNat) (0 : UInt8)).toArray⟩ : ByteArray).size = wB six - manyN b.toNat := by rw [size_list, List.length_replicate]
          have hn : gaN six (t.take (manyN b.toNat)) < 2 ^ 128 := by
            rw [hga]
            have := nb_lt (t.take (manyN b.toNat) ++ List.replicate (wB six - manyN b.toNat) 0) 0
            rw [hlen] at this
            refine Nat.lt_of_lt_of_le this ?_
            cases six <;> decide
          have cP := fun W : World => Addr.rcheck_any ⟨six, gaN six (t.take (manyN b.toNat)), (b.toNat : Int)⟩ W ⟨by show (-9223372036854775808 : Int) ≤ (b.toNat : Int); omega, by show (b.toNat : Int) ≤ 9223372036854775807; omega⟩ hn
          have hcp : checkP ⟨six, gaN six (t.take (manyN b.toNat)), (b.toNat : Int)⟩ = if okP ⟨six, gaN six (t.take (manyN b.toNat)), (b.toNat : Int)⟩ = true then 0 else 2 := rfl
          rw [hcp] at cP
          rw [hx] at h0 hBx hR h2 hsz hsl ⊢
          clear hx hcp
          rw [hfirst]
          unfold Addr.pfV at cP
          simp only at cP
          cases six
          · have hlt : gaN false (t.take (manyN b.toNat)) < 18446744073709551616 := by
              rw [hga]
              have := nb_lt (t.take (manyN b.toNat) ++ List.replicate (wB false - manyN b.toNat) 0) 0
              rw [hlen] at this
              exact Nat.lt_of_lt_of_le this (by decide)
            have hhi : hiN (gaN false (t.take (manyN b.toNat))) = 0 := Nat.div_eq_of_lt hlt
            have hlo : loN (gaN false (t.take (manyN b.toNat))) = gaN false (t.take (manyN b.toNat)) := Nat.mod_eq_of_lt hlt
            have cN : ∀ W : World, Calls Tryz.prog 36 #[.string ⟨(t.take (manyN b.toNat) ++ List.replicate (wB false - manyN b.toNat) 0).toArray⟩] W fun e w' => e = .returned (.int .u64 ((loN (gaN false (t.take (manyN b.toNat))) : Nat) : Int)) ∧ w' = W := fun W => by
              have := Page.rnumber_any (t.take (manyN b.toNat) ++ List.replicate (wB false - manyN b.toNat) 0) W (by rw [hlen]; decide)
              rw [numL_nb, ← hga] at this
              rw [hlo]
              exact this
            cases hok : okP ⟨false, gaN false (t.take (manyN b.toNat)), (b.toNat : Int)⟩ with
            | false =>
              rw [hok] at cP
              simp only [Bool.false_eq_true, if_false] at cP ⊢
              rw [hz]
              exact rgp_no_false _ w b b.toNat (manyN b.toNat) _ h2 h0 h1 rfl hmn cW (by omega) (2 + manyN b.toNat) (by show _ = _; omega) (by rw [hsz]; omega) (by omega) (wB false - manyN b.toNat) (by show _ = _; omega) (by have := Addr.wideN_le false; omega) _ _ _ (by omega) cZ hBx hBZ hBs hZs _ _ (by rw [hhi]; rfl) cN cP
            | true =>
              rw [hok] at cP
              simp only [if_true] at cP ⊢
              unfold Addr.pfV
              exact rgp_yes_false _ w b b.toNat (manyN b.toNat) _ h2 h0 h1 rfl hmn cW (by omega) (2 + manyN b.toNat) (by show _ = _; omega) (by rw [hsz]; omega) (by omega) (wB false - manyN b.toNat) (by show _ = _; omega) (by have := Addr.wideN_le false; omega) _ _ _ (by omega) cZ hBx hBZ hBs hZs _ _ (by rw [hhi]; rfl) cN cP _ hR
          · obtain ⟨hhi, hlo⟩ := hilo_nb (t.take (manyN b.toNat) ++ List.replicate (wB true - manyN b.toNat) 0) hlen
            rw [← hga] at hhi hlo
            have hb16 : (⟨(t.take (manyN b.toNat) ++ List.replicate (wB true - manyN b.toNat) 0).toArray⟩ : ByteArray).size = 16 := by rw [size_list, hlen]; rfl
            have hb1 := take_pre (t.take (manyN b.toNat) ++ List.replicate (wB true - manyN b.toNat) 0) 8 (by rw [hlen]; decide)
            have hb2 := drop_suf (t.take (manyN b.toNat) ++ List.replicate (wB true - manyN b.toNat) 0) 8 (by rw [hlen]; decide)
            rw [hlen] at hb2
            have cN1 : ∀ W : World, Calls Tryz.prog 36 #[.string ⟨((t.take (manyN b.toNat) ++ List.replicate (wB true - manyN b.toNat) 0).take 8).toArray⟩] W fun e w' => e = .returned (.int .u64 ((hiN (gaN true (t.take (manyN b.toNat))) : Nat) : Int)) ∧ w' = W := fun W => by
              have := Page.rnumber_any ((t.take (manyN b.toNat) ++ List.replicate (wB true - manyN b.toNat) 0).take 8) W (by rw [List.length_take]; omega)
              rw [numL_nb, ← hhi] at this
              exact this
            have cN2 : ∀ W : World, Calls Tryz.prog 36 #[.string ⟨((t.take (manyN b.toNat) ++ List.replicate (wB true - manyN b.toNat) 0).drop 8).toArray⟩] W fun e w' => e = .returned (.int .u64 ((loN (gaN true (t.take (manyN b.toNat))) : Nat) : Int)) ∧ w' = W := fun W => by
              have := Page.rnumber_any ((t.take (manyN b.toNat) ++ List.replicate (wB true - manyN b.toNat) 0).drop 8) W (by rw [List.length_drop, hlen]; decide)
              rw [numL_nb, ← hlo] at this
              exact this
            cases hok : okP ⟨true, gaN true (t.take (manyN b.toNat)), (b.toNat : Int)⟩ with
            | false =>
              rw [hok] at cP
              simp only [Bool.false_eq_true, if_false] at cP ⊢
              rw [hz]
              exact rgp_no_true _ w b b.toNat (manyN b.toNat) _ h2 h0 h1 rfl hmn cW (by omega) (2 + manyN b.toNat) (by show _ = _; omega) (by rw [hsz]; omega) (by omega) (wB true - manyN b.toNat) (by show _ = _; omega) (by have := Addr.wideN_le true; omega) _ _ _ (by omega) cZ hBx hBZ hBs hZs _ _ _ _ hb16 hb1 hb2 cN1 cN2 cP
            | true =>
              rw [hok] at cP
              simp only [if_true] at cP ⊢
              unfold Addr.pfV
              exact rgp_yes_true _ w b b.toNat (manyN b.toNat) _ h2 h0 h1 rfl hmn cW (by omega) (2 + manyN b.toNat) (by show _ = _; omega) (by rw [hsz]; omega) (by omega) (wB true - manyN b.toNat) (by show _ = _; omega) (by have := Addr.wideN_le true; omega) _ _ _ (by omega) cZ hBx hBZ hBs hZs _ _ _ _ hb16 hb1 hb2 cN1 cN2 cP _ hR
    · rw [firstPf_mark (fun h => hm (.inl h)) (fun h => hm (.inr h)), hz]
      exact rgp_mark _ w x h2 h0 (fun h => hm (.inl h)) (fun h => hm (.inr h))
end Go.Proofs.YtopabkkapbaibaaGreat.Msg
