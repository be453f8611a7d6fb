/- What addr.Next and addr.Prev return. -/
import Derived.Test.YtmkbijnndbgjgaaAddrLast
import Derived.Shelf.Spec.BitsCarry
set_option linter.unusedVariables false
namespace Go.Proofs.Ytmkbijnndbgjgaa.Addr
open Go.RowKit

theorem add1 (x : Nat) (w : World) : (callFunc 108 #[.int .u64 (x : Int), .int .u64 1, .int .u64 0]).run Try.prog w = .ok (.value (.tuple #[.int .u64 (((x : Int) + 1) % 18446744073709551616), .int .u64 (((x : Int) + 1) / 18446744073709551616)])) w := by
  rw [run_callFunc_extern Try.func108 (by kernel_rfl) (by kernel_rfl) (by kernel_rfl) (e := add64Entry) (by kernel_rfl), run_add64 (x : Int) 1 0 (by omega) (by omega) (by omega) (by omega)]
  simp only [Result.andThen, Int.add_zero]
theorem sub1 (x : Nat) (w : World) : (callFunc 109 #[.int .u64 (x : Int), .int .u64 1, .int .u64 0]).run Try.prog w = .ok (.value (.tuple #[.int .u64 (((x + 18446744073709551616 - 1 - 0) % 18446744073709551616 : Nat) : Int), .int .u64 ((if x < 1 + 0 then 1 else 0 : Nat) : Int)])) w := by
  rw [run_callFunc_extern Try.func109 (by kernel_rfl) (by kernel_rfl) (by kernel_rfl) (e := sub64Entry) (by kernel_rfl)]
  have := run_sub64 (P := Try.prog) x 1 0 (by omega) w
  simp only [Int.natCast_zero, Int.natCast_one] at this
  rw [show (Value.int .u64 1) = Value.int .u64 ((1 : Nat) : Int) from rfl, show (Value.int .u64 0) = Value.int .u64 ((0 : Nat) : Int) from rfl]
  rw [run_sub64 x 1 0 (by omega)]
  rfl
theorem next_hi (n : Nat) (h : n + 1 < 2 ^ 128) : IntKind.u64.wrap ((hiN n : Int) + ((loN n : Int) + 1) / 18446744073709551616) = (hiN (n + 1) : Int) := by
  rw [IntKind.wrap_u64]; unfold hiN loN; omega
theorem next_lo (n : Nat) : ((loN n : Int) + 1) % 18446744073709551616 = (loN (n + 1) : Int) := by unfold loN; omega
theorem prev_hi (n : Nat) (h : n < 2 ^ 128) (h0 : n ≠ 0) : IntKind.u64.wrap ((hiN n : Int) - ((if loN n < 1 + 0 then 1 else 0 : Nat) : Int)) = (hiN (n - 1) : Int) := by
  rw [IntKind.wrap_u64]; unfold hiN loN
  split <;> omega
theorem prev_lo (n : Nat) (h0 : n ≠ 0) : (loN n + 18446744073709551616 - 1 - 0) % 18446744073709551616 = loN (n - 1) := by unfold loN; omega
set_option maxHeartbeats 2000000 in
theorem next_any (six : Bool) (n : Nat) (w : World) (hn : n < 2 ^ 128) : Calls Try.prog 91 #[.bool six, adV n] w fun e w' => e = .returned (.tuple #[adV (nextE six n).1, .int .i64 (nextE six n).2]) ∧ Below w.heap.size w w' := by
  have cr := fun w => right_any six n w hn
  have hz : adV 0 = .agg #[.int .u64 0, .int .u64 0] := rfl
  cases hr : rightB six n
  · rw [hr] at cr
    have e1 : nextE six n = (0, 2) := by unfold nextE; rw [hr]; rfl
    rw [e1]
    simp only [hz]
    unfold adV at *
    generalize hiN n = h at *
    generalize loN n = l at *
    clear hr e1 hn hz
    obtain ⟨X, hX⟩ : ∃ X, X = (w.alloc (.cells #[.int .u64 (h : Int), .int .u64 (l : Int)] 95)).alloc (.cells #[.int .u64 0, .int .u64 0] 95) := ⟨_, rfl⟩
    have hB0 : Below w.heap.size w X := by rw [hX]; exact below_new (below_new (Below.refl _ _) _) _
    have r1 : RowAt X (w.heap.size + 1) [.int .u64 0, .int .u64 0] 95 := by rw [hX, ← World.size_alloc w (.cells #[.int .u64 (h : Int), .int .u64 (l : Int)] 95)]; exact RowAt.new _ _ _
    go_enter Try.func91, Try.ntmps91
    go_wp2_with fail
    go_at_call 88; refine (cr _).mono ?_; rintro e w2 ⟨rfl, hb2⟩
    rw [← hX] at hb2
    have hW := below2 hB0 hb2
    obtain ⟨q0, q1, qf⟩ := cells2 (r1.below hb2)
    clear hX cr r1 hB0 hb2
    go_wp2_with fail
    (try simp only [Exit.inBlock, Exit.then])
    refine bodyPost_ret (v := .tuple #[.agg #[.int .u64 0, .int .u64 0], .int .i64 2]) ?_ rfl ⟨rfl, ?_⟩
    · rw [results_cell_tmp rfl]
      go_simp
    · repeat' (first | with_reducible exact hW | with_reducible apply below_new | with_reducible refine bset ?_ (by omega))
  · rw [hr] at cr
    have hfd := field_style
    have cs := fun w => styleOf_any six w
    have ct := fun w => tail_any (wideN six) w (wideN_le six)
    obtain ⟨s1, s2, s3, hsa⟩ := style_arr six
    rw [hsa] at cs
    clear hsa
    have heq := fun w => ad_eql n (freeN (wideN six)) w
    have hgd := ad_guard
    have hf : freeN (wideN six) = 2 ^ wideN six - 1 := rfl
    have hlt : n < 2 ^ wideN six := of_decide_eq_true hr
    have hw128 : (2 : Nat) ^ wideN six ≤ 2 ^ 128 := Nat.pow_le_pow_right (by decide) (wideN_le six)
    obtain ⟨X, hX⟩ : ∃ X, X = (w.alloc (.cells #[.int .u64 (hiN n : Int), .int .u64 (loN n : Int)] 95)).alloc (.cells #[.int .u64 0, .int .u64 0] 95) := ⟨_, rfl⟩
    have hB0 : Below w.heap.size w X := by rw [hX]; exact below_new (below_new (Below.refl _ _) _) _
    have r0 : RowAt X w.heap.size [.int .u64 (hiN n : Int), .int .u64 (loN n : Int)] 95 := by rw [hX]; exact (RowAt.new _ _ _).alloc _
    have r1 : RowAt X (w.heap.size + 1) [.int .u64 0, .int .u64 0] 95 := by rw [hX, ← World.size_alloc w (.cells #[.int .u64 (hiN n : Int), .int .u64 (loN n : Int)] 95)]; exact RowAt.new _ _ _
    by_cases hm : n = 2 ^ wideN six - 1
    · have e1 : nextE six n = (0, 3) := by unfold nextE; rw [hr, if_pos rfl, if_pos hm]
      rw [e1]
      simp only [hz]
      have hd : decide (n = freeN (wideN six)) = true := decide_eq_true (hm.trans hf.symm)
      rw [hd] at heq
      unfold adV at *
      generalize freeN (wideN six) = f at *
      generalize hiN f = fh at *
      generalize loN f = fl at *
      generalize hiN n = h at *
      generalize loN n = l at *
      generalize (wideN six : Int) = wd at *
      clear hr e1 hn hz hm hd hf hlt hw128
      go_enter Try.func91, Try.ntmps91
      go_wp2_with fail
      go_at_call 88; refine (cr _).mono ?_; rintro e w2 ⟨rfl, hb2⟩
      rw [← hX] at hb2
      have hW := below2 hB0 hb2
      have r0 := r0.below hb2
      have r1 := r1.below hb2
      clear hX cr hB0 hb2
      have q0 : ∀ p : Bl w2, p.W.cell? ⟨w.heap.size, 0, none⟩ = some (.int .u64 (h : Int)) := fun p => (r0.below p.h).cell 0
      have q1 : ∀ p : Bl w2, p.W.cell? ⟨w.heap.size, 1, none⟩ = some (.int .u64 (l : Int)) := fun p => (r0.below p.h).cell 1
      haveI := bl_ne w2
      go_wp2_with fail
      refine wp_region_bl (by kernel_rfl) (by kernel_rfl) ?_
      repeat (quiet_step (first | (go_at_call 105; exact bl_call (cs _)) | (go_at_call 104; exact bl_call (ct _))))
      refine wpQuiet_nil ?_
      intro wq hw'
      obtain ⟨⟨wz, hq⟩, hw2⟩ := hw'
      subst hw2
      have hW := below2 hW hq
      clear q0 q1
      obtain ⟨q0, q1, qf⟩ := cells2 (r1.below hq)
      clear cs ct hfd r0 r1 hq this heq
      go_wp2_with fail
      (try simp only [Exit.inBlock, Exit.then])
      refine bodyPost_ret (v := .tuple #[.agg #[.int .u64 0, .int .u64 0], .int .i64 3]) ?_ rfl ⟨rfl, ?_⟩
      · rw [results_cell_tmp rfl]
        go_simp
      · repeat' (first | with_reducible exact hW | with_reducible apply below_new | with_reducible refine bset ?_ (by omega))
    · have e1 : nextE six n = (n + 1, 0) := by unfold nextE; rw [hr, if_pos rfl, if_neg hm]
      rw [e1]
      have hd : decide (n = freeN (wideN six)) = false := decide_eq_false (fun hc => hm (hc.trans hf))
      rw [hd] at heq
      have a1 := next_hi n (by omega)
      have a2 := next_lo n
      have hadd := fun w => add1 (loN n) w
      rw [a2] at hadd
      have hcy : (((loN n : Int) + 1) / 18446744073709551616 = 0 ∨ ((loN n : Int) + 1) / 18446744073709551616 = 1) := by have := loN_lt n; omega
      unfold adV at *
      simp only
      generalize ((loN n : Int) + 1) / 18446744073709551616 = cy at *
      generalize hiN (n + 1) = rh at *
      generalize loN (n + 1) = rl at *
      generalize freeN (wideN six) = f at *
      generalize hiN f = fh at *
      generalize loN f = fl at *
      generalize hiN n = h at *
      generalize loN n = l at *
      generalize (wideN six : Int) = wd at *
      clear hr e1 hn hz hm hd hf hlt hw128 a2 hcy
      go_enter Try.func91, Try.ntmps91
      go_wp2_with fail
      go_at_call 88; refine (cr _).mono ?_; rintro e w2 ⟨rfl, hb2⟩
      rw [← hX] at hb2
      have hW := below2 hB0 hb2
      have r0 := r0.below hb2
      have r1 := r1.below hb2
      clear hX cr hB0 hb2
      have q0 : ∀ p : Bl w2, p.W.cell? ⟨w.heap.size, 0, none⟩ = some (.int .u64 (h : Int)) := fun p => (r0.below p.h).cell 0
      have q1 : ∀ p : Bl w2, p.W.cell? ⟨w.heap.size, 1, none⟩ = some (.int .u64 (l : Int)) := fun p => (r0.below p.h).cell 1
      haveI := bl_ne w2
      go_wp2_with fail
      refine wp_region_bl (by kernel_rfl) (by kernel_rfl) ?_
      repeat (quiet_step (first | (go_at_call 105; exact bl_call (cs _)) | (go_at_call 104; exact bl_call (ct _))))
      refine wpQuiet_nil ?_
      intro wq hw'
      obtain ⟨⟨wz, hq⟩, hw2⟩ := hw'
      subst hw2
      have hW := below2 hW hq
      clear q0 q1
      obtain ⟨q0, q1, qf⟩ := cells2 (r0.below hq)
      obtain ⟨p0, p1, pf⟩ := cells2 (r1.below hq)
      clear cs ct hfd r0 r1 hq this heq
      go_wp2_with fail
      (try simp only [Exit.inBlock, Exit.then])
      refine bodyPost_ret (v := .tuple #[.agg #[.int .u64 (rh : Int), .int .u64 (rl : Int)], .int .i64 0]) ?_ rfl ⟨rfl, ?_⟩
      · rw [results_cell_tmp rfl]
        go_simp
      · repeat' (first | with_reducible exact hW | with_reducible apply below_new | with_reducible refine bset ?_ (by omega))
end Go.Proofs.Ytmkbijnndbgjgaa.Addr
