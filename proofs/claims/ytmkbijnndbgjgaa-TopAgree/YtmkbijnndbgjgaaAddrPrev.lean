/- What addr.Prev returns. -/
import Derived.Test.YtmkbijnndbgjgaaAddrNext
set_option linter.unusedVariables false
namespace Go.Proofs.Ytmkbijnndbgjgaa.Addr
open Go.RowKit

set_option maxHeartbeats 2000000 in
theorem prev_any (six : Bool) (n : Nat) (w : World) (hn : n < 2 ^ 128) : Calls Try.prog 93 #[.bool six, adV n] w fun e w' => e = .returned (.tuple #[adV (prevE six n).1, .int .i64 (prevE six n).2]) ∧ Below w.heap.size w w' := by
  have cr := fun w => right_any six n w hn
  have hz : adV 0 = .agg #[.int .u64 0, .int .u64 0] := rfl
  have heq := fun w => ad_eql n 0 w
  have hgd := ad_guard
  rw [hz] at heq
  obtain ⟨X, hX⟩ : ∃ X, X = (w.alloc (.cells #[.int .u64 (hiN n : Int), .int .u64 (loN n : Int)] 95)).alloc (.cells #[.int .u64 0, .int .u64 0] 95) := ⟨_, rfl⟩
  have hB0 : Below w.heap.size w X := by rw [hX]; exact below_new (below_new (Below.refl _ _) _) _
  have r0 : RowAt X w.heap.size [.int .u64 (hiN n : Int), .int .u64 (loN n : Int)] 95 := by rw [hX]; exact (RowAt.new _ _ _).alloc _
  have r1 : RowAt X (w.heap.size + 1) [.int .u64 0, .int .u64 0] 95 := by rw [hX, ← World.size_alloc w (.cells #[.int .u64 (hiN n : Int), .int .u64 (loN n : Int)] 95)]; exact RowAt.new _ _ _
  cases hr : rightB six n
  · rw [hr] at cr
    have e1 : prevE six n = (0, 2) := by unfold prevE; rw [hr]; rfl
    rw [e1]
    simp only [hz]
    unfold adV at *
    generalize hiN n = h at *
    generalize loN n = l at *
    clear hr e1 hn hz heq
    go_enter Try.func93, Try.ntmps93
    go_wp2_with fail
    go_at_call 88; refine (cr _).mono ?_; rintro e w2 ⟨rfl, hb2⟩
    rw [← hX] at hb2
    have hW := below2 hB0 hb2
    obtain ⟨q0, q1, qf⟩ := cells2 (r1.below hb2)
    clear hX cr r1 hB0 hb2
    go_wp2_with fail
    (try simp only [Exit.inBlock, Exit.then])
    refine bodyPost_ret (v := .tuple #[.agg #[.int .u64 0, .int .u64 0], .int .i64 2]) ?_ rfl ⟨rfl, ?_⟩
    · rw [results_cell_tmp rfl]
      go_simp
    · repeat' (first | with_reducible exact hW | with_reducible apply below_new | with_reducible refine bset ?_ (by omega))
  · rw [hr] at cr
    by_cases hm : n = 0
    · have e1 : prevE six n = (0, 3) := by unfold prevE; rw [hr, if_pos rfl, if_pos hm]
      rw [e1]
      simp only [hz]
      have hd : decide (n = 0) = true := decide_eq_true hm
      rw [hd] at heq
      unfold adV at *
      generalize hiN n = h at *
      generalize loN n = l at *
      clear hr e1 hn hz hm hd
      go_enter Try.func93, Try.ntmps93
      go_wp2_with fail
      go_at_call 88; refine (cr _).mono ?_; rintro e w2 ⟨rfl, hb2⟩
      rw [← hX] at hb2
      have hW := below2 hB0 hb2
      obtain ⟨q0, q1, qf⟩ := cells2 (r0.below hb2)
      obtain ⟨p0, p1, pf⟩ := cells2 (r1.below hb2)
      clear hX cr hB0 hb2 r0 r1
      go_wp2_with fail
      (try simp only [Exit.inBlock, Exit.then])
      refine bodyPost_ret (v := .tuple #[.agg #[.int .u64 0, .int .u64 0], .int .i64 3]) ?_ rfl ⟨rfl, ?_⟩
      · rw [results_cell_tmp rfl]
        go_simp
      · repeat' (first | with_reducible exact hW | with_reducible apply below_new | with_reducible refine bset ?_ (by omega))
    · have e1 : prevE six n = (n - 1, 0) := by unfold prevE; rw [hr, if_pos rfl, if_neg hm]
      rw [e1]
      have hd : decide (n = 0) = false := decide_eq_false hm
      rw [hd] at heq
      have a1 := prev_hi n hn hm
      have a2 := prev_lo n hm
      have hsub := fun w => sub1 (loN n) w
      rw [a2] at hsub
      unfold adV at *
      simp only
      generalize (if loN n < 1 + 0 then 1 else 0 : Nat) = cy at *
      generalize hiN (n - 1) = rh at *
      generalize loN (n - 1) = rl at *
      generalize hiN n = h at *
      generalize loN n = l at *
      clear hr e1 hn hz hm hd a2
      go_enter Try.func93, Try.ntmps93
      go_wp2_with fail
      go_at_call 88; refine (cr _).mono ?_; rintro e w2 ⟨rfl, hb2⟩
      rw [← hX] at hb2
      have hW := below2 hB0 hb2
      obtain ⟨q0, q1, qf⟩ := cells2 (r0.below hb2)
      obtain ⟨p0, p1, pf⟩ := cells2 (r1.below hb2)
      clear hX cr hB0 hb2 r0 r1
      go_wp2_with fail
      (try simp only [Exit.inBlock, Exit.then])
      refine bodyPost_ret (v := .tuple #[.agg #[.int .u64 (rh : Int), .int .u64 (rl : Int)], .int .i64 0]) ?_ rfl ⟨rfl, ?_⟩
      · rw [results_cell_tmp rfl]
        go_simp
      · repeat' (first | with_reducible exact hW | with_reducible apply below_new | with_reducible refine bset ?_ (by omega))
end Go.Proofs.Ytmkbijnndbgjgaa.Addr
