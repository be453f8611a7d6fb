/- What addr.Last, addr.Next, addr.Prev, addr.Has, addr.Covers return. -/
import Derived.Test.YtiemlaehhmlhmaaAddrCheck
set_option linter.unusedVariables false
namespace Go.Proofs.Ytiemlaehhmlhmaa.Addr
open Go.RowKit

theorem or_hi (n k : Nat) (hn : n < 2 ^ 128) (hk : k ≤ 128) (h0 : n % 2 ^ k = 0) : bits .or .u64 (hiN n : Int) (hiN (freeN k) : Int) = ((hiN (n + freeN k) : Nat) : Int) := by
  have h1 := hiN_lt hn
  have hp := Nat.two_pow_pos (k - 64)
  have hle : 2 ^ (k - 64) ≤ 2 ^ 64 := Nat.pow_le_pow_right (by decide) (by omega)
  rw [free_hi, u64_or_nat _ _ h1 (by omega), or_pow _ _ (zero_parts h0).1, (add_free h0).1]
theorem or_lo (n k : Nat) (hk : k ≤ 128) (h0 : n % 2 ^ k = 0) : bits .or .u64 (loN n : Int) (loN (freeN k) : Int) = ((loN (n + freeN k) : Nat) : Int) := by
  have h1 := loN_lt n
  have hp := Nat.two_pow_pos (min k 64)
  have hle : 2 ^ (min k 64) ≤ 2 ^ 64 := Nat.pow_le_pow_right (by decide) (by omega)
  rw [free_lo, u64_or_nat _ _ h1 (by omega), or_pow _ _ (zero_parts h0).2, (add_free h0).2]
set_option maxHeartbeats 2000000 in
theorem last_any (p : Pf) (w : World) (hl : -9223372036854775808 ≤ p.len ∧ p.len ≤ 9223372036854775807) (ha : p.n < 2 ^ 128) : Calls Try.prog 30 #[pfV p] w fun e w' => e = .returned (.tuple #[adV (lastE p).1, .int .i64 (lastE p).2]) ∧ Below w.heap.size w w' := by
  have cc := fun w => check_any p w hl ha
  cases hok : okP p
  · have e1 : lastE p = (0, 2) := by unfold lastE; rw [hok]; rfl
    rw [e1]
    rw [checkP_bad hok] at cc
    have hz : adV 0 = .agg #[.int .u64 0, .int .u64 0] := rfl
    simp only [hz]
    unfold pfV at *
    generalize hiN p.n = h at *
    generalize loN p.n = l at *
    generalize p.six = six at *
    generalize p.len = len at *
    clear hok e1 ha hl hz
    obtain ⟨X, hX⟩ : ∃ X, X = (w.alloc (.cells #[.bool six, .int .u64 (h : Int), .int .u64 (l : Int), .int .i64 len] 27)).alloc (.cells #[.int .u64 0, .int .u64 0] 25) := ⟨_, rfl⟩
    have hB0 : Below w.heap.size w X := by rw [hX]; exact below_new (below_new (Below.refl _ _) _) _
    have r1 : RowAt X (w.heap.size + 1) [.int .u64 0, .int .u64 0] 25 := by rw [hX, ← World.size_alloc w (.cells #[.bool six, .int .u64 (h : Int), .int .u64 (l : Int), .int .i64 len] 27)]; exact RowAt.new _ _ _
    go_enter Try.func30, Try.ntmps30
    go_wp2_with fail
    go_at_call 58; refine (cc _).mono ?_; rintro e w2 ⟨rfl, hb2⟩
    rw [← hX] at hb2
    have hW := below2 hB0 hb2
    obtain ⟨q0, q1, qf⟩ := cells2 (r1.below hb2)
    clear hX cc r1 hB0 hb2
    go_wp2_with fail
    (try simp only [Exit.inBlock, Exit.then])
    refine bodyPost_ret (v := .tuple #[.agg #[.int .u64 0, .int .u64 0], .int .i64 2]) ?_ rfl ⟨rfl, ?_⟩
    · rw [results_cell_tmp rfl]
      go_simp
    · repeat' (first | with_reducible exact hW | with_reducible apply below_new | with_reducible refine bset ?_ (by omega))
  · have e1 : lastE p = (p.n + freeN (kP p), 0) := by unfold lastE; rw [hok]; rfl
    rw [e1]
    rw [checkP_ok hok] at cc
    have hk : kP p ≤ 128 := by have := wideN_le p.six; unfold kP; omega
    have o1 := or_hi p.n (kP p) ha hk (okP_zero hok)
    have o2 := or_lo p.n (kP p) hk (okP_zero hok)
    have cf := fun w => free_any p w (okP_iff.1 hok).1
    unfold pfV adV at *
    simp only at *
    generalize p.n + freeN (kP p) = r at *
    generalize freeN (kP p) = f at *
    generalize hiN f = fh at *
    generalize loN f = fl at *
    generalize hiN r = rh at *
    generalize loN r = rl at *
    generalize hiN p.n = h at *
    generalize loN p.n = l at *
    generalize p.six = six at *
    generalize p.len = len at *
    clear hok e1 ha hl hk
    obtain ⟨X, hX⟩ : ∃ X, X = (w.alloc (.cells #[.bool six, .int .u64 (h : Int), .int .u64 (l : Int), .int .i64 len] 27)).alloc (.cells #[.int .u64 0, .int .u64 0] 25) := ⟨_, rfl⟩
    have hB0 : Below w.heap.size w X := by rw [hX]; exact below_new (below_new (Below.refl _ _) _) _
    have r0 : RowAt X w.heap.size [.bool six, .int .u64 (h : Int), .int .u64 (l : Int), .int .i64 len] 27 := by rw [hX]; exact (RowAt.new _ _ _).alloc _
    have r1 : RowAt X (w.heap.size + 1) [.int .u64 0, .int .u64 0] 25 := by rw [hX, ← World.size_alloc w (.cells #[.bool six, .int .u64 (h : Int), .int .u64 (l : Int), .int .i64 len] 27)]; exact RowAt.new _ _ _
    go_enter Try.func30, Try.ntmps30
    go_wp2_with fail
    go_at_call 58; refine (cc _).mono ?_; rintro e w2 ⟨rfl, hb2⟩
    rw [← hX] at hb2
    have hW := below2 hB0 hb2
    have r0 := r0.below hb2
    have r1 := r1.below hb2
    obtain ⟨q0, q1, q2, q3, qf⟩ := cells4 r0
    clear hX cc hB0 hb2
    go_wp2_with fail
    go_at_call 59; refine (cf _).mono ?_; rintro e w3 ⟨rfl, hb3⟩
    clear q0 q1 q2 q3 qf
    have hW := below2 hW hb3
    obtain ⟨q0, q1, q2, q3, qf⟩ := cells4 (r0.below hb3)
    obtain ⟨p0, p1, pf⟩ := cells2 (r1.below hb3)
    have l0 := (r0.below hb3).lt
    have l1 := (r1.below hb3).lt
    clear cf r0 r1 hb3
    go_wp2_with fail
    (try simp only [Exit.inBlock, Exit.then])
    refine bodyPost_ret (v := .tuple #[.agg #[.int .u64 (rh : Int), .int .u64 (rl : Int)], .int .i64 0]) ?_ rfl ⟨rfl, ?_⟩
    · rw [results_cell_tmp rfl]
      go_simp
    · repeat' (first | with_reducible exact hW | with_reducible apply below_new | with_reducible refine bset ?_ (by omega))
end Go.Proofs.Ytiemlaehhmlhmaa.Addr
