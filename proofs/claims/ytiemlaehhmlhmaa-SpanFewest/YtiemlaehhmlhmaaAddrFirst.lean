/- What addr.first and addr.Right return. -/
import Derived.Test.YtiemlaehhmlhmaaAddrQuiet
set_option linter.unusedVariables false
namespace Go.Proofs.Ytiemlaehhmlhmaa.Addr
open Go.RowKit

theorem andNot_hi (n k : Nat) (hn : n < 2 ^ 128) (hk : k ≤ 128) : bits .andNot .u64 (hiN n : Int) (hiN (freeN k) : Int) = ((hiN (firstN k n) : Nat) : Int) := by
  have h1 := hiN_lt hn
  have hp := Nat.two_pow_pos (k - 64)
  have hle : 2 ^ (k - 64) ≤ 2 ^ 64 := Nat.pow_le_pow_right (by decide) (by omega)
  rw [free_hi, u64_andNot_nat _ _ h1 (by omega), andNot_pow _ _ (by omega) h1, first_hi]
theorem andNot_lo (n k : Nat) (hk : k ≤ 128) : bits .andNot .u64 (loN n : Int) (loN (freeN k) : Int) = ((loN (firstN k n) : Nat) : Int) := by
  have h1 := loN_lt n
  have hp := Nat.two_pow_pos (min k 64)
  have hle : 2 ^ (min k 64) ≤ 2 ^ 64 := Nat.pow_le_pow_right (by decide) (by omega)
  rw [free_lo, u64_andNot_nat _ _ h1 (by omega), andNot_pow _ _ (by omega) h1, first_lo]
set_option maxHeartbeats 1000000 in
theorem first_any (p : Pf) (a : Nat) (w : World) (hl : 0 ≤ p.len ∧ p.len ≤ (wideN p.six : Int)) (ha : a < 2 ^ 128) : Calls Try.prog 85 #[pfV p, adV a] w fun e w' => e = .returned (adV (firstN (kP p) a)) ∧ Below w.heap.size w w' := by
  have cf := fun w => free_any p w hl
  have hk : kP p ≤ 128 := by have := wideN_le p.six; unfold kP; omega
  have e1 := andNot_hi a (kP p) ha hk
  have e2 := andNot_lo a (kP p) hk
  unfold pfV adV at *
  generalize firstN (kP p) a = r at *
  generalize freeN (kP p) = f at *
  generalize hiN f = fh at *
  generalize loN f = fl at *
  generalize hiN r = rh at *
  generalize loN r = rl at *
  generalize hiN a = ah at *
  generalize loN a = al at *
  obtain ⟨six, n, len⟩ := p
  simp only at *
  generalize hiN n = h at *
  generalize loN n = l at *
  clear hl hk ha
  go_enter Try.func85, Try.ntmps85
  obtain ⟨X, hX⟩ : ∃ X, X = ((w.alloc (.cells #[.bool six, .int .u64 (h : Int), .int .u64 (l : Int), .int .i64 len] 27)).alloc (.cells #[.int .u64 (ah : Int), .int .u64 (al : Int)] 25)).alloc (.cells #[.int .u64 0, .int .u64 0] 25) := ⟨_, rfl⟩
  have hB0 : Below w.heap.size w X := by rw [hX]; exact below_new (below_new (below_new (Below.refl _ _) _) _) _
  have r1 : RowAt X (w.heap.size + 1) [.int .u64 (ah : Int), .int .u64 (al : Int)] 25 := by rw [hX, ← World.size_alloc w (.cells #[.bool six, .int .u64 (h : Int), .int .u64 (l : Int), .int .i64 len] 27)]; exact (RowAt.new _ _ _).alloc _
  have r2 : RowAt X (w.heap.size + 1 + 1) [.int .u64 0, .int .u64 0] 25 := by
    rw [hX, ← World.size_alloc w (.cells #[.bool six, .int .u64 (h : Int), .int .u64 (l : Int), .int .i64 len] 27), ← World.size_alloc _ (.cells #[.int .u64 (ah : Int), .int .u64 (al : Int)] 25)]
    exact RowAt.new _ _ _
  go_wp2_with fail
  go_at_call 59; refine (cf _).mono ?_; rintro e w2 ⟨rfl, hb2⟩
  rw [← hX] at hb2
  have hBw := below2 hB0 hb2
  have hR1 := r1.below hb2
  have hR2 := r2.below hb2
  clear hX cf r1 r2 hB0
  obtain ⟨q0, q1, qf⟩ := cells2 hR1
  obtain ⟨p0, p1, pf⟩ := cells2 hR2
  have hsz := hR2.lt
  have hsz2 := hR1.lt
  clear hR1 hR2 hb2
  go_wp2_with fail
  (try simp only [Exit.inBlock, Exit.then])
  refine bodyPost_ret (v := .agg #[.int .u64 (rh : Int), .int .u64 (rl : Int)]) ?_ rfl ⟨rfl, ?_⟩
  · rw [results_cell rfl]
    go_simp
  · repeat' (first | with_reducible exact hBw | with_reducible apply below_new | with_reducible refine bset ?_ (by omega))
theorem right_cmp (six : Bool) (a : Nat) : decide (cmpN a (freeN (wideN six)) ≤ 0) = rightB six a := by
  rw [cmp_le]
  unfold rightB freeN
  have hp := Nat.two_pow_pos (wideN six)
  exact decide_eq_decide.2 (by omega)
theorem free_lt (k : Nat) (h : k ≤ 128) : freeN k < 2 ^ 128 := by
  unfold freeN
  have hp := Nat.two_pow_pos k
  have hle : (2 : Nat) ^ k ≤ 2 ^ 128 := Nat.pow_le_pow_right (by decide) h
  omega
set_option maxHeartbeats 1000000 in
theorem right_any (six : Bool) (a : Nat) (w : World) (ha : a < 2 ^ 128) : Calls Try.prog 64 #[.bool six, adV a] w fun e w' => e = .returned (.bool (rightB six a)) ∧ Below w.heap.size w w' := by
  have hfd := field_style
  have cs := fun w => styleOf_any six w
  have ct := fun w => tail_any (wideN six) w (wideN_le six)
  have cc := fun w => cmp_any a (freeN (wideN six)) w ha (free_lt _ (wideN_le six))
  have HR : Hid (decide (cmpN a (freeN (wideN six)) ≤ 0) = rightB six a) := right_cmp six a
  generalize rightB six a = R at *
  generalize cmpN a (freeN (wideN six)) = c at *
  unfold adV at *
  generalize freeN (wideN six) = f at *
  generalize hiN f = fh at *
  generalize loN f = fl at *
  generalize hiN a = ah at *
  generalize loN a = al at *
  have hsa : (if six then #[.int .i64 128, .int .i64 16, .int .i64 16, .string ⟨#[58]⟩] else #[.int .i64 32, .int .i64 8, .int .i64 10, .string ⟨#[46]⟩] : Array Value) = #[.int .i64 (wideN six : Int), .int .i64 (if six then 16 else 8), .int .i64 (if six then 16 else 10), .string (if six then ⟨#[58]⟩ else ⟨#[46]⟩)] := by cases six <;> rfl
  rw [hsa] at cs
  clear hsa
  generalize (if six = true then (16 : Int) else 8) = s1 at cs
  generalize (if six = true then (16 : Int) else 10) = s2 at cs
  generalize (if six = true then (⟨#[58]⟩ : ByteArray) else ⟨#[46]⟩) = s3 at cs
  generalize (wideN six : Int) = wd at *
  clear ha
  obtain ⟨X, hX⟩ : ∃ X, X = w.alloc (.cells #[.int .u64 (ah : Int), .int .u64 (al : Int)] 25) := ⟨_, rfl⟩
  have hB0 : Below w.heap.size w X := by rw [hX]; exact below_new (Below.refl _ _) _
  have r1 : RowAt X w.heap.size [.int .u64 (ah : Int), .int .u64 (al : Int)] 25 := by rw [hX]; exact RowAt.new _ _ _
  have q0 : ∀ p : Bl X, p.W.cell? ⟨w.heap.size, 0, none⟩ = some (.int .u64 (ah : Int)) := fun p => (r1.below p.h).cell 0
  have q1 : ∀ p : Bl X, p.W.cell? ⟨w.heap.size, 1, none⟩ = some (.int .u64 (al : Int)) := fun p => (r1.below p.h).cell 1
  go_enter Try.func64, Try.ntmps64
  go_wp2_with fail
  rw [← hX]
  clear hX r1
  haveI := bl_ne X
  refine wp_region_bl (by kernel_rfl) (by kernel_rfl) ?_
  repeat (quiet_step (first | (go_at_call 82; exact bl_call (cs _)) | (go_at_call 81; exact bl_call (ct _)) | (go_at_call 31; exact bl_call (cc _))))
  refine wpQuiet_nil ?_
  intro _ hw'
  obtain ⟨⟨wq, hq⟩, hw2⟩ := hw'
  subst hw2
  have hW := below2 hB0 hq
  go_wp2_with fail
  go_ret
  exact ⟨by rw [← HR.out]; rfl, hW⟩
end Go.Proofs.Ytiemlaehhmlhmaa.Addr
