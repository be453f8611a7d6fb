/- What addr.first and addr.Right return. -/
import Derived.Test.YtmkbijnndbgjgaaAddrQuiet
set_option linter.unusedVariables false
namespace Go.Proofs.Ytmkbijnndbgjgaa.Addr
open Go.RowKit

theorem andNot_hi (n k : Nat) (hn : n < 2 ^ 128) (hk : k ≤ 128) : bits .andNot .u64 (hiN n : Int) (hiN (freeN k) : Int) = ((hiN (firstN k n) : Nat) : Int) := by
  have h1 := hiN_lt hn
  have hp := Nat.two_pow_pos (k - 64)
  have hle : 2 ^ (k - 64) ≤ 2 ^ 64 := Nat.pow_le_pow_right (by decide) (by omega)
  rw [free_hi, u64_andNot_nat _ _ h1 (by omega), andNot_pow _ _ (by omega) h1, first_hi]
theorem andNot_lo (n k : Nat) (hk : k ≤ 128) : bits .andNot .u64 (loN n : Int) (loN (freeN k) : Int) = ((loN (firstN k n) : Nat) : Int) := by
  have h1 := loN_lt n
  have hp := Nat.two_pow_pos (min k 64)
  have hle : 2 ^ (min k 64) ≤ 2 ^ 64 := Nat.pow_le_pow_right (by decide) (by omega)
  rw [free_lo, u64_andNot_nat _ _ h1 (by omega), andNot_pow _ _ (by omega) h1, first_lo]
theorem right_cmp (six : Bool) (a : Nat) : decide (cmpN a (freeN (wideN six)) ≤ 0) = rightB six a := by
  rw [cmp_le]
  unfold rightB freeN
  have hp := Nat.two_pow_pos (wideN six)
  exact decide_eq_decide.2 (by omega)
theorem free_lt (k : Nat) (h : k ≤ 128) : freeN k < 2 ^ 128 := by
  unfold freeN
  have hp := Nat.two_pow_pos k
  have hle : (2 : Nat) ^ k ≤ 2 ^ 128 := Nat.pow_le_pow_right (by decide) h
  omega
set_option maxHeartbeats 1000000 in
theorem right_any (six : Bool) (a : Nat) (w : World) (ha : a < 2 ^ 128) : Calls Try.prog 88 #[.bool six, adV a] w fun e w' => e = .returned (.bool (rightB six a)) ∧ Below w.heap.size w w' := by
  have hfd := field_style
  have cs := fun w => styleOf_any six w
  have ct := fun w => tail_any (wideN six) w (wideN_le six)
  have cc := fun w => cmp_any a (freeN (wideN six)) w ha (free_lt _ (wideN_le six))
  have HR : Hid (decide (cmpN a (freeN (wideN six)) ≤ 0) = rightB six a) := right_cmp six a
  generalize rightB six a = R at *
  generalize cmpN a (freeN (wideN six)) = c at *
  unfold adV at *
  generalize freeN (wideN six) = f at *
  generalize hiN f = fh at *
  generalize loN f = fl at *
  generalize hiN a = ah at *
  generalize loN a = al at *
  have hsa : (if six then #[.int .i64 128, .int .i64 16, .int .i64 16, .string ⟨#[58]⟩] else #[.int .i64 32, .int .i64 8, .int .i64 10, .string ⟨#[46]⟩] : Array Value) = #[.int .i64 (wideN six : Int), .int .i64 (if six then 16 else 8), .int .i64 (if six then 16 else 10), .string (if six then ⟨#[58]⟩ else ⟨#[46]⟩)] := by cases six <;> rfl
  rw [hsa] at cs
  clear hsa
  generalize (if six = true then (16 : Int) else 8) = s1 at cs
  generalize (if six = true then (16 : Int) else 10) = s2 at cs
  generalize (if six = true then (⟨#[58]⟩ : ByteArray) else ⟨#[46]⟩) = s3 at cs
  generalize (wideN six : Int) = wd at *
  clear ha
  obtain ⟨X, hX⟩ : ∃ X, X = w.alloc (.cells #[.int .u64 (ah : Int), .int .u64 (al : Int)] 95) := ⟨_, rfl⟩
  have hB0 : Below w.heap.size w X := by rw [hX]; exact below_new (Below.refl _ _) _
  have r1 : RowAt X w.heap.size [.int .u64 (ah : Int), .int .u64 (al : Int)] 95 := by rw [hX]; exact RowAt.new _ _ _
  have q0 : ∀ p : Bl X, p.W.cell? ⟨w.heap.size, 0, none⟩ = some (.int .u64 (ah : Int)) := fun p => (r1.below p.h).cell 0
  have q1 : ∀ p : Bl X, p.W.cell? ⟨w.heap.size, 1, none⟩ = some (.int .u64 (al : Int)) := fun p => (r1.below p.h).cell 1
  go_enter Try.func88, Try.ntmps88
  go_wp2_with fail
  rw [← hX]
  clear hX r1
  haveI := bl_ne X
  refine wp_region_bl (by kernel_rfl) (by kernel_rfl) ?_
  repeat (quiet_step (first | (go_at_call 105; exact bl_call (cs _)) | (go_at_call 104; exact bl_call (ct _)) | (go_at_call 89; exact bl_call (cc _))))
  refine wpQuiet_nil ?_
  intro _ hw'
  obtain ⟨⟨wq, hq⟩, hw2⟩ := hw'
  subst hw2
  have hW := below2 hB0 hq
  go_wp2_with fail
  go_ret
  exact ⟨by rw [← HR.out]; rfl, hW⟩
end Go.Proofs.Ytmkbijnndbgjgaa.Addr
