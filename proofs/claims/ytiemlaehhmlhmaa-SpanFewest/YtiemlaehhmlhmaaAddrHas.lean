/- What addr.Has and addr.Covers return. -/
import Derived.Test.YtiemlaehhmlhmaaAddrLast
set_option linter.unusedVariables false
namespace Go.Proofs.Ytiemlaehhmlhmaa.Addr
open Go.RowKit

set_option maxHeartbeats 4000000 in
theorem has_any (p : Pf) (six : Bool) (a : Nat) (w : World) (hl : -9223372036854775808 ≤ p.len ∧ p.len ≤ 9223372036854775807) (hn : p.n < 2 ^ 128) (ha : a < 2 ^ 128) : Calls Try.prog 62 #[pfV p, .bool six, adV a] w fun e w' => e = .returned (.bool (hasB p six a)) ∧ Below w.heap.size w w' := by
  have cc := fun w => check_any p w hl hn
  have cr := fun w => right_any six a w ha
  have cf : 0 ≤ p.len ∧ p.len ≤ (wideN p.six : Int) → ∀ w, Calls Try.prog 85 #[pfV p, adV a] w fun e w' => e = .returned (adV (firstN (kP p) a)) ∧ Below w.heap.size w w' := fun h w => first_any p a w h ha
  have heq := fun w => ad_eql (firstN (kP p) a) p.n w
  have hgd := ad_guard
  obtain ⟨X, hX⟩ : ∃ X, X = (w.alloc (.cells #[.bool p.six, .int .u64 (hiN p.n : Int), .int .u64 (loN p.n : Int), .int .i64 p.len] 27)).alloc (.cells #[.int .u64 (hiN a : Int), .int .u64 (loN a : Int)] 25) := ⟨_, rfl⟩
  have hB0 : Below w.heap.size w X := by rw [hX]; exact below_new (below_new (Below.refl _ _) _) _
  have r0 : RowAt X w.heap.size [.bool p.six, .int .u64 (hiN p.n : Int), .int .u64 (loN p.n : Int), .int .i64 p.len] 27 := by rw [hX]; exact (RowAt.new _ _ _).alloc _
  have r1 : RowAt X (w.heap.size + 1) [.int .u64 (hiN a : Int), .int .u64 (loN a : Int)] 25 := by rw [hX, ← World.size_alloc w (.cells #[.bool p.six, .int .u64 (hiN p.n : Int), .int .u64 (loN p.n : Int), .int .i64 p.len] 27)]; exact RowAt.new _ _ _
  have q0 : ∀ b : Bl X, b.W.cell? ⟨w.heap.size, 0, none⟩ = some (.bool p.six) := fun p => (r0.below p.h).cell 0
  have q1 : ∀ b : Bl X, b.W.cell? ⟨w.heap.size, 1, none⟩ = some (.int .u64 (hiN p.n : Int)) := fun p => (r0.below p.h).cell 1
  have q2 : ∀ b : Bl X, b.W.cell? ⟨w.heap.size, 2, none⟩ = some (.int .u64 (loN p.n : Int)) := fun p => (r0.below p.h).cell 2
  have q3 : ∀ b : Bl X, b.W.cell? ⟨w.heap.size, 3, none⟩ = some (.int .i64 p.len) := fun p => (r0.below p.h).cell 3
  have p0 : ∀ b : Bl X, b.W.cell? ⟨w.heap.size + 1, 0, none⟩ = some (.int .u64 (hiN a : Int)) := fun p => (r1.below p.h).cell 0
  have p1 : ∀ b : Bl X, b.W.cell? ⟨w.heap.size + 1, 1, none⟩ = some (.int .u64 (loN a : Int)) := fun p => (r1.below p.h).cell 1
  clear r0 r1
  have HH : Hid (hasB p six a = (okP p && (decide (p.six = six) && (rightB six a && decide (firstN (kP p) a = p.n))))) := rfl
  generalize hasB p six a = R at *
  cases hok : okP p
  · rw [checkP_bad hok] at cc
    have HV : Hid (R = false) := by show _ = _; rw [HH.out, hok]; rfl
    clear HH cf heq hok
    unfold pfV adV at *
    generalize hiN p.n = h at *
    generalize loN p.n = l at *
    generalize hiN a = ah at *
    generalize loN a = al at *
    generalize p.six = sx at *
    generalize p.len = len at *
    clear hl hn ha
    go_enter Try.func62, Try.ntmps62
    go_wp2_with fail
    rw [← hX]
    clear hX
    haveI := bl_ne X
    refine wp_region_bl (by kernel_rfl) (by kernel_rfl) ?_
    repeat (quiet_step (first | (go_at_call 58; exact bl_call (cc _))))
    refine wpQuiet_nil ?_
    intro wq hw'
    obtain ⟨⟨wz, hq⟩, hw2⟩ := hw'
    subst hw2
    have hW := below2 hB0 hq
    go_wp2_with fail
    go_ret
    exact ⟨by rw [HV.out]; rfl, hW⟩
  rw [checkP_ok hok] at cc
  have cf := cf (okP_iff.1 hok).1
  rw [hok] at HH
  clear hok
  by_cases hs : p.six = six
  · rw [decide_eq_true hs] at HH
    subst hs
    cases hr : rightB p.six a
    · rw [hr] at cr HH
      have HV : Hid (R = false) := by show _ = _; rw [HH.out]; rfl
      clear HH cf heq hr
      unfold pfV adV at *
      generalize hiN p.n = h at *
      generalize loN p.n = l at *
      generalize hiN a = ah at *
      generalize loN a = al at *
      generalize p.six = sx at *
      generalize p.len = len at *
      clear hl hn ha
      go_enter Try.func62, Try.ntmps62
      go_wp2_with fail
      rw [← hX]
      clear hX
      haveI := bl_ne X
      refine wp_region_bl (by kernel_rfl) (by kernel_rfl) ?_
      repeat (quiet_step (first | (go_at_call 58; exact bl_call (cc _)) | (go_at_call 64; exact bl_call (cr _))))
      refine wpQuiet_nil ?_
      intro wq hw'
      obtain ⟨⟨wz, hq⟩, hw2⟩ := hw'
      subst hw2
      have hW := below2 hB0 hq
      go_wp2_with fail
      go_ret
      exact ⟨by rw [HV.out]; rfl, hW⟩
    · rw [hr] at cr HH
      have HV : Hid (R = decide (firstN (kP p) a = p.n)) := by show _ = _; rw [HH.out]; rfl
      clear HH hr
      generalize decide (firstN (kP p) a = p.n) = E at *
      unfold pfV adV at *
      generalize firstN (kP p) a = f at *
      generalize hiN f = fh at *
      generalize loN f = fl at *
      generalize hiN p.n = h at *
      generalize loN p.n = l at *
      generalize hiN a = ah at *
      generalize loN a = al at *
      generalize p.six = sx at *
      generalize p.len = len at *
      clear hl hn ha
      go_enter Try.func62, Try.ntmps62
      go_wp2_with fail
      rw [← hX]
      clear hX
      haveI := bl_ne X
      refine wp_region_bl (by kernel_rfl) (by kernel_rfl) ?_
      repeat (quiet_step (first | (go_at_call 58; exact bl_call (cc _)) | (go_at_call 64; exact bl_call (cr _)) | (go_at_call 85; exact bl_call (cf _))))
      refine wpQuiet_nil ?_
      intro wq hw'
      obtain ⟨⟨wz, hq⟩, hw2⟩ := hw'
      subst hw2
      have hW := below2 hB0 hq
      go_wp2_with fail
      go_ret
      exact ⟨by rw [HV.out]; rfl, hW⟩
  · have HV : Hid (R = false) := by show _ = _; rw [HH.out, decide_eq_false hs]; rfl
    have hs2 : (p.six == six) = false := by simpa using hs
    clear HH cf heq
    unfold pfV adV at *
    generalize hiN p.n = h at *
    generalize loN p.n = l at *
    generalize hiN a = ah at *
    generalize loN a = al at *
    generalize p.six = sx at *
    generalize p.len = len at *
    clear hl hn ha cr
    go_enter Try.func62, Try.ntmps62
    go_wp2_with fail
    rw [← hX]
    clear hX
    haveI := bl_ne X
    refine wp_region_bl (by kernel_rfl) (by kernel_rfl) ?_
    repeat (quiet_step (first | (go_at_call 58; exact bl_call (cc _))))
    refine wpQuiet_nil ?_
    intro wq hw'
    obtain ⟨⟨wz, hq⟩, hw2⟩ := hw'
    subst hw2
    have hW := below2 hB0 hq
    go_wp2_with fail
    go_ret
    exact ⟨by rw [HV.out]; rfl, hW⟩
end Go.Proofs.Ytiemlaehhmlhmaa.Addr
