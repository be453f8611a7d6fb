/- What addr.Check, addr.Last, addr.Next and addr.Prev return. -/
import Derived.Test.YtiemlaehhmlhmaaAddrFirst
set_option linter.unusedVariables false
namespace Go.Proofs.Ytiemlaehhmlhmaa.Addr
open Go.RowKit

theorem ad_guard : Try.prog.eqGuardType Try.prog.depth 25 = false := by kernel_rfl
theorem ad_in (n m : Nat) (w : World) : (Op.equalIn 10000 25 (adV n) (adV m)).run Try.prog w = .ok (decide (n = m)) w := by
  have u9 := Try.underlying23
  have a9 := Try.isAgg23
  have z9 := Try.sizeOf23
  have hS : Try.prog.underlying 25 = some (.struct (Try.prog.fieldsOf 25)) := by kernel_rfl
  have hp : Try.prog.stoodInHeld 25 = false := by kernel_rfl
  unfold adV
  have HD : (decide (n = m)) = (decide (hiN n = hiN m) && decide (loN n = loN m)) := by
    by_cases h : n = m
    · subst h; simp
    · have : ¬ (hiN n = hiN m ∧ loN n = loN m) := fun hc => h (eq_hilo hc.1 hc.2)
      rw [decide_eq_false h, ← Bool.decide_and, decide_eq_false this]
  rw [HD]
  generalize hiN n = a
  generalize loN n = b
  generalize hiN m = c
  generalize loN m = d
  rw [show (10000 : Nat) = 9999 + 1 from rfl, run_equalIn_agg w 9999 25 _ _ hS hp]
  simp only [Program.fieldsOf, Try.underlying25]
  by_cases h1 : a = c
  · subst h1
    by_cases h2 : b = d
    · subst h2
      go_simp
    · have : ¬ ((b : Int) = (d : Int)) := by omega
      go_simp
  · have : ¬ ((a : Int) = (c : Int)) := by omega
    go_simp
theorem ad_eql (n m : Nat) (w : World) : (binOp .eql 25 (adV n) (adV m)).run Try.prog w = .ok (.bool (decide (n = m))) w := by
  have h := ad_in n m w
  unfold adV at *
  rw [run_eql_struct, h]
  rfl
theorem ad_neq (n m : Nat) (w : World) : (binOp .neq 25 (adV n) (adV m)).run Try.prog w = .ok (.bool (!decide (n = m))) w := by
  have h := ad_in n m w
  unfold adV at *
  rw [run_neq_struct, h]
  rfl
theorem style_arr (six : Bool) : ∃ (s1 s2 : Int) (s3 : ByteArray), (if six then #[.int .i64 128, .int .i64 16, .int .i64 16, .string ⟨#[58]⟩] else #[.int .i64 32, .int .i64 8, .int .i64 10, .string ⟨#[46]⟩] : Array Value) = #[.int .i64 (wideN six : Int), .int .i64 s1, .int .i64 s2, .string s3] := by
  cases six
  · exact ⟨_, _, _, rfl⟩
  · exact ⟨_, _, _, rfl⟩
theorem checkP_bad {p : Pf} (h : okP p = false) : checkP p = 2 := by unfold checkP; rw [h]; rfl
theorem checkP_ok {p : Pf} (h : okP p = true) : checkP p = 0 := by unfold checkP; rw [h]; rfl
theorem okP_len_bad {p : Pf} (h : ¬ (0 ≤ p.len ∧ p.len ≤ (wideN p.six : Int))) : okP p = false := by
  cases h2 : okP p
  · rfl
  · exact absurd (okP_iff.1 h2).1 h
theorem okP_right {p : Pf} (h : rightB p.six p.n = false) : okP p = false := by
  cases h2 : okP p
  · rfl
  · have := (okP_iff.1 h2).2.1
    unfold rightB at h
    rw [decide_eq_false_iff_not] at h
    exact absurd this h
theorem okP_first {p : Pf} (h1 : 0 ≤ p.len ∧ p.len ≤ (wideN p.six : Int)) (h2 : rightB p.six p.n = true) : okP p = decide (firstN (kP p) p.n = p.n) := by
  unfold okP
  rw [decide_eq_true h1, h2]
  exact decide_eq_decide.2 (first_eq _ _).symm
set_option maxHeartbeats 2000000 in
theorem check_any (p : Pf) (w : World) (hl : -9223372036854775808 ≤ p.len ∧ p.len ≤ 9223372036854775807) (ha : p.n < 2 ^ 128) : Calls Try.prog 58 #[pfV p] w fun e w' => e = .returned (.int .i64 (checkP p)) ∧ Below w.heap.size w w' := by
  have hfd := field_style
  have cs := fun w => styleOf_any p.six w
  have cr := fun w => right_any p.six p.n w ha
  have cf : 0 ≤ p.len ∧ p.len ≤ (wideN p.six : Int) → ∀ w, Calls Try.prog 85 #[pfV p, adV p.n] w fun e w' => e = .returned (adV (firstN (kP p) p.n)) ∧ Below w.heap.size w w' := fun h w => first_any p p.n w h ha
  have hne := fun w => ad_neq (firstN (kP p) p.n) p.n w
  have hgd := ad_guard
  obtain ⟨s1, s2, s3, hsa⟩ := style_arr p.six
  rw [hsa] at cs
  clear hsa
  have hw : (wideN p.six : Int) ≤ 128 := by have := wideN_le p.six; omega
  have HB1 : Hid (¬ (0 ≤ p.len ∧ p.len ≤ (wideN p.six : Int)) → checkP p = 2) := fun h => checkP_bad (okP_len_bad h)
  have HB2 : Hid (rightB p.six p.n = false → checkP p = 2) := fun h => checkP_bad (okP_right h)
  have HB3 : Hid (0 ≤ p.len ∧ p.len ≤ (wideN p.six : Int) → rightB p.six p.n = true → decide (firstN (kP p) p.n = p.n) = false → checkP p = 2) := fun h1 h2 h3 => checkP_bad (by rw [okP_first h1 h2, h3])
  have HB4 : Hid (0 ≤ p.len ∧ p.len ≤ (wideN p.six : Int) → rightB p.six p.n = true → decide (firstN (kP p) p.n = p.n) = true → checkP p = 0) := fun h1 h2 h3 => checkP_ok (by rw [okP_first h1 h2, h3])
  generalize checkP p = R at *
  generalize decide (firstN (kP p) p.n = p.n) = E at *
  generalize firstN (kP p) p.n = f at *
  generalize rightB p.six p.n = B at *
  unfold pfV adV at *
  generalize hiN f = fh at *
  generalize loN f = fl at *
  obtain ⟨six, n, len⟩ := p
  simp only at *
  generalize hiN n = h at *
  generalize loN n = l at *
  generalize (wideN six : Int) = wd at *
  clear ha
  obtain ⟨hl0, hl1⟩ := hl
  obtain ⟨X, hX⟩ : ∃ X, X = w.alloc (.cells #[.bool six, .int .u64 (h : Int), .int .u64 (l : Int), .int .i64 len] 27) := ⟨_, rfl⟩
  have hB0 : Below w.heap.size w X := by rw [hX]; exact below_new (Below.refl _ _) _
  have r1 : RowAt X w.heap.size [.bool six, .int .u64 (h : Int), .int .u64 (l : Int), .int .i64 len] 27 := by rw [hX]; exact RowAt.new _ _ _
  have q0 : ∀ p : Bl X, p.W.cell? ⟨w.heap.size, 0, none⟩ = some (.bool six) := fun p => (r1.below p.h).cell 0
  have q1 : ∀ p : Bl X, p.W.cell? ⟨w.heap.size, 1, none⟩ = some (.int .u64 (h : Int)) := fun p => (r1.below p.h).cell 1
  have q2 : ∀ p : Bl X, p.W.cell? ⟨w.heap.size, 2, none⟩ = some (.int .u64 (l : Int)) := fun p => (r1.below p.h).cell 2
  have q3 : ∀ p : Bl X, p.W.cell? ⟨w.heap.size, 3, none⟩ = some (.int .i64 len) := fun p => (r1.below p.h).cell 3
  by_cases h0 : len < 0
  · have d0 : decide (len < 0) = true := decide_eq_true h0
    have HV : Hid (R = 2) := HB1.out (by omega)
    clear HB1 HB2 HB3 HB4
    go_enter Try.func58, Try.ntmps58
    go_wp2_with fail
    rw [← hX]
    clear hX
    haveI := bl_ne X
    refine wp_region_bl (by kernel_rfl) (by kernel_rfl) ?_
    repeat (quiet_step (first | (go_at_call 82; exact bl_call (cs _)) | (go_at_call 64; exact bl_call (cr _))))
    refine wpQuiet_nil ?_
    intro wq hw'
    obtain ⟨⟨wz, hq⟩, hw2⟩ := hw'
    subst hw2
    have hW := below2 hB0 hq
    go_wp2_with fail
    go_ret
    exact ⟨by rw [HV.out]; rfl, hW⟩
  have d0 : decide (len < 0) = false := decide_eq_false h0
  by_cases h1 : wd < len
  · have d1 : decide (wd < len) = true := decide_eq_true h1
    have HV : Hid (R = 2) := HB1.out (by omega)
    clear HB1 HB2 HB3 HB4
    go_enter Try.func58, Try.ntmps58
    go_wp2_with fail
    rw [← hX]
    clear hX
    haveI := bl_ne X
    refine wp_region_bl (by kernel_rfl) (by kernel_rfl) ?_
    repeat (quiet_step (first | (go_at_call 82; exact bl_call (cs _)) | (go_at_call 64; exact bl_call (cr _))))
    refine wpQuiet_nil ?_
    intro wq hw'
    obtain ⟨⟨wz, hq⟩, hw2⟩ := hw'
    subst hw2
    have hW := below2 hB0 hq
    go_wp2_with fail
    go_ret
    exact ⟨by rw [HV.out]; rfl, hW⟩
  have d1 : decide (wd < len) = false := decide_eq_false h1
  cases B with
  | false =>
    have HV : Hid (R = 2) := HB2.out rfl
    clear HB1 HB2 HB3 HB4
    go_enter Try.func58, Try.ntmps58
    go_wp2_with fail
    rw [← hX]
    clear hX
    haveI := bl_ne X
    refine wp_region_bl (by kernel_rfl) (by kernel_rfl) ?_
    repeat (quiet_step (first | (go_at_call 82; exact bl_call (cs _)) | (go_at_call 64; exact bl_call (cr _))))
    refine wpQuiet_nil ?_
    intro wq hw'
    obtain ⟨⟨wz, hq⟩, hw2⟩ := hw'
    subst hw2
    have hW := below2 hB0 hq
    go_wp2_with fail
    go_ret
    exact ⟨by rw [HV.out]; rfl, hW⟩
  | true =>
    have cf := cf ⟨by omega, by omega⟩
    have HC3 : Hid (E = false → R = 2) := HB3.out ⟨by omega, by omega⟩ rfl
    have HC4 : Hid (E = true → R = 0) := HB4.out ⟨by omega, by omega⟩ rfl
    clear HB1 HB2 HB3 HB4
    go_enter Try.func58, Try.ntmps58
    go_wp2_with fail
    rw [← hX]
    clear hX
    haveI := bl_ne X
    refine wp_region_bl (by kernel_rfl) (by kernel_rfl) ?_
    repeat (quiet_step (first | (go_at_call 82; exact bl_call (cs _)) | (go_at_call 64; exact bl_call (cr _))))
    refine wpQuiet_nil ?_
    intro wq hw'
    obtain ⟨⟨wz, hq⟩, hw2⟩ := hw'
    subst hw2
    have hW := below2 hB0 hq
    go_wp2_with fail
    have r2 := r1.below hq
    clear r1 q0 q1 q2 q3 cs cr hfd this hq
    have q0 : ∀ p : Bl wq, p.W.cell? ⟨w.heap.size, 0, none⟩ = some (.bool six) := fun p => (r2.below p.h).cell 0
    have q1 : ∀ p : Bl wq, p.W.cell? ⟨w.heap.size, 1, none⟩ = some (.int .u64 (h : Int)) := fun p => (r2.below p.h).cell 1
    have q2 : ∀ p : Bl wq, p.W.cell? ⟨w.heap.size, 2, none⟩ = some (.int .u64 (l : Int)) := fun p => (r2.below p.h).cell 2
    have q3 : ∀ p : Bl wq, p.W.cell? ⟨w.heap.size, 3, none⟩ = some (.int .i64 len) := fun p => (r2.below p.h).cell 3
    haveI := bl_ne wq
    cases E with
    | false =>
      have HV : Hid (R = 2) := HC3.out rfl
      clear HC3 HC4
      refine wp_region_bl (by kernel_rfl) (by kernel_rfl) ?_
      repeat (quiet_step (first | (go_at_call 85; exact bl_call (cf _))))
      refine wpQuiet_nil ?_
      intro wy hw'
      obtain ⟨⟨wz, hq⟩, hw2⟩ := hw'
      subst hw2
      have hW := below2 hW hq
      go_wp2_with fail
      go_ret
      exact ⟨by rw [HV.out]; rfl, hW⟩
    | true =>
      have HV : Hid (R = 0) := HC4.out rfl
      clear HC3 HC4
      refine wp_region_bl (by kernel_rfl) (by kernel_rfl) ?_
      repeat (quiet_step (first | (go_at_call 85; exact bl_call (cf _))))
      refine wpQuiet_nil ?_
      intro wy hw'
      obtain ⟨⟨wz, hq⟩, hw2⟩ := hw'
      subst hw2
      have hW := below2 hW hq
      go_wp2_with fail
      go_ret
      exact ⟨by rw [HV.out]; rfl, hW⟩
end Go.Proofs.Ytiemlaehhmlhmaa.Addr
