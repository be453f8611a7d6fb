/- What the field's methods right, has, apart and common answer. -/
import Derived.Test.YtmkbijnndbgjgaaSpField
set_option linter.unusedVariables false
namespace Go.Proofs.Ytmkbijnndbgjgaa.Sp
open Go.RowKit
open Go.Proofs.Ytmkbijnndbgjgaa.Addr (wideN rightB hiN loN adV cmpN nextE prevE cmp_any cmp_le RowAt below2 below_drew below_new bset RowAt.lt RowAt.cell RowAt.frozen RowAt.below RowAt.drew RowAt.new RowAt.alloc cells2 cells4 results_cell gset grefl)
set_option maxHeartbeats 2000000 in
theorem rightF_any (six : Bool) (s : Sp) (g : Nat) (w : World) (hs : FitS s) (hg : SixAt w g six) : Calls Try.prog 85 #[fdV g, spV s] w fun e w' => e = .returned (.bool (okS six s)) ∧ Below w.heap.size w w' := by
  have ci1 := fun w hg => is_any six s.1 g w hs.1 hg
  have ci2 := fun w hg => is_any six s.2 g w hs.2 hg
  have cc := fun w => cmp_any s.1 s.2 w hs.1 hs.2
  have hle : decide (cmpN s.1 s.2 ≤ 0) = decide (s.1 ≤ s.2) := cmp_le
  unfold okS
  rw [← hle]
  clear hle
  unfold fdV spV f0 f1 f2 f3
  unfold adV at *
  generalize rightB six s.1 = A at *
  generalize rightB six s.2 = B at *
  generalize cmpN s.1 s.2 = c at *
  generalize hiN s.1 = sa at *
  generalize loN s.1 = sb at *
  generalize hiN s.2 = sc at *
  generalize loN s.2 = sd at *
  clear hs
  obtain ⟨X, hX⟩ : ∃ X, X = ((w.alloc (.cells #[.func (.func 87) #[] #[.pointer (some ⟨g, 0, none⟩)], .func (.func 89) #[] #[], .func (.func 90) #[] #[.pointer (some ⟨g, 0, none⟩)], .func (.func 92) #[] #[.pointer (some ⟨g, 0, none⟩)]] 123)).alloc (.cells #[.int .u64 (sa : Int), .int .u64 (sb : Int), .int .u64 (sc : Int), .int .u64 (sd : Int)] 130)) := ⟨_, rfl⟩
  have hB : Below w.heap.size w X := by rw [hX]; exact below_new (below_new (Below.refl _ _) _) _
  have rf : RowAt X (w.heap.size) [.func (.func 87) #[] #[.pointer (some ⟨g, 0, none⟩)], .func (.func 89) #[] #[], .func (.func 90) #[] #[.pointer (some ⟨g, 0, none⟩)], .func (.func 92) #[] #[.pointer (some ⟨g, 0, none⟩)]] 123 := by
    have h := (RowAt.new w [.func (.func 87) #[] #[.pointer (some ⟨g, 0, none⟩)], .func (.func 89) #[] #[], .func (.func 90) #[] #[.pointer (some ⟨g, 0, none⟩)], .func (.func 92) #[] #[.pointer (some ⟨g, 0, none⟩)]] 123).alloc (.cells #[.int .u64 (sa : Int), .int .u64 (sb : Int), .int .u64 (sc : Int), .int .u64 (sd : Int)] 130)
    rw [hX]; exact h
  have rs : RowAt X (w.heap.size + 1) [.int .u64 (sa : Int), .int .u64 (sb : Int), .int .u64 (sc : Int), .int .u64 (sd : Int)] 130 := by
    have h := RowAt.new (w.alloc (.cells #[.func (.func 87) #[] #[.pointer (some ⟨g, 0, none⟩)], .func (.func 89) #[] #[], .func (.func 90) #[] #[.pointer (some ⟨g, 0, none⟩)], .func (.func 92) #[] #[.pointer (some ⟨g, 0, none⟩)]] 123)) [.int .u64 (sa : Int), .int .u64 (sb : Int), .int .u64 (sc : Int), .int .u64 (sd : Int)] 130
    simp only [World.size_alloc] at h
    rw [hX]; exact h
  replace hg := hg.keep hB
  obtain ⟨q0, q1, q2, q3, qf⟩ := cells4 rf
  obtain ⟨x0, x1, x2, x3, xf⟩ := cells4 rs
  go_enter Try.func85, Try.ntmps85
  go_upto_region 1 with fail
  rw [← hX]
  clear hX
  go_wp2_with fail
  go_at_call 87; refine (ci1 _ hg).mono ?_; rintro e w2 ⟨rfl, hb⟩
  replace hg := hg.keep hb
  replace rf := rf.below hb
  replace rs := rs.below hb
  replace hB := below2 hB hb
  clear q0 q1 q2 q3 qf x0 x1 x2 x3 xf hb
  obtain ⟨q0, q1, q2, q3, qf⟩ := cells4 rf
  obtain ⟨x0, x1, x2, x3, xf⟩ := cells4 rs
  cases A
  · go_wp2_with fail
    go_ret
    exact ⟨rfl, hB⟩
  · go_wp2_with fail
    go_at_call 87; refine (ci2 _ hg).mono ?_; rintro e w3 ⟨rfl, hb⟩
    replace hg := hg.keep hb
    replace rf := rf.below hb
    replace rs := rs.below hb
    replace hB := below2 hB hb
    clear q0 q1 q2 q3 qf x0 x1 x2 x3 xf hb
    obtain ⟨q0, q1, q2, q3, qf⟩ := cells4 rf
    obtain ⟨x0, x1, x2, x3, xf⟩ := cells4 rs
    cases B
    · go_wp2_with fail
      go_ret
      exact ⟨rfl, hB⟩
    · go_wp2_with fail
      go_at_call 89; refine (cc _).mono ?_; rintro e w4 ⟨rfl, hb⟩
      replace hB := below2 hB hb
      clear q0 q1 q2 q3 qf x0 x1 x2 x3 xf hb rf rs
      go_wp2_with fail
      go_ret
      exact ⟨rfl, hB⟩
set_option maxHeartbeats 2000000 in
theorem hasF_any (s : Sp) (n : Nat) (g : Nat) (w : World) (hs : FitS s) (hn : n < 2 ^ 128) : Calls Try.prog 77 #[fdV g, spV s, adV n] w fun e w' => e = .returned (.bool (hasS s n)) ∧ Below w.heap.size w w' := by
  have ci1 := fun w => cmp_any s.1 n w hs.1 hn
  have ci2 := fun w => cmp_any n s.2 w hn hs.2
  have hle1 : decide (cmpN s.1 n ≤ 0) = decide (s.1 ≤ n) := cmp_le
  have hle2 : decide (cmpN n s.2 ≤ 0) = decide (n ≤ s.2) := cmp_le
  unfold hasS
  rw [← hle1, ← hle2]
  clear hle1 hle2
  unfold fdV spV f0 f1 f2 f3
  unfold adV at *
  generalize cmpN s.1 n = c1 at *
  generalize cmpN n s.2 = c2 at *
  generalize hiN s.1 = sa at *
  generalize loN s.1 = sb at *
  generalize hiN s.2 = sc at *
  generalize loN s.2 = sd at *
  generalize hiN n = na at *
  generalize loN n = nb at *
  clear hs hn
  obtain ⟨X, hX⟩ : ∃ X, X = (((w.alloc (.cells #[.func (.func 87) #[] #[.pointer (some ⟨g, 0, none⟩)], .func (.func 89) #[] #[], .func (.func 90) #[] #[.pointer (some ⟨g, 0, none⟩)], .func (.func 92) #[] #[.pointer (some ⟨g, 0, none⟩)]] 123)).alloc (.cells #[.int .u64 (sa : Int), .int .u64 (sb : Int), .int .u64 (sc : Int), .int .u64 (sd : Int)] 130)).alloc (.cells #[.int .u64 (na : Int), .int .u64 (nb : Int)] 95)) := ⟨_, rfl⟩
  have hB : Below w.heap.size w X := by rw [hX]; exact below_new (below_new (below_new (Below.refl _ _) _) _) _
  have rf : RowAt X (w.heap.size) [.func (.func 87) #[] #[.pointer (some ⟨g, 0, none⟩)], .func (.func 89) #[] #[], .func (.func 90) #[] #[.pointer (some ⟨g, 0, none⟩)], .func (.func 92) #[] #[.pointer (some ⟨g, 0, none⟩)]] 123 := by
    have h := ((RowAt.new w [.func (.func 87) #[] #[.pointer (some ⟨g, 0, none⟩)], .func (.func 89) #[] #[], .func (.func 90) #[] #[.pointer (some ⟨g, 0, none⟩)], .func (.func 92) #[] #[.pointer (some ⟨g, 0, none⟩)]] 123).alloc (.cells #[.int .u64 (sa : Int), .int .u64 (sb : Int), .int .u64 (sc : Int), .int .u64 (sd : Int)] 130)).alloc (.cells #[.int .u64 (na : Int), .int .u64 (nb : Int)] 95)
    rw [hX]; exact h
  have rs : RowAt X (w.heap.size + 1) [.int .u64 (sa : Int), .int .u64 (sb : Int), .int .u64 (sc : Int), .int .u64 (sd : Int)] 130 := by
    have h := (RowAt.new (w.alloc (.cells #[.func (.func 87) #[] #[.pointer (some ⟨g, 0, none⟩)], .func (.func 89) #[] #[], .func (.func 90) #[] #[.pointer (some ⟨g, 0, none⟩)], .func (.func 92) #[] #[.pointer (some ⟨g, 0, none⟩)]] 123)) [.int .u64 (sa : Int), .int .u64 (sb : Int), .int .u64 (sc : Int), .int .u64 (sd : Int)] 130).alloc (.cells #[.int .u64 (na : Int), .int .u64 (nb : Int)] 95)
    simp only [World.size_alloc] at h
    rw [hX]; exact h
  have rn : RowAt X (w.heap.size + 1 + 1) [.int .u64 (na : Int), .int .u64 (nb : Int)] 95 := by
    have h := RowAt.new ((w.alloc (.cells #[.func (.func 87) #[] #[.pointer (some ⟨g, 0, none⟩)], .func (.func 89) #[] #[], .func (.func 90) #[] #[.pointer (some ⟨g, 0, none⟩)], .func (.func 92) #[] #[.pointer (some ⟨g, 0, none⟩)]] 123)).alloc (.cells #[.int .u64 (sa : Int), .int .u64 (sb : Int), .int .u64 (sc : Int), .int .u64 (sd : Int)] 130)) [.int .u64 (na : Int), .int .u64 (nb : Int)] 95
    simp only [World.size_alloc] at h
    rw [hX]; exact h
  obtain ⟨q0, q1, q2, q3, qf⟩ := cells4 rf
  obtain ⟨x0, x1, x2, x3, xf⟩ := cells4 rs
  obtain ⟨n0, n1, nf⟩ := cells2 rn
  have hA : (decide (c1 ≤ 0)) = decide (c1 ≤ 0) := rfl
  go_enter Try.func77, Try.ntmps77
  go_upto_region 1 with fail
  rw [← hX]
  clear hX
  go_wp2_with fail
  go_at_call 89; refine (ci1 _).mono ?_; rintro e w2 ⟨rfl, hb⟩
  replace rf := rf.below hb
  replace rs := rs.below hb
  replace rn := rn.below hb
  replace hB := below2 hB hb
  clear q0 q1 q2 q3 qf x0 x1 x2 x3 xf n0 n1 nf hb
  obtain ⟨q0, q1, q2, q3, qf⟩ := cells4 rf
  obtain ⟨x0, x1, x2, x3, xf⟩ := cells4 rs
  obtain ⟨n0, n1, nf⟩ := cells2 rn
  by_cases h1 : c1 ≤ 0
  · have hA : decide (c1 ≤ 0) = true := decide_eq_true h1
    go_wp2_with fail
    go_at_call 89; refine (ci2 _).mono ?_; rintro e w3 ⟨rfl, hb⟩
    replace hB := below2 hB hb
    clear q0 q1 q2 q3 qf x0 x1 x2 x3 xf n0 n1 nf hb rf rs rn
    go_wp2_with fail
    go_ret
    exact ⟨by rw [hA]; rfl, hB⟩
  · have hA : decide (c1 ≤ 0) = false := decide_eq_false h1
    go_wp2_with fail
    go_ret
    exact ⟨by rw [hA]; rfl, hB⟩
def apartB (six : Bool) (t f : Nat) : Bool := decide ((nextE six t).2 = 0) && decide ((nextE six t).1 < f)
theorem apart_iff {six : Bool} {t f : Nat} (ht : t ≤ topN six) (hf : f ≤ topN six) : apartB six t f = decide (t + 1 < f) := by
  have hp := Nat.two_pow_pos (wideN six)
  have hr : rightB six t = true := (top_lt _ _).2 ht
  unfold apartB nextE
  rw [if_pos hr]
  unfold topN at *
  by_cases e : t = 2 ^ wideN six - 1
  · rw [if_pos e]
    have : ¬ t + 1 < f := by omega
    simp [this]
  · rw [if_neg e]; simp
theorem cmp_lt0 {n m : Nat} : decide (cmpN n m < 0) = decide (n < m) := by
  unfold cmpN
  split
  · simp; omega
  · split
    · subst n; simp
    · have : ¬ n < m := by omega
      simp [this]
theorem cmp_gt0 {n m : Nat} : decide (0 < cmpN n m) = decide (m < n) := by
  unfold cmpN
  split
  · simp; omega
  · split
    · subst n; simp
    · have : m < n := by omega
      simp [this]
set_option maxHeartbeats 2000000 in
theorem apartF_any (six : Bool) (t f : Nat) (g : Nat) (w : World) (ht : t < 2 ^ 128) (hf : f < 2 ^ 128) (hg : SixAt w g six) : Calls Try.prog 97 #[fdV g, adV t, adV f] w fun e w' => e = .returned (.bool (apartB six t f)) ∧ Below w.heap.size w w' := by
  have hn1 : (nextE six t).1 < 2 ^ 128 := by
    have : (2 : Nat) ^ wideN six ≤ 2 ^ 128 := Nat.pow_le_pow_right (by decide) (Addr.wideN_le six)
    unfold nextE
    split
    · rename_i hr
      have := of_decide_eq_true hr
      split
      · show 0 < _; decide
      · show t + 1 < _; omega
    · show 0 < _; decide
  have ci1 := fun w hg => next1_any six t g w ht hg
  have ci2 := fun w => cmp_any (nextE six t).1 f w hn1 hf
  have hle2 : decide (cmpN (nextE six t).1 f < 0) = decide ((nextE six t).1 < f) := cmp_lt0
  unfold apartB
  rw [← hle2]
  clear hle2 hn1
  unfold fdV f0 f1 f2 f3
  unfold adV at *
  generalize decide ((nextE six t).2 = 0) = A at *
  generalize cmpN (nextE six t).1 f = c2 at *
  generalize (nextE six t).1 = m at *
  generalize hiN t = ta at *
  generalize loN t = tb at *
  generalize hiN f = fa at *
  generalize loN f = fb at *
  generalize hiN m = ma at *
  generalize loN m = mb at *
  clear ht hf
  obtain ⟨X, hX⟩ : ∃ X, X = (((w.alloc (.cells #[.func (.func 87) #[] #[.pointer (some ⟨g, 0, none⟩)], .func (.func 89) #[] #[], .func (.func 90) #[] #[.pointer (some ⟨g, 0, none⟩)], .func (.func 92) #[] #[.pointer (some ⟨g, 0, none⟩)]] 123)).alloc (.cells #[.int .u64 (ta : Int), .int .u64 (tb : Int)] 95)).alloc (.cells #[.int .u64 (fa : Int), .int .u64 (fb : Int)] 95)) := ⟨_, rfl⟩
  have hB : Below w.heap.size w X := by rw [hX]; exact below_new (below_new (below_new (Below.refl _ _) _) _) _
  have rf : RowAt X (w.heap.size) [.func (.func 87) #[] #[.pointer (some ⟨g, 0, none⟩)], .func (.func 89) #[] #[], .func (.func 90) #[] #[.pointer (some ⟨g, 0, none⟩)], .func (.func 92) #[] #[.pointer (some ⟨g, 0, none⟩)]] 123 := by
    have h := ((RowAt.new w [.func (.func 87) #[] #[.pointer (some ⟨g, 0, none⟩)], .func (.func 89) #[] #[], .func (.func 90) #[] #[.pointer (some ⟨g, 0, none⟩)], .func (.func 92) #[] #[.pointer (some ⟨g, 0, none⟩)]] 123).alloc (.cells #[.int .u64 (ta : Int), .int .u64 (tb : Int)] 95)).alloc (.cells #[.int .u64 (fa : Int), .int .u64 (fb : Int)] 95)
    rw [hX]; exact h
  have rt : RowAt X (w.heap.size + 1) [.int .u64 (ta : Int), .int .u64 (tb : Int)] 95 := by
    have h := (RowAt.new (w.alloc (.cells #[.func (.func 87) #[] #[.pointer (some ⟨g, 0, none⟩)], .func (.func 89) #[] #[], .func (.func 90) #[] #[.pointer (some ⟨g, 0, none⟩)], .func (.func 92) #[] #[.pointer (some ⟨g, 0, none⟩)]] 123)) [.int .u64 (ta : Int), .int .u64 (tb : Int)] 95).alloc (.cells #[.int .u64 (fa : Int), .int .u64 (fb : Int)] 95)
    simp only [World.size_alloc] at h
    rw [hX]; exact h
  have rn : RowAt X (w.heap.size + 1 + 1) [.int .u64 (fa : Int), .int .u64 (fb : Int)] 95 := by
    have h := RowAt.new ((w.alloc (.cells #[.func (.func 87) #[] #[.pointer (some ⟨g, 0, none⟩)], .func (.func 89) #[] #[], .func (.func 90) #[] #[.pointer (some ⟨g, 0, none⟩)], .func (.func 92) #[] #[.pointer (some ⟨g, 0, none⟩)]] 123)).alloc (.cells #[.int .u64 (ta : Int), .int .u64 (tb : Int)] 95)) [.int .u64 (fa : Int), .int .u64 (fb : Int)] 95
    simp only [World.size_alloc] at h
    rw [hX]; exact h
  replace hg := hg.keep hB
  obtain ⟨q0, q1, q2, q3, qf⟩ := cells4 rf
  obtain ⟨x0, x1, xf⟩ := cells2 rt
  go_enter Try.func97, Try.ntmps97
  go_upto_region 1 with fail
  rw [← hX]
  clear hX
  go_wp2_with fail
  go_at_call 90; refine (ci1 _ hg).mono ?_; rintro e w2 ⟨rfl, hb⟩
  replace rf := rf.below hb
  replace rn := rn.below hb
  replace hB := below2 hB hb
  clear q0 q1 q2 q3 qf x0 x1 xf hb rt
  obtain ⟨Y, hY⟩ : ∃ Y, Y = w2.alloc (.cells #[.int .u64 (ma : Int), .int .u64 (mb : Int)] 95) := ⟨_, rfl⟩
  have hbY : Below w2.heap.size w2 Y := by rw [hY]; exact below_new (Below.refl _ _) _
  have rm : RowAt Y w2.heap.size [.int .u64 (ma : Int), .int .u64 (mb : Int)] 95 := by rw [hY]; exact RowAt.new _ _ _
  go_upto_region 2 with fail
  rw [← hY]
  replace rf := rf.below hbY
  replace rn := rn.below hbY
  replace hB := below2 hB hbY
  clear hY hbY
  obtain ⟨q0, q1, q2, q3, qf⟩ := cells4 rf
  obtain ⟨n0, n1, nf⟩ := cells2 rn
  obtain ⟨m0, m1, mf⟩ := cells2 rm
  cases A
  · go_wp2_with fail
    go_ret
    exact ⟨rfl, hB⟩
  · go_wp2_with fail
    go_at_call 89; refine (ci2 _).mono ?_; rintro e w3 ⟨rfl, hb⟩
    replace hB := below2 hB hb
    clear q0 q1 q2 q3 qf n0 n1 nf m0 m1 mf hb rf rn rm
    go_wp2_with fail
    go_ret
    exact ⟨rfl, hB⟩
theorem row_set2 {W : World} {b : Nat} {x0 x1 x2 x3 : Value} {t : TypeId} (h : RowAt W b [x0, x1, x2, x3] t) (u v : Value) : RowAt ((W.setCell ⟨b, 0, none⟩ u).setCell ⟨b, 1, none⟩ v) b [u, v, x2, x3] t := by
  have hb : W.heap[b]? = some (.cells #[x0, x1, x2, x3] t (0, 0)) := h
  unfold RowAt
  simp [World.setCell, Array.getElem?_modify, hb]
theorem row_set2b {W : World} {b : Nat} {x0 x1 x2 x3 : Value} {t : TypeId} (h : RowAt W b [x0, x1, x2, x3] t) (u v : Value) : RowAt ((W.setCell ⟨b, 2, none⟩ u).setCell ⟨b, 3, none⟩ v) b [x0, x1, u, v] t := by
  have hb : W.heap[b]? = some (.cells #[x0, x1, x2, x3] t (0, 0)) := h
  unfold RowAt
  simp [World.setCell, Array.getElem?_modify, hb]
set_option maxHeartbeats 4000000 in
theorem commonF_any (r s : Sp) (g : Nat) (w : World) (hr : FitS r) (hs : FitS s) : Calls Try.prog 103 #[fdV g, spV r, spV s] w fun e w' => e = .returned (spV (comS r s)) ∧ Below w.heap.size w w' := by
  have ci1 := fun w => cmp_any r.1 s.1 w hr.1 hs.1
  have ci2 := fun w => cmp_any r.2 s.2 w hr.2 hs.2
  have h1 : decide (cmpN r.1 s.1 < 0) = decide (r.1 < s.1) := cmp_lt0
  have h2 : decide (0 < cmpN r.2 s.2) = decide (s.2 < r.2) := cmp_gt0
  have HR : Hid (∀ (A B : Bool), decide (r.1 < s.1) = A → decide (s.2 < r.2) = B → spV (comS r s) = .agg #[.int .u64 ((if A then hiN s.1 else hiN r.1 : Nat) : Int), .int .u64 ((if A then loN s.1 else loN r.1 : Nat) : Int), .int .u64 ((if B then hiN s.2 else hiN r.2 : Nat) : Int), .int .u64 ((if B then loN s.2 else loN r.2 : Nat) : Int)]) := fun A B hA hB => by
    unfold spV comS
    by_cases e1 : r.1 < s.1
    · rw [decide_eq_true e1] at hA
      subst hA
      by_cases e2 : s.2 < r.2
      · rw [decide_eq_true e2] at hB; subst hB; simp [e1, e2]
      · rw [decide_eq_false e2] at hB; subst hB; simp [e1, e2]
    · rw [decide_eq_false e1] at hA
      subst hA
      by_cases e2 : s.2 < r.2
      · rw [decide_eq_true e2] at hB; subst hB; simp [e1, e2]
      · rw [decide_eq_false e2] at hB; subst hB; simp [e1, e2]
  rw [← h1, ← h2] at HR
  clear h1 h2
  generalize spV (comS r s) = R at HR ⊢
  unfold fdV spV f0 f1 f2 f3
  unfold adV at *
  generalize cmpN r.1 s.1 = c1 at *
  generalize cmpN r.2 s.2 = c2 at *
  generalize hiN r.1 = ra at *
  generalize loN r.1 = rb at *
  generalize hiN r.2 = rc at *
  generalize loN r.2 = rd at *
  generalize hiN s.1 = sa at *
  generalize loN s.1 = sb at *
  generalize hiN s.2 = sc at *
  generalize loN s.2 = sd at *
  clear hr hs
  obtain ⟨X, hX⟩ : ∃ X, X = ((((w.alloc (.cells #[.func (.func 87) #[] #[.pointer (some ⟨g, 0, none⟩)], .func (.func 89) #[] #[], .func (.func 90) #[] #[.pointer (some ⟨g, 0, none⟩)], .func (.func 92) #[] #[.pointer (some ⟨g, 0, none⟩)]] 123)).alloc (.cells #[.int .u64 (ra : Int), .int .u64 (rb : Int), .int .u64 (rc : Int), .int .u64 (rd : Int)] 130)).alloc (.cells #[.int .u64 (sa : Int), .int .u64 (sb : Int), .int .u64 (sc : Int), .int .u64 (sd : Int)] 130)).alloc (.cells #[.int .u64 0, .int .u64 0, .int .u64 0, .int .u64 0] 130)) := ⟨_, rfl⟩
  have hB : Below w.heap.size w X := by rw [hX]; exact below_new (below_new (below_new (below_new (Below.refl _ _) _) _) _) _
  have rf : RowAt X (w.heap.size) [.func (.func 87) #[] #[.pointer (some ⟨g, 0, none⟩)], .func (.func 89) #[] #[], .func (.func 90) #[] #[.pointer (some ⟨g, 0, none⟩)], .func (.func 92) #[] #[.pointer (some ⟨g, 0, none⟩)]] 123 := by
    have h := (((RowAt.new w [.func (.func 87) #[] #[.pointer (some ⟨g, 0, none⟩)], .func (.func 89) #[] #[], .func (.func 90) #[] #[.pointer (some ⟨g, 0, none⟩)], .func (.func 92) #[] #[.pointer (some ⟨g, 0, none⟩)]] 123).alloc (.cells #[.int .u64 (ra : Int), .int .u64 (rb : Int), .int .u64 (rc : Int), .int .u64 (rd : Int)] 130)).alloc (.cells #[.int .u64 (sa : Int), .int .u64 (sb : Int), .int .u64 (sc : Int), .int .u64 (sd : Int)] 130)).alloc (.cells #[.int .u64 0, .int .u64 0, .int .u64 0, .int .u64 0] 130)
    rw [hX]; exact h
  have rr : RowAt X (w.heap.size + 1) [.int .u64 (ra : Int), .int .u64 (rb : Int), .int .u64 (rc : Int), .int .u64 (rd : Int)] 130 := by
    have h := ((RowAt.new (w.alloc (.cells #[.func (.func 87) #[] #[.pointer (some ⟨g, 0, none⟩)], .func (.func 89) #[] #[], .func (.func 90) #[] #[.pointer (some ⟨g, 0, none⟩)], .func (.func 92) #[] #[.pointer (some ⟨g, 0, none⟩)]] 123)) [.int .u64 (ra : Int), .int .u64 (rb : Int), .int .u64 (rc : Int), .int .u64 (rd : Int)] 130).alloc (.cells #[.int .u64 (sa : Int), .int .u64 (sb : Int), .int .u64 (sc : Int), .int .u64 (sd : Int)] 130)).alloc (.cells #[.int .u64 0, .int .u64 0, .int .u64 0, .int .u64 0] 130)
    simp only [World.size_alloc] at h
    rw [hX]; exact h
  have rs : RowAt X (w.heap.size + 1 + 1) [.int .u64 (sa : Int), .int .u64 (sb : Int), .int .u64 (sc : Int), .int .u64 (sd : Int)] 130 := by
    have h := (RowAt.new ((w.alloc (.cells #[.func (.func 87) #[] #[.pointer (some ⟨g, 0, none⟩)], .func (.func 89) #[] #[], .func (.func 90) #[] #[.pointer (some ⟨g, 0, none⟩)], .func (.func 92) #[] #[.pointer (some ⟨g, 0, none⟩)]] 123)).alloc (.cells #[.int .u64 (ra : Int), .int .u64 (rb : Int), .int .u64 (rc : Int), .int .u64 (rd : Int)] 130)) [.int .u64 (sa : Int), .int .u64 (sb : Int), .int .u64 (sc : Int), .int .u64 (sd : Int)] 130).alloc (.cells #[.int .u64 0, .int .u64 0, .int .u64 0, .int .u64 0] 130)
    simp only [World.size_alloc] at h
    rw [hX]; exact h
  have rz : RowAt X (w.heap.size + 1 + 1 + 1) [.int .u64 0, .int .u64 0, .int .u64 0, .int .u64 0] 130 := by
    have h := RowAt.new (((w.alloc (.cells #[.func (.func 87) #[] #[.pointer (some ⟨g, 0, none⟩)], .func (.func 89) #[] #[], .func (.func 90) #[] #[.pointer (some ⟨g, 0, none⟩)], .func (.func 92) #[] #[.pointer (some ⟨g, 0, none⟩)]] 123)).alloc (.cells #[.int .u64 (ra : Int), .int .u64 (rb : Int), .int .u64 (rc : Int), .int .u64 (rd : Int)] 130)).alloc (.cells #[.int .u64 (sa : Int), .int .u64 (sb : Int), .int .u64 (sc : Int), .int .u64 (sd : Int)] 130)) [.int .u64 0, .int .u64 0, .int .u64 0, .int .u64 0] 130
    simp only [World.size_alloc] at h
    rw [hX]; exact h
  obtain ⟨gr, hgr⟩ : ∃ q, q = w.heap.size + 1 := ⟨_, rfl⟩
  obtain ⟨gs, hgs⟩ : ∃ q, q = w.heap.size + 1 + 1 := ⟨_, rfl⟩
  obtain ⟨gz, hgz⟩ : ∃ q, q = w.heap.size + 1 + 1 + 1 := ⟨_, rfl⟩
  have n1 : gr ≠ gs := by omega
  have n2 : gr ≠ gz := by omega
  have n3 : gs ≠ gz := by omega
  have n4 : gr ≠ w.heap.size := by omega
  have n5 : gz ≠ w.heap.size := by omega
  have l1 : w.heap.size ≤ gr := by omega
  have l2 : w.heap.size ≤ gz := by omega
  go_enter Try.func103, Try.ntmps103
  go_upto_region 1 with fail
  rw [← hX, ← hgz, ← hgs, ← hgr]
  rw [← hgr] at rr
  rw [← hgs] at rs
  rw [← hgz] at rz
  clear hX hgr hgs hgz
  obtain ⟨q0, q1, q2, q3, qf⟩ := cells4 rf
  obtain ⟨x0, x1, x2, x3, xf⟩ := cells4 rr
  obtain ⟨y0, y1, y2, y3, yf⟩ := cells4 rs
  go_wp2_with fail
  go_at_call 89; refine (ci1 _).mono ?_; rintro e w2 ⟨rfl, hb⟩
  replace rf := rf.below hb
  replace rr := rr.below hb
  replace rs := rs.below hb
  replace rz := rz.below hb
  replace hB := below2 hB hb
  clear q0 q1 q2 q3 qf x0 x1 x2 x3 xf y0 y1 y2 y3 yf hb ci1
  by_cases h1 : c1 < 0
  · obtain ⟨x0, x1, x2, x3, xf⟩ := cells4 rr
    obtain ⟨y0, y1, y2, y3, yf⟩ := cells4 rs
    obtain ⟨U, hU⟩ : ∃ U, U = (w2.setCell ⟨gr, 0, none⟩ (.int .u64 (sa : Int))).setCell ⟨gr, 1, none⟩ (.int .u64 (sb : Int)) := ⟨_, rfl⟩
    have hgU : w2.grownBy U (some gr) := by rw [hU]; exact gset (gset (grefl _ _))
    have rr2 := row_set2 rr (.int .u64 (sa : Int)) (.int .u64 (sb : Int))
    rw [← hU] at rr2
    replace rf := rf.gkeep hgU (by simpa using fun h => n4 h.symm)
    replace rs := rs.gkeep hgU (by simpa using fun h => n1 h.symm)
    replace rz := rz.gkeep hgU (by simpa using fun h => n2 h.symm)
    have hBU : Below w.heap.size w U := by rw [hU]; exact bset (bset hB l1) l1
    go_upto_region 3 with fail
    rw [← hU]
    clear hU hgU hB x0 x1 x2 x3 xf y0 y1 y2 y3 yf rr
    obtain ⟨rr, hB⟩ := (⟨rr2, hBU⟩ : _ ∧ _)
    clear rr2 hBU
    obtain ⟨q0, q1, q2, q3, qf⟩ := cells4 rf
    obtain ⟨x0, x1, x2, x3, xf⟩ := cells4 rr
    obtain ⟨y0, y1, y2, y3, yf⟩ := cells4 rs
    go_wp2_with fail
    go_at_call 89; refine (ci2 _).mono ?_; rintro e w3 ⟨rfl, hb⟩
    replace rr := rr.below hb
    replace rs := rs.below hb
    replace rz := rz.below hb
    replace hB := below2 hB hb
    clear q0 q1 q2 q3 qf x0 x1 x2 x3 xf y0 y1 y2 y3 yf hb rf
    by_cases h2 : 0 < c2
    · have hR : R = .agg #[.int .u64 (sa : Int), .int .u64 (sb : Int), .int .u64 (sc : Int), .int .u64 (sd : Int)] := HR.out true true (decide_eq_true (by omega)) (decide_eq_true (by omega))
      subst hR
      clear HR
      obtain ⟨y0, y1, y2, y3, yf⟩ := cells4 rs
      obtain ⟨x0, x1, x2, x3, xf⟩ := cells4 rr
      obtain ⟨V, hV⟩ : ∃ V, V = (w3.setCell ⟨gr, 2, none⟩ (.int .u64 (sc : Int))).setCell ⟨gr, 3, none⟩ (.int .u64 (sd : Int)) := ⟨_, rfl⟩
      have hgV : w3.grownBy V (some gr) := by rw [hV]; exact gset (gset (grefl _ _))
      have rr2 := row_set2b rr (.int .u64 (sc : Int)) (.int .u64 (sd : Int))
      rw [← hV] at rr2
      replace rz := rz.gkeep hgV (by simpa using fun h => n2 h.symm)
      have hBV : Below w.heap.size w V := by rw [hV]; exact bset (bset hB l1) l1
      go_upto_region 5 with fail
      rw [← hV]
      clear hV hgV x0 x1 x2 x3 xf y0 y1 y2 y3 yf rr rs hB
      replace rr2 := rr2
      obtain ⟨x0, x1, x2, x3, xf⟩ := cells4 rr2
      obtain ⟨z0, z1, z2, z3, zf⟩ := cells4 rz
      clear rr2
      have hzl := rz.lt
      clear rz
      go_wp2_with fail
      (try simp only [Exit.inBlock, Exit.then])
      refine bodyPost_ret (v := .agg #[.int .u64 (sa : Int), .int .u64 (sb : Int), .int .u64 (sc : Int), .int .u64 (sd : Int)]) ?_ rfl ⟨rfl, ?_⟩
      · rw [results_cell rfl]
        go_simp
      · repeat' (first | with_reducible exact hBV | with_reducible refine bset ?_ l2)
    · have hR : R = .agg #[.int .u64 (sa : Int), .int .u64 (sb : Int), .int .u64 (rc : Int), .int .u64 (rd : Int)] := HR.out true false (decide_eq_true (by omega)) (decide_eq_false (by omega))
      subst hR
      clear HR
      have hBV := hB
      obtain ⟨x0, x1, x2, x3, xf⟩ := cells4 rr
      obtain ⟨z0, z1, z2, z3, zf⟩ := cells4 rz
      clear rr rs
      have hzl := rz.lt
      clear rz
      go_wp2_with fail
      (try simp only [Exit.inBlock, Exit.then])
      refine bodyPost_ret (v := .agg #[.int .u64 (sa : Int), .int .u64 (sb : Int), .int .u64 (rc : Int), .int .u64 (rd : Int)]) ?_ rfl ⟨rfl, ?_⟩
      · rw [results_cell rfl]
        go_simp
      · repeat' (first | with_reducible exact hBV | with_reducible refine bset ?_ l2)
  · obtain ⟨q0, q1, q2, q3, qf⟩ := cells4 rf
    obtain ⟨x0, x1, x2, x3, xf⟩ := cells4 rr
    obtain ⟨y0, y1, y2, y3, yf⟩ := cells4 rs
    go_wp2_with fail
    go_at_call 89; refine (ci2 _).mono ?_; rintro e w3 ⟨rfl, hb⟩
    replace rr := rr.below hb
    replace rs := rs.below hb
    replace rz := rz.below hb
    replace hB := below2 hB hb
    clear q0 q1 q2 q3 qf x0 x1 x2 x3 xf y0 y1 y2 y3 yf hb rf
    by_cases h2 : 0 < c2
    · have hR : R = .agg #[.int .u64 (ra : Int), .int .u64 (rb : Int), .int .u64 (sc : Int), .int .u64 (sd : Int)] := HR.out false true (decide_eq_false (by omega)) (decide_eq_true (by omega))
      subst hR
      clear HR
      obtain ⟨y0, y1, y2, y3, yf⟩ := cells4 rs
      obtain ⟨x0, x1, x2, x3, xf⟩ := cells4 rr
      obtain ⟨V, hV⟩ : ∃ V, V = (w3.setCell ⟨gr, 2, none⟩ (.int .u64 (sc : Int))).setCell ⟨gr, 3, none⟩ (.int .u64 (sd : Int)) := ⟨_, rfl⟩
      have hgV : w3.grownBy V (some gr) := by rw [hV]; exact gset (gset (grefl _ _))
      have rr2 := row_set2b rr (.int .u64 (sc : Int)) (.int .u64 (sd : Int))
      rw [← hV] at rr2
      replace rz := rz.gkeep hgV (by simpa using fun h => n2 h.symm)
      have hBV : Below w.heap.size w V := by rw [hV]; exact bset (bset hB l1) l1
      go_upto_region 5 with fail
      rw [← hV]
      clear hV hgV x0 x1 x2 x3 xf y0 y1 y2 y3 yf rr rs hB
      replace rr2 := rr2
      obtain ⟨x0, x1, x2, x3, xf⟩ := cells4 rr2
      obtain ⟨z0, z1, z2, z3, zf⟩ := cells4 rz
      clear rr2
      have hzl := rz.lt
      clear rz
      go_wp2_with fail
      (try simp only [Exit.inBlock, Exit.then])
      refine bodyPost_ret (v := .agg #[.int .u64 (ra : Int), .int .u64 (rb : Int), .int .u64 (sc : Int), .int .u64 (sd : Int)]) ?_ rfl ⟨rfl, ?_⟩
      · rw [results_cell rfl]
        go_simp
      · repeat' (first | with_reducible exact hBV | with_reducible refine bset ?_ l2)
    · have hR : R = .agg #[.int .u64 (ra : Int), .int .u64 (rb : Int), .int .u64 (rc : Int), .int .u64 (rd : Int)] := HR.out false false (decide_eq_false (by omega)) (decide_eq_false (by omega))
      subst hR
      clear HR
      have hBV := hB
      obtain ⟨x0, x1, x2, x3, xf⟩ := cells4 rr
      obtain ⟨z0, z1, z2, z3, zf⟩ := cells4 rz
      clear rr rs
      have hzl := rz.lt
      clear rz
      go_wp2_with fail
      (try simp only [Exit.inBlock, Exit.then])
      refine bodyPost_ret (v := .agg #[.int .u64 (ra : Int), .int .u64 (rb : Int), .int .u64 (rc : Int), .int .u64 (rd : Int)]) ?_ rfl ⟨rfl, ?_⟩
      · rw [results_cell rfl]
        go_simp
      · repeat' (first | with_reducible exact hBV | with_reducible refine bset ?_ l2)
end Go.Proofs.Ytmkbijnndbgjgaa.Sp
