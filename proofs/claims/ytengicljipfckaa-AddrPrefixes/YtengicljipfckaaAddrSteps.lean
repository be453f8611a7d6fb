/- What spoorlaw09.steps returns. -/
import Derived.Test.YtengicljipfckaaAddrHalves
import Derived.Test.YtengicljipfckaaAddrPrev
set_option linter.unusedVariables false
namespace Go.Proofs.Ytengicljipfckaa.Addr
open Go.RowKit

set_option maxHeartbeats 4000000 in
set_option maxRecDepth 20000 in
theorem steps_any (w : World) : Calls Try.prog 11 #[] w fun e w' => e = .returned (.bool true) ∧ Below w.heap.size w w' := by
  have c1 : ∀ w, Calls Try.prog 16 #[.agg #[.bool false, .int .u64 0, .int .u64 167772160, .int .i64 8]] w fun e w' => e = .returned (.tuple #[.agg #[.int .u64 0, .int .u64 184549375], .int .i64 0]) ∧ Below w.heap.size w w' := fun w => by
    have h := last_any ⟨false, 167772160, 8⟩ w ⟨by decide, by decide⟩ (by decide)
    rw [show lastE ⟨false, 167772160, 8⟩ = (184549375, 0) by decide +kernel] at h
    exact h
  have c2 : ∀ w, Calls Try.prog 7 #[.bool true, .agg #[.int .u64 0, .int .u64 18446744073709551615]] w fun e w' => e = .returned (.tuple #[.agg #[.int .u64 1, .int .u64 0], .int .i64 0]) ∧ Below w.heap.size w w' := fun w => by
    have h := next_any true 18446744073709551615 w (by decide)
    rw [show nextE true 18446744073709551615 = (18446744073709551616, 0) by decide +kernel] at h
    exact h
  have c3 : ∀ w, Calls Try.prog 7 #[.bool false, .agg #[.int .u64 0, .int .u64 4294967295]] w fun e w' => e = .returned (.tuple #[.agg #[.int .u64 0, .int .u64 0], .int .i64 3]) ∧ Below w.heap.size w w' := fun w => by
    have h := next_any false 4294967295 w (by decide)
    rw [show nextE false 4294967295 = (0, 3) by decide +kernel] at h
    exact h
  have c4 : ∀ w, Calls Try.prog 9 #[.bool true, .agg #[.int .u64 1, .int .u64 0]] w fun e w' => e = .returned (.tuple #[.agg #[.int .u64 0, .int .u64 18446744073709551615], .int .i64 0]) ∧ Below w.heap.size w w' := fun w => by
    have h := prev_any true 18446744073709551616 w (by decide)
    rw [show prevE true 18446744073709551616 = (18446744073709551615, 0) by decide +kernel] at h
    exact h
  have c5 : ∀ w, Calls Try.prog 18 #[.agg #[.bool false, .int .u64 0, .int .u64 167772160, .int .i64 8]] w fun e w' => e = .returned (.tuple #[.agg #[.bool false, .int .u64 0, .int .u64 167772160, .int .i64 9], .agg #[.bool false, .int .u64 0, .int .u64 176160768, .int .i64 9], .int .i64 0]) ∧ Below w.heap.size w w' := fun w => by
    have h := halves_any ⟨false, 167772160, 8⟩ w ⟨by decide, by decide⟩ (by decide)
    rw [show halvesE ⟨false, 167772160, 8⟩ = (⟨false, 167772160, 9⟩, ⟨false, 176160768, 9⟩, 0) by rfl] at h
    exact h
  have c6 : ∀ w, Calls Try.prog 22 #[.agg #[.bool false, .int .u64 0, .int .u64 167772160, .int .i64 8], .bool false, .agg #[.int .u64 0, .int .u64 184549375]] w fun e w' => e = .returned (.bool true) ∧ Below w.heap.size w w' := fun w => by
    have h := has_any ⟨false, 167772160, 8⟩ false 184549375 w ⟨by decide, by decide⟩ (by decide) (by decide)
    rw [show hasB ⟨false, 167772160, 8⟩ false 184549375 = true by decide +kernel] at h
    exact h
  have c7 : ∀ w, Calls Try.prog 22 #[.agg #[.bool false, .int .u64 0, .int .u64 167772160, .int .i64 8], .bool true, .agg #[.int .u64 0, .int .u64 184549375]] w fun e w' => e = .returned (.bool false) ∧ Below w.heap.size w w' := fun w => by
    have h := has_any ⟨false, 167772160, 8⟩ true 184549375 w ⟨by decide, by decide⟩ (by decide) (by decide)
    rw [show hasB ⟨false, 167772160, 8⟩ true 184549375 = false by decide +kernel] at h
    exact h
  have c8 : ∀ w, Calls Try.prog 24 #[.agg #[.bool false, .int .u64 0, .int .u64 167772160, .int .i64 8], .agg #[.bool false, .int .u64 0, .int .u64 176160768, .int .i64 9]] w fun e w' => e = .returned (.bool true) ∧ Below w.heap.size w w' := fun w => by
    have h := covers_any ⟨false, 167772160, 8⟩ ⟨false, 176160768, 9⟩ w ⟨by decide, by decide⟩ (by decide) ⟨by decide, by decide⟩ (by decide)
    rw [show coversB ⟨false, 167772160, 8⟩ ⟨false, 176160768, 9⟩ = true by decide +kernel] at h
    exact h
  have c9 : ∀ w, Calls Try.prog 24 #[.agg #[.bool false, .int .u64 0, .int .u64 176160768, .int .i64 9], .agg #[.bool false, .int .u64 0, .int .u64 167772160, .int .i64 8]] w fun e w' => e = .returned (.bool false) ∧ Below w.heap.size w w' := fun w => by
    have h := covers_any ⟨false, 176160768, 9⟩ ⟨false, 167772160, 8⟩ w ⟨by decide, by decide⟩ (by decide) ⟨by decide, by decide⟩ (by decide)
    rw [show coversB ⟨false, 176160768, 9⟩ ⟨false, 167772160, 8⟩ = false by decide +kernel] at h
    exact h
  have c10 : ∀ w, Calls Try.prog 14 #[.agg #[.int .u64 0, .int .u64 167772160], .agg #[.int .u64 0, .int .u64 176160768]] w fun e w' => e = .returned (.int .i64 (-1)) ∧ Below w.heap.size w w' := fun w => by
    have h := cmp_any 167772160 176160768 w (by decide) (by decide)
    rw [show cmpN 167772160 176160768 = -1 by decide +kernel] at h
    exact h
  have c11 : ∀ w, Calls Try.prog 20 #[.agg #[.bool false, .int .u64 0, .int .u64 184549375, .int .i64 8]] w fun e w' => e = .returned (.int .i64 2) ∧ Below w.heap.size w w' := fun w => by
    have h := check_any ⟨false, 184549375, 8⟩ w ⟨by decide, by decide⟩ (by decide)
    rw [show checkP ⟨false, 184549375, 8⟩ = 2 by decide +kernel] at h
    exact h
  have c12 : ∀ w, Calls Try.prog 12 #[.bool false, .agg #[.int .u64 0, .int .u64 184549375]] w fun e w' => e = .returned (.bool true) ∧ Below w.heap.size w w' := fun w => by
    have h := right_any false 184549375 w (by decide)
    rw [show rightB false 184549375 = true by decide +kernel] at h
    exact h
  have heq1 : ∀ w, (binOp .eql 24 (.agg #[.int .u64 1, .int .u64 0]) (.agg #[.int .u64 1, .int .u64 0])).run Try.prog w = .ok (.bool true) w := fun w => ad_eql 18446744073709551616 18446744073709551616 w
  have heq2 : ∀ w, (binOp .eql 24 (.agg #[.int .u64 0, .int .u64 18446744073709551615]) (.agg #[.int .u64 0, .int .u64 18446744073709551615])).run Try.prog w = .ok (.bool true) w := fun w => ad_eql 18446744073709551615 18446744073709551615 w
  have hgd := ad_guard
  go_enter Try.func11, Try.ntmps11
  have hW : Below w.heap.size w w := Below.refl _ _
  obtain ⟨X1, hX1⟩ : ∃ X, X = (w.alloc (.cells #[.bool false, .int .u64 0, .int .u64 167772160, .int .i64 8] 33)) := ⟨_, rfl⟩
  obtain ⟨grt, hgrt⟩ : ∃ g, g = w.heap.size := ⟨_, rfl⟩
  have hwb1 : w.heap.size ≤ w.heap.size := hW.size
  have hbX1 : Below w.heap.size w X1 := by rw [hX1]; exact below_new (Below.refl _ _) _
  have rt : RowAt X1 grt [.bool false, .int .u64 0, .int .u64 167772160, .int .i64 8] 33 := by
    have h := RowAt.new w [.bool false, .int .u64 0, .int .u64 167772160, .int .i64 8] 33
    rw [hgrt, hX1]; exact h
  have hW := below2 hW hbX1
  go_upto_region 2 with fail
  rw [← hX1, ← hgrt]
  clear hX1 hbX1 hgrt hwb1
  obtain ⟨rtq0, rtq1, rtq2, rtq3, rtf⟩ := cells4 rt
  go_wp2_with fail
  go_at_call 16; refine (c1 _).mono ?_; rintro e w2 ⟨rfl, hb⟩
  clear rtq0 rtq1 rtq2 rtq3 rtf
  have rt := rt.below hb
  have hW := below2 hW hb
  clear hb
  obtain ⟨X3, hX3⟩ : ∃ X, X = (w2.alloc (.cells #[.int .u64 0, .int .u64 184549375] 24)) := ⟨_, rfl⟩
  obtain ⟨grl, hgrl⟩ : ∃ g, g = w2.heap.size := ⟨_, rfl⟩
  have hwb3 : w.heap.size ≤ w2.heap.size := hW.size
  have hbX3 : Below w2.heap.size w2 X3 := by rw [hX3]; exact below_new (Below.refl _ _) _
  have rt := rt.below hbX3
  have rl : RowAt X3 grl [.int .u64 0, .int .u64 184549375] 24 := by
    have h := RowAt.new w2 [.int .u64 0, .int .u64 184549375] 24
    rw [hgrl, hX3]; exact h
  have hW := below2 hW hbX3
  go_upto_region 3 with fail
  rw [← hX3, ← hgrl]
  clear hX3 hbX3 hgrl hwb3
  go_wp2_with fail
  go_at_call 7; refine (c2 _).mono ?_; rintro e w4 ⟨rfl, hb⟩
  have rt := rt.below hb
  have rl := rl.below hb
  have hW := below2 hW hb
  clear hb
  obtain ⟨X5, hX5⟩ : ∃ X, X = (w4.alloc (.cells #[.int .u64 1, .int .u64 0] 24)) := ⟨_, rfl⟩
  obtain ⟨grn, hgrn⟩ : ∃ g, g = w4.heap.size := ⟨_, rfl⟩
  have hwb5 : w.heap.size ≤ w4.heap.size := hW.size
  have hbX5 : Below w4.heap.size w4 X5 := by rw [hX5]; exact below_new (Below.refl _ _) _
  have rt := rt.below hbX5
  have rl := rl.below hbX5
  have rn : RowAt X5 grn [.int .u64 1, .int .u64 0] 24 := by
    have h := RowAt.new w4 [.int .u64 1, .int .u64 0] 24
    rw [hgrn, hX5]; exact h
  have hW := below2 hW hbX5
  go_upto_region 4 with fail
  rw [← hX5, ← hgrn]
  clear hX5 hbX5 hgrn hwb5
  go_wp2_with fail
  go_at_call 7; refine (c3 _).mono ?_; rintro e w6 ⟨rfl, hb⟩
  have rt := rt.below hb
  have rl := rl.below hb
  have rn := rn.below hb
  have hW := below2 hW hb
  clear hb
  obtain ⟨X7, hX7⟩ : ∃ X, X = (w6.alloc (.cells #[.int .u64 0, .int .u64 0] 24)) := ⟨_, rfl⟩
  obtain ⟨grz, hgrz⟩ : ∃ g, g = w6.heap.size := ⟨_, rfl⟩
  have hwb7 : w.heap.size ≤ w6.heap.size := hW.size
  have hbX7 : Below w6.heap.size w6 X7 := by rw [hX7]; exact below_new (Below.refl _ _) _
  have rt := rt.below hbX7
  have rl := rl.below hbX7
  have rn := rn.below hbX7
  have rz : RowAt X7 grz [.int .u64 0, .int .u64 0] 24 := by
    have h := RowAt.new w6 [.int .u64 0, .int .u64 0] 24
    rw [hgrz, hX7]; exact h
  have hW := below2 hW hbX7
  go_upto_region 5 with fail
  rw [← hX7, ← hgrz]
  clear hX7 hbX7 hgrz hwb7
  go_wp2_with fail
  go_at_call 9; refine (c4 _).mono ?_; rintro e w8 ⟨rfl, hb⟩
  have rt := rt.below hb
  have rl := rl.below hb
  have rn := rn.below hb
  have rz := rz.below hb
  have hW := below2 hW hb
  clear hb
  obtain ⟨X9, hX9⟩ : ∃ X, X = (w8.alloc (.cells #[.int .u64 0, .int .u64 18446744073709551615] 24)) := ⟨_, rfl⟩
  obtain ⟨grp, hgrp⟩ : ∃ g, g = w8.heap.size := ⟨_, rfl⟩
  have hwb9 : w.heap.size ≤ w8.heap.size := hW.size
  have hbX9 : Below w8.heap.size w8 X9 := by rw [hX9]; exact below_new (Below.refl _ _) _
  have rt := rt.below hbX9
  have rl := rl.below hbX9
  have rn := rn.below hbX9
  have rz := rz.below hbX9
  have rp : RowAt X9 grp [.int .u64 0, .int .u64 18446744073709551615] 24 := by
    have h := RowAt.new w8 [.int .u64 0, .int .u64 18446744073709551615] 24
    rw [hgrp, hX9]; exact h
  have hW := below2 hW hbX9
  go_upto_region 6 with fail
  rw [← hX9, ← hgrp]
  clear hX9 hbX9 hgrp hwb9
  obtain ⟨rtq0, rtq1, rtq2, rtq3, rtf⟩ := cells4 rt
  go_wp2_with fail
  go_at_call 18; refine (c5 _).mono ?_; rintro e w10 ⟨rfl, hb⟩
  clear rtq0 rtq1 rtq2 rtq3 rtf
  have rt := rt.below hb
  have rl := rl.below hb
  have rn := rn.below hb
  have rz := rz.below hb
  have rp := rp.below hb
  have hW := below2 hW hb
  clear hb
  obtain ⟨X11, hX11⟩ : ∃ X, X = ((w10.alloc (.cells #[.bool false, .int .u64 0, .int .u64 167772160, .int .i64 9] 33)).alloc (.cells #[.bool false, .int .u64 0, .int .u64 176160768, .int .i64 9] 33)) := ⟨_, rfl⟩
  obtain ⟨gra, hgra⟩ : ∃ g, g = w10.heap.size := ⟨_, rfl⟩
  obtain ⟨grb, hgrb⟩ : ∃ g, g = w10.heap.size + 1 := ⟨_, rfl⟩
  have hwb11 : w.heap.size ≤ w10.heap.size := hW.size
  have hbX11 : Below w10.heap.size w10 X11 := by rw [hX11]; exact below_new (below_new (Below.refl _ _) _) _
  have rt := rt.below hbX11
  have rl := rl.below hbX11
  have rn := rn.below hbX11
  have rz := rz.below hbX11
  have rp := rp.below hbX11
  have ra : RowAt X11 gra [.bool false, .int .u64 0, .int .u64 167772160, .int .i64 9] 33 := by
    have h := (RowAt.new w10 [.bool false, .int .u64 0, .int .u64 167772160, .int .i64 9] 33).alloc (.cells #[.bool false, .int .u64 0, .int .u64 176160768, .int .i64 9] 33)
    rw [hgra, hX11]; exact h
  have rb : RowAt X11 grb [.bool false, .int .u64 0, .int .u64 176160768, .int .i64 9] 33 := by
    have h := RowAt.new (w10.alloc (.cells #[.bool false, .int .u64 0, .int .u64 167772160, .int .i64 9] 33)) [.bool false, .int .u64 0, .int .u64 176160768, .int .i64 9] 33
    simp only [World.size_alloc] at h
    rw [hgrb, hX11]; exact h
  have hW := below2 hW hbX11
  go_upto_region 7 with fail
  rw [← hX11, ← hgrb, ← hgra]
  clear hX11 hbX11 hgra hgrb hwb11
  obtain ⟨rtq0, rtq1, rtq2, rtq3, rtf⟩ := cells4 rt
  obtain ⟨rlq0, rlq1, rlf⟩ := cells2 rl
  obtain ⟨rnq0, rnq1, rnf⟩ := cells2 rn
  obtain ⟨rpq0, rpq1, rpf⟩ := cells2 rp
  obtain ⟨raq0, raq1, raq2, raq3, raf⟩ := cells4 ra
  obtain ⟨rbq0, rbq1, rbq2, rbq3, rbf⟩ := cells4 rb
  go_wp2_with fail
  go_at_call 22; refine (c6 _).mono ?_; rintro e w12 ⟨rfl, hb⟩
  clear rtq0 rtq1 rtq2 rtq3 rtf rlq0 rlq1 rlf rnq0 rnq1 rnf rpq0 rpq1 rpf raq0 raq1 raq2 raq3 raf rbq0 rbq1 rbq2 rbq3 rbf
  have rt := rt.below hb
  have rl := rl.below hb
  have rn := rn.below hb
  have rz := rz.below hb
  have rp := rp.below hb
  have ra := ra.below hb
  have rb := rb.below hb
  have hW := below2 hW hb
  clear hb
  obtain ⟨rtq0, rtq1, rtq2, rtq3, rtf⟩ := cells4 rt
  obtain ⟨rlq0, rlq1, rlf⟩ := cells2 rl
  go_wp2_with fail
  go_at_call 22; refine (c7 _).mono ?_; rintro e w13 ⟨rfl, hb⟩
  clear rtq0 rtq1 rtq2 rtq3 rtf rlq0 rlq1 rlf
  have rt := rt.below hb
  have rl := rl.below hb
  have rn := rn.below hb
  have rz := rz.below hb
  have rp := rp.below hb
  have ra := ra.below hb
  have rb := rb.below hb
  have hW := below2 hW hb
  clear hb
  obtain ⟨rtq0, rtq1, rtq2, rtq3, rtf⟩ := cells4 rt
  obtain ⟨rbq0, rbq1, rbq2, rbq3, rbf⟩ := cells4 rb
  go_wp2_with fail
  go_at_call 24; refine (c8 _).mono ?_; rintro e w14 ⟨rfl, hb⟩
  clear rtq0 rtq1 rtq2 rtq3 rtf rbq0 rbq1 rbq2 rbq3 rbf
  have rt := rt.below hb
  have rl := rl.below hb
  have rn := rn.below hb
  have rz := rz.below hb
  have rp := rp.below hb
  have ra := ra.below hb
  have rb := rb.below hb
  have hW := below2 hW hb
  clear hb
  obtain ⟨rtq0, rtq1, rtq2, rtq3, rtf⟩ := cells4 rt
  obtain ⟨rbq0, rbq1, rbq2, rbq3, rbf⟩ := cells4 rb
  go_wp2_with fail
  go_at_call 24; refine (c9 _).mono ?_; rintro e w15 ⟨rfl, hb⟩
  clear rtq0 rtq1 rtq2 rtq3 rtf rbq0 rbq1 rbq2 rbq3 rbf
  have rt := rt.below hb
  have rl := rl.below hb
  have rn := rn.below hb
  have rz := rz.below hb
  have rp := rp.below hb
  have ra := ra.below hb
  have rb := rb.below hb
  have hW := below2 hW hb
  clear hb
  obtain ⟨raq0, raq1, raq2, raq3, raf⟩ := cells4 ra
  obtain ⟨rbq0, rbq1, rbq2, rbq3, rbf⟩ := cells4 rb
  go_wp2_with fail
  go_at_call 14; refine (c10 _).mono ?_; rintro e w16 ⟨rfl, hb⟩
  clear raq0 raq1 raq2 raq3 raf rbq0 rbq1 rbq2 rbq3 rbf
  have rt := rt.below hb
  have rl := rl.below hb
  have rn := rn.below hb
  have rz := rz.below hb
  have rp := rp.below hb
  have ra := ra.below hb
  have rb := rb.below hb
  have hW := below2 hW hb
  clear hb
  obtain ⟨rlq0, rlq1, rlf⟩ := cells2 rl
  go_wp2_with fail
  go_at_call 20; refine (c11 _).mono ?_; rintro e w17 ⟨rfl, hb⟩
  clear rlq0 rlq1 rlf
  have rt := rt.below hb
  have rl := rl.below hb
  have rn := rn.below hb
  have rz := rz.below hb
  have rp := rp.below hb
  have ra := ra.below hb
  have rb := rb.below hb
  have hW := below2 hW hb
  clear hb
  obtain ⟨rlq0, rlq1, rlf⟩ := cells2 rl
  go_wp2_with fail
  go_at_call 12; refine (c12 _).mono ?_; rintro e w18 ⟨rfl, hb⟩
  clear rlq0 rlq1 rlf
  have rt := rt.below hb
  have rl := rl.below hb
  have rn := rn.below hb
  have rz := rz.below hb
  have rp := rp.below hb
  have ra := ra.below hb
  have rb := rb.below hb
  have hW := below2 hW hb
  clear hb
  go_wp2_with fail
  go_ret
  exact ⟨rfl, hW⟩
end Go.Proofs.Ytengicljipfckaa.Addr
