/- For any two prefixes and every address: spoorlaw09.AddrBetween returns true, and changes nothing that was there. No condition. -/
import Derived.Test.YtengicljipfckaaRows
import Derived.Test.YtengicljipfckaaAddrSteps
import Derived.Test.YtengicljipfckaaAddrOpen
import Derived.Test.YtengicljipfckaaAbetweenW4
import Derived.ProofKit
import Derived.OpenShut
import Derived.ShutString
import Derived.SizedLaws
set_option linter.unusedVariables false
namespace Go.Proofs.Ytengicljipfckaa
namespace addrBetween
open Go.ChangeShapes Go.WideShapes Go.ChangeAt Go.RowKit
open Go.ChangeMaps (open_string shut_string)
open Go.Proofs.Ytengicljipfckaa.Addr

theorem own : ownKnob Try.prog.godebug = none := by kernel_rfl
theorem laidOut : laidOutB Try.prog = true := by kernel_rfl

set_option maxHeartbeats 4000000 in
set_option maxRecDepth 20000 in
theorem way1 (sx qs : Bool) (h l qh ql ah al : Nat) (len qn : Int) (w : World)
    (y : Int) (hy : (y != 0) = true)
    (cl : ∀ w, Calls Try.prog 16 #[.agg #[.bool sx, .int .u64 (h : Int), .int .u64 (l : Int), .int .i64 len]] w fun e w' => e = .returned (.tuple #[.agg #[.int .u64 0, .int .u64 0], .int .i64 y]) ∧ Below w.heap.size w w')
    (ch : ∀ w, Calls Try.prog 22 #[.agg #[.bool sx, .int .u64 (h : Int), .int .u64 (l : Int), .int .i64 len], .bool sx, .agg #[.int .u64 (ah : Int), .int .u64 (al : Int)]] w fun e w' => e = .returned (.bool false) ∧ Below w.heap.size w w')
    : Calls Try.prog 5 #[.agg #[.bool sx, .int .u64 (h : Int), .int .u64 (l : Int), .int .i64 len], .agg #[.bool qs, .int .u64 (qh : Int), .int .u64 (ql : Int), .int .i64 qn], .agg #[.int .u64 (ah : Int), .int .u64 (al : Int)]] w fun e w' => e = .returned (.bool true) ∧ Below w.heap.size w w' := by
  have hv := steps_any
  have hW : Below w.heap.size w w := Below.refl _ _
  go_enter Try.func5, Try.ntmps5
  obtain ⟨X1, hX1⟩ : ∃ X, X = (((w.alloc (.cells #[.bool sx, .int .u64 (h : Int), .int .u64 (l : Int), .int .i64 len] 33)).alloc (.cells #[.bool qs, .int .u64 (qh : Int), .int .u64 (ql : Int), .int .i64 qn] 33)).alloc (.cells #[.int .u64 (ah : Int), .int .u64 (al : Int)] 24)) := ⟨_, rfl⟩
  obtain ⟨grp, hgrp⟩ : ∃ g, g = w.heap.size := ⟨_, rfl⟩
  obtain ⟨grq, hgrq⟩ : ∃ g, g = w.heap.size + 1 := ⟨_, rfl⟩
  obtain ⟨gra, hgra⟩ : ∃ g, g = w.heap.size + 1 + 1 := ⟨_, rfl⟩
  have hbX1 : Below w.heap.size w X1 := by rw [hX1]; exact below_new (below_new (below_new (Below.refl _ _) _) _) _
  have rp : RowAt X1 grp [.bool sx, .int .u64 (h : Int), .int .u64 (l : Int), .int .i64 len] 33 := by
    have h := ((RowAt.new w [.bool sx, .int .u64 (h : Int), .int .u64 (l : Int), .int .i64 len] 33).alloc (.cells #[.bool qs, .int .u64 (qh : Int), .int .u64 (ql : Int), .int .i64 qn] 33)).alloc (.cells #[.int .u64 (ah : Int), .int .u64 (al : Int)] 24)
    rw [hgrp, hX1]; exact h
  have rq : RowAt X1 grq [.bool qs, .int .u64 (qh : Int), .int .u64 (ql : Int), .int .i64 qn] 33 := by
    have h := (RowAt.new (w.alloc (.cells #[.bool sx, .int .u64 (h : Int), .int .u64 (l : Int), .int .i64 len] 33)) [.bool qs, .int .u64 (qh : Int), .int .u64 (ql : Int), .int .i64 qn] 33).alloc (.cells #[.int .u64 (ah : Int), .int .u64 (al : Int)] 24)
    simp only [World.size_alloc] at h
    rw [hgrq, hX1]; exact h
  have ra : RowAt X1 gra [.int .u64 (ah : Int), .int .u64 (al : Int)] 24 := by
    have h := RowAt.new ((w.alloc (.cells #[.bool sx, .int .u64 (h : Int), .int .u64 (l : Int), .int .i64 len] 33)).alloc (.cells #[.bool qs, .int .u64 (qh : Int), .int .u64 (ql : Int), .int .i64 qn] 33)) [.int .u64 (ah : Int), .int .u64 (al : Int)] 24
    simp only [World.size_alloc] at h
    rw [hgra, hX1]; exact h
  replace hW := below2 hW hbX1
  go_upto_region 1 with fail
  rw [← hX1, ← hgra, ← hgrq, ← hgrp]
  clear hX1 hbX1 hgrp hgrq hgra
  go_wp2_with fail
  go_at_call 11; refine (hv _).mono ?_; rintro e w2 ⟨rfl, hb⟩
  replace rp := rp.below hb
  replace rq := rq.below hb
  replace ra := ra.below hb
  replace hW := below2 hW hb
  clear hb
  obtain ⟨rpq0, rpq1, rpq2, rpq3, rpf⟩ := cells4 rp
  go_wp2_with fail
  go_at_call 16; refine (cl _).mono ?_; rintro e w3 ⟨rfl, hb⟩
  clear rpq0 rpq1 rpq2 rpq3 rpf
  replace rp := rp.below hb
  replace rq := rq.below hb
  replace ra := ra.below hb
  replace hW := below2 hW hb
  clear hb
  obtain ⟨X4, hX4⟩ : ∃ X, X = (w3.alloc (.cells #[.int .u64 0, .int .u64 0] 24)) := ⟨_, rfl⟩
  obtain ⟨grl, hgrl⟩ : ∃ g, g = w3.heap.size := ⟨_, rfl⟩
  have hbX4 : Below w3.heap.size w3 X4 := by rw [hX4]; exact below_new (Below.refl _ _) _
  replace rp := rp.below hbX4
  replace rq := rq.below hbX4
  replace ra := ra.below hbX4
  have rl : RowAt X4 grl [.int .u64 0, .int .u64 0] 24 := by
    have h := RowAt.new w3 [.int .u64 0, .int .u64 0] 24
    rw [hgrl, hX4]; exact h
  replace hW := below2 hW hbX4
  go_upto_region 4 with fail
  rw [← hX4, ← hgrl]
  clear hX4 hbX4 hgrl
  obtain ⟨rpq0, rpq1, rpq2, rpq3, rpf⟩ := cells4 rp
  obtain ⟨raq0, raq1, raf⟩ := cells2 ra
  go_wp2_with fail
  go_at_call 22; refine (ch _).mono ?_; rintro e w5 ⟨rfl, hb⟩
  clear rpq0 rpq1 rpq2 rpq3 rpf raq0 raq1 raf
  replace rp := rp.below hb
  replace rq := rq.below hb
  replace ra := ra.below hb
  replace rl := rl.below hb
  replace hW := below2 hW hb
  clear hb
  go_wp2_with fail
  go_ret
  exact ⟨rfl, hW⟩
set_option maxHeartbeats 4000000 in
set_option maxRecDepth 20000 in
theorem way2 (sx qs : Bool) (h l qh ql ah al : Nat) (len qn : Int) (w : World)
    (Lh Ll : Nat)
    (cl : ∀ w, Calls Try.prog 16 #[.agg #[.bool sx, .int .u64 (h : Int), .int .u64 (l : Int), .int .i64 len]] w fun e w' => e = .returned (.tuple #[.agg #[.int .u64 (Lh : Int), .int .u64 (Ll : Int)], .int .i64 0]) ∧ Below w.heap.size w w')
    (cr : ∀ w, Calls Try.prog 12 #[.bool sx, .agg #[.int .u64 (ah : Int), .int .u64 (al : Int)]] w fun e w' => e = .returned (.bool false) ∧ Below w.heap.size w w')
    (ch : ∀ w, Calls Try.prog 22 #[.agg #[.bool sx, .int .u64 (h : Int), .int .u64 (l : Int), .int .i64 len], .bool sx, .agg #[.int .u64 (ah : Int), .int .u64 (al : Int)]] w fun e w' => e = .returned (.bool false) ∧ Below w.heap.size w w')
    : Calls Try.prog 5 #[.agg #[.bool sx, .int .u64 (h : Int), .int .u64 (l : Int), .int .i64 len], .agg #[.bool qs, .int .u64 (qh : Int), .int .u64 (ql : Int), .int .i64 qn], .agg #[.int .u64 (ah : Int), .int .u64 (al : Int)]] w fun e w' => e = .returned (.bool true) ∧ Below w.heap.size w w' := by
  have hv := steps_any
  have hW : Below w.heap.size w w := Below.refl _ _
  go_enter Try.func5, Try.ntmps5
  obtain ⟨X1, hX1⟩ : ∃ X, X = (((w.alloc (.cells #[.bool sx, .int .u64 (h : Int), .int .u64 (l : Int), .int .i64 len] 33)).alloc (.cells #[.bool qs, .int .u64 (qh : Int), .int .u64 (ql : Int), .int .i64 qn] 33)).alloc (.cells #[.int .u64 (ah : Int), .int .u64 (al : Int)] 24)) := ⟨_, rfl⟩
  obtain ⟨grp, hgrp⟩ : ∃ g, g = w.heap.size := ⟨_, rfl⟩
  obtain ⟨grq, hgrq⟩ : ∃ g, g = w.heap.size + 1 := ⟨_, rfl⟩
  obtain ⟨gra, hgra⟩ : ∃ g, g = w.heap.size + 1 + 1 := ⟨_, rfl⟩
  have hbX1 : Below w.heap.size w X1 := by rw [hX1]; exact below_new (below_new (below_new (Below.refl _ _) _) _) _
  have rp : RowAt X1 grp [.bool sx, .int .u64 (h : Int), .int .u64 (l : Int), .int .i64 len] 33 := by
    have h := ((RowAt.new w [.bool sx, .int .u64 (h : Int), .int .u64 (l : Int), .int .i64 len] 33).alloc (.cells #[.bool qs, .int .u64 (qh : Int), .int .u64 (ql : Int), .int .i64 qn] 33)).alloc (.cells #[.int .u64 (ah : Int), .int .u64 (al : Int)] 24)
    rw [hgrp, hX1]; exact h
  have rq : RowAt X1 grq [.bool qs, .int .u64 (qh : Int), .int .u64 (ql : Int), .int .i64 qn] 33 := by
    have h := (RowAt.new (w.alloc (.cells #[.bool sx, .int .u64 (h : Int), .int .u64 (l : Int), .int .i64 len] 33)) [.bool qs, .int .u64 (qh : Int), .int .u64 (ql : Int), .int .i64 qn] 33).alloc (.cells #[.int .u64 (ah : Int), .int .u64 (al : Int)] 24)
    simp only [World.size_alloc] at h
    rw [hgrq, hX1]; exact h
  have ra : RowAt X1 gra [.int .u64 (ah : Int), .int .u64 (al : Int)] 24 := by
    have h := RowAt.new ((w.alloc (.cells #[.bool sx, .int .u64 (h : Int), .int .u64 (l : Int), .int .i64 len] 33)).alloc (.cells #[.bool qs, .int .u64 (qh : Int), .int .u64 (ql : Int), .int .i64 qn] 33)) [.int .u64 (ah : Int), .int .u64 (al : Int)] 24
    simp only [World.size_alloc] at h
    rw [hgra, hX1]; exact h
  replace hW := below2 hW hbX1
  go_upto_region 1 with fail
  rw [← hX1, ← hgra, ← hgrq, ← hgrp]
  clear hX1 hbX1 hgrp hgrq hgra
  go_wp2_with fail
  go_at_call 11; refine (hv _).mono ?_; rintro e w2 ⟨rfl, hb⟩
  replace rp := rp.below hb
  replace rq := rq.below hb
  replace ra := ra.below hb
  replace hW := below2 hW hb
  clear hb
  obtain ⟨rpq0, rpq1, rpq2, rpq3, rpf⟩ := cells4 rp
  go_wp2_with fail
  go_at_call 16; refine (cl _).mono ?_; rintro e w3 ⟨rfl, hb⟩
  clear rpq0 rpq1 rpq2 rpq3 rpf
  replace rp := rp.below hb
  replace rq := rq.below hb
  replace ra := ra.below hb
  replace hW := below2 hW hb
  clear hb
  obtain ⟨X4, hX4⟩ : ∃ X, X = (w3.alloc (.cells #[.int .u64 (Lh : Int), .int .u64 (Ll : Int)] 24)) := ⟨_, rfl⟩
  obtain ⟨grl, hgrl⟩ : ∃ g, g = w3.heap.size := ⟨_, rfl⟩
  have hbX4 : Below w3.heap.size w3 X4 := by rw [hX4]; exact below_new (Below.refl _ _) _
  replace rp := rp.below hbX4
  replace rq := rq.below hbX4
  replace ra := ra.below hbX4
  have rl : RowAt X4 grl [.int .u64 (Lh : Int), .int .u64 (Ll : Int)] 24 := by
    have h := RowAt.new w3 [.int .u64 (Lh : Int), .int .u64 (Ll : Int)] 24
    rw [hgrl, hX4]; exact h
  replace hW := below2 hW hbX4
  go_upto_region 4 with fail
  rw [← hX4, ← hgrl]
  clear hX4 hbX4 hgrl
  obtain ⟨rpq0, rpq1, rpq2, rpq3, rpf⟩ := cells4 rp
  obtain ⟨raq0, raq1, raf⟩ := cells2 ra
  go_wp2_with fail
  go_at_call 12; refine (cr _).mono ?_; rintro e w5 ⟨rfl, hb⟩
  clear rpq0 rpq1 rpq2 rpq3 rpf raq0 raq1 raf
  replace rp := rp.below hb
  replace rq := rq.below hb
  replace ra := ra.below hb
  replace rl := rl.below hb
  replace hW := below2 hW hb
  clear hb
  obtain ⟨rpq0, rpq1, rpq2, rpq3, rpf⟩ := cells4 rp
  obtain ⟨raq0, raq1, raf⟩ := cells2 ra
  go_wp2_with fail
  go_at_call 22; refine (ch _).mono ?_; rintro e w6 ⟨rfl, hb⟩
  clear rpq0 rpq1 rpq2 rpq3 rpf raq0 raq1 raf
  replace rp := rp.below hb
  replace rq := rq.below hb
  replace ra := ra.below hb
  replace rl := rl.below hb
  replace hW := below2 hW hb
  clear hb
  go_wp2_with fail
  go_ret
  exact ⟨rfl, hW⟩
set_option maxHeartbeats 4000000 in
set_option maxRecDepth 20000 in
theorem way3 (sx qs : Bool) (h l qh ql ah al : Nat) (len qn : Int) (w : World)
    (Lh Ll : Nat) (c1v c2v : Int) (HB : Bool)
    (cl : ∀ w, Calls Try.prog 16 #[.agg #[.bool sx, .int .u64 (h : Int), .int .u64 (l : Int), .int .i64 len]] w fun e w' => e = .returned (.tuple #[.agg #[.int .u64 (Lh : Int), .int .u64 (Ll : Int)], .int .i64 0]) ∧ Below w.heap.size w w')
    (cr : ∀ w, Calls Try.prog 12 #[.bool sx, .agg #[.int .u64 (ah : Int), .int .u64 (al : Int)]] w fun e w' => e = .returned (.bool true) ∧ Below w.heap.size w w')
    (ch : ∀ w, Calls Try.prog 22 #[.agg #[.bool sx, .int .u64 (h : Int), .int .u64 (l : Int), .int .i64 len], .bool sx, .agg #[.int .u64 (ah : Int), .int .u64 (al : Int)]] w fun e w' => e = .returned (.bool HB) ∧ Below w.heap.size w w')
    (cn : ∀ w, Calls Try.prog 22 #[.agg #[.bool sx, .int .u64 (h : Int), .int .u64 (l : Int), .int .i64 len], .bool (!sx), .agg #[.int .u64 (ah : Int), .int .u64 (al : Int)]] w fun e w' => e = .returned (.bool false) ∧ Below w.heap.size w w')
    (k1 : ∀ w, Calls Try.prog 14 #[.agg #[.int .u64 (h : Int), .int .u64 (l : Int)], .agg #[.int .u64 (ah : Int), .int .u64 (al : Int)]] w fun e w' => e = .returned (.int .i64 c1v) ∧ Below w.heap.size w w')
    (k2 : ∀ w, Calls Try.prog 14 #[.agg #[.int .u64 (ah : Int), .int .u64 (al : Int)], .agg #[.int .u64 (Lh : Int), .int .u64 (Ll : Int)]] w fun e w' => e = .returned (.int .i64 c2v) ∧ Below w.heap.size w w')
    (hc : HB = (decide (c1v ≤ 0) && decide (c2v ≤ 0)))
    (Eh El : Nat) (y : Int) (hy : (y != 0) = true ∨ y = 0 ∧ (qs != sx) = true)
    (ce : ∀ w, Calls Try.prog 16 #[.agg #[.bool qs, .int .u64 (qh : Int), .int .u64 (ql : Int), .int .i64 qn]] w fun e w' => e = .returned (.tuple #[.agg #[.int .u64 (Eh : Int), .int .u64 (El : Int)], .int .i64 y]) ∧ Below w.heap.size w w')
    (v1 : ∀ w, Calls Try.prog 24 #[.agg #[.bool sx, .int .u64 (h : Int), .int .u64 (l : Int), .int .i64 len], .agg #[.bool qs, .int .u64 (qh : Int), .int .u64 (ql : Int), .int .i64 qn]] w fun e w' => e = .returned (.bool false) ∧ Below w.heap.size w w')
    (v2 : ∀ w, Calls Try.prog 24 #[.agg #[.bool qs, .int .u64 (qh : Int), .int .u64 (ql : Int), .int .i64 qn], .agg #[.bool sx, .int .u64 (h : Int), .int .u64 (l : Int), .int .i64 len]] w fun e w' => e = .returned (.bool false) ∧ Below w.heap.size w w')
    : Calls Try.prog 5 #[.agg #[.bool sx, .int .u64 (h : Int), .int .u64 (l : Int), .int .i64 len], .agg #[.bool qs, .int .u64 (qh : Int), .int .u64 (ql : Int), .int .i64 qn], .agg #[.int .u64 (ah : Int), .int .u64 (al : Int)]] w fun e w' => e = .returned (.bool true) ∧ Below w.heap.size w w' := by
  have hv := steps_any
  have hW : Below w.heap.size w w := Below.refl _ _
  go_enter Try.func5, Try.ntmps5
  obtain ⟨X1, hX1⟩ : ∃ X, X = (((w.alloc (.cells #[.bool sx, .int .u64 (h : Int), .int .u64 (l : Int), .int .i64 len] 33)).alloc (.cells #[.bool qs, .int .u64 (qh : Int), .int .u64 (ql : Int), .int .i64 qn] 33)).alloc (.cells #[.int .u64 (ah : Int), .int .u64 (al : Int)] 24)) := ⟨_, rfl⟩
  obtain ⟨grp, hgrp⟩ : ∃ g, g = w.heap.size := ⟨_, rfl⟩
  obtain ⟨grq, hgrq⟩ : ∃ g, g = w.heap.size + 1 := ⟨_, rfl⟩
  obtain ⟨gra, hgra⟩ : ∃ g, g = w.heap.size + 1 + 1 := ⟨_, rfl⟩
  have hbX1 : Below w.heap.size w X1 := by rw [hX1]; exact below_new (below_new (below_new (Below.refl _ _) _) _) _
  have rp : RowAt X1 grp [.bool sx, .int .u64 (h : Int), .int .u64 (l : Int), .int .i64 len] 33 := by
    have h := ((RowAt.new w [.bool sx, .int .u64 (h : Int), .int .u64 (l : Int), .int .i64 len] 33).alloc (.cells #[.bool qs, .int .u64 (qh : Int), .int .u64 (ql : Int), .int .i64 qn] 33)).alloc (.cells #[.int .u64 (ah : Int), .int .u64 (al : Int)] 24)
    rw [hgrp, hX1]; exact h
  have rq : RowAt X1 grq [.bool qs, .int .u64 (qh : Int), .int .u64 (ql : Int), .int .i64 qn] 33 := by
    have h := (RowAt.new (w.alloc (.cells #[.bool sx, .int .u64 (h : Int), .int .u64 (l : Int), .int .i64 len] 33)) [.bool qs, .int .u64 (qh : Int), .int .u64 (ql : Int), .int .i64 qn] 33).alloc (.cells #[.int .u64 (ah : Int), .int .u64 (al : Int)] 24)
    simp only [World.size_alloc] at h
    rw [hgrq, hX1]; exact h
  have ra : RowAt X1 gra [.int .u64 (ah : Int), .int .u64 (al : Int)] 24 := by
    have h := RowAt.new ((w.alloc (.cells #[.bool sx, .int .u64 (h : Int), .int .u64 (l : Int), .int .i64 len] 33)).alloc (.cells #[.bool qs, .int .u64 (qh : Int), .int .u64 (ql : Int), .int .i64 qn] 33)) [.int .u64 (ah : Int), .int .u64 (al : Int)] 24
    simp only [World.size_alloc] at h
    rw [hgra, hX1]; exact h
  replace hW := below2 hW hbX1
  go_upto_region 1 with fail
  rw [← hX1, ← hgra, ← hgrq, ← hgrp]
  clear hX1 hbX1 hgrp hgrq hgra
  go_wp2_with fail
  go_at_call 11; refine (hv _).mono ?_; rintro e w2 ⟨rfl, hb⟩
  replace rp := rp.below hb
  replace rq := rq.below hb
  replace ra := ra.below hb
  replace hW := below2 hW hb
  clear hb
  obtain ⟨rpq0, rpq1, rpq2, rpq3, rpf⟩ := cells4 rp
  go_wp2_with fail
  go_at_call 16; refine (cl _).mono ?_; rintro e w3 ⟨rfl, hb⟩
  clear rpq0 rpq1 rpq2 rpq3 rpf
  replace rp := rp.below hb
  replace rq := rq.below hb
  replace ra := ra.below hb
  replace hW := below2 hW hb
  clear hb
  obtain ⟨X4, hX4⟩ : ∃ X, X = (w3.alloc (.cells #[.int .u64 (Lh : Int), .int .u64 (Ll : Int)] 24)) := ⟨_, rfl⟩
  obtain ⟨grl, hgrl⟩ : ∃ g, g = w3.heap.size := ⟨_, rfl⟩
  have hbX4 : Below w3.heap.size w3 X4 := by rw [hX4]; exact below_new (Below.refl _ _) _
  replace rp := rp.below hbX4
  replace rq := rq.below hbX4
  replace ra := ra.below hbX4
  have rl : RowAt X4 grl [.int .u64 (Lh : Int), .int .u64 (Ll : Int)] 24 := by
    have h := RowAt.new w3 [.int .u64 (Lh : Int), .int .u64 (Ll : Int)] 24
    rw [hgrl, hX4]; exact h
  replace hW := below2 hW hbX4
  go_upto_region 4 with fail
  rw [← hX4, ← hgrl]
  clear hX4 hbX4 hgrl
  obtain ⟨rpq0, rpq1, rpq2, rpq3, rpf⟩ := cells4 rp
  obtain ⟨raq0, raq1, raf⟩ := cells2 ra
  go_wp2_with fail
  go_at_call 12; refine (cr _).mono ?_; rintro e w5 ⟨rfl, hb⟩
  clear rpq0 rpq1 rpq2 rpq3 rpf raq0 raq1 raf
  replace rp := rp.below hb
  replace rq := rq.below hb
  replace ra := ra.below hb
  replace rl := rl.below hb
  replace hW := below2 hW hb
  clear hb
  go_wp2_with fail
  go_cut [57] (fun v wc => v = .bool false ∧ Below w5.heap.size w5 wc)
  case first =>
    subst hc
    by_cases d1 : c1v ≤ 0
    · have e1 : decide (c1v ≤ 0) = true := decide_eq_true d1
      by_cases d2 : c2v ≤ 0
      · have e2 : decide (c2v ≤ 0) = true := decide_eq_true d2
        rw [e1, e2] at ch
        rw [Bool.and_self] at ch
        have rpq0 : ∀ p : Bl w5, p.W.cell? ⟨grp, 0, none⟩ = [.bool sx, .int .u64 (h : Int), .int .u64 (l : Int), .int .i64 len][0]? := fun p => (rp.below p.h).cell 0
        have rpq1 : ∀ p : Bl w5, p.W.cell? ⟨grp, 1, none⟩ = [.bool sx, .int .u64 (h : Int), .int .u64 (l : Int), .int .i64 len][1]? := fun p => (rp.below p.h).cell 1
        have rpq2 : ∀ p : Bl w5, p.W.cell? ⟨grp, 2, none⟩ = [.bool sx, .int .u64 (h : Int), .int .u64 (l : Int), .int .i64 len][2]? := fun p => (rp.below p.h).cell 2
        have rpq3 : ∀ p : Bl w5, p.W.cell? ⟨grp, 3, none⟩ = [.bool sx, .int .u64 (h : Int), .int .u64 (l : Int), .int .i64 len][3]? := fun p => (rp.below p.h).cell 3
        simp only [List.getElem?_cons_zero, List.getElem?_cons_succ] at rpq0 rpq1 rpq2 rpq3
        have raq0 : ∀ p : Bl w5, p.W.cell? ⟨gra, 0, none⟩ = [.int .u64 (ah : Int), .int .u64 (al : Int)][0]? := fun p => (ra.below p.h).cell 0
        have raq1 : ∀ p : Bl w5, p.W.cell? ⟨gra, 1, none⟩ = [.int .u64 (ah : Int), .int .u64 (al : Int)][1]? := fun p => (ra.below p.h).cell 1
        simp only [List.getElem?_cons_zero, List.getElem?_cons_succ] at raq0 raq1
        have rlq0 : ∀ p : Bl w5, p.W.cell? ⟨grl, 0, none⟩ = [.int .u64 (Lh : Int), .int .u64 (Ll : Int)][0]? := fun p => (rl.below p.h).cell 0
        have rlq1 : ∀ p : Bl w5, p.W.cell? ⟨grl, 1, none⟩ = [.int .u64 (Lh : Int), .int .u64 (Ll : Int)][1]? := fun p => (rl.below p.h).cell 1
        simp only [List.getElem?_cons_zero, List.getElem?_cons_succ] at rlq0 rlq1
        haveI := bl_ne w5
        refine wp_region_bl (by kernel_rfl) (by kernel_rfl) ?_
        repeat (quiet_step (first | (go_at_call 22; with_reducible exact bl_call (ch _)) | (go_at_call 22; with_reducible exact bl_call (cn _)) | (go_at_call 14; with_reducible exact bl_call (k1 _)) | (go_at_call 14; with_reducible exact bl_call (k2 _))))
        refine wpQuiet_nil ?_
        intro wq hw'
        obtain ⟨⟨wz, hq⟩, hw2⟩ := hw'
        subst hw2
        go_wp2_with fail
        go_meet
        exact ⟨rfl, hq⟩
      · have e2 : decide (c2v ≤ 0) = false := decide_eq_false d2
        rw [e1, e2] at ch
        rw [Bool.and_false] at ch
        have rpq0 : ∀ p : Bl w5, p.W.cell? ⟨grp, 0, none⟩ = [.bool sx, .int .u64 (h : Int), .int .u64 (l : Int), .int .i64 len][0]? := fun p => (rp.below p.h).cell 0
        have rpq1 : ∀ p : Bl w5, p.W.cell? ⟨grp, 1, none⟩ = [.bool sx, .int .u64 (h : Int), .int .u64 (l : Int), .int .i64 len][1]? := fun p => (rp.below p.h).cell 1
        have rpq2 : ∀ p : Bl w5, p.W.cell? ⟨grp, 2, none⟩ = [.bool sx, .int .u64 (h : Int), .int .u64 (l : Int), .int .i64 len][2]? := fun p => (rp.below p.h).cell 2
        have rpq3 : ∀ p : Bl w5, p.W.cell? ⟨grp, 3, none⟩ = [.bool sx, .int .u64 (h : Int), .int .u64 (l : Int), .int .i64 len][3]? := fun p => (rp.below p.h).cell 3
        simp only [List.getElem?_cons_zero, List.getElem?_cons_succ] at rpq0 rpq1 rpq2 rpq3
        have raq0 : ∀ p : Bl w5, p.W.cell? ⟨gra, 0, none⟩ = [.int .u64 (ah : Int), .int .u64 (al : Int)][0]? := fun p => (ra.below p.h).cell 0
        have raq1 : ∀ p : Bl w5, p.W.cell? ⟨gra, 1, none⟩ = [.int .u64 (ah : Int), .int .u64 (al : Int)][1]? := fun p => (ra.below p.h).cell 1
        simp only [List.getElem?_cons_zero, List.getElem?_cons_succ] at raq0 raq1
        have rlq0 : ∀ p : Bl w5, p.W.cell? ⟨grl, 0, none⟩ = [.int .u64 (Lh : Int), .int .u64 (Ll : Int)][0]? := fun p => (rl.below p.h).cell 0
        have rlq1 : ∀ p : Bl w5, p.W.cell? ⟨grl, 1, none⟩ = [.int .u64 (Lh : Int), .int .u64 (Ll : Int)][1]? := fun p => (rl.below p.h).cell 1
        simp only [List.getElem?_cons_zero, List.getElem?_cons_succ] at rlq0 rlq1
        haveI := bl_ne w5
        refine wp_region_bl (by kernel_rfl) (by kernel_rfl) ?_
        repeat (quiet_step (first | (go_at_call 22; with_reducible exact bl_call (ch _)) | (go_at_call 22; with_reducible exact bl_call (cn _)) | (go_at_call 14; with_reducible exact bl_call (k1 _)) | (go_at_call 14; with_reducible exact bl_call (k2 _))))
        refine wpQuiet_nil ?_
        intro wq hw'
        obtain ⟨⟨wz, hq⟩, hw2⟩ := hw'
        subst hw2
        go_wp2_with fail
        go_meet
        exact ⟨rfl, hq⟩
    · have e1 : decide (c1v ≤ 0) = false := decide_eq_false d1
      rw [e1] at ch
      rw [Bool.false_and] at ch
      have rpq0 : ∀ p : Bl w5, p.W.cell? ⟨grp, 0, none⟩ = [.bool sx, .int .u64 (h : Int), .int .u64 (l : Int), .int .i64 len][0]? := fun p => (rp.below p.h).cell 0
      have rpq1 : ∀ p : Bl w5, p.W.cell? ⟨grp, 1, none⟩ = [.bool sx, .int .u64 (h : Int), .int .u64 (l : Int), .int .i64 len][1]? := fun p => (rp.below p.h).cell 1
      have rpq2 : ∀ p : Bl w5, p.W.cell? ⟨grp, 2, none⟩ = [.bool sx, .int .u64 (h : Int), .int .u64 (l : Int), .int .i64 len][2]? := fun p => (rp.below p.h).cell 2
      have rpq3 : ∀ p : Bl w5, p.W.cell? ⟨grp, 3, none⟩ = [.bool sx, .int .u64 (h : Int), .int .u64 (l : Int), .int .i64 len][3]? := fun p => (rp.below p.h).cell 3
      simp only [List.getElem?_cons_zero, List.getElem?_cons_succ] at rpq0 rpq1 rpq2 rpq3
      have raq0 : ∀ p : Bl w5, p.W.cell? ⟨gra, 0, none⟩ = [.int .u64 (ah : Int), .int .u64 (al : Int)][0]? := fun p => (ra.below p.h).cell 0
      have raq1 : ∀ p : Bl w5, p.W.cell? ⟨gra, 1, none⟩ = [.int .u64 (ah : Int), .int .u64 (al : Int)][1]? := fun p => (ra.below p.h).cell 1
      simp only [List.getElem?_cons_zero, List.getElem?_cons_succ] at raq0 raq1
      have rlq0 : ∀ p : Bl w5, p.W.cell? ⟨grl, 0, none⟩ = [.int .u64 (Lh : Int), .int .u64 (Ll : Int)][0]? := fun p => (rl.below p.h).cell 0
      have rlq1 : ∀ p : Bl w5, p.W.cell? ⟨grl, 1, none⟩ = [.int .u64 (Lh : Int), .int .u64 (Ll : Int)][1]? := fun p => (rl.below p.h).cell 1
      simp only [List.getElem?_cons_zero, List.getElem?_cons_succ] at rlq0 rlq1
      haveI := bl_ne w5
      refine wp_region_bl (by kernel_rfl) (by kernel_rfl) ?_
      repeat (quiet_step (first | (go_at_call 22; with_reducible exact bl_call (ch _)) | (go_at_call 22; with_reducible exact bl_call (cn _)) | (go_at_call 14; with_reducible exact bl_call (k1 _)) | (go_at_call 14; with_reducible exact bl_call (k2 _))))
      refine wpQuiet_nil ?_
      intro wq hw'
      obtain ⟨⟨wz, hq⟩, hw2⟩ := hw'
      subst hw2
      go_wp2_with fail
      go_meet
      exact ⟨rfl, hq⟩
  case rest =>
    obtain ⟨rfl, hbc⟩ := hcut
    replace hW := below2 hW hbc
    replace rp := rp.below hbc
    replace rq := rq.below hbc
    replace ra := ra.below hbc
    replace rl := rl.below hbc
    clear hbc
    obtain ⟨rqq0, rqq1, rqq2, rqq3, rqf⟩ := cells4 rq
    go_wp2_with fail
    go_at_call 16; refine (ce _).mono ?_; rintro e w6 ⟨rfl, hb⟩
    clear rqq0 rqq1 rqq2 rqq3 rqf
    replace rp := rp.below hb
    replace rq := rq.below hb
    replace ra := ra.below hb
    replace rl := rl.below hb
    replace hW := below2 hW hb
    clear hb
    obtain ⟨X7, hX7⟩ : ∃ X, X = (w6.alloc (.cells #[.int .u64 (Eh : Int), .int .u64 (El : Int)] 24)) := ⟨_, rfl⟩
    obtain ⟨gre, hgre⟩ : ∃ g, g = w6.heap.size := ⟨_, rfl⟩
    have hbX7 : Below w6.heap.size w6 X7 := by rw [hX7]; exact below_new (Below.refl _ _) _
    replace rp := rp.below hbX7
    replace rq := rq.below hbX7
    replace ra := ra.below hbX7
    replace rl := rl.below hbX7
    have re : RowAt X7 gre [.int .u64 (Eh : Int), .int .u64 (El : Int)] 24 := by
      have h := RowAt.new w6 [.int .u64 (Eh : Int), .int .u64 (El : Int)] 24
      rw [hgre, hX7]; exact h
    replace hW := below2 hW hbX7
    go_upto_region 9 with fail
    rw [← hX7, ← hgre]
    clear hX7 hbX7 hgre
    clear cl cr ch cn k1 k2 ce hv
    rcases hy with hy | ⟨hy, hs⟩
    · obtain ⟨rpq0, rpq1, rpq2, rpq3, rpf⟩ := cells4 rp
      obtain ⟨rqq0, rqq1, rqq2, rqq3, rqf⟩ := cells4 rq
      go_wp2_with fail
      go_at_call 24; refine (v1 _).mono ?_; rintro e w8 ⟨rfl, hb⟩
      clear rpq0 rpq1 rpq2 rpq3 rpf rqq0 rqq1 rqq2 rqq3 rqf
      replace rp := rp.below hb
      replace rq := rq.below hb
      replace ra := ra.below hb
      replace rl := rl.below hb
      replace re := re.below hb
      replace hW := below2 hW hb
      clear hb
      obtain ⟨rpq0, rpq1, rpq2, rpq3, rpf⟩ := cells4 rp
      obtain ⟨rqq0, rqq1, rqq2, rqq3, rqf⟩ := cells4 rq
      go_wp2_with fail
      go_at_call 24; refine (v2 _).mono ?_; rintro e w9 ⟨rfl, hb⟩
      clear rpq0 rpq1 rpq2 rpq3 rpf rqq0 rqq1 rqq2 rqq3 rqf
      replace rp := rp.below hb
      replace rq := rq.below hb
      replace ra := ra.below hb
      replace rl := rl.below hb
      replace re := re.below hb
      replace hW := below2 hW hb
      clear hb
      go_wp2_with fail
      go_ret
      exact ⟨rfl, hW⟩
    · subst hy
      have hs2 : qs = !sx := by revert hs; cases sx <;> cases qs <;> simp
      subst hs2
      obtain ⟨rpq0, rpq1, rpq2, rpq3, rpf⟩ := cells4 rp
      obtain ⟨rqq0, rqq1, rqq2, rqq3, rqf⟩ := cells4 rq
      go_wp2_with fail
      go_at_call 24; refine (v1 _).mono ?_; rintro e w8 ⟨rfl, hb⟩
      clear rpq0 rpq1 rpq2 rpq3 rpf rqq0 rqq1 rqq2 rqq3 rqf
      replace rp := rp.below hb
      replace rq := rq.below hb
      replace ra := ra.below hb
      replace rl := rl.below hb
      replace re := re.below hb
      replace hW := below2 hW hb
      clear hb
      obtain ⟨rpq0, rpq1, rpq2, rpq3, rpf⟩ := cells4 rp
      obtain ⟨rqq0, rqq1, rqq2, rqq3, rqf⟩ := cells4 rq
      go_wp2_with fail
      go_at_call 24; refine (v2 _).mono ?_; rintro e w9 ⟨rfl, hb⟩
      clear rpq0 rpq1 rpq2 rpq3 rpf rqq0 rqq1 rqq2 rqq3 rqf
      replace rp := rp.below hb
      replace rq := rq.below hb
      replace ra := ra.below hb
      replace rl := rl.below hb
      replace re := re.below hb
      replace hW := below2 hW hb
      clear hb
      go_wp2_with fail
      go_ret
      exact ⟨rfl, hW⟩
theorem walk (p q : Pf) (a : Nat) (w : World) (b0 : (-9223372036854775808 ≤ p.len ∧ p.len ≤ 9223372036854775807) ∧ p.n < 2 ^ 128) (b1 : (-9223372036854775808 ≤ q.len ∧ q.len ≤ 9223372036854775807) ∧ q.n < 2 ^ 128) (b2 : a < 2 ^ 128) :
    Calls Try.prog 5 #[pfV p, pfV q, adV a] w fun e w' => e = .returned (.bool true) ∧ Below w.heap.size w w' := by
  have cl := fun w => last_any p w b0.1 b0.2
  have ch := fun w => has_any p p.six a w b0.1 b0.2 b2
  cases hok : okP p
  · have e1 : lastE p = (0, 2) := by unfold lastE; rw [hok]; rfl
    rw [e1] at cl
    rw [has_bad hok] at ch
    exact way1 p.six q.six _ _ _ _ _ _ _ _ w 2 rfl cl ch
  have e1 : lastE p = (lastN p, 0) := by unfold lastE; rw [hok]; rfl
  rw [e1] at cl
  have cr := fun w => right_any p.six a w b2
  cases hr : rightB p.six a
  · rw [hr] at cr
    rw [has_wrong hr] at ch
    exact way2 p.six q.six _ _ _ _ _ _ _ _ w _ _ cl cr ch
  rw [hr] at cr
  have h128 : (2 : Nat) ^ wideN p.six ≤ 2 ^ 128 := Nat.pow_le_pow_right (by decide) (wideN_le p.six)
  have hlp := last_lt hok
  have cn := fun w => has_any p (!p.six) a w b0.1 b0.2 b2
  rw [has_other] at cn
  have k1 := fun w => cmp_any p.n a w b0.2 b2
  have k2 := fun w => cmp_any a (lastN p) w b2 (by omega)
  have hc : hasB p p.six a = (decide (cmpN p.n a ≤ 0) && decide (cmpN a (lastN p) ≤ 0)) := by rw [has_between hok a hr, cmp_le, cmp_le]
  have ce := fun w => last_any q w b1.1 b1.2
  have v1 := fun w => covers_any p q w b0.1 b0.2 b1.1 b1.2
  have v2 := fun w => covers_any q p w b1.1 b1.2 b0.1 b0.2
  cases hq : okP q
  · have e2 : lastE q = (0, 2) := by unfold lastE; rw [hq]; rfl
    rw [e2] at ce
    rw [covers_bad1 hq] at v1
    rw [covers_bad2 hq] at v2
    exact way3 p.six q.six _ _ _ _ _ _ _ _ w _ _ _ _ _ cl cr ch cn k1 k2 hc 0 0 2 (.inl rfl) ce v1 v2
  have e2 : lastE q = (lastN q, 0) := by unfold lastE; rw [hq]; rfl
  rw [e2] at ce
  by_cases hs : q.six = p.six
  · have hlq := last_lt hq
    rw [hs] at hlq
    have h1 := fun w => has_any p p.six q.n w b0.1 b0.2 b1.2
    have h2 := fun w => has_any p p.six (lastN q) w b0.1 b0.2 (by omega)
    have hln := fun h => covers_len (p := p) (q := q) h
    rw [covers_ends hok hq hs] at v1 hln
    exact way4 p.six q.six _ _ _ _ _ _ _ _ w _ _ _ _ _ cl cr ch cn k1 k2 hc _ _ hs.symm _ _ ce h1 h2 v1 hln
  · rw [covers_kind hs] at v1
    rw [covers_kind (fun e => hs e.symm)] at v2
    exact way3 p.six q.six _ _ _ _ _ _ _ _ w _ _ _ _ _ cl cr ch cn k1 k2 hc _ _ 0 (.inr ⟨rfl, by simpa using hs⟩) ce v1 v2

set_option maxRecDepth 100000 in
theorem lifted (os : Os) (started : os.Started) (H : Type) (enc : TypeId × Value → H) :
    ReturnsInHanded {} Try.checked os 5 .any (Rows.addrBetweenSpec.pre6 enc Try.prog Try.f5 Rows.addrBetweenRow.domain false) (Rows.addrBetweenSpec.post enc Try.prog Try.f5 false true false false) := by
  refine returnsInHanded_of_change_sized (C := Try.checked) own started (by kernel_rfl) Try.func5
    (ChangeSpec.witness6 (enc := enc) (C := Try.checked) false ⟨#[], #[.agg #[.bool false, .int .u64 0, .int .u64 0, .int .i64 0], .agg #[.bool false, .int .u64 0, .int .u64 0, .int .i64 0], .agg #[.int .u64 0, .int .u64 0]], []⟩ 8 (by kernel_rfl) (by kernel_rfl) (by kernel_rfl) (by kernel_rfl)) ?_
  intro W base args ds gs before hval0 hW _ hsz0 _
  have hsz : (DataW.weightsEach Try.prog (Try.f5.params.toList ++ Rows.addrBetweenSpec.plain.varTypes Try.prog) (ds ++ gs)).all (· ≤ reachBytes) = true := hsz0
  clear hsz0
  have hval : ∀ (j : Nat) t v, Try.f5.params[j]? = some t → args[j]? = some v → Value.okWide Try.prog W .any base t v := hval0
  have hW' := hW
  obtain ⟨p, q, hA0, hV, rfl, hfz, hnd⟩ := hW
  have hA : DataW.TrodAll enc Try.prog W 0 (fun _ => true) true Try.f5.params.toList args.toList ds p := hA0
  rw [Try.params5] at hA hval hsz
  obtain ⟨v0, vs0, d0, ds0, p0, q0, hargs, rfl, rfl, h0, r0⟩ := trodAll_cons hA
  obtain ⟨v1, vs1, d1, ds1, p1, q1, rfl, rfl, rfl, h1, r1⟩ := trodAll_cons r0
  obtain ⟨v2, vs2, d2, ds2, p2, q2, rfl, rfl, rfl, h2, r2⟩ := trodAll_cons r1
  obtain ⟨rfl, rfl, rfl⟩ := trodAll_nil r2
  obtain rfl : args = #[v0, v1, v2] := by cases args; simp_all
  obtain ⟨rfl, rfl⟩ := trodVars_none hV
  have k0 := h0
  have lt0 : ∀ x ∈ p0, x.block < W.heap.size := by obtain ⟨m, hm⟩ := k0; exact DataW.trod_lt m _ _ _ hm
  obtain ⟨n0, rfl, b0⟩ := Addr.open_prefix (hval 0 33 v0 rfl rfl) h0
  have k1 := h1
  have lt1 : ∀ x ∈ p1, x.block < W.heap.size := by obtain ⟨m, hm⟩ := k1; exact DataW.trod_lt m _ _ _ hm
  obtain ⟨n1, rfl, b1⟩ := Addr.open_prefix (hval 1 33 v1 rfl rfl) h1
  have k2 := h2
  have lt2 : ∀ x ∈ p2, x.block < W.heap.size := by obtain ⟨m, hm⟩ := k2; exact DataW.trod_lt m _ _ _ hm
  obtain ⟨n2, rfl, b2⟩ := Addr.open_addr (hval 2 24 v2 rfl rfl) h2
  clear hA0 hval0
  refine (walk n0 n1 n2 W b0 b1 b2).mono fun e W' ⟨he, bel⟩ => ?_
  subst he
  exact ⟨_, rfl, _, _, _, [], _, [], hW', trodAll_mk1 (shut_bool Try.underlying4 _), (trodAll_cons_mk (Below.trod laidOut (by kernel_rfl) (of_decide_eq_true (by kernel_rfl)) k0 bel lt0) (trodAll_cons_mk (Below.trod laidOut (by kernel_rfl) (of_decide_eq_true (by kernel_rfl)) k1 bel lt1) (trodAll_cons_mk (Below.trod laidOut (by kernel_rfl) (of_decide_eq_true (by kernel_rfl)) k2 bel lt2) trodAll_mk0))), rfl, bel.frame _, fun h => by cases h⟩

theorem over : Rows.addrBetweenRow.holds Try.pinned (OpenSpec.ofChange Rows.addrBetweenSpec) :=
  OpenClaim.holds_of_wide 5 Try.f5 rfl rfl rfl rfl rfl rfl rfl ⟨rfl, rfl, rfl, rfl, rfl⟩ rfl rfl rfl rfl rfl (by kernel_rfl) Try.func5 (by kernel_rfl)
    (of_decide_eq_true (by kernel_rfl)) (by unfold Func.isWrapper; first | (rw [if_pos (by decide +kernel)]; kernel_rfl) | (rw [if_neg (by decide +kernel)]; exact ⟨rfl, rfl⟩))
    (fun os started H enc _ => lifted os started H enc)
end addrBetween
theorem abetween_holds : Rows.AddrBetweenSaid := addrBetween.over
#print axioms abetween_holds
end Go.Proofs.Ytengicljipfckaa
