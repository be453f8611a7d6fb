/- The longest way through spoorlaw09.AddrBetween: two right prefixes of one kind. -/
import Derived.Test.YtengicljipfckaaRows
import Derived.Test.YtengicljipfckaaAddrSteps
import Derived.Test.YtengicljipfckaaAddrOpen
import Derived.ProofKit
import Derived.OpenShut
import Derived.ShutString
import Derived.SizedLaws
set_option linter.unusedVariables false
namespace Go.Proofs.Ytengicljipfckaa
namespace addrBetween
open Go.ChangeShapes Go.WideShapes Go.ChangeAt Go.RowKit
open Go.ChangeMaps (open_string shut_string)
open Go.Proofs.Ytengicljipfckaa.Addr

set_option maxHeartbeats 4000000 in
set_option maxRecDepth 20000 in
theorem way4 (sx qs : Bool) (h l qh ql ah al : Nat) (len qn : Int) (w : World)
    (Lh Ll : Nat) (c1v c2v : Int) (HB : Bool)
    (cl : ∀ w, Calls Try.prog 16 #[.agg #[.bool sx, .int .u64 (h : Int), .int .u64 (l : Int), .int .i64 len]] w fun e w' => e = .returned (.tuple #[.agg #[.int .u64 (Lh : Int), .int .u64 (Ll : Int)], .int .i64 0]) ∧ Below w.heap.size w w')
    (cr : ∀ w, Calls Try.prog 12 #[.bool sx, .agg #[.int .u64 (ah : Int), .int .u64 (al : Int)]] w fun e w' => e = .returned (.bool true) ∧ Below w.heap.size w w')
    (ch : ∀ w, Calls Try.prog 22 #[.agg #[.bool sx, .int .u64 (h : Int), .int .u64 (l : Int), .int .i64 len], .bool sx, .agg #[.int .u64 (ah : Int), .int .u64 (al : Int)]] w fun e w' => e = .returned (.bool HB) ∧ Below w.heap.size w w')
    (cn : ∀ w, Calls Try.prog 22 #[.agg #[.bool sx, .int .u64 (h : Int), .int .u64 (l : Int), .int .i64 len], .bool (!sx), .agg #[.int .u64 (ah : Int), .int .u64 (al : Int)]] w fun e w' => e = .returned (.bool false) ∧ Below w.heap.size w w')
    (k1 : ∀ w, Calls Try.prog 14 #[.agg #[.int .u64 (h : Int), .int .u64 (l : Int)], .agg #[.int .u64 (ah : Int), .int .u64 (al : Int)]] w fun e w' => e = .returned (.int .i64 c1v) ∧ Below w.heap.size w w')
    (k2 : ∀ w, Calls Try.prog 14 #[.agg #[.int .u64 (ah : Int), .int .u64 (al : Int)], .agg #[.int .u64 (Lh : Int), .int .u64 (Ll : Int)]] w fun e w' => e = .returned (.int .i64 c2v) ∧ Below w.heap.size w w')
    (hc : HB = (decide (c1v ≤ 0) && decide (c2v ≤ 0)))
    (Eh El : Nat) (hs : sx = qs) (x1 x2 : Bool)
    (ce : ∀ w, Calls Try.prog 16 #[.agg #[.bool qs, .int .u64 (qh : Int), .int .u64 (ql : Int), .int .i64 qn]] w fun e w' => e = .returned (.tuple #[.agg #[.int .u64 (Eh : Int), .int .u64 (El : Int)], .int .i64 0]) ∧ Below w.heap.size w w')
    (h1 : ∀ w, Calls Try.prog 22 #[.agg #[.bool sx, .int .u64 (h : Int), .int .u64 (l : Int), .int .i64 len], .bool sx, .agg #[.int .u64 (qh : Int), .int .u64 (ql : Int)]] w fun e w' => e = .returned (.bool x1) ∧ Below w.heap.size w w')
    (h2 : ∀ w, Calls Try.prog 22 #[.agg #[.bool sx, .int .u64 (h : Int), .int .u64 (l : Int), .int .i64 len], .bool sx, .agg #[.int .u64 (Eh : Int), .int .u64 (El : Int)]] w fun e w' => e = .returned (.bool x2) ∧ Below w.heap.size w w')
    (v1 : ∀ w, Calls Try.prog 24 #[.agg #[.bool sx, .int .u64 (h : Int), .int .u64 (l : Int), .int .i64 len], .agg #[.bool qs, .int .u64 (qh : Int), .int .u64 (ql : Int), .int .i64 qn]] w fun e w' => e = .returned (.bool (x1 && x2)) ∧ Below w.heap.size w w')
    (hln : (x1 && x2) = true → len ≤ qn)
    : Calls Try.prog 5 #[.agg #[.bool sx, .int .u64 (h : Int), .int .u64 (l : Int), .int .i64 len], .agg #[.bool qs, .int .u64 (qh : Int), .int .u64 (ql : Int), .int .i64 qn], .agg #[.int .u64 (ah : Int), .int .u64 (al : Int)]] w fun e w' => e = .returned (.bool true) ∧ Below w.heap.size w w' := by
  have hv := steps_any
  have hW : Below w.heap.size w w := Below.refl _ _
  subst hs
  go_enter Try.func5, Try.ntmps5
  obtain ⟨X1, hX1⟩ : ∃ X, X = (((w.alloc (.cells #[.bool sx, .int .u64 (h : Int), .int .u64 (l : Int), .int .i64 len] 33)).alloc (.cells #[.bool sx, .int .u64 (qh : Int), .int .u64 (ql : Int), .int .i64 qn] 33)).alloc (.cells #[.int .u64 (ah : Int), .int .u64 (al : Int)] 24)) := ⟨_, rfl⟩
  obtain ⟨grp, hgrp⟩ : ∃ g, g = w.heap.size := ⟨_, rfl⟩
  obtain ⟨grq, hgrq⟩ : ∃ g, g = w.heap.size + 1 := ⟨_, rfl⟩
  obtain ⟨gra, hgra⟩ : ∃ g, g = w.heap.size + 1 + 1 := ⟨_, rfl⟩
  have hbX1 : Below w.heap.size w X1 := by rw [hX1]; exact below_new (below_new (below_new (Below.refl _ _) _) _) _
  have rp : RowAt X1 grp [.bool sx, .int .u64 (h : Int), .int .u64 (l : Int), .int .i64 len] 33 := by
    have h := ((RowAt.new w [.bool sx, .int .u64 (h : Int), .int .u64 (l : Int), .int .i64 len] 33).alloc (.cells #[.bool sx, .int .u64 (qh : Int), .int .u64 (ql : Int), .int .i64 qn] 33)).alloc (.cells #[.int .u64 (ah : Int), .int .u64 (al : Int)] 24)
    rw [hgrp, hX1]; exact h
  have rq : RowAt X1 grq [.bool sx, .int .u64 (qh : Int), .int .u64 (ql : Int), .int .i64 qn] 33 := by
    have h := (RowAt.new (w.alloc (.cells #[.bool sx, .int .u64 (h : Int), .int .u64 (l : Int), .int .i64 len] 33)) [.bool sx, .int .u64 (qh : Int), .int .u64 (ql : Int), .int .i64 qn] 33).alloc (.cells #[.int .u64 (ah : Int), .int .u64 (al : Int)] 24)
    simp only [World.size_alloc] at h
    rw [hgrq, hX1]; exact h
  have ra : RowAt X1 gra [.int .u64 (ah : Int), .int .u64 (al : Int)] 24 := by
    have h := RowAt.new ((w.alloc (.cells #[.bool sx, .int .u64 (h : Int), .int .u64 (l : Int), .int .i64 len] 33)).alloc (.cells #[.bool sx, .int .u64 (qh : Int), .int .u64 (ql : Int), .int .i64 qn] 33)) [.int .u64 (ah : Int), .int .u64 (al : Int)] 24
    simp only [World.size_alloc] at h
    rw [hgra, hX1]; exact h
  replace hW := below2 hW hbX1
  go_upto_region 1 with fail
  rw [← hX1, ← hgra, ← hgrq, ← hgrp]
  clear hX1 hbX1 hgrp hgrq hgra
  go_wp2_with fail
  go_at_call 11; refine (hv _).mono ?_; rintro e w2 ⟨rfl, hb⟩
  replace rp := rp.below hb
  replace rq := rq.below hb
  replace ra := ra.below hb
  replace hW := below2 hW hb
  clear hb
  obtain ⟨rpq0, rpq1, rpq2, rpq3, rpf⟩ := cells4 rp
  go_wp2_with fail
  go_at_call 16; refine (cl _).mono ?_; rintro e w3 ⟨rfl, hb⟩
  clear rpq0 rpq1 rpq2 rpq3 rpf
  replace rp := rp.below hb
  replace rq := rq.below hb
  replace ra := ra.below hb
  replace hW := below2 hW hb
  clear hb
  obtain ⟨X4, hX4⟩ : ∃ X, X = (w3.alloc (.cells #[.int .u64 (Lh : Int), .int .u64 (Ll : Int)] 24)) := ⟨_, rfl⟩
  obtain ⟨grl, hgrl⟩ : ∃ g, g = w3.heap.size := ⟨_, rfl⟩
  have hbX4 : Below w3.heap.size w3 X4 := by rw [hX4]; exact below_new (Below.refl _ _) _
  replace rp := rp.below hbX4
  replace rq := rq.below hbX4
  replace ra := ra.below hbX4
  have rl : RowAt X4 grl [.int .u64 (Lh : Int), .int .u64 (Ll : Int)] 24 := by
    have h := RowAt.new w3 [.int .u64 (Lh : Int), .int .u64 (Ll : Int)] 24
    rw [hgrl, hX4]; exact h
  replace hW := below2 hW hbX4
  go_upto_region 4 with fail
  rw [← hX4, ← hgrl]
  clear hX4 hbX4 hgrl
  obtain ⟨rpq0, rpq1, rpq2, rpq3, rpf⟩ := cells4 rp
  obtain ⟨raq0, raq1, raf⟩ := cells2 ra
  go_wp2_with fail
  go_at_call 12; refine (cr _).mono ?_; rintro e w5 ⟨rfl, hb⟩
  clear rpq0 rpq1 rpq2 rpq3 rpf raq0 raq1 raf
  replace rp := rp.below hb
  replace rq := rq.below hb
  replace ra := ra.below hb
  replace rl := rl.below hb
  replace hW := below2 hW hb
  clear hb
  go_wp2_with fail
  go_cut [57] (fun v wc => v = .bool false ∧ Below w5.heap.size w5 wc)
  case first =>
    subst hc
    by_cases d1 : c1v ≤ 0
    · have e1 : decide (c1v ≤ 0) = true := decide_eq_true d1
      by_cases d2 : c2v ≤ 0
      · have e2 : decide (c2v ≤ 0) = true := decide_eq_true d2
        rw [e1, e2] at ch
        rw [Bool.and_self] at ch
        have rpq0 : ∀ p : Bl w5, p.W.cell? ⟨grp, 0, none⟩ = [.bool sx, .int .u64 (h : Int), .int .u64 (l : Int), .int .i64 len][0]? := fun p => (rp.below p.h).cell 0
        have rpq1 : ∀ p : Bl w5, p.W.cell? ⟨grp, 1, none⟩ = [.bool sx, .int .u64 (h : Int), .int .u64 (l : Int), .int .i64 len][1]? := fun p => (rp.below p.h).cell 1
        have rpq2 : ∀ p : Bl w5, p.W.cell? ⟨grp, 2, none⟩ = [.bool sx, .int .u64 (h : Int), .int .u64 (l : Int), .int .i64 len][2]? := fun p => (rp.below p.h).cell 2
        have rpq3 : ∀ p : Bl w5, p.W.cell? ⟨grp, 3, none⟩ = [.bool sx, .int .u64 (h : Int), .int .u64 (l : Int), .int .i64 len][3]? := fun p => (rp.below p.h).cell 3
        simp only [List.getElem?_cons_zero, List.getElem?_cons_succ] at rpq0 rpq1 rpq2 rpq3
        have raq0 : ∀ p : Bl w5, p.W.cell? ⟨gra, 0, none⟩ = [.int .u64 (ah : Int), .int .u64 (al : Int)][0]? := fun p => (ra.below p.h).cell 0
        have raq1 : ∀ p : Bl w5, p.W.cell? ⟨gra, 1, none⟩ = [.int .u64 (ah : Int), .int .u64 (al : Int)][1]? := fun p => (ra.below p.h).cell 1
        simp only [List.getElem?_cons_zero, List.getElem?_cons_succ] at raq0 raq1
        have rlq0 : ∀ p : Bl w5, p.W.cell? ⟨grl, 0, none⟩ = [.int .u64 (Lh : Int), .int .u64 (Ll : Int)][0]? := fun p => (rl.below p.h).cell 0
        have rlq1 : ∀ p : Bl w5, p.W.cell? ⟨grl, 1, none⟩ = [.int .u64 (Lh : Int), .int .u64 (Ll : Int)][1]? := fun p => (rl.below p.h).cell 1
        simp only [List.getElem?_cons_zero, List.getElem?_cons_succ] at rlq0 rlq1
        haveI := bl_ne w5
        refine wp_region_bl (by kernel_rfl) (by kernel_rfl) ?_
        repeat (quiet_step (first | (go_at_call 22; with_reducible exact bl_call (ch _)) | (go_at_call 22; with_reducible exact bl_call (cn _)) | (go_at_call 14; with_reducible exact bl_call (k1 _)) | (go_at_call 14; with_reducible exact bl_call (k2 _))))
        refine wpQuiet_nil ?_
        intro wq hw'
        obtain ⟨⟨wz, hq⟩, hw2⟩ := hw'
        subst hw2
        go_wp2_with fail
        go_meet
        exact ⟨rfl, hq⟩
      · have e2 : decide (c2v ≤ 0) = false := decide_eq_false d2
        rw [e1, e2] at ch
        rw [Bool.and_false] at ch
        have rpq0 : ∀ p : Bl w5, p.W.cell? ⟨grp, 0, none⟩ = [.bool sx, .int .u64 (h : Int), .int .u64 (l : Int), .int .i64 len][0]? := fun p => (rp.below p.h).cell 0
        have rpq1 : ∀ p : Bl w5, p.W.cell? ⟨grp, 1, none⟩ = [.bool sx, .int .u64 (h : Int), .int .u64 (l : Int), .int .i64 len][1]? := fun p => (rp.below p.h).cell 1
        have rpq2 : ∀ p : Bl w5, p.W.cell? ⟨grp, 2, none⟩ = [.bool sx, .int .u64 (h : Int), .int .u64 (l : Int), .int .i64 len][2]? := fun p => (rp.below p.h).cell 2
        have rpq3 : ∀ p : Bl w5, p.W.cell? ⟨grp, 3, none⟩ = [.bool sx, .int .u64 (h : Int), .int .u64 (l : Int), .int .i64 len][3]? := fun p => (rp.below p.h).cell 3
        simp only [List.getElem?_cons_zero, List.getElem?_cons_succ] at rpq0 rpq1 rpq2 rpq3
        have raq0 : ∀ p : Bl w5, p.W.cell? ⟨gra, 0, none⟩ = [.int .u64 (ah : Int), .int .u64 (al : Int)][0]? := fun p => (ra.below p.h).cell 0
        have raq1 : ∀ p : Bl w5, p.W.cell? ⟨gra, 1, none⟩ = [.int .u64 (ah : Int), .int .u64 (al : Int)][1]? := fun p => (ra.below p.h).cell 1
        simp only [List.getElem?_cons_zero, List.getElem?_cons_succ] at raq0 raq1
        have rlq0 : ∀ p : Bl w5, p.W.cell? ⟨grl, 0, none⟩ = [.int .u64 (Lh : Int), .int .u64 (Ll : Int)][0]? := fun p => (rl.below p.h).cell 0
        have rlq1 : ∀ p : Bl w5, p.W.cell? ⟨grl, 1, none⟩ = [.int .u64 (Lh : Int), .int .u64 (Ll : Int)][1]? := fun p => (rl.below p.h).cell 1
        simp only [List.getElem?_cons_zero, List.getElem?_cons_succ] at rlq0 rlq1
        haveI := bl_ne w5
        refine wp_region_bl (by kernel_rfl) (by kernel_rfl) ?_
        repeat (quiet_step (first | (go_at_call 22; with_reducible exact bl_call (ch _)) | (go_at_call 22; with_reducible exact bl_call (cn _)) | (go_at_call 14; with_reducible exact bl_call (k1 _)) | (go_at_call 14; with_reducible exact bl_call (k2 _))))
        refine wpQuiet_nil ?_
        intro wq hw'
        obtain ⟨⟨wz, hq⟩, hw2⟩ := hw'
        subst hw2
        go_wp2_with fail
        go_meet
        exact ⟨rfl, hq⟩
    · have e1 : decide (c1v ≤ 0) = false := decide_eq_false d1
      rw [e1] at ch
      rw [Bool.false_and] at ch
      have rpq0 : ∀ p : Bl w5, p.W.cell? ⟨grp, 0, none⟩ = [.bool sx, .int .u64 (h : Int), .int .u64 (l : Int), .int .i64 len][0]? := fun p => (rp.below p.h).cell 0
      have rpq1 : ∀ p : Bl w5, p.W.cell? ⟨grp, 1, none⟩ = [.bool sx, .int .u64 (h : Int), .int .u64 (l : Int), .int .i64 len][1]? := fun p => (rp.below p.h).cell 1
      have rpq2 : ∀ p : Bl w5, p.W.cell? ⟨grp, 2, none⟩ = [.bool sx, .int .u64 (h : Int), .int .u64 (l : Int), .int .i64 len][2]? := fun p => (rp.below p.h).cell 2
      have rpq3 : ∀ p : Bl w5, p.W.cell? ⟨grp, 3, none⟩ = [.bool sx, .int .u64 (h : Int), .int .u64 (l : Int), .int .i64 len][3]? := fun p => (rp.below p.h).cell 3
      simp only [List.getElem?_cons_zero, List.getElem?_cons_succ] at rpq0 rpq1 rpq2 rpq3
      have raq0 : ∀ p : Bl w5, p.W.cell? ⟨gra, 0, none⟩ = [.int .u64 (ah : Int), .int .u64 (al : Int)][0]? := fun p => (ra.below p.h).cell 0
      have raq1 : ∀ p : Bl w5, p.W.cell? ⟨gra, 1, none⟩ = [.int .u64 (ah : Int), .int .u64 (al : Int)][1]? := fun p => (ra.below p.h).cell 1
      simp only [List.getElem?_cons_zero, List.getElem?_cons_succ] at raq0 raq1
      have rlq0 : ∀ p : Bl w5, p.W.cell? ⟨grl, 0, none⟩ = [.int .u64 (Lh : Int), .int .u64 (Ll : Int)][0]? := fun p => (rl.below p.h).cell 0
      have rlq1 : ∀ p : Bl w5, p.W.cell? ⟨grl, 1, none⟩ = [.int .u64 (Lh : Int), .int .u64 (Ll : Int)][1]? := fun p => (rl.below p.h).cell 1
      simp only [List.getElem?_cons_zero, List.getElem?_cons_succ] at rlq0 rlq1
      haveI := bl_ne w5
      refine wp_region_bl (by kernel_rfl) (by kernel_rfl) ?_
      repeat (quiet_step (first | (go_at_call 22; with_reducible exact bl_call (ch _)) | (go_at_call 22; with_reducible exact bl_call (cn _)) | (go_at_call 14; with_reducible exact bl_call (k1 _)) | (go_at_call 14; with_reducible exact bl_call (k2 _))))
      refine wpQuiet_nil ?_
      intro wq hw'
      obtain ⟨⟨wz, hq⟩, hw2⟩ := hw'
      subst hw2
      go_wp2_with fail
      go_meet
      exact ⟨rfl, hq⟩
  case rest =>
    obtain ⟨rfl, hbc⟩ := hcut
    replace hW := below2 hW hbc
    replace rp := rp.below hbc
    replace rq := rq.below hbc
    replace ra := ra.below hbc
    replace rl := rl.below hbc
    clear hbc
    obtain ⟨rqq0, rqq1, rqq2, rqq3, rqf⟩ := cells4 rq
    go_wp2_with fail
    go_at_call 16; refine (ce _).mono ?_; rintro e w6 ⟨rfl, hb⟩
    clear rqq0 rqq1 rqq2 rqq3 rqf
    replace rp := rp.below hb
    replace rq := rq.below hb
    replace ra := ra.below hb
    replace rl := rl.below hb
    replace hW := below2 hW hb
    clear hb
    obtain ⟨X7, hX7⟩ : ∃ X, X = (w6.alloc (.cells #[.int .u64 (Eh : Int), .int .u64 (El : Int)] 24)) := ⟨_, rfl⟩
    obtain ⟨gre, hgre⟩ : ∃ g, g = w6.heap.size := ⟨_, rfl⟩
    have hbX7 : Below w6.heap.size w6 X7 := by rw [hX7]; exact below_new (Below.refl _ _) _
    replace rp := rp.below hbX7
    replace rq := rq.below hbX7
    replace ra := ra.below hbX7
    replace rl := rl.below hbX7
    have re : RowAt X7 gre [.int .u64 (Eh : Int), .int .u64 (El : Int)] 24 := by
      have h := RowAt.new w6 [.int .u64 (Eh : Int), .int .u64 (El : Int)] 24
      rw [hgre, hX7]; exact h
    replace hW := below2 hW hbX7
    go_upto_region 9 with fail
    rw [← hX7, ← hgre]
    clear hX7 hbX7 hgre
    clear cl cr ch cn k1 k2 ce hv
    obtain ⟨rpq0, rpq1, rpq2, rpq3, rpf⟩ := cells4 rp
    obtain ⟨rqq0, rqq1, rqq2, rqq3, rqf⟩ := cells4 rq
    go_wp2_with fail
    clear rpq0 rpq1 rpq2 rpq3 rpf rqq0 rqq1 rqq2 rqq3 rqf
    cases x1 with
    | false =>
      rw [Bool.false_and] at v1
      have rpq0 : ∀ p : Bl X7, p.W.cell? ⟨grp, 0, none⟩ = [.bool sx, .int .u64 (h : Int), .int .u64 (l : Int), .int .i64 len][0]? := fun p => (rp.below p.h).cell 0
      have rpq1 : ∀ p : Bl X7, p.W.cell? ⟨grp, 1, none⟩ = [.bool sx, .int .u64 (h : Int), .int .u64 (l : Int), .int .i64 len][1]? := fun p => (rp.below p.h).cell 1
      have rpq2 : ∀ p : Bl X7, p.W.cell? ⟨grp, 2, none⟩ = [.bool sx, .int .u64 (h : Int), .int .u64 (l : Int), .int .i64 len][2]? := fun p => (rp.below p.h).cell 2
      have rpq3 : ∀ p : Bl X7, p.W.cell? ⟨grp, 3, none⟩ = [.bool sx, .int .u64 (h : Int), .int .u64 (l : Int), .int .i64 len][3]? := fun p => (rp.below p.h).cell 3
      simp only [List.getElem?_cons_zero, List.getElem?_cons_succ] at rpq0 rpq1 rpq2 rpq3
      have rqq0 : ∀ p : Bl X7, p.W.cell? ⟨grq, 0, none⟩ = [.bool sx, .int .u64 (qh : Int), .int .u64 (ql : Int), .int .i64 qn][0]? := fun p => (rq.below p.h).cell 0
      have rqq1 : ∀ p : Bl X7, p.W.cell? ⟨grq, 1, none⟩ = [.bool sx, .int .u64 (qh : Int), .int .u64 (ql : Int), .int .i64 qn][1]? := fun p => (rq.below p.h).cell 1
      have rqq2 : ∀ p : Bl X7, p.W.cell? ⟨grq, 2, none⟩ = [.bool sx, .int .u64 (qh : Int), .int .u64 (ql : Int), .int .i64 qn][2]? := fun p => (rq.below p.h).cell 2
      have rqq3 : ∀ p : Bl X7, p.W.cell? ⟨grq, 3, none⟩ = [.bool sx, .int .u64 (qh : Int), .int .u64 (ql : Int), .int .i64 qn][3]? := fun p => (rq.below p.h).cell 3
      simp only [List.getElem?_cons_zero, List.getElem?_cons_succ] at rqq0 rqq1 rqq2 rqq3
      have req0 : ∀ p : Bl X7, p.W.cell? ⟨gre, 0, none⟩ = [.int .u64 (Eh : Int), .int .u64 (El : Int)][0]? := fun p => (re.below p.h).cell 0
      have req1 : ∀ p : Bl X7, p.W.cell? ⟨gre, 1, none⟩ = [.int .u64 (Eh : Int), .int .u64 (El : Int)][1]? := fun p => (re.below p.h).cell 1
      simp only [List.getElem?_cons_zero, List.getElem?_cons_succ] at req0 req1
      haveI := bl_ne X7
      refine wp_region_bl (by kernel_rfl) (by kernel_rfl) ?_
      repeat (quiet_step (first | (go_at_call 24; with_reducible exact bl_call (v1 _)) | (go_at_call 22; with_reducible exact bl_call (h1 _))))
      refine wpQuiet_nil ?_
      intro wq8 hw'
      obtain ⟨⟨wz, hq⟩, hw2⟩ := hw'
      subst hw2
      replace hW := below2 hW hq
      clear this rpq0 rpq1 rpq2 rpq3 rqq0 rqq1 rqq2 rqq3 req0 req1
      replace rp := rp.below hq
      replace rq := rq.below hq
      replace ra := ra.below hq
      replace rl := rl.below hq
      replace re := re.below hq
      clear hq
      go_wp2_with fail
      go_ret
      exact ⟨rfl, hW⟩
    | true =>
      cases x2 with
      | false =>
        rw [Bool.and_false] at v1
        have rpq0 : ∀ p : Bl X7, p.W.cell? ⟨grp, 0, none⟩ = [.bool sx, .int .u64 (h : Int), .int .u64 (l : Int), .int .i64 len][0]? := fun p => (rp.below p.h).cell 0
        have rpq1 : ∀ p : Bl X7, p.W.cell? ⟨grp, 1, none⟩ = [.bool sx, .int .u64 (h : Int), .int .u64 (l : Int), .int .i64 len][1]? := fun p => (rp.below p.h).cell 1
        have rpq2 : ∀ p : Bl X7, p.W.cell? ⟨grp, 2, none⟩ = [.bool sx, .int .u64 (h : Int), .int .u64 (l : Int), .int .i64 len][2]? := fun p => (rp.below p.h).cell 2
        have rpq3 : ∀ p : Bl X7, p.W.cell? ⟨grp, 3, none⟩ = [.bool sx, .int .u64 (h : Int), .int .u64 (l : Int), .int .i64 len][3]? := fun p => (rp.below p.h).cell 3
        simp only [List.getElem?_cons_zero, List.getElem?_cons_succ] at rpq0 rpq1 rpq2 rpq3
        have rqq0 : ∀ p : Bl X7, p.W.cell? ⟨grq, 0, none⟩ = [.bool sx, .int .u64 (qh : Int), .int .u64 (ql : Int), .int .i64 qn][0]? := fun p => (rq.below p.h).cell 0
        have rqq1 : ∀ p : Bl X7, p.W.cell? ⟨grq, 1, none⟩ = [.bool sx, .int .u64 (qh : Int), .int .u64 (ql : Int), .int .i64 qn][1]? := fun p => (rq.below p.h).cell 1
        have rqq2 : ∀ p : Bl X7, p.W.cell? ⟨grq, 2, none⟩ = [.bool sx, .int .u64 (qh : Int), .int .u64 (ql : Int), .int .i64 qn][2]? := fun p => (rq.below p.h).cell 2
        have rqq3 : ∀ p : Bl X7, p.W.cell? ⟨grq, 3, none⟩ = [.bool sx, .int .u64 (qh : Int), .int .u64 (ql : Int), .int .i64 qn][3]? := fun p => (rq.below p.h).cell 3
        simp only [List.getElem?_cons_zero, List.getElem?_cons_succ] at rqq0 rqq1 rqq2 rqq3
        have req0 : ∀ p : Bl X7, p.W.cell? ⟨gre, 0, none⟩ = [.int .u64 (Eh : Int), .int .u64 (El : Int)][0]? := fun p => (re.below p.h).cell 0
        have req1 : ∀ p : Bl X7, p.W.cell? ⟨gre, 1, none⟩ = [.int .u64 (Eh : Int), .int .u64 (El : Int)][1]? := fun p => (re.below p.h).cell 1
        simp only [List.getElem?_cons_zero, List.getElem?_cons_succ] at req0 req1
        haveI := bl_ne X7
        refine wp_region_bl (by kernel_rfl) (by kernel_rfl) ?_
        repeat (quiet_step (first | (go_at_call 24; with_reducible exact bl_call (v1 _)) | (go_at_call 22; with_reducible exact bl_call (h1 _)) | (go_at_call 22; with_reducible exact bl_call (h2 _))))
        refine wpQuiet_nil ?_
        intro wq8 hw'
        obtain ⟨⟨wz, hq⟩, hw2⟩ := hw'
        subst hw2
        replace hW := below2 hW hq
        clear this rpq0 rpq1 rpq2 rpq3 rqq0 rqq1 rqq2 rqq3 req0 req1
        replace rp := rp.below hq
        replace rq := rq.below hq
        replace ra := ra.below hq
        replace rl := rl.below hq
        replace re := re.below hq
        clear hq
        go_wp2_with fail
        go_ret
        exact ⟨rfl, hW⟩
      | true =>
        have d9 : decide (len ≤ qn) = true := decide_eq_true (hln rfl)
        rw [Bool.and_self] at v1
        have rpq0 : ∀ p : Bl X7, p.W.cell? ⟨grp, 0, none⟩ = [.bool sx, .int .u64 (h : Int), .int .u64 (l : Int), .int .i64 len][0]? := fun p => (rp.below p.h).cell 0
        have rpq1 : ∀ p : Bl X7, p.W.cell? ⟨grp, 1, none⟩ = [.bool sx, .int .u64 (h : Int), .int .u64 (l : Int), .int .i64 len][1]? := fun p => (rp.below p.h).cell 1
        have rpq2 : ∀ p : Bl X7, p.W.cell? ⟨grp, 2, none⟩ = [.bool sx, .int .u64 (h : Int), .int .u64 (l : Int), .int .i64 len][2]? := fun p => (rp.below p.h).cell 2
        have rpq3 : ∀ p : Bl X7, p.W.cell? ⟨grp, 3, none⟩ = [.bool sx, .int .u64 (h : Int), .int .u64 (l : Int), .int .i64 len][3]? := fun p => (rp.below p.h).cell 3
        simp only [List.getElem?_cons_zero, List.getElem?_cons_succ] at rpq0 rpq1 rpq2 rpq3
        have rqq0 : ∀ p : Bl X7, p.W.cell? ⟨grq, 0, none⟩ = [.bool sx, .int .u64 (qh : Int), .int .u64 (ql : Int), .int .i64 qn][0]? := fun p => (rq.below p.h).cell 0
        have rqq1 : ∀ p : Bl X7, p.W.cell? ⟨grq, 1, none⟩ = [.bool sx, .int .u64 (qh : Int), .int .u64 (ql : Int), .int .i64 qn][1]? := fun p => (rq.below p.h).cell 1
        have rqq2 : ∀ p : Bl X7, p.W.cell? ⟨grq, 2, none⟩ = [.bool sx, .int .u64 (qh : Int), .int .u64 (ql : Int), .int .i64 qn][2]? := fun p => (rq.below p.h).cell 2
        have rqq3 : ∀ p : Bl X7, p.W.cell? ⟨grq, 3, none⟩ = [.bool sx, .int .u64 (qh : Int), .int .u64 (ql : Int), .int .i64 qn][3]? := fun p => (rq.below p.h).cell 3
        simp only [List.getElem?_cons_zero, List.getElem?_cons_succ] at rqq0 rqq1 rqq2 rqq3
        have req0 : ∀ p : Bl X7, p.W.cell? ⟨gre, 0, none⟩ = [.int .u64 (Eh : Int), .int .u64 (El : Int)][0]? := fun p => (re.below p.h).cell 0
        have req1 : ∀ p : Bl X7, p.W.cell? ⟨gre, 1, none⟩ = [.int .u64 (Eh : Int), .int .u64 (El : Int)][1]? := fun p => (re.below p.h).cell 1
        simp only [List.getElem?_cons_zero, List.getElem?_cons_succ] at req0 req1
        haveI := bl_ne X7
        refine wp_region_bl (by kernel_rfl) (by kernel_rfl) ?_
        repeat (quiet_step (first | (go_at_call 24; with_reducible exact bl_call (v1 _)) | (go_at_call 22; with_reducible exact bl_call (h1 _)) | (go_at_call 22; with_reducible exact bl_call (h2 _))))
        refine wpQuiet_nil ?_
        intro wq8 hw'
        obtain ⟨⟨wz, hq⟩, hw2⟩ := hw'
        subst hw2
        replace hW := below2 hW hq
        clear this rpq0 rpq1 rpq2 rpq3 rqq0 rqq1 rqq2 rqq3 req0 req1
        replace rp := rp.below hq
        replace rq := rq.below hq
        replace ra := ra.below hq
        replace rl := rl.below hq
        replace re := re.below hq
        clear hq
        go_wp2_with fail
        go_ret
        exact ⟨rfl, hW⟩
end addrBetween
end Go.Proofs.Ytengicljipfckaa
