/- For any interval, eras, time, verdict and part: spoorlaw20.LineAsks returns true, and changes nothing that was there. No condition. -/
import Derived.Test.YtmkbijnndbgjgaaRows
import Derived.Test.YtmkbijnndbgjgaaLnZ3
import Derived.Test.YtmkbijnndbgjgaaLnZ1
import Derived.ProofKit
import Derived.OpenShut
import Derived.ShutString
import Derived.SizedLaws
set_option linter.unusedVariables false
namespace Go.Proofs.Ytmkbijnndbgjgaa
namespace lineAsks
open Go.ChangeShapes Go.WideShapes Go.ChangeAt Go.RowKit
open Go.ChangeMaps (open_string shut_string)
open Go.Proofs.Ytmkbijnndbgjgaa.Ln
open Go.Proofs.Ytmkbijnndbgjgaa.Iv (Iv FitI FitT ivV HasI okI)
open Go.Proofs.Ytmkbijnndbgjgaa.Lk (HasRow)
open Go.Proofs.Ytmkbijnndbgjgaa.Sp (chk)
open Go.Proofs.Ytmkbijnndbgjgaa.Addr (Bl bl_ne wp_region_bl bl_call RowAt below2 below_drew below_new bset RowAt.lt RowAt.cell RowAt.frozen RowAt.below RowAt.drew RowAt.new RowAt.alloc cells2 cells4)
theorem own : ownKnob Try.prog.godebug = none := by kernel_rfl
theorem laidOut : laidOutB Try.prog = true := by kernel_rfl
set_option maxHeartbeats 16000000 in
set_option maxRecDepth 20000 in
theorem walk (wi : Iv) (v : Value) (l : List Er) (u : Value) (m : List Er) (t : Int) (vd : Vd) (ti : Iv) (w : World) (b0 : FitI wi) (b1 : HasE w v l) (b2 : HasE w u m) (b3 : FitT t) (b5 : FitI ti) :
    Calls Try.prog 4 #[ivV wi, v, u, .int .i64 t, vdV vd, ivV ti] w fun e w' => e = .returned (.bool true) ∧ Below w.heap.size w w' := by
  have c0 := fun (W : World) => lives_any W
  have ca := fun (W : World) (h : HasE W v l) => at_any wi l t v W h
  have ra := fun (W : World) (h : HasE W v l) => rat_any wi l t v W h
  have cw := fun (W : World) (h : HasE W v l) => when_any wi l vd v W h
  have rw := fun (W : World) (h : HasE W v l) => rwhen_any wi l vd v W h
  have cc1 := fun (W : World) (h : HasE W v l) => cut_any wi l ti v W h
  have rc1 := fun (W : World) (h : HasE W v l) => rcut_any wi l ti v W h
  have cd := fun (W : World) (h : HasE W v l) (g : HasE W u m) => dif_any wi l m v u W h g
  have rd := fun (W : World) (h : HasE W v l) (g : HasE W u m) => rdif_any wi l m v u W h g
  obtain ⟨wa, wb⟩ := wi
  obtain ⟨ta, tb⟩ := ti
  obtain ⟨vk, vi⟩ := vd
  show Calls Try.prog 4 #[.agg #[.int .i64 wa, .int .i64 wb], v, u, .int .i64 t, .agg #[.int .u8 vk, .int .i64 vi], .agg #[.int .i64 ta, .int .i64 tb]] w _
  simp only at ca ra cw rw cc1 rc1 cd rd
  generalize atL (wa, wb) l t = A1 at *
  generalize whenE (wa, wb) l ⟨vk, vi⟩ = A2 at *
  generalize cutE (wa, wb) l (ta, tb) = A3 at *
  generalize difE (wa, wb) l m = A4 at *
  obtain ⟨X, hX⟩ : ∃ X, X = ((w.alloc (.cells #[.int .i64 wa, .int .i64 wb] 23)).alloc (.cells #[.int .u8 vk, .int .i64 vi] 35)).alloc (.cells #[.int .i64 ta, .int .i64 tb] 23) := ⟨_, rfl⟩
  have hB : Below w.heap.size w X := by rw [hX]; exact below_new (below_new (below_new (Below.refl _ _) _) _) _
  have r0 : RowAt X w.heap.size [.int .i64 wa, .int .i64 wb] 23 := by rw [hX]; exact ((RowAt.new _ _ _).alloc _).alloc _
  have r1 : RowAt X (w.heap.size + 1) [.int .u8 vk, .int .i64 vi] 35 := by rw [hX, ← World.size_alloc w (.cells #[.int .i64 wa, .int .i64 wb] 23)]; exact (RowAt.new _ _ _).alloc _
  have r2 : RowAt X (w.heap.size + 1 + 1) [.int .i64 ta, .int .i64 tb] 23 := by rw [hX, show w.heap.size + 1 + 1 = ((w.alloc (.cells #[.int .i64 wa, .int .i64 wb] 23)).alloc (.cells #[.int .u8 vk, .int .i64 vi] 35)).heap.size by rw [World.size_alloc, World.size_alloc]]; exact RowAt.new _ _ _
  obtain ⟨g0, hg0⟩ : ∃ g, g = w.heap.size := ⟨_, rfl⟩
  obtain ⟨g1, hg1⟩ : ∃ g, g = w.heap.size + 1 := ⟨_, rfl⟩
  obtain ⟨g2, hg2⟩ : ∃ g, g = w.heap.size + 1 + 1 := ⟨_, rfl⟩
  rw [← hg0] at r0
  rw [← hg1] at r1
  rw [← hg2] at r2
  replace b1 := b1.keep hB
  replace b2 := b2.keep hB
  obtain ⟨o1, c1, rfl, _, _⟩ := HasRow.slice b1
  obtain ⟨o2, c2, rfl, _, _⟩ := HasRow.slice b2
  clear b0 b3 b5
  generalize l.length = n1 at *
  generalize m.length = n2 at *
  go_enter Try.func4, Try.ntmps4
  go_upto_region 1 with fail
  rw [← hX, ← hg2, ← hg1, ← hg0]
  clear hX hg0 hg1 hg2
  by_cases hn1 : 200 < n1
  · have d1 : decide ((200 : Int) < (n1 : Int)) = true := decide_eq_true (by omega)
    clear ca ra cw rw cc1 rc1 cd rd b1 b2 r0 r1 r2
    go_wp2_with fail
    go_at_call 11; refine (c0 _).mono ?_; rintro e w2 ⟨rfl, hb⟩
    replace hB := below2 hB hb
    go_wp2_with fail
    go_ret
    exact ⟨rfl, hB⟩
  · have d1 : decide ((200 : Int) < (n1 : Int)) = false := decide_eq_false (by omega)
    by_cases hn2 : 200 < n2
    · have d2 : decide ((200 : Int) < (n2 : Int)) = true := decide_eq_true (by omega)
      clear ca ra cw rw cc1 rc1 cd rd b1 b2 r0 r1 r2
      go_wp2_with fail
      go_at_call 11; refine (c0 _).mono ?_; rintro e w2 ⟨rfl, hb⟩
      replace hB := below2 hB hb
      go_wp2_with fail
      go_ret
      exact ⟨rfl, hB⟩
    · have d2 : decide ((200 : Int) < (n2 : Int)) = false := decide_eq_false (by omega)
      have cc := ca X b1
      obtain ⟨r0a, r0b, r0f⟩ := cells2 r0
      obtain ⟨r1a, r1b, r1f⟩ := cells2 r1
      obtain ⟨r2a, r2b, r2f⟩ := cells2 r2
      go_wp2_with fail
      go_at_call 15; refine cc.mono ?_; rintro e w1 ⟨k1, i1, y1, rfl, hb, hR1⟩
      clear r0a r0b r0f
      clear r1a r1b r1f
      clear r2a r2b r2f
      replace hB := below2 hB hb
      replace b1 := b1.keep hb
      replace b2 := b2.keep hb
      replace r0 := r0.below hb
      replace r1 := r1.below hb
      replace r2 := r2.below hb
      clear hb
      clear cc ca
      obtain ⟨r0x2, r0y2, r0z2⟩ := cells2 r0
      have r0l2 := RowAt.lt r0
      obtain ⟨r1x2, r1y2, r1z2⟩ := cells2 r1
      have r1l2 := RowAt.lt r1
      obtain ⟨r2x2, r2y2, r2z2⟩ := cells2 r2
      have r2l2 := RowAt.lt r2
      obtain ⟨w2, hw2⟩ : ∃ W, W = w1.alloc (.cells #[.int .u8 k1, .int .i64 i1] 35) := ⟨_, rfl⟩
      have hbl : Below w1.heap.size w1 w2 := by rw [hw2]; exact below_new (Below.refl _ _) _
      have r3 : RowAt w2 w1.heap.size [.int .u8 k1, .int .i64 i1] 35 := by rw [hw2]; exact RowAt.new _ _ _
      replace hB := below2 hB hbl
      replace b1 := b1.keep hbl
      replace b2 := b2.keep hbl
      replace r0 := r0.below hbl
      replace r1 := r1.below hbl
      replace r2 := r2.below hbl
      clear hbl
      obtain ⟨g3, hg3⟩ : ∃ g, g = w1.heap.size := ⟨_, rfl⟩
      rw [← hg3] at r3
      have cc := ra w2 b1
      obtain ⟨r0a, r0b, r0f⟩ := cells2 r0
      obtain ⟨r1a, r1b, r1f⟩ := cells2 r1
      obtain ⟨r2a, r2b, r2f⟩ := cells2 r2
      obtain ⟨r3a, r3b, r3f⟩ := cells2 r3
      go_wp2_with fail
      rw [← hw2, ← hg3]
      clear hw2 hg3
      go_at_call 16; refine cc.mono ?_; rintro e w3 ⟨k2, i2, y2, rfl, hb, hR2⟩
      clear r0a r0b r0f
      clear r1a r1b r1f
      clear r2a r2b r2f
      clear r3a r3b r3f
      clear r0x2 r0y2 r0z2 r0l2
      clear r1x2 r1y2 r1z2 r1l2
      clear r2x2 r2y2 r2z2 r2l2
      replace hB := below2 hB hb
      replace b1 := b1.keep hb
      replace b2 := b2.keep hb
      replace r0 := r0.below hb
      replace r1 := r1.below hb
      replace r2 := r2.below hb
      replace r3 := r3.below hb
      clear hb
      have hRR := hR1.trans hR2.symm
      injection hRR with e1 e2
      injection e1 with e1 e3
      subst e1 e2 e3
      clear hR1 hR2
      clear cc ra
      obtain ⟨r0x4, r0y4, r0z4⟩ := cells2 r0
      have r0l4 := RowAt.lt r0
      obtain ⟨r1x4, r1y4, r1z4⟩ := cells2 r1
      have r1l4 := RowAt.lt r1
      obtain ⟨r2x4, r2y4, r2z4⟩ := cells2 r2
      have r2l4 := RowAt.lt r2
      obtain ⟨r3x4, r3y4, r3z4⟩ := cells2 r3
      have r3l4 := RowAt.lt r3
      obtain ⟨w4, hw4⟩ : ∃ W, W = w3.alloc (.cells #[.int .u8 k1, .int .i64 i1] 35) := ⟨_, rfl⟩
      have hbl : Below w3.heap.size w3 w4 := by rw [hw4]; exact below_new (Below.refl _ _) _
      have r4 : RowAt w4 w3.heap.size [.int .u8 k1, .int .i64 i1] 35 := by rw [hw4]; exact RowAt.new _ _ _
      replace hB := below2 hB hbl
      replace b1 := b1.keep hbl
      replace b2 := b2.keep hbl
      replace r0 := r0.below hbl
      replace r1 := r1.below hbl
      replace r2 := r2.below hbl
      replace r3 := r3.below hbl
      clear hbl
      obtain ⟨g4, hg4⟩ : ∃ g, g = w3.heap.size := ⟨_, rfl⟩
      rw [← hg4] at r4
      have cc := cw w4 b1
      obtain ⟨r0a, r0b, r0f⟩ := cells2 r0
      obtain ⟨r1a, r1b, r1f⟩ := cells2 r1
      obtain ⟨r2a, r2b, r2f⟩ := cells2 r2
      obtain ⟨r3a, r3b, r3f⟩ := cells2 r3
      obtain ⟨r4a, r4b, r4f⟩ := cells2 r4
      go_wp2_with fail
      rw [← hw4, ← hg4]
      clear hw4 hg4
      go_at_call 17; refine cc.mono ?_; rintro e w5 ⟨u5, R5, y5, rfl, h5, hb, hR1⟩
      clear r0a r0b r0f
      clear r1a r1b r1f
      clear r2a r2b r2f
      clear r3a r3b r3f
      clear r4a r4b r4f
      clear r0x4 r0y4 r0z4 r0l4
      clear r1x4 r1y4 r1z4 r1l4
      clear r2x4 r2y4 r2z4 r2l4
      clear r3x4 r3y4 r3z4 r3l4
      replace hB := below2 hB hb
      replace b1 := b1.keep hb
      replace b2 := b2.keep hb
      replace r0 := r0.below hb
      replace r1 := r1.below hb
      replace r2 := r2.below hb
      replace r3 := r3.below hb
      replace r4 := r4.below hb
      clear hb
      obtain ⟨p5, q5, rfl, _, _⟩ := HasRow.slice h5
      clear cc cw
      have cc := rw w5 b1
      obtain ⟨r0a, r0b, r0f⟩ := cells2 r0
      obtain ⟨r1a, r1b, r1f⟩ := cells2 r1
      obtain ⟨r2a, r2b, r2f⟩ := cells2 r2
      obtain ⟨r3a, r3b, r3f⟩ := cells2 r3
      obtain ⟨r4a, r4b, r4f⟩ := cells2 r4
      go_wp2_with fail
      go_at_call 18; refine cc.mono ?_; rintro e w6 ⟨v5, Q5, z5, rfl, k5, hb, hR2⟩
      clear r0a r0b r0f
      clear r1a r1b r1f
      clear r2a r2b r2f
      clear r3a r3b r3f
      clear r4a r4b r4f
      replace hB := below2 hB hb
      replace b1 := b1.keep hb
      replace b2 := b2.keep hb
      replace h5 := h5.keep hb
      replace r0 := r0.below hb
      replace r1 := r1.below hb
      replace r2 := r2.below hb
      replace r3 := r3.below hb
      replace r4 := r4.below hb
      clear hb
      have hRR := hR1.trans hR2.symm
      injection hRR with e1 e2
      subst e1 e2
      clear hR1 hR2
      obtain ⟨s5, t5, rfl, _, _⟩ := HasRow.slice k5
      clear cc rw
      have cc := cc1 w6 b1
      obtain ⟨r0a, r0b, r0f⟩ := cells2 r0
      obtain ⟨r1a, r1b, r1f⟩ := cells2 r1
      obtain ⟨r2a, r2b, r2f⟩ := cells2 r2
      obtain ⟨r3a, r3b, r3f⟩ := cells2 r3
      obtain ⟨r4a, r4b, r4f⟩ := cells2 r4
      go_wp2_with fail
      go_at_call 19; refine cc.mono ?_; rintro e w7 ⟨u6, R6, y6, rfl, h6, hb, hR1⟩
      clear r0a r0b r0f
      clear r1a r1b r1f
      clear r2a r2b r2f
      clear r3a r3b r3f
      clear r4a r4b r4f
      replace hB := below2 hB hb
      replace b1 := b1.keep hb
      replace b2 := b2.keep hb
      replace h5 := h5.keep hb
      replace k5 := k5.keep hb
      replace r0 := r0.below hb
      replace r1 := r1.below hb
      replace r2 := r2.below hb
      replace r3 := r3.below hb
      replace r4 := r4.below hb
      clear hb
      obtain ⟨p6, q6, rfl, _, _⟩ := HasRow.slice h6
      clear cc cc1
      have cc := rc1 w7 b1
      obtain ⟨r0a, r0b, r0f⟩ := cells2 r0
      obtain ⟨r1a, r1b, r1f⟩ := cells2 r1
      obtain ⟨r2a, r2b, r2f⟩ := cells2 r2
      obtain ⟨r3a, r3b, r3f⟩ := cells2 r3
      obtain ⟨r4a, r4b, r4f⟩ := cells2 r4
      go_wp2_with fail
      go_at_call 20; refine cc.mono ?_; rintro e w8 ⟨v6, Q6, z6, rfl, k6, hb, hR2⟩
      clear r0a r0b r0f
      clear r1a r1b r1f
      clear r2a r2b r2f
      clear r3a r3b r3f
      clear r4a r4b r4f
      replace hB := below2 hB hb
      replace b1 := b1.keep hb
      replace b2 := b2.keep hb
      replace h5 := h5.keep hb
      replace k5 := k5.keep hb
      replace h6 := h6.keep hb
      replace r0 := r0.below hb
      replace r1 := r1.below hb
      replace r2 := r2.below hb
      replace r3 := r3.below hb
      replace r4 := r4.below hb
      clear hb
      have hRR := hR1.trans hR2.symm
      injection hRR with e1 e2
      subst e1 e2
      clear hR1 hR2
      obtain ⟨s6, t6, rfl, _, _⟩ := HasRow.slice k6
      clear cc rc1
      have cc := cd w8 b1 b2
      obtain ⟨r0a, r0b, r0f⟩ := cells2 r0
      obtain ⟨r1a, r1b, r1f⟩ := cells2 r1
      obtain ⟨r2a, r2b, r2f⟩ := cells2 r2
      obtain ⟨r3a, r3b, r3f⟩ := cells2 r3
      obtain ⟨r4a, r4b, r4f⟩ := cells2 r4
      go_wp2_with fail
      go_at_call 21; refine cc.mono ?_; rintro e w9 ⟨u7, R7, y7, rfl, h7, hb, hR1⟩
      clear r0a r0b r0f
      clear r1a r1b r1f
      clear r2a r2b r2f
      clear r3a r3b r3f
      clear r4a r4b r4f
      replace hB := below2 hB hb
      replace b1 := b1.keep hb
      replace b2 := b2.keep hb
      replace h5 := h5.keep hb
      replace k5 := k5.keep hb
      replace h6 := h6.keep hb
      replace k6 := k6.keep hb
      replace r0 := r0.below hb
      replace r1 := r1.below hb
      replace r2 := r2.below hb
      replace r3 := r3.below hb
      replace r4 := r4.below hb
      clear hb
      obtain ⟨p7, q7, rfl, _, _⟩ := HasRow.slice h7
      clear cc cd
      have cc := rd w9 b1 b2
      obtain ⟨r0a, r0b, r0f⟩ := cells2 r0
      obtain ⟨r1a, r1b, r1f⟩ := cells2 r1
      obtain ⟨r2a, r2b, r2f⟩ := cells2 r2
      obtain ⟨r3a, r3b, r3f⟩ := cells2 r3
      obtain ⟨r4a, r4b, r4f⟩ := cells2 r4
      go_wp2_with fail
      go_at_call 22; refine cc.mono ?_; rintro e w10 ⟨v7, Q7, z7, rfl, k7, hb, hR2⟩
      clear r0a r0b r0f
      clear r1a r1b r1f
      clear r2a r2b r2f
      clear r3a r3b r3f
      clear r4a r4b r4f
      replace hB := below2 hB hb
      replace b1 := b1.keep hb
      replace b2 := b2.keep hb
      replace h5 := h5.keep hb
      replace k5 := k5.keep hb
      replace h6 := h6.keep hb
      replace k6 := k6.keep hb
      replace h7 := h7.keep hb
      replace r0 := r0.below hb
      replace r1 := r1.below hb
      replace r2 := r2.below hb
      replace r3 := r3.below hb
      replace r4 := r4.below hb
      clear hb
      have hRR := hR1.trans hR2.symm
      injection hRR with e1 e2
      subst e1 e2
      clear hR1 hR2
      obtain ⟨s7, t7, rfl, _, _⟩ := HasRow.slice k7
      clear cc rd
      clear b1 b2
      have heq : ∀ W, (binOp .eql 35 (.agg #[.int .u8 k1, .int .i64 i1]) (.agg #[.int .u8 k1, .int .i64 i1])).run Try.prog W = .ok (.bool true) W := fun W => by
        have h := vd_eql ⟨k1, i1⟩ ⟨k1, i1⟩ W
        rw [show eqV ⟨k1, i1⟩ ⟨k1, i1⟩ = true from eqV_iff.2 rfl] at h
        exact h
      have hvg := vd_guard
      have cc := c0 w10
      obtain ⟨r0a, r0b, r0f⟩ := cells2 r0
      obtain ⟨r1a, r1b, r1f⟩ := cells2 r1
      obtain ⟨r2a, r2b, r2f⟩ := cells2 r2
      obtain ⟨r3a, r3b, r3f⟩ := cells2 r3
      obtain ⟨r4a, r4b, r4f⟩ := cells2 r4
      go_wp2_with fail
      go_at_call 11; refine cc.mono ?_; rintro e w11 ⟨rfl, hb⟩
      clear r0a r0b r0f
      clear r1a r1b r1f
      clear r2a r2b r2f
      clear r3a r3b r3f
      clear r4a r4b r4f
      replace hB := below2 hB hb
      replace h5 := h5.keep hb
      replace k5 := k5.keep hb
      replace h6 := h6.keep hb
      replace k6 := k6.keep hb
      replace h7 := h7.keep hb
      replace k7 := k7.keep hb
      replace r0 := r0.below hb
      replace r1 := r1.below hb
      replace r2 := r2.below hb
      replace r3 := r3.below hb
      replace r4 := r4.below hb
      clear hb
      clear cc
      have cc := Iv.same_any R5 _ _ w11 h5 k5
      obtain ⟨r0a, r0b, r0f⟩ := cells2 r0
      obtain ⟨r1a, r1b, r1f⟩ := cells2 r1
      obtain ⟨r2a, r2b, r2f⟩ := cells2 r2
      obtain ⟨r3a, r3b, r3f⟩ := cells2 r3
      obtain ⟨r4a, r4b, r4f⟩ := cells2 r4
      go_wp2_with fail
      go_at_call 23; refine cc.mono ?_; rintro e w12 ⟨rfl, hb⟩
      clear r0a r0b r0f
      clear r1a r1b r1f
      clear r2a r2b r2f
      clear r3a r3b r3f
      clear r4a r4b r4f
      replace hB := below2 hB hb
      replace h6 := h6.keep hb
      replace k6 := k6.keep hb
      replace h7 := h7.keep hb
      replace k7 := k7.keep hb
      replace r0 := r0.below hb
      replace r1 := r1.below hb
      replace r2 := r2.below hb
      replace r3 := r3.below hb
      replace r4 := r4.below hb
      clear hb
      clear h5 k5
      clear cc
      have cc := same_any R6 _ _ w12 h6 k6
      obtain ⟨r0a, r0b, r0f⟩ := cells2 r0
      obtain ⟨r1a, r1b, r1f⟩ := cells2 r1
      obtain ⟨r2a, r2b, r2f⟩ := cells2 r2
      obtain ⟨r3a, r3b, r3f⟩ := cells2 r3
      obtain ⟨r4a, r4b, r4f⟩ := cells2 r4
      go_wp2_with fail
      go_at_call 12; refine cc.mono ?_; rintro e w13 ⟨rfl, hb⟩
      clear r0a r0b r0f
      clear r1a r1b r1f
      clear r2a r2b r2f
      clear r3a r3b r3f
      clear r4a r4b r4f
      replace hB := below2 hB hb
      replace h7 := h7.keep hb
      replace k7 := k7.keep hb
      replace r0 := r0.below hb
      replace r1 := r1.below hb
      replace r2 := r2.below hb
      replace r3 := r3.below hb
      replace r4 := r4.below hb
      clear hb
      clear h6 k6
      clear cc
      have cc := Iv.same_any R7 _ _ w13 h7 k7
      obtain ⟨r0a, r0b, r0f⟩ := cells2 r0
      obtain ⟨r1a, r1b, r1f⟩ := cells2 r1
      obtain ⟨r2a, r2b, r2f⟩ := cells2 r2
      obtain ⟨r3a, r3b, r3f⟩ := cells2 r3
      obtain ⟨r4a, r4b, r4f⟩ := cells2 r4
      go_wp2_with fail
      go_at_call 23; refine cc.mono ?_; rintro e w14 ⟨rfl, hb⟩
      clear r0a r0b r0f
      clear r1a r1b r1f
      clear r2a r2b r2f
      clear r3a r3b r3f
      clear r4a r4b r4f
      replace hB := below2 hB hb
      replace r0 := r0.below hb
      replace r1 := r1.below hb
      replace r2 := r2.below hb
      replace r3 := r3.below hb
      replace r4 := r4.below hb
      clear hb
      clear h7 k7
      clear cc
      go_wp2_with fail
      go_ret
      exact ⟨by first | rfl | simp, hB⟩
set_option maxRecDepth 100000 in
theorem lifted (os : Os) (started : os.Started) (H : Type) (enc : TypeId × Value → H) :
    ReturnsInHanded {} Try.checked os 4 .any (Rows.lineAsksSpec.pre6 enc Try.prog Try.f4 Rows.lineAsksRow.domain false) (Rows.lineAsksSpec.post enc Try.prog Try.f4 false true false false) := by
  refine returnsInHanded_of_change_sized (C := Try.checked) own started (by kernel_rfl) Try.func4
    (ChangeSpec.witness6 (enc := enc) (C := Try.checked) false ⟨#[], #[.agg #[.int .i64 0, .int .i64 0], .slice none 0 0, .slice none 0 0, .int .i64 0, .agg #[.int .u8 0, .int .i64 0], .agg #[.int .i64 0, .int .i64 0]], []⟩ 8 (by kernel_rfl) (by kernel_rfl) (by kernel_rfl) (by kernel_rfl)) ?_
  intro W base args ds gs before hval0 hW _ hsz0 _
  have hsz : (DataW.weightsEach Try.prog (Try.f4.params.toList ++ Rows.lineAsksSpec.plain.varTypes Try.prog) (ds ++ gs)).all (· ≤ reachBytes) = true := hsz0
  clear hsz0
  have hval : ∀ (j : Nat) t v, Try.f4.params[j]? = some t → args[j]? = some v → Value.okWide Try.prog W .any base t v := hval0
  have hW' := hW
  obtain ⟨p, q, hA0, hV, rfl, hfz, hnd⟩ := hW
  have hA : DataW.TrodAll enc Try.prog W 0 (fun _ => true) true Try.f4.params.toList args.toList ds p := hA0
  rw [Try.params4] at hA hval hsz
  obtain ⟨v0, vs0, d0, ds0, p0, q0, hargs, rfl, rfl, h0, r0⟩ := trodAll_cons hA
  obtain ⟨v1, vs1, d1, ds1, p1, q1, rfl, rfl, rfl, h1, r1⟩ := trodAll_cons r0
  obtain ⟨v2, vs2, d2, ds2, p2, q2, rfl, rfl, rfl, h2, r2⟩ := trodAll_cons r1
  obtain ⟨v3, vs3, d3, ds3, p3, q3, rfl, rfl, rfl, h3, r3⟩ := trodAll_cons r2
  obtain ⟨v4, vs4, d4, ds4, p4, q4, rfl, rfl, rfl, h4, r4⟩ := trodAll_cons r3
  obtain ⟨v5, vs5, d5, ds5, p5, q5, rfl, rfl, rfl, h5, r5⟩ := trodAll_cons r4
  obtain ⟨rfl, rfl, rfl⟩ := trodAll_nil r5
  obtain rfl : args = #[v0, v1, v2, v3, v4, v5] := by cases args; simp_all
  obtain ⟨rfl, rfl⟩ := trodVars_none hV
  have k0 := h0
  have lt0 : ∀ x ∈ p0, x.block < W.heap.size := by obtain ⟨m, hm⟩ := k0; exact DataW.trod_lt m _ _ _ hm
  obtain ⟨n0, rfl, b0⟩ := Iv.open_ivl (hval 0 23 v0 rfl rfl) h0
  obtain ⟨a1, len1, cap1, rfl⟩ := okWide_slice Try.underlying25 (hval 1 25 v1 rfl rfl)
  have k1 := h1
  have lt1 : ∀ x ∈ p1, x.block < W.heap.size := by obtain ⟨m, hm⟩ := k1; exact DataW.trod_lt m _ _ _ hm
  obtain ⟨fuel1, hf1⟩ := h1
  obtain ⟨z1, b1⟩ := Ln.open_eras hf1
  obtain ⟨a2, len2, cap2, rfl⟩ := okWide_slice Try.underlying25 (hval 2 25 v2 rfl rfl)
  have k2 := h2
  have lt2 : ∀ x ∈ p2, x.block < W.heap.size := by obtain ⟨m, hm⟩ := k2; exact DataW.trod_lt m _ _ _ hm
  obtain ⟨fuel2, hf2⟩ := h2
  obtain ⟨z2, b2⟩ := Ln.open_eras hf2
  obtain ⟨a3, rfl, rfl, rfl, w3⟩ := open_int Try.underlying2 (hval 3 2 v3 rfl rfl) h3
  have b3 : -9223372036854775808 ≤ a3 ∧ a3 ≤ 9223372036854775807 := by simpa [Lit.wf, IntKind.min, IntKind.max, IntKind.signed, IntKind.bits] using w3
  have k4 := h4
  have lt4 : ∀ x ∈ p4, x.block < W.heap.size := by obtain ⟨m, hm⟩ := k4; exact DataW.trod_lt m _ _ _ hm
  obtain ⟨n4, rfl⟩ := Ln.open_vd (hval 4 35 v4 rfl rfl) h4
  have k5 := h5
  have lt5 : ∀ x ∈ p5, x.block < W.heap.size := by obtain ⟨m, hm⟩ := k5; exact DataW.trod_lt m _ _ _ hm
  obtain ⟨n5, rfl, b5⟩ := Iv.open_ivl (hval 5 23 v5 rfl rfl) h5
  clear hA0 hval0
  refine (walk n0 (.slice a1 len1 cap1) z1 (.slice a2 len2 cap2) z2 a3 n4 n5 W b0 b1 b2 b3 b5).mono fun e W' ⟨he, bel⟩ => ?_
  subst he
  exact ⟨_, rfl, _, _, _, [], _, [], hW', trodAll_mk1 (shut_bool Try.underlying4 _), (trodAll_cons_mk (Below.trod laidOut (by kernel_rfl) (of_decide_eq_true (by kernel_rfl)) k0 bel lt0) (trodAll_cons_mk (Below.trod laidOut (by kernel_rfl) (of_decide_eq_true (by kernel_rfl)) k1 bel lt1) (trodAll_cons_mk (Below.trod laidOut (by kernel_rfl) (of_decide_eq_true (by kernel_rfl)) k2 bel lt2) (trodAll_cons_mk (shut_int Try.underlying2 w3) (trodAll_cons_mk (Below.trod laidOut (by kernel_rfl) (of_decide_eq_true (by kernel_rfl)) k4 bel lt4) (trodAll_cons_mk (Below.trod laidOut (by kernel_rfl) (of_decide_eq_true (by kernel_rfl)) k5 bel lt5) trodAll_mk0)))))), rfl, bel.frame _, fun h => by cases h⟩

theorem over : Rows.lineAsksRow.holds Try.pinned (OpenSpec.ofChange Rows.lineAsksSpec) :=
  OpenClaim.holds_of_wide 4 Try.f4 rfl rfl rfl rfl rfl rfl rfl ⟨rfl, rfl, rfl, rfl, rfl⟩ rfl rfl rfl rfl rfl (by kernel_rfl) Try.func4 (by kernel_rfl)
    (of_decide_eq_true (by kernel_rfl)) (by unfold Func.isWrapper; first | (rw [if_pos (by decide +kernel)]; kernel_rfl) | (rw [if_neg (by decide +kernel)]; exact ⟨rfl, rfl⟩))
    (fun os started H enc _ => lifted os started H enc)
end lineAsks
theorem line_asks_holds : Rows.LineAsksSaid := lineAsks.over
#print axioms line_asks_holds
end Go.Proofs.Ytmkbijnndbgjgaa
