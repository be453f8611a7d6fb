/- For any two prefixes and every address of either kind: spoorlaw09.AddrPrefixes returns true, and changes nothing that was there. No condition. -/
import Derived.Test.YtengicljipfckaaRows
import Derived.Test.YtengicljipfckaaAddrSteps
import Derived.Test.YtengicljipfckaaAddrRef5
import Derived.Test.YtengicljipfckaaAddrEql
import Derived.Test.YtengicljipfckaaAddrOpen
import Derived.ProofKit
import Derived.OpenShut
import Derived.ShutString
import Derived.SizedLaws
set_option linter.unusedVariables false
namespace Go.Proofs.Ytengicljipfckaa
namespace addrPrefixes
open Go.ChangeShapes Go.WideShapes Go.ChangeAt Go.RowKit
open Go.ChangeMaps (open_string shut_string)
open Go.Proofs.Ytengicljipfckaa.Addr

theorem own : ownKnob Try.prog.godebug = none := by kernel_rfl
theorem laidOut : laidOutB Try.prog = true := by kernel_rfl

set_option maxHeartbeats 8000000 in
set_option maxRecDepth 20000 in
theorem walk (p q : Pf) (six : Bool) (a : Nat) (w : World) (b0 : (-9223372036854775808 ≤ p.len ∧ p.len ≤ 9223372036854775807) ∧ p.n < 2 ^ 128) (b1 : (-9223372036854775808 ≤ q.len ∧ q.len ≤ 9223372036854775807) ∧ q.n < 2 ^ 128) (b3 : a < 2 ^ 128) :
    Calls Try.prog 4 #[pfV p, pfV q, .bool six, adV a] w fun e w' => e = .returned (.bool true) ∧ Below w.heap.size w w' := by
  have hv := steps_any
  have c1 := fun w => last_any p w b0.1 b0.2
  have c2 := fun w => rlast_any p w b0.1 b0.2
  have c3 := fun w => halves_any p w b0.1 b0.2
  have c4 := fun w => rhalves_any p w b0.1 b0.2
  have c5 := fun w => check_any p w b0.1 b0.2
  have c6 := fun w => rcheck_any p w b0.1 b0.2
  have c7 := fun w => has_any p six a w b0.1 b0.2 b3
  have c8 := fun w => rhas_any p six a w b0.1 b0.2 b3
  have c9 := fun w => covers_any p q w b0.1 b0.2 b1.1 b1.2
  have c10 := fun w => rcovers_any p q w b0.1 b0.2 b1.1 b1.2
  have q1 := fun w => ad_eql (lastE p).1 (lastE p).1 w
  have q2 := fun w => pf_eql (halvesE p).1 w
  have q3 := fun w => pf_eql (halvesE p).2.1 w
  rw [decide_eq_true rfl] at q1
  have hgd := ad_guard
  have hgp := pf_guard
  generalize (lastE p).1 = L1 at *
  generalize (lastE p).2 = L2 at *
  generalize (halvesE p).1 = H1 at *
  generalize (halvesE p).2.1 = H2 at *
  generalize (halvesE p).2.2 = H3 at *
  generalize checkP p = K at *
  generalize hasB p six a = HB at *
  generalize coversB p q = CB at *
  unfold pfV adV at *
  obtain ⟨sx, n, len⟩ := p
  obtain ⟨qs, qn9, qn⟩ := q
  obtain ⟨s1, n1, len1⟩ := H1
  obtain ⟨s2, n2, len2⟩ := H2
  simp only at *
  generalize hiN L1 = Lh at *
  generalize loN L1 = Ll at *
  generalize hiN a = ah at *
  generalize loN a = al at *
  generalize hiN n = h at *
  generalize loN n = l at *
  generalize hiN qn9 = qh at *
  generalize loN qn9 = ql at *
  generalize hiN n1 = n1h at *
  generalize loN n1 = n1l at *
  generalize hiN n2 = n2h at *
  generalize loN n2 = n2l at *
  clear b0 b1 b3
  have hW : Below w.heap.size w w := Below.refl _ _
  go_enter Try.func4, Try.ntmps4
  obtain ⟨X1, hX1⟩ : ∃ X, X = (((w.alloc (.cells #[.bool sx, .int .u64 (h : Int), .int .u64 (l : Int), .int .i64 len] 33)).alloc (.cells #[.bool qs, .int .u64 (qh : Int), .int .u64 (ql : Int), .int .i64 qn] 33)).alloc (.cells #[.int .u64 (ah : Int), .int .u64 (al : Int)] 24)) := ⟨_, rfl⟩
  obtain ⟨grp, hgrp⟩ : ∃ g, g = w.heap.size := ⟨_, rfl⟩
  obtain ⟨grq, hgrq⟩ : ∃ g, g = w.heap.size + 1 := ⟨_, rfl⟩
  obtain ⟨gra, hgra⟩ : ∃ g, g = w.heap.size + 1 + 1 := ⟨_, rfl⟩
  have hbX1 : Below w.heap.size w X1 := by rw [hX1]; exact below_new (below_new (below_new (Below.refl _ _) _) _) _
  have rp : RowAt X1 grp [.bool sx, .int .u64 (h : Int), .int .u64 (l : Int), .int .i64 len] 33 := by
    have h := ((RowAt.new w [.bool sx, .int .u64 (h : Int), .int .u64 (l : Int), .int .i64 len] 33).alloc (.cells #[.bool qs, .int .u64 (qh : Int), .int .u64 (ql : Int), .int .i64 qn] 33)).alloc (.cells #[.int .u64 (ah : Int), .int .u64 (al : Int)] 24)
    rw [hgrp, hX1]; exact h
  have rq : RowAt X1 grq [.bool qs, .int .u64 (qh : Int), .int .u64 (ql : Int), .int .i64 qn] 33 := by
    have h := (RowAt.new (w.alloc (.cells #[.bool sx, .int .u64 (h : Int), .int .u64 (l : Int), .int .i64 len] 33)) [.bool qs, .int .u64 (qh : Int), .int .u64 (ql : Int), .int .i64 qn] 33).alloc (.cells #[.int .u64 (ah : Int), .int .u64 (al : Int)] 24)
    simp only [World.size_alloc] at h
    rw [hgrq, hX1]; exact h
  have ra : RowAt X1 gra [.int .u64 (ah : Int), .int .u64 (al : Int)] 24 := by
    have h := RowAt.new ((w.alloc (.cells #[.bool sx, .int .u64 (h : Int), .int .u64 (l : Int), .int .i64 len] 33)).alloc (.cells #[.bool qs, .int .u64 (qh : Int), .int .u64 (ql : Int), .int .i64 qn] 33)) [.int .u64 (ah : Int), .int .u64 (al : Int)] 24
    simp only [World.size_alloc] at h
    rw [hgra, hX1]; exact h
  replace hW := below2 hW hbX1
  go_upto_region 1 with fail
  rw [← hX1, ← hgra, ← hgrq, ← hgrp]
  clear hX1 hbX1 hgrp hgrq hgra
  obtain ⟨rpq0, rpq1, rpq2, rpq3, rpf⟩ := cells4 rp
  go_wp2_with fail
  go_at_call 16; refine (c1 _).mono ?_; rintro e w2 ⟨rfl, hb⟩
  clear rpq0 rpq1 rpq2 rpq3 rpf
  replace rp := rp.below hb
  replace rq := rq.below hb
  replace ra := ra.below hb
  replace hW := below2 hW hb
  clear hb
  obtain ⟨X3, hX3⟩ : ∃ X, X = (w2.alloc (.cells #[.int .u64 (Lh : Int), .int .u64 (Ll : Int)] 24)) := ⟨_, rfl⟩
  obtain ⟨grc, hgrc⟩ : ∃ g, g = w2.heap.size := ⟨_, rfl⟩
  have hbX3 : Below w2.heap.size w2 X3 := by rw [hX3]; exact below_new (Below.refl _ _) _
  replace rp := rp.below hbX3
  replace rq := rq.below hbX3
  replace ra := ra.below hbX3
  have rc : RowAt X3 grc [.int .u64 (Lh : Int), .int .u64 (Ll : Int)] 24 := by
    have h := RowAt.new w2 [.int .u64 (Lh : Int), .int .u64 (Ll : Int)] 24
    rw [hgrc, hX3]; exact h
  replace hW := below2 hW hbX3
  go_upto_region 2 with fail
  rw [← hX3, ← hgrc]
  clear hX3 hbX3 hgrc
  obtain ⟨rpq0, rpq1, rpq2, rpq3, rpf⟩ := cells4 rp
  go_wp2_with fail
  go_at_call 17; refine (c2 _).mono ?_; rintro e w4 ⟨rfl, hb⟩
  clear rpq0 rpq1 rpq2 rpq3 rpf
  replace rp := rp.below hb
  replace rq := rq.below hb
  replace ra := ra.below hb
  replace rc := rc.below hb
  replace hW := below2 hW hb
  clear hb
  obtain ⟨X5, hX5⟩ : ∃ X, X = (w4.alloc (.cells #[.int .u64 (Lh : Int), .int .u64 (Ll : Int)] 24)) := ⟨_, rfl⟩
  obtain ⟨grd, hgrd⟩ : ∃ g, g = w4.heap.size := ⟨_, rfl⟩
  have hbX5 : Below w4.heap.size w4 X5 := by rw [hX5]; exact below_new (Below.refl _ _) _
  replace rp := rp.below hbX5
  replace rq := rq.below hbX5
  replace ra := ra.below hbX5
  replace rc := rc.below hbX5
  have rd : RowAt X5 grd [.int .u64 (Lh : Int), .int .u64 (Ll : Int)] 24 := by
    have h := RowAt.new w4 [.int .u64 (Lh : Int), .int .u64 (Ll : Int)] 24
    rw [hgrd, hX5]; exact h
  replace hW := below2 hW hbX5
  go_upto_region 3 with fail
  rw [← hX5, ← hgrd]
  clear hX5 hbX5 hgrd
  obtain ⟨rpq0, rpq1, rpq2, rpq3, rpf⟩ := cells4 rp
  go_wp2_with fail
  go_at_call 18; refine (c3 _).mono ?_; rintro e w6 ⟨rfl, hb⟩
  clear rpq0 rpq1 rpq2 rpq3 rpf
  replace rp := rp.below hb
  replace rq := rq.below hb
  replace ra := ra.below hb
  replace rc := rc.below hb
  replace rd := rd.below hb
  replace hW := below2 hW hb
  clear hb
  obtain ⟨X7, hX7⟩ : ∃ X, X = ((w6.alloc (.cells #[.bool s1, .int .u64 (n1h : Int), .int .u64 (n1l : Int), .int .i64 len1] 33)).alloc (.cells #[.bool s2, .int .u64 (n2h : Int), .int .u64 (n2l : Int), .int .i64 len2] 33)) := ⟨_, rfl⟩
  obtain ⟨gre, hgre⟩ : ∃ g, g = w6.heap.size := ⟨_, rfl⟩
  obtain ⟨grg, hgrg⟩ : ∃ g, g = w6.heap.size + 1 := ⟨_, rfl⟩
  have hbX7 : Below w6.heap.size w6 X7 := by rw [hX7]; exact below_new (below_new (Below.refl _ _) _) _
  replace rp := rp.below hbX7
  replace rq := rq.below hbX7
  replace ra := ra.below hbX7
  replace rc := rc.below hbX7
  replace rd := rd.below hbX7
  have re : RowAt X7 gre [.bool s1, .int .u64 (n1h : Int), .int .u64 (n1l : Int), .int .i64 len1] 33 := by
    have h := (RowAt.new w6 [.bool s1, .int .u64 (n1h : Int), .int .u64 (n1l : Int), .int .i64 len1] 33).alloc (.cells #[.bool s2, .int .u64 (n2h : Int), .int .u64 (n2l : Int), .int .i64 len2] 33)
    rw [hgre, hX7]; exact h
  have rg : RowAt X7 grg [.bool s2, .int .u64 (n2h : Int), .int .u64 (n2l : Int), .int .i64 len2] 33 := by
    have h := RowAt.new (w6.alloc (.cells #[.bool s1, .int .u64 (n1h : Int), .int .u64 (n1l : Int), .int .i64 len1] 33)) [.bool s2, .int .u64 (n2h : Int), .int .u64 (n2l : Int), .int .i64 len2] 33
    simp only [World.size_alloc] at h
    rw [hgrg, hX7]; exact h
  replace hW := below2 hW hbX7
  go_upto_region 4 with fail
  rw [← hX7, ← hgrg, ← hgre]
  clear hX7 hbX7 hgre hgrg
  obtain ⟨rpq0, rpq1, rpq2, rpq3, rpf⟩ := cells4 rp
  go_wp2_with fail
  go_at_call 19; refine (c4 _).mono ?_; rintro e w8 ⟨rfl, hb⟩
  clear rpq0 rpq1 rpq2 rpq3 rpf
  replace rp := rp.below hb
  replace rq := rq.below hb
  replace ra := ra.below hb
  replace rc := rc.below hb
  replace rd := rd.below hb
  replace re := re.below hb
  replace rg := rg.below hb
  replace hW := below2 hW hb
  clear hb
  obtain ⟨X9, hX9⟩ : ∃ X, X = ((w8.alloc (.cells #[.bool s1, .int .u64 (n1h : Int), .int .u64 (n1l : Int), .int .i64 len1] 33)).alloc (.cells #[.bool s2, .int .u64 (n2h : Int), .int .u64 (n2l : Int), .int .i64 len2] 33)) := ⟨_, rfl⟩
  obtain ⟨grh9, hgrh9⟩ : ∃ g, g = w8.heap.size := ⟨_, rfl⟩
  obtain ⟨gri, hgri⟩ : ∃ g, g = w8.heap.size + 1 := ⟨_, rfl⟩
  have hbX9 : Below w8.heap.size w8 X9 := by rw [hX9]; exact below_new (below_new (Below.refl _ _) _) _
  replace rp := rp.below hbX9
  replace rq := rq.below hbX9
  replace ra := ra.below hbX9
  replace rc := rc.below hbX9
  replace rd := rd.below hbX9
  replace re := re.below hbX9
  replace rg := rg.below hbX9
  have rh9 : RowAt X9 grh9 [.bool s1, .int .u64 (n1h : Int), .int .u64 (n1l : Int), .int .i64 len1] 33 := by
    have h := (RowAt.new w8 [.bool s1, .int .u64 (n1h : Int), .int .u64 (n1l : Int), .int .i64 len1] 33).alloc (.cells #[.bool s2, .int .u64 (n2h : Int), .int .u64 (n2l : Int), .int .i64 len2] 33)
    rw [hgrh9, hX9]; exact h
  have ri : RowAt X9 gri [.bool s2, .int .u64 (n2h : Int), .int .u64 (n2l : Int), .int .i64 len2] 33 := by
    have h := RowAt.new (w8.alloc (.cells #[.bool s1, .int .u64 (n1h : Int), .int .u64 (n1l : Int), .int .i64 len1] 33)) [.bool s2, .int .u64 (n2h : Int), .int .u64 (n2l : Int), .int .i64 len2] 33
    simp only [World.size_alloc] at h
    rw [hgri, hX9]; exact h
  replace hW := below2 hW hbX9
  go_upto_region 5 with fail
  rw [← hX9, ← hgri, ← hgrh9]
  clear hX9 hbX9 hgrh9 hgri
  clear c1 c2 c3 c4
  have rpq0 : ∀ p : Bl X9, p.W.cell? ⟨grp, 0, none⟩ = [.bool sx, .int .u64 (h : Int), .int .u64 (l : Int), .int .i64 len][0]? := fun p => (rp.below p.h).cell 0
  have rpq1 : ∀ p : Bl X9, p.W.cell? ⟨grp, 1, none⟩ = [.bool sx, .int .u64 (h : Int), .int .u64 (l : Int), .int .i64 len][1]? := fun p => (rp.below p.h).cell 1
  have rpq2 : ∀ p : Bl X9, p.W.cell? ⟨grp, 2, none⟩ = [.bool sx, .int .u64 (h : Int), .int .u64 (l : Int), .int .i64 len][2]? := fun p => (rp.below p.h).cell 2
  have rpq3 : ∀ p : Bl X9, p.W.cell? ⟨grp, 3, none⟩ = [.bool sx, .int .u64 (h : Int), .int .u64 (l : Int), .int .i64 len][3]? := fun p => (rp.below p.h).cell 3
  simp only [List.getElem?_cons_zero, List.getElem?_cons_succ] at rpq0 rpq1 rpq2 rpq3
  have rqq0 : ∀ p : Bl X9, p.W.cell? ⟨grq, 0, none⟩ = [.bool qs, .int .u64 (qh : Int), .int .u64 (ql : Int), .int .i64 qn][0]? := fun p => (rq.below p.h).cell 0
  have rqq1 : ∀ p : Bl X9, p.W.cell? ⟨grq, 1, none⟩ = [.bool qs, .int .u64 (qh : Int), .int .u64 (ql : Int), .int .i64 qn][1]? := fun p => (rq.below p.h).cell 1
  have rqq2 : ∀ p : Bl X9, p.W.cell? ⟨grq, 2, none⟩ = [.bool qs, .int .u64 (qh : Int), .int .u64 (ql : Int), .int .i64 qn][2]? := fun p => (rq.below p.h).cell 2
  have rqq3 : ∀ p : Bl X9, p.W.cell? ⟨grq, 3, none⟩ = [.bool qs, .int .u64 (qh : Int), .int .u64 (ql : Int), .int .i64 qn][3]? := fun p => (rq.below p.h).cell 3
  simp only [List.getElem?_cons_zero, List.getElem?_cons_succ] at rqq0 rqq1 rqq2 rqq3
  have raq0 : ∀ p : Bl X9, p.W.cell? ⟨gra, 0, none⟩ = [.int .u64 (ah : Int), .int .u64 (al : Int)][0]? := fun p => (ra.below p.h).cell 0
  have raq1 : ∀ p : Bl X9, p.W.cell? ⟨gra, 1, none⟩ = [.int .u64 (ah : Int), .int .u64 (al : Int)][1]? := fun p => (ra.below p.h).cell 1
  simp only [List.getElem?_cons_zero, List.getElem?_cons_succ] at raq0 raq1
  have rcq0 : ∀ p : Bl X9, p.W.cell? ⟨grc, 0, none⟩ = [.int .u64 (Lh : Int), .int .u64 (Ll : Int)][0]? := fun p => (rc.below p.h).cell 0
  have rcq1 : ∀ p : Bl X9, p.W.cell? ⟨grc, 1, none⟩ = [.int .u64 (Lh : Int), .int .u64 (Ll : Int)][1]? := fun p => (rc.below p.h).cell 1
  simp only [List.getElem?_cons_zero, List.getElem?_cons_succ] at rcq0 rcq1
  have rdq0 : ∀ p : Bl X9, p.W.cell? ⟨grd, 0, none⟩ = [.int .u64 (Lh : Int), .int .u64 (Ll : Int)][0]? := fun p => (rd.below p.h).cell 0
  have rdq1 : ∀ p : Bl X9, p.W.cell? ⟨grd, 1, none⟩ = [.int .u64 (Lh : Int), .int .u64 (Ll : Int)][1]? := fun p => (rd.below p.h).cell 1
  simp only [List.getElem?_cons_zero, List.getElem?_cons_succ] at rdq0 rdq1
  have req0 : ∀ p : Bl X9, p.W.cell? ⟨gre, 0, none⟩ = [.bool s1, .int .u64 (n1h : Int), .int .u64 (n1l : Int), .int .i64 len1][0]? := fun p => (re.below p.h).cell 0
  have req1 : ∀ p : Bl X9, p.W.cell? ⟨gre, 1, none⟩ = [.bool s1, .int .u64 (n1h : Int), .int .u64 (n1l : Int), .int .i64 len1][1]? := fun p => (re.below p.h).cell 1
  have req2 : ∀ p : Bl X9, p.W.cell? ⟨gre, 2, none⟩ = [.bool s1, .int .u64 (n1h : Int), .int .u64 (n1l : Int), .int .i64 len1][2]? := fun p => (re.below p.h).cell 2
  have req3 : ∀ p : Bl X9, p.W.cell? ⟨gre, 3, none⟩ = [.bool s1, .int .u64 (n1h : Int), .int .u64 (n1l : Int), .int .i64 len1][3]? := fun p => (re.below p.h).cell 3
  simp only [List.getElem?_cons_zero, List.getElem?_cons_succ] at req0 req1 req2 req3
  have rgq0 : ∀ p : Bl X9, p.W.cell? ⟨grg, 0, none⟩ = [.bool s2, .int .u64 (n2h : Int), .int .u64 (n2l : Int), .int .i64 len2][0]? := fun p => (rg.below p.h).cell 0
  have rgq1 : ∀ p : Bl X9, p.W.cell? ⟨grg, 1, none⟩ = [.bool s2, .int .u64 (n2h : Int), .int .u64 (n2l : Int), .int .i64 len2][1]? := fun p => (rg.below p.h).cell 1
  have rgq2 : ∀ p : Bl X9, p.W.cell? ⟨grg, 2, none⟩ = [.bool s2, .int .u64 (n2h : Int), .int .u64 (n2l : Int), .int .i64 len2][2]? := fun p => (rg.below p.h).cell 2
  have rgq3 : ∀ p : Bl X9, p.W.cell? ⟨grg, 3, none⟩ = [.bool s2, .int .u64 (n2h : Int), .int .u64 (n2l : Int), .int .i64 len2][3]? := fun p => (rg.below p.h).cell 3
  simp only [List.getElem?_cons_zero, List.getElem?_cons_succ] at rgq0 rgq1 rgq2 rgq3
  have rh9q0 : ∀ p : Bl X9, p.W.cell? ⟨grh9, 0, none⟩ = [.bool s1, .int .u64 (n1h : Int), .int .u64 (n1l : Int), .int .i64 len1][0]? := fun p => (rh9.below p.h).cell 0
  have rh9q1 : ∀ p : Bl X9, p.W.cell? ⟨grh9, 1, none⟩ = [.bool s1, .int .u64 (n1h : Int), .int .u64 (n1l : Int), .int .i64 len1][1]? := fun p => (rh9.below p.h).cell 1
  have rh9q2 : ∀ p : Bl X9, p.W.cell? ⟨grh9, 2, none⟩ = [.bool s1, .int .u64 (n1h : Int), .int .u64 (n1l : Int), .int .i64 len1][2]? := fun p => (rh9.below p.h).cell 2
  have rh9q3 : ∀ p : Bl X9, p.W.cell? ⟨grh9, 3, none⟩ = [.bool s1, .int .u64 (n1h : Int), .int .u64 (n1l : Int), .int .i64 len1][3]? := fun p => (rh9.below p.h).cell 3
  simp only [List.getElem?_cons_zero, List.getElem?_cons_succ] at rh9q0 rh9q1 rh9q2 rh9q3
  have riq0 : ∀ p : Bl X9, p.W.cell? ⟨gri, 0, none⟩ = [.bool s2, .int .u64 (n2h : Int), .int .u64 (n2l : Int), .int .i64 len2][0]? := fun p => (ri.below p.h).cell 0
  have riq1 : ∀ p : Bl X9, p.W.cell? ⟨gri, 1, none⟩ = [.bool s2, .int .u64 (n2h : Int), .int .u64 (n2l : Int), .int .i64 len2][1]? := fun p => (ri.below p.h).cell 1
  have riq2 : ∀ p : Bl X9, p.W.cell? ⟨gri, 2, none⟩ = [.bool s2, .int .u64 (n2h : Int), .int .u64 (n2l : Int), .int .i64 len2][2]? := fun p => (ri.below p.h).cell 2
  have riq3 : ∀ p : Bl X9, p.W.cell? ⟨gri, 3, none⟩ = [.bool s2, .int .u64 (n2h : Int), .int .u64 (n2l : Int), .int .i64 len2][3]? := fun p => (ri.below p.h).cell 3
  simp only [List.getElem?_cons_zero, List.getElem?_cons_succ] at riq0 riq1 riq2 riq3
  haveI := bl_ne X9
  refine wp_region_bl (by kernel_rfl) (by kernel_rfl) ?_
  repeat (quiet_step (first | (go_at_call 11; with_reducible exact bl_call (hv _)) | (go_at_call 20; with_reducible exact bl_call (c5 _)) | (go_at_call 21; with_reducible exact bl_call (c6 _)) | (go_at_call 22; with_reducible exact bl_call (c7 _)) | (go_at_call 23; with_reducible exact bl_call (c8 _)) | (go_at_call 24; with_reducible exact bl_call (c9 _)) | (go_at_call 25; with_reducible exact bl_call (c10 _))))
  refine wpQuiet_nil ?_
  intro wq10 hw'
  obtain ⟨⟨wz, hq⟩, hw2⟩ := hw'
  subst hw2
  replace hW := below2 hW hq
  clear this rpq0 rpq1 rpq2 rpq3 rqq0 rqq1 rqq2 rqq3 raq0 raq1 rcq0 rcq1 rdq0 rdq1 req0 req1 req2 req3 rgq0 rgq1 rgq2 rgq3 rh9q0 rh9q1 rh9q2 rh9q3 riq0 riq1 riq2 riq3
  replace rp := rp.below hq
  replace rq := rq.below hq
  replace ra := ra.below hq
  replace rc := rc.below hq
  replace rd := rd.below hq
  replace re := re.below hq
  replace rg := rg.below hq
  replace rh9 := rh9.below hq
  replace ri := ri.below hq
  clear hq
  go_wp2_with fail
  go_ret
  exact ⟨rfl, hW⟩

set_option maxRecDepth 100000 in
theorem lifted (os : Os) (started : os.Started) (H : Type) (enc : TypeId × Value → H) :
    ReturnsInHanded {} Try.checked os 4 .any (Rows.addrPrefixesSpec.pre6 enc Try.prog Try.f4 Rows.addrPrefixesRow.domain false) (Rows.addrPrefixesSpec.post enc Try.prog Try.f4 false true false false) := by
  refine returnsInHanded_of_change_sized (C := Try.checked) own started (by kernel_rfl) Try.func4
    (ChangeSpec.witness6 (enc := enc) (C := Try.checked) false ⟨#[], #[.agg #[.bool false, .int .u64 0, .int .u64 0, .int .i64 0], .agg #[.bool false, .int .u64 0, .int .u64 0, .int .i64 0], .bool false, .agg #[.int .u64 0, .int .u64 0]], []⟩ 8 (by kernel_rfl) (by kernel_rfl) (by kernel_rfl) (by kernel_rfl)) ?_
  intro W base args ds gs before hval0 hW _ hsz0 _
  have hsz : (DataW.weightsEach Try.prog (Try.f4.params.toList ++ Rows.addrPrefixesSpec.plain.varTypes Try.prog) (ds ++ gs)).all (· ≤ reachBytes) = true := hsz0
  clear hsz0
  have hval : ∀ (j : Nat) t v, Try.f4.params[j]? = some t → args[j]? = some v → Value.okWide Try.prog W .any base t v := hval0
  have hW' := hW
  obtain ⟨p, q, hA0, hV, rfl, hfz, hnd⟩ := hW
  have hA : DataW.TrodAll enc Try.prog W 0 (fun _ => true) true Try.f4.params.toList args.toList ds p := hA0
  rw [Try.params4] at hA hval hsz
  obtain ⟨v0, vs0, d0, ds0, p0, q0, hargs, rfl, rfl, h0, r0⟩ := trodAll_cons hA
  obtain ⟨v1, vs1, d1, ds1, p1, q1, rfl, rfl, rfl, h1, r1⟩ := trodAll_cons r0
  obtain ⟨v2, vs2, d2, ds2, p2, q2, rfl, rfl, rfl, h2, r2⟩ := trodAll_cons r1
  obtain ⟨v3, vs3, d3, ds3, p3, q3, rfl, rfl, rfl, h3, r3⟩ := trodAll_cons r2
  obtain ⟨rfl, rfl, rfl⟩ := trodAll_nil r3
  obtain rfl : args = #[v0, v1, v2, v3] := by cases args; simp_all
  obtain ⟨rfl, rfl⟩ := trodVars_none hV
  have k0 := h0
  have lt0 : ∀ x ∈ p0, x.block < W.heap.size := by obtain ⟨m, hm⟩ := k0; exact DataW.trod_lt m _ _ _ hm
  obtain ⟨n0, rfl, b0⟩ := Addr.open_prefix (hval 0 33 v0 rfl rfl) h0
  have k1 := h1
  have lt1 : ∀ x ∈ p1, x.block < W.heap.size := by obtain ⟨m, hm⟩ := k1; exact DataW.trod_lt m _ _ _ hm
  obtain ⟨n1, rfl, b1⟩ := Addr.open_prefix (hval 1 33 v1 rfl rfl) h1
  obtain ⟨a2, rfl, rfl, rfl⟩ := open_bool Try.underlying4 (hval 2 4 v2 rfl rfl) h2
  have k3 := h3
  have lt3 : ∀ x ∈ p3, x.block < W.heap.size := by obtain ⟨m, hm⟩ := k3; exact DataW.trod_lt m _ _ _ hm
  obtain ⟨n3, rfl, b3⟩ := Addr.open_addr (hval 3 24 v3 rfl rfl) h3
  clear hA0 hval0
  refine (walk n0 n1 a2 n3 W b0 b1 b3).mono fun e W' ⟨he, bel⟩ => ?_
  subst he
  exact ⟨_, rfl, _, _, _, [], _, [], hW', trodAll_mk1 (shut_bool Try.underlying4 _), (trodAll_cons_mk (Below.trod laidOut (by kernel_rfl) (of_decide_eq_true (by kernel_rfl)) k0 bel lt0) (trodAll_cons_mk (Below.trod laidOut (by kernel_rfl) (of_decide_eq_true (by kernel_rfl)) k1 bel lt1) (trodAll_cons_mk (shut_bool Try.underlying4 a2) (trodAll_cons_mk (Below.trod laidOut (by kernel_rfl) (of_decide_eq_true (by kernel_rfl)) k3 bel lt3) trodAll_mk0)))), rfl, bel.frame _, fun h => by cases h⟩

theorem over : Rows.addrPrefixesRow.holds Try.pinned (OpenSpec.ofChange Rows.addrPrefixesSpec) :=
  OpenClaim.holds_of_wide 4 Try.f4 rfl rfl rfl rfl rfl rfl rfl ⟨rfl, rfl, rfl, rfl, rfl⟩ rfl rfl rfl rfl rfl (by kernel_rfl) Try.func4 (by kernel_rfl)
    (of_decide_eq_true (by kernel_rfl)) (by unfold Func.isWrapper; first | (rw [if_pos (by decide +kernel)]; kernel_rfl) | (rw [if_neg (by decide +kernel)]; exact ⟨rfl, rfl⟩))
    (fun os started H enc _ => lifted os started H enc)
end addrPrefixes
theorem aprefixes_holds : Rows.AddrPrefixesSaid := addrPrefixes.over
#print axioms aprefixes_holds
end Go.Proofs.Ytengicljipfckaa
