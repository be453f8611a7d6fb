/- For every prefix and address: spoorlaw09.AddrHalves returns true, and changes nothing that was there. No condition. -/
import Derived.Test.YtengicljipfckaaRows
import Derived.Test.YtengicljipfckaaAddrSteps
import Derived.Test.YtengicljipfckaaAddrOpen
import Derived.ProofKit
import Derived.OpenShut
import Derived.ShutString
import Derived.SizedLaws
set_option linter.unusedVariables false
namespace Go.Proofs.Ytengicljipfckaa
namespace addrHalves
open Go.ChangeShapes Go.WideShapes Go.ChangeAt Go.RowKit
open Go.ChangeMaps (open_string shut_string)
open Go.Proofs.Ytengicljipfckaa.Addr

theorem own : ownKnob Try.prog.godebug = none := by kernel_rfl
theorem laidOut : laidOutB Try.prog = true := by kernel_rfl

set_option maxHeartbeats 4000000 in
set_option maxRecDepth 20000 in
theorem walk (p : Pf) (a : Nat) (w : World) (b0 : (-9223372036854775808 ≤ p.len ∧ p.len ≤ 9223372036854775807) ∧ p.n < 2 ^ 128) (b1 : a < 2 ^ 128) :
    Calls Try.prog 6 #[pfV p, adV a] w fun e w' => e = .returned (.bool true) ∧ Below w.heap.size w w' := by
  have hv := steps_any
  have ch := fun w => halves_any p w b0.1 b0.2
  have hgd := ad_guard
  cases hok : okP p
  · have e1 : halvesE p = (⟨false, 0, 0⟩, ⟨false, 0, 0⟩, 2) := by unfold halvesE; rw [hok]; rfl
    rw [e1] at ch
    have hz : pfV ⟨false, 0, 0⟩ = .agg #[.bool false, .int .u64 0, .int .u64 0, .int .i64 0] := rfl
    simp only [hz] at ch
    clear e1 hz hok b0 b1
    unfold pfV adV at *
    generalize hiN p.n = h at *
    generalize loN p.n = l at *
    generalize hiN a = ah at *
    generalize loN a = al at *
    generalize p.six = sx at *
    generalize p.len = len at *
    have hW : Below w.heap.size w w := Below.refl _ _
    go_enter Try.func6, Try.ntmps6
    obtain ⟨X1, hX1⟩ : ∃ X, X = ((w.alloc (.cells #[.bool sx, .int .u64 (h : Int), .int .u64 (l : Int), .int .i64 len] 33)).alloc (.cells #[.int .u64 (ah : Int), .int .u64 (al : Int)] 24)) := ⟨_, rfl⟩
    obtain ⟨grp, hgrp⟩ : ∃ g, g = w.heap.size := ⟨_, rfl⟩
    obtain ⟨gra, hgra⟩ : ∃ g, g = w.heap.size + 1 := ⟨_, rfl⟩
    have hbX1 : Below w.heap.size w X1 := by rw [hX1]; exact below_new (below_new (Below.refl _ _) _) _
    have rp : RowAt X1 grp [.bool sx, .int .u64 (h : Int), .int .u64 (l : Int), .int .i64 len] 33 := by
      have h := (RowAt.new w [.bool sx, .int .u64 (h : Int), .int .u64 (l : Int), .int .i64 len] 33).alloc (.cells #[.int .u64 (ah : Int), .int .u64 (al : Int)] 24)
      rw [hgrp, hX1]; exact h
    have ra : RowAt X1 gra [.int .u64 (ah : Int), .int .u64 (al : Int)] 24 := by
      have h := RowAt.new (w.alloc (.cells #[.bool sx, .int .u64 (h : Int), .int .u64 (l : Int), .int .i64 len] 33)) [.int .u64 (ah : Int), .int .u64 (al : Int)] 24
      simp only [World.size_alloc] at h
      rw [hgra, hX1]; exact h
    have hW := below2 hW hbX1
    go_upto_region 1 with fail
    rw [← hX1, ← hgra, ← hgrp]
    clear hX1 hbX1 hgrp hgra
    go_wp2_with fail
    go_at_call 11; refine (hv _).mono ?_; rintro e w2 ⟨rfl, hb⟩
    have rp := rp.below hb
    have ra := ra.below hb
    have hW := below2 hW hb
    clear hb
    obtain ⟨rpq0, rpq1, rpq2, rpq3, rpf⟩ := cells4 rp
    go_wp2_with fail
    go_at_call 18; refine (ch _).mono ?_; rintro e w3 ⟨rfl, hb⟩
    clear rpq0 rpq1 rpq2 rpq3 rpf
    have rp := rp.below hb
    have ra := ra.below hb
    have hW := below2 hW hb
    clear hb
    obtain ⟨rpq0, rpq1, rpq2, rpq3, rpf⟩ := cells4 rp
    have lrp := rp.lt
    go_wp2_with fail
    go_ret
    exact ⟨rfl, by repeat' (first | with_reducible exact hW | with_reducible apply below_new)⟩
  by_cases hm : p.len = (wideN p.six : Int)
  · have e1 : halvesE p = (⟨false, 0, 0⟩, ⟨false, 0, 0⟩, 3) := by unfold halvesE; rw [hok, if_pos rfl, if_pos hm]
    rw [e1] at ch
    have hz : pfV ⟨false, 0, 0⟩ = .agg #[.bool false, .int .u64 0, .int .u64 0, .int .i64 0] := rfl
    simp only [hz] at ch
    have h32 : (32 : Int) ≤ p.len := by have := wideN_ge p.six; omega
    have d32 : decide ((32 : Int) ≤ p.len) = true := decide_eq_true h32
    clear e1 hz hok b0 b1 hm h32
    unfold pfV adV at *
    generalize hiN p.n = h at *
    generalize loN p.n = l at *
    generalize hiN a = ah at *
    generalize loN a = al at *
    generalize p.six = sx at *
    generalize p.len = len at *
    have hW : Below w.heap.size w w := Below.refl _ _
    go_enter Try.func6, Try.ntmps6
    obtain ⟨X1, hX1⟩ : ∃ X, X = ((w.alloc (.cells #[.bool sx, .int .u64 (h : Int), .int .u64 (l : Int), .int .i64 len] 33)).alloc (.cells #[.int .u64 (ah : Int), .int .u64 (al : Int)] 24)) := ⟨_, rfl⟩
    obtain ⟨grp, hgrp⟩ : ∃ g, g = w.heap.size := ⟨_, rfl⟩
    obtain ⟨gra, hgra⟩ : ∃ g, g = w.heap.size + 1 := ⟨_, rfl⟩
    have hbX1 : Below w.heap.size w X1 := by rw [hX1]; exact below_new (below_new (Below.refl _ _) _) _
    have rp : RowAt X1 grp [.bool sx, .int .u64 (h : Int), .int .u64 (l : Int), .int .i64 len] 33 := by
      have h := (RowAt.new w [.bool sx, .int .u64 (h : Int), .int .u64 (l : Int), .int .i64 len] 33).alloc (.cells #[.int .u64 (ah : Int), .int .u64 (al : Int)] 24)
      rw [hgrp, hX1]; exact h
    have ra : RowAt X1 gra [.int .u64 (ah : Int), .int .u64 (al : Int)] 24 := by
      have h := RowAt.new (w.alloc (.cells #[.bool sx, .int .u64 (h : Int), .int .u64 (l : Int), .int .i64 len] 33)) [.int .u64 (ah : Int), .int .u64 (al : Int)] 24
      simp only [World.size_alloc] at h
      rw [hgra, hX1]; exact h
    have hW := below2 hW hbX1
    go_upto_region 1 with fail
    rw [← hX1, ← hgra, ← hgrp]
    clear hX1 hbX1 hgrp hgra
    go_wp2_with fail
    go_at_call 11; refine (hv _).mono ?_; rintro e w2 ⟨rfl, hb⟩
    have rp := rp.below hb
    have ra := ra.below hb
    have hW := below2 hW hb
    clear hb
    obtain ⟨rpq0, rpq1, rpq2, rpq3, rpf⟩ := cells4 rp
    go_wp2_with fail
    go_at_call 18; refine (ch _).mono ?_; rintro e w3 ⟨rfl, hb⟩
    clear rpq0 rpq1 rpq2 rpq3 rpf
    have rp := rp.below hb
    have ra := ra.below hb
    have hW := below2 hW hb
    clear hb
    obtain ⟨rpq0, rpq1, rpq2, rpq3, rpf⟩ := cells4 rp
    have lrp := rp.lt
    go_wp2_with fail
    go_ret
    exact ⟨rfl, by repeat' (first | with_reducible exact hW | with_reducible apply below_new)⟩
  rw [halves_ok hok hm] at ch
  simp only at ch
  have lo := half_lo_ok hok hm
  have hi := half_hi_ok hok hm
  have hl2 := half_last hok hm
  have hf := half_facts hok hm
  have hh := half_has hok hm a
  have hpp := Nat.two_pow_pos (kP p - 1)
  have h128 : (2 : Nat) ^ wideN p.six ≤ 2 ^ 128 := Nat.pow_le_pow_right (by decide) (wideN_le p.six)
  have hlen : -9223372036854775808 ≤ p.len + 1 ∧ p.len + 1 ≤ 9223372036854775807 := by have := (okP_iff.1 hok).1; have := wideN_le p.six; omega
  have hlenb : 0 ≤ p.len ∧ p.len + 1 ≤ 128 := by have := (okP_iff.1 hok).1; have := okP_len hok; have := wideN_le p.six; omega
  have c1 := fun w => last_any ⟨p.six, p.n, p.len + 1⟩ w hlen b0.2
  have e1 : lastE ⟨p.six, p.n, p.len + 1⟩ = (lastN ⟨p.six, p.n, p.len + 1⟩, 0) := by unfold lastE; rw [lo]; rfl
  rw [e1] at c1
  have hrb : rightB p.six (lastN ⟨p.six, p.n, p.len + 1⟩) = true := right_of (by omega)
  have e2 : nextE p.six (lastN ⟨p.six, p.n, p.len + 1⟩) = (p.n + 2 ^ (kP p - 1), 0) := by unfold nextE; rw [hrb, if_pos rfl, if_neg (by omega), hl2.1]
  have c2 := fun w => next_any p.six (lastN ⟨p.six, p.n, p.len + 1⟩) w (by omega)
  rw [e2] at c2
  have c3 := fun w => last_any ⟨p.six, p.n + 2 ^ (kP p - 1), p.len + 1⟩ w hlen (by show p.n + 2 ^ (kP p - 1) < 2 ^ 128; omega)
  have e3 : lastE ⟨p.six, p.n + 2 ^ (kP p - 1), p.len + 1⟩ = (lastN p, 0) := by unfold lastE; rw [hi, if_pos rfl, hl2.2]
  rw [e3] at c3
  have c4 := fun w => last_any p w b0.1 b0.2
  have e4 : lastE p = (lastN p, 0) := by unfold lastE; rw [hok]; rfl
  rw [e4] at c4
  have c5 := fun w => has_any ⟨p.six, p.n, p.len + 1⟩ p.six a w hlen b0.2 b1
  have c6 := fun w => has_any ⟨p.six, p.n + 2 ^ (kP p - 1), p.len + 1⟩ p.six a w hlen (by show p.n + 2 ^ (kP p - 1) < 2 ^ 128; omega) b1
  have c7 := fun w => has_any p p.six a w b0.1 b0.2 b1
  have q1 := fun w => ad_eql (p.n + 2 ^ (kP p - 1)) (p.n + 2 ^ (kP p - 1)) w
  have q2 := fun w => ad_eql (lastN p) (lastN p) w
  have q3 := fun w => ad_eql p.n p.n w
  rw [decide_eq_true rfl] at q1 q2 q3
  rw [hh.1] at c7
  have hxy := hh.2
  generalize hasB ⟨p.six, p.n, p.len + 1⟩ p.six a = x at *
  generalize hasB ⟨p.six, p.n + 2 ^ (kP p - 1), p.len + 1⟩ p.six a = y at *
  generalize lastN ⟨p.six, p.n, p.len + 1⟩ = L1 at *
  generalize p.n + 2 ^ (kP p - 1) = r at *
  generalize lastN p = L at *
  clear e1 e2 e3 e4 hrb h128 hh hf hl2 lo hi hok hm b0 b1 hlen hpp
  unfold pfV adV at *
  simp only at *
  generalize hiN p.n = h at *
  generalize loN p.n = l at *
  generalize hiN a = ah at *
  generalize loN a = al at *
  generalize hiN r = rh at *
  generalize loN r = rl at *
  generalize hiN L1 = L1h at *
  generalize loN L1 = L1l at *
  generalize hiN L = Lh at *
  generalize loN L = Ll at *
  generalize p.six = sx at *
  generalize p.len = len at *
  obtain ⟨hlb0, hlb1⟩ := hlenb
  have hW : Below w.heap.size w w := Below.refl _ _
  go_enter Try.func6, Try.ntmps6
  obtain ⟨X1, hX1⟩ : ∃ X, X = ((w.alloc (.cells #[.bool sx, .int .u64 (h : Int), .int .u64 (l : Int), .int .i64 len] 33)).alloc (.cells #[.int .u64 (ah : Int), .int .u64 (al : Int)] 24)) := ⟨_, rfl⟩
  obtain ⟨grp, hgrp⟩ : ∃ g, g = w.heap.size := ⟨_, rfl⟩
  obtain ⟨gra, hgra⟩ : ∃ g, g = w.heap.size + 1 := ⟨_, rfl⟩
  have hbX1 : Below w.heap.size w X1 := by rw [hX1]; exact below_new (below_new (Below.refl _ _) _) _
  have rp : RowAt X1 grp [.bool sx, .int .u64 (h : Int), .int .u64 (l : Int), .int .i64 len] 33 := by
    have h := (RowAt.new w [.bool sx, .int .u64 (h : Int), .int .u64 (l : Int), .int .i64 len] 33).alloc (.cells #[.int .u64 (ah : Int), .int .u64 (al : Int)] 24)
    rw [hgrp, hX1]; exact h
  have ra : RowAt X1 gra [.int .u64 (ah : Int), .int .u64 (al : Int)] 24 := by
    have h := RowAt.new (w.alloc (.cells #[.bool sx, .int .u64 (h : Int), .int .u64 (l : Int), .int .i64 len] 33)) [.int .u64 (ah : Int), .int .u64 (al : Int)] 24
    simp only [World.size_alloc] at h
    rw [hgra, hX1]; exact h
  have hW := below2 hW hbX1
  go_upto_region 1 with fail
  rw [← hX1, ← hgra, ← hgrp]
  clear hX1 hbX1 hgrp hgra
  go_wp2_with fail
  go_at_call 11; refine (hv _).mono ?_; rintro e w2 ⟨rfl, hb⟩
  have rp := rp.below hb
  have ra := ra.below hb
  have hW := below2 hW hb
  clear hb
  obtain ⟨rpq0, rpq1, rpq2, rpq3, rpf⟩ := cells4 rp
  go_wp2_with fail
  go_at_call 18; refine (ch _).mono ?_; rintro e w3 ⟨rfl, hb⟩
  clear rpq0 rpq1 rpq2 rpq3 rpf
  have rp := rp.below hb
  have ra := ra.below hb
  have hW := below2 hW hb
  clear hb
  obtain ⟨X4, hX4⟩ : ∃ X, X = ((w3.alloc (.cells #[.bool sx, .int .u64 (h : Int), .int .u64 (l : Int), .int .i64 (len + 1)] 33)).alloc (.cells #[.bool sx, .int .u64 (rh : Int), .int .u64 (rl : Int), .int .i64 (len + 1)] 33)) := ⟨_, rfl⟩
  obtain ⟨grb, hgrb⟩ : ∃ g, g = w3.heap.size := ⟨_, rfl⟩
  obtain ⟨grc, hgrc⟩ : ∃ g, g = w3.heap.size + 1 := ⟨_, rfl⟩
  have hbX4 : Below w3.heap.size w3 X4 := by rw [hX4]; exact below_new (below_new (Below.refl _ _) _) _
  have rp := rp.below hbX4
  have ra := ra.below hbX4
  have rb : RowAt X4 grb [.bool sx, .int .u64 (h : Int), .int .u64 (l : Int), .int .i64 (len + 1)] 33 := by
    have h := (RowAt.new w3 [.bool sx, .int .u64 (h : Int), .int .u64 (l : Int), .int .i64 (len + 1)] 33).alloc (.cells #[.bool sx, .int .u64 (rh : Int), .int .u64 (rl : Int), .int .i64 (len + 1)] 33)
    rw [hgrb, hX4]; exact h
  have rc : RowAt X4 grc [.bool sx, .int .u64 (rh : Int), .int .u64 (rl : Int), .int .i64 (len + 1)] 33 := by
    have h := RowAt.new (w3.alloc (.cells #[.bool sx, .int .u64 (h : Int), .int .u64 (l : Int), .int .i64 (len + 1)] 33)) [.bool sx, .int .u64 (rh : Int), .int .u64 (rl : Int), .int .i64 (len + 1)] 33
    simp only [World.size_alloc] at h
    rw [hgrc, hX4]; exact h
  have hW := below2 hW hbX4
  go_upto_region 4 with fail
  rw [← hX4, ← hgrc, ← hgrb]
  clear hX4 hbX4 hgrb hgrc
  obtain ⟨rbq0, rbq1, rbq2, rbq3, rbf⟩ := cells4 rb
  go_wp2_with fail
  go_at_call 16; refine (c1 _).mono ?_; rintro e w5 ⟨rfl, hb⟩
  clear rbq0 rbq1 rbq2 rbq3 rbf
  have rp := rp.below hb
  have ra := ra.below hb
  have rb := rb.below hb
  have rc := rc.below hb
  have hW := below2 hW hb
  clear hb
  obtain ⟨X6, hX6⟩ : ∃ X, X = (w5.alloc (.cells #[.int .u64 (L1h : Int), .int .u64 (L1l : Int)] 24)) := ⟨_, rfl⟩
  obtain ⟨grd, hgrd⟩ : ∃ g, g = w5.heap.size := ⟨_, rfl⟩
  have hbX6 : Below w5.heap.size w5 X6 := by rw [hX6]; exact below_new (Below.refl _ _) _
  have rp := rp.below hbX6
  have ra := ra.below hbX6
  have rb := rb.below hbX6
  have rc := rc.below hbX6
  have rd : RowAt X6 grd [.int .u64 (L1h : Int), .int .u64 (L1l : Int)] 24 := by
    have h := RowAt.new w5 [.int .u64 (L1h : Int), .int .u64 (L1l : Int)] 24
    rw [hgrd, hX6]; exact h
  have hW := below2 hW hbX6
  go_upto_region 7 with fail
  rw [← hX6, ← hgrd]
  clear hX6 hbX6 hgrd
  obtain ⟨rpq0, rpq1, rpq2, rpq3, rpf⟩ := cells4 rp
  obtain ⟨rdq0, rdq1, rdf⟩ := cells2 rd
  go_wp2_with fail
  go_at_call 7; refine (c2 _).mono ?_; rintro e w7 ⟨rfl, hb⟩
  clear rpq0 rpq1 rpq2 rpq3 rpf rdq0 rdq1 rdf
  have rp := rp.below hb
  have ra := ra.below hb
  have rb := rb.below hb
  have rc := rc.below hb
  have rd := rd.below hb
  have hW := below2 hW hb
  clear hb
  obtain ⟨X8, hX8⟩ : ∃ X, X = (w7.alloc (.cells #[.int .u64 (rh : Int), .int .u64 (rl : Int)] 24)) := ⟨_, rfl⟩
  obtain ⟨gre, hgre⟩ : ∃ g, g = w7.heap.size := ⟨_, rfl⟩
  have hbX8 : Below w7.heap.size w7 X8 := by rw [hX8]; exact below_new (Below.refl _ _) _
  have rp := rp.below hbX8
  have ra := ra.below hbX8
  have rb := rb.below hbX8
  have rc := rc.below hbX8
  have rd := rd.below hbX8
  have re : RowAt X8 gre [.int .u64 (rh : Int), .int .u64 (rl : Int)] 24 := by
    have h := RowAt.new w7 [.int .u64 (rh : Int), .int .u64 (rl : Int)] 24
    rw [hgre, hX8]; exact h
  have hW := below2 hW hbX8
  go_upto_region 8 with fail
  rw [← hX8, ← hgre]
  clear hX8 hbX8 hgre
  obtain ⟨rcq0, rcq1, rcq2, rcq3, rcf⟩ := cells4 rc
  go_wp2_with fail
  go_at_call 16; refine (c3 _).mono ?_; rintro e w9 ⟨rfl, hb⟩
  clear rcq0 rcq1 rcq2 rcq3 rcf
  have rp := rp.below hb
  have ra := ra.below hb
  have rb := rb.below hb
  have rc := rc.below hb
  have rd := rd.below hb
  have re := re.below hb
  have hW := below2 hW hb
  clear hb
  obtain ⟨X10, hX10⟩ : ∃ X, X = (w9.alloc (.cells #[.int .u64 (Lh : Int), .int .u64 (Ll : Int)] 24)) := ⟨_, rfl⟩
  obtain ⟨grg, hgrg⟩ : ∃ g, g = w9.heap.size := ⟨_, rfl⟩
  have hbX10 : Below w9.heap.size w9 X10 := by rw [hX10]; exact below_new (Below.refl _ _) _
  have rp := rp.below hbX10
  have ra := ra.below hbX10
  have rb := rb.below hbX10
  have rc := rc.below hbX10
  have rd := rd.below hbX10
  have re := re.below hbX10
  have rg : RowAt X10 grg [.int .u64 (Lh : Int), .int .u64 (Ll : Int)] 24 := by
    have h := RowAt.new w9 [.int .u64 (Lh : Int), .int .u64 (Ll : Int)] 24
    rw [hgrg, hX10]; exact h
  have hW := below2 hW hbX10
  go_upto_region 9 with fail
  rw [← hX10, ← hgrg]
  clear hX10 hbX10 hgrg
  obtain ⟨rpq0, rpq1, rpq2, rpq3, rpf⟩ := cells4 rp
  go_wp2_with fail
  go_at_call 16; refine (c4 _).mono ?_; rintro e w11 ⟨rfl, hb⟩
  clear rpq0 rpq1 rpq2 rpq3 rpf
  have rp := rp.below hb
  have ra := ra.below hb
  have rb := rb.below hb
  have rc := rc.below hb
  have rd := rd.below hb
  have re := re.below hb
  have rg := rg.below hb
  have hW := below2 hW hb
  clear hb
  obtain ⟨X12, hX12⟩ : ∃ X, X = (w11.alloc (.cells #[.int .u64 (Lh : Int), .int .u64 (Ll : Int)] 24)) := ⟨_, rfl⟩
  obtain ⟨grh9, hgrh9⟩ : ∃ g, g = w11.heap.size := ⟨_, rfl⟩
  have hbX12 : Below w11.heap.size w11 X12 := by rw [hX12]; exact below_new (Below.refl _ _) _
  have rp := rp.below hbX12
  have ra := ra.below hbX12
  have rb := rb.below hbX12
  have rc := rc.below hbX12
  have rd := rd.below hbX12
  have re := re.below hbX12
  have rg := rg.below hbX12
  have rh9 : RowAt X12 grh9 [.int .u64 (Lh : Int), .int .u64 (Ll : Int)] 24 := by
    have h := RowAt.new w11 [.int .u64 (Lh : Int), .int .u64 (Ll : Int)] 24
    rw [hgrh9, hX12]; exact h
  have hW := below2 hW hbX12
  go_upto_region 10 with fail
  rw [← hX12, ← hgrh9]
  clear hX12 hbX12 hgrh9
  clear hv ch c1 c2 c3 c4
  have rpq0 : ∀ p : Bl X12, p.W.cell? ⟨grp, 0, none⟩ = [.bool sx, .int .u64 (h : Int), .int .u64 (l : Int), .int .i64 len][0]? := fun p => (rp.below p.h).cell 0
  have rpq1 : ∀ p : Bl X12, p.W.cell? ⟨grp, 1, none⟩ = [.bool sx, .int .u64 (h : Int), .int .u64 (l : Int), .int .i64 len][1]? := fun p => (rp.below p.h).cell 1
  have rpq2 : ∀ p : Bl X12, p.W.cell? ⟨grp, 2, none⟩ = [.bool sx, .int .u64 (h : Int), .int .u64 (l : Int), .int .i64 len][2]? := fun p => (rp.below p.h).cell 2
  have rpq3 : ∀ p : Bl X12, p.W.cell? ⟨grp, 3, none⟩ = [.bool sx, .int .u64 (h : Int), .int .u64 (l : Int), .int .i64 len][3]? := fun p => (rp.below p.h).cell 3
  simp only [List.getElem?_cons_zero, List.getElem?_cons_succ] at rpq0 rpq1 rpq2 rpq3
  have raq0 : ∀ p : Bl X12, p.W.cell? ⟨gra, 0, none⟩ = [.int .u64 (ah : Int), .int .u64 (al : Int)][0]? := fun p => (ra.below p.h).cell 0
  have raq1 : ∀ p : Bl X12, p.W.cell? ⟨gra, 1, none⟩ = [.int .u64 (ah : Int), .int .u64 (al : Int)][1]? := fun p => (ra.below p.h).cell 1
  simp only [List.getElem?_cons_zero, List.getElem?_cons_succ] at raq0 raq1
  have rbq0 : ∀ p : Bl X12, p.W.cell? ⟨grb, 0, none⟩ = [.bool sx, .int .u64 (h : Int), .int .u64 (l : Int), .int .i64 (len + 1)][0]? := fun p => (rb.below p.h).cell 0
  have rbq1 : ∀ p : Bl X12, p.W.cell? ⟨grb, 1, none⟩ = [.bool sx, .int .u64 (h : Int), .int .u64 (l : Int), .int .i64 (len + 1)][1]? := fun p => (rb.below p.h).cell 1
  have rbq2 : ∀ p : Bl X12, p.W.cell? ⟨grb, 2, none⟩ = [.bool sx, .int .u64 (h : Int), .int .u64 (l : Int), .int .i64 (len + 1)][2]? := fun p => (rb.below p.h).cell 2
  have rbq3 : ∀ p : Bl X12, p.W.cell? ⟨grb, 3, none⟩ = [.bool sx, .int .u64 (h : Int), .int .u64 (l : Int), .int .i64 (len + 1)][3]? := fun p => (rb.below p.h).cell 3
  simp only [List.getElem?_cons_zero, List.getElem?_cons_succ] at rbq0 rbq1 rbq2 rbq3
  have rcq0 : ∀ p : Bl X12, p.W.cell? ⟨grc, 0, none⟩ = [.bool sx, .int .u64 (rh : Int), .int .u64 (rl : Int), .int .i64 (len + 1)][0]? := fun p => (rc.below p.h).cell 0
  have rcq1 : ∀ p : Bl X12, p.W.cell? ⟨grc, 1, none⟩ = [.bool sx, .int .u64 (rh : Int), .int .u64 (rl : Int), .int .i64 (len + 1)][1]? := fun p => (rc.below p.h).cell 1
  have rcq2 : ∀ p : Bl X12, p.W.cell? ⟨grc, 2, none⟩ = [.bool sx, .int .u64 (rh : Int), .int .u64 (rl : Int), .int .i64 (len + 1)][2]? := fun p => (rc.below p.h).cell 2
  have rcq3 : ∀ p : Bl X12, p.W.cell? ⟨grc, 3, none⟩ = [.bool sx, .int .u64 (rh : Int), .int .u64 (rl : Int), .int .i64 (len + 1)][3]? := fun p => (rc.below p.h).cell 3
  simp only [List.getElem?_cons_zero, List.getElem?_cons_succ] at rcq0 rcq1 rcq2 rcq3
  haveI := bl_ne X12
  refine wp_region_bl (by kernel_rfl) (by kernel_rfl) ?_
  repeat (quiet_step (first | (go_at_call 22; with_reducible exact bl_call (c5 _)) | (go_at_call 22; with_reducible exact bl_call (c6 _))))
  refine wpQuiet_nil ?_
  intro wq13 hw'
  obtain ⟨⟨wz, hq⟩, hw2⟩ := hw'
  subst hw2
  have hW := below2 hW hq
  clear this rpq0 rpq1 rpq2 rpq3 raq0 raq1 rbq0 rbq1 rbq2 rbq3 rcq0 rcq1 rcq2 rcq3
  have rp := rp.below hq
  have ra := ra.below hq
  have rb := rb.below hq
  have rc := rc.below hq
  have rd := rd.below hq
  have re := re.below hq
  have rg := rg.below hq
  have rh9 := rh9.below hq
  clear hq
  clear c5 c6
  obtain ⟨rpq0, rpq1, rpq2, rpq3, rpf⟩ := cells4 rp
  obtain ⟨raq0, raq1, raf⟩ := cells2 ra
  obtain ⟨rbq0, rbq1, rbq2, rbq3, rbf⟩ := cells4 rb
  obtain ⟨rcq0, rcq1, rcq2, rcq3, rcf⟩ := cells4 rc
  obtain ⟨req0, req1, ref⟩ := cells2 re
  obtain ⟨rgq0, rgq1, rgf⟩ := cells2 rg
  obtain ⟨rh9q0, rh9q1, rh9f⟩ := cells2 rh9
  cases x <;> cases y
  any_goals (exfalso; revert hxy; decide)
  all_goals go_wp2_with fail
  all_goals (go_at_call 22; refine (c7 _).mono ?_; rintro e wl ⟨rfl, hb⟩)
  all_goals have hW := below2 hW hb
  all_goals go_wp2_with fail
  all_goals go_ret
  all_goals exact ⟨rfl, hW⟩

set_option maxRecDepth 100000 in
theorem lifted (os : Os) (started : os.Started) (H : Type) (enc : TypeId × Value → H) :
    ReturnsInHanded {} Try.checked os 6 .any (Rows.addrHalvesSpec.pre6 enc Try.prog Try.f6 Rows.addrHalvesRow.domain false) (Rows.addrHalvesSpec.post enc Try.prog Try.f6 false true false false) := by
  refine returnsInHanded_of_change_sized (C := Try.checked) own started (by kernel_rfl) Try.func6
    (ChangeSpec.witness6 (enc := enc) (C := Try.checked) false ⟨#[], #[.agg #[.bool false, .int .u64 0, .int .u64 0, .int .i64 0], .agg #[.int .u64 0, .int .u64 0]], []⟩ 8 (by kernel_rfl) (by kernel_rfl) (by kernel_rfl) (by kernel_rfl)) ?_
  intro W base args ds gs before hval0 hW _ hsz0 _
  have hsz : (DataW.weightsEach Try.prog (Try.f6.params.toList ++ Rows.addrHalvesSpec.plain.varTypes Try.prog) (ds ++ gs)).all (· ≤ reachBytes) = true := hsz0
  clear hsz0
  have hval : ∀ (j : Nat) t v, Try.f6.params[j]? = some t → args[j]? = some v → Value.okWide Try.prog W .any base t v := hval0
  have hW' := hW
  obtain ⟨p, q, hA0, hV, rfl, hfz, hnd⟩ := hW
  have hA : DataW.TrodAll enc Try.prog W 0 (fun _ => true) true Try.f6.params.toList args.toList ds p := hA0
  rw [Try.params6] at hA hval hsz
  obtain ⟨v0, vs0, d0, ds0, p0, q0, hargs, rfl, rfl, h0, r0⟩ := trodAll_cons hA
  obtain ⟨v1, vs1, d1, ds1, p1, q1, rfl, rfl, rfl, h1, r1⟩ := trodAll_cons r0
  obtain ⟨rfl, rfl, rfl⟩ := trodAll_nil r1
  obtain rfl : args = #[v0, v1] := by cases args; simp_all
  obtain ⟨rfl, rfl⟩ := trodVars_none hV
  have k0 := h0
  have lt0 : ∀ x ∈ p0, x.block < W.heap.size := by obtain ⟨m, hm⟩ := k0; exact DataW.trod_lt m _ _ _ hm
  obtain ⟨n0, rfl, b0⟩ := Addr.open_prefix (hval 0 33 v0 rfl rfl) h0
  have k1 := h1
  have lt1 : ∀ x ∈ p1, x.block < W.heap.size := by obtain ⟨m, hm⟩ := k1; exact DataW.trod_lt m _ _ _ hm
  obtain ⟨n1, rfl, b1⟩ := Addr.open_addr (hval 1 24 v1 rfl rfl) h1
  clear hA0 hval0
  refine (walk n0 n1 W b0 b1).mono fun e W' ⟨he, bel⟩ => ?_
  subst he
  exact ⟨_, rfl, _, _, _, [], _, [], hW', trodAll_mk1 (shut_bool Try.underlying4 _), (trodAll_cons_mk (Below.trod laidOut (by kernel_rfl) (of_decide_eq_true (by kernel_rfl)) k0 bel lt0) (trodAll_cons_mk (Below.trod laidOut (by kernel_rfl) (of_decide_eq_true (by kernel_rfl)) k1 bel lt1) trodAll_mk0)), rfl, bel.frame _, fun h => by cases h⟩

theorem over : Rows.addrHalvesRow.holds Try.pinned (OpenSpec.ofChange Rows.addrHalvesSpec) :=
  OpenClaim.holds_of_wide 6 Try.f6 rfl rfl rfl rfl rfl rfl rfl ⟨rfl, rfl, rfl, rfl, rfl⟩ rfl rfl rfl rfl rfl (by kernel_rfl) Try.func6 (by kernel_rfl)
    (of_decide_eq_true (by kernel_rfl)) (by unfold Func.isWrapper; first | (rw [if_pos (by decide +kernel)]; kernel_rfl) | (rw [if_neg (by decide +kernel)]; exact ⟨rfl, rfl⟩))
    (fun os started H enc _ => lifted os started H enc)
end addrHalves
theorem ahalves_holds : Rows.AddrHalvesSaid := addrHalves.over
#print axioms ahalves_holds
end Go.Proofs.Ytengicljipfckaa
