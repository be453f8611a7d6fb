/- Functions that tell whether a link is of an interface, or behind one; the first link of which one tells so. -/
import Derived.Test.YtkjhnefbcnnjlaaGreatNv05
import Derived.Test.YtkjhnefbcnnjlaaGreatNv01
set_option linter.unusedVariables false
namespace Go.Proofs.YtkjhnefbcnnjlaaGreat.Tr
open Go.RowKit
open Go.Proofs.YtkjhnefbcnnjlaaGreat.Lk (HasRow)
open Go.Proofs.YtkjhnefbcnnjlaaGreat.Addr (Pf hiN loN pfV RowAt below2 below_new RowAt.cell RowAt.below RowAt.new RowAt.alloc cells4 Bl bl_ne wp_region_bl bl_call)
set_option maxHeartbeats 4000000 in
set_option maxRecDepth 20000 in
theorem place1_any (r : Rt) (p : Pf) (w : World) (hr : FitR r) (hp : FitP p) : Calls Tryz.prog 136 #[.agg #[.bool r.pf.six, .int .u64 (hiN r.pf.n : Int), .int .u64 (loN r.pf.n : Int), .int .i64 r.pf.len, .int .u8 (r.act.k : Int), .int .i64 r.act.i], .agg #[.bool p.six, .int .u64 (hiN p.n : Int), .int .u64 (loN p.n : Int), .int .i64 p.len]] w fun e w' => e = .returned (.int .i64 (ordP r.pf p)) ∧ Below w.heap.size w w' := by
  have cc := fun W => order_any r.pf p W hr.1 hp
  unfold pfV at cc
  obtain ⟨X, hX⟩ : ∃ X, X = (w.alloc (.cells #[.bool r.pf.six, .int .u64 (hiN r.pf.n : Int), .int .u64 (loN r.pf.n : Int), .int .i64 r.pf.len, .int .u8 (r.act.k : Int), .int .i64 r.act.i] 98)).alloc (.cells #[.bool p.six, .int .u64 (hiN p.n : Int), .int .u64 (loN p.n : Int), .int .i64 p.len] 33) := ⟨_, rfl⟩
  have hB : Below w.heap.size w X := by rw [hX]; exact below_new (below_new (Below.refl _ _) _) _
  have r0 : RowAt X w.heap.size [.bool r.pf.six, .int .u64 (hiN r.pf.n : Int), .int .u64 (loN r.pf.n : Int), .int .i64 r.pf.len, .int .u8 (r.act.k : Int), .int .i64 r.act.i] 98 := by rw [hX]; exact (RowAt.new _ _ _).alloc _
  have r1 : RowAt X (w.heap.size + 1) [.bool p.six, .int .u64 (hiN p.n : Int), .int .u64 (loN p.n : Int), .int .i64 p.len] 33 := by rw [hX, ← World.size_alloc w (.cells #[.bool r.pf.six, .int .u64 (hiN r.pf.n : Int), .int .u64 (loN r.pf.n : Int), .int .i64 r.pf.len, .int .u8 (r.act.k : Int), .int .i64 r.act.i] 98)]; exact RowAt.new _ _ _
  generalize ordP r.pf p = R at *
  generalize r.pf.six = s0 at *
  generalize (hiN r.pf.n : Int) = s1 at *
  generalize (loN r.pf.n : Int) = s2 at *
  generalize r.pf.len = s3 at *
  generalize (r.act.k : Int) = s4 at *
  generalize r.act.i = s5 at *
  generalize p.six = t0 at *
  generalize (hiN p.n : Int) = t1 at *
  generalize (loN p.n : Int) = t2 at *
  generalize p.len = t3 at *
  clear hr hp
  have y0 := r0.cell 0
  have y1 := r0.cell 1
  have y2 := r0.cell 2
  have y3 := r0.cell 3
  simp only [List.getElem?_cons_zero, List.getElem?_cons_succ] at y0 y1 y2 y3
  obtain ⟨z0, z1, z2, z3, zf⟩ := cells4 r1
  go_enter Tryz.func136, Tryz.ntmps136
  go_upto_region 1 with fail
  rw [← hX]
  clear hX r0 r1
  go_wp2_with fail
  go_at_call 76; refine (cc _).mono ?_; rintro e w1 ⟨rfl, hb1⟩
  have hF := below2 hB hb1
  clear y0 y1 y2 y3 z0 z1 z2 z3 zf cc
  go_wp2_with fail
  go_ret
  exact ⟨rfl, hF⟩
/-- where a prefix's route is, or would be -/
def Pos (l : List Rt) (p : Pf) (k : Nat) : Prop := k ≤ l.length ∧ (∀ j (h : j < l.length), j < k → ltP l[j].pf p) ∧ ∀ j (h : j < l.length), k ≤ j → ¬ ltP l[j].pf p
def isAt (l : List Rt) (p : Pf) (k : Nat) : Bool := match l[k]? with
  | some r => decide (ordP r.pf p = 0)
  | none => false
theorem lt_below {l : List Rt} (hu : Up l) {p : Pf} {i j : Nat} (hi : i < l.length) (hj : j < l.length) (hij : i ≤ j) (h : ltP l[j].pf p) : ltP l[i].pf p := by
  by_cases e : i = j
  · subst e; exact h
  · exact ltP_trans (List.pairwise_iff_getElem.1 hu i j hi hj (by omega)) h
set_option maxHeartbeats 8000000 in
set_option maxRecDepth 20000 in
theorem search_any (l : List Rt) (v : Value) (p : Pf) (w : World) (hl : HasRts w v l) (hu : Up l) (hf : ∀ r ∈ l, FitR r) (hp : FitP p) (hlen : l.length ≤ 256) :
    Calls Tryz.prog 135 #[v, .agg #[.bool p.six, .int .u64 (hiN p.n : Int), .int .u64 (loN p.n : Int), .int .i64 p.len], .func (.func 136) #[] #[]] w fun e w' => ∃ k, Pos l p k ∧ e = .returned (.tuple #[.int .i64 (k : Int), .bool (isAt l p k)]) ∧ Below w.heap.size w w' := by
  obtain ⟨o, c, rfl, hc1, hc2⟩ := Lk.HasRow.slice hl
  have HC : Hid (∀ k (h : k < l.length) (W : World), Calls Tryz.prog 136 #[.agg #[.bool l[k].pf.six, .int .u64 (hiN l[k].pf.n : Int), .int .u64 (loN l[k].pf.n : Int), .int .i64 l[k].pf.len, .int .u8 (l[k].act.k : Int), .int .i64 l[k].act.i], .agg #[.bool p.six, .int .u64 (hiN p.n : Int), .int .u64 (loN p.n : Int), .int .i64 p.len]] W fun e w' => e = .returned (.int .i64 (ordP l[k].pf p)) ∧ Below W.heap.size W w') := fun k h W => place1_any l[k] p W (hf _ (List.getElem_mem h)) hp
  obtain ⟨X, hX⟩ : ∃ X, X = w.alloc (.cells #[.bool p.six, .int .u64 (hiN p.n : Int), .int .u64 (loN p.n : Int), .int .i64 p.len] 33) := ⟨_, rfl⟩
  have hB : Below w.heap.size w X := by rw [hX]; exact below_new (Below.refl _ _) _
  have r1 : RowAt X w.heap.size [.bool p.six, .int .u64 (hiN p.n : Int), .int .u64 (loN p.n : Int), .int .i64 p.len] 33 := by rw [hX]; exact RowAt.new _ _ _
  have HR : Hid (∀ wr : World, Below X.heap.size X wr → HasRts wr (.slice o l.length c) l ∧ RowAt wr w.heap.size [.bool p.six, .int .u64 (hiN p.n : Int), .int .u64 (loN p.n : Int), .int .i64 p.len] 33) := fun wr hb => ⟨(hl.keep hB).keep hb, RowAt.below r1 hb⟩
  have HU : Hid (Up l) := hu
  obtain ⟨n, hn⟩ : ∃ n, n = l.length := ⟨_, rfl⟩
  have HN : Hid (n = l.length) := hn
  rw [← hn] at HR hc1 hlen ⊢
  generalize (hiN p.n : Int) = t1 at *
  generalize (loN p.n : Int) = t2 at *
  have HS : Hid (∃ t0 t3, t0 = p.six ∧ t3 = p.len) := ⟨_, _, rfl, rfl⟩
  obtain ⟨t0, ht0⟩ : ∃ t0, t0 = p.six := ⟨_, rfl⟩
  obtain ⟨t3, ht3⟩ : ∃ t3, t3 = p.len := ⟨_, rfl⟩
  rw [← ht0, ← ht3] at HC HR hX ⊢
  have hni : (n : Int) ≤ 256 := by omega
  clear hl hu hf hp hn r1 HS ht0 ht3
  go_enter Tryz.func135, Tryz.ntmps135
  go_upto_region 1 with fail
  rw [← hX]
  clear hX
  go_wp2_with fail
  go_loopw [9, 10] (fun u q wr => ∃ i j : Nat, i ≤ j ∧ j ≤ n ∧ u = .int .i64 i ∧ q = .int .i64 j ∧ Below X.heap.size X wr ∧ Hid ((∀ t (h : t < l.length), t < i → ltP l[t].pf p) ∧ ∀ t (h : t < l.length), j ≤ t → ¬ ltP l[t].pf p)) (fun u q _ => (Go.RowKit.intOf q).toNat - (Go.RowKit.intOf u).toNat)
  case atStart => exact ⟨0, n, by omega, Nat.le_refl _, rfl, rfl, Below.refl _ _, (⟨fun t h h2 => by omega, fun t h h2 => by have := HN.out; omega⟩ : (∀ t (h : t < l.length), t < 0 → ltP l[t].pf p) ∧ ∀ t (h : t < l.length), n ≤ t → ¬ ltP l[t].pf p)⟩
  case round =>
    obtain ⟨i, j, hij, hjn, rfl, rfl, hbr, HI⟩ := hrel
    obtain ⟨hh, rr⟩ := HR.out _ hbr
    have hin : (i : Int) ≤ 256 := by omega
    have hjn2 : (j : Int) ≤ 256 := by omega
    by_cases hlt : i < j
    · have hlti : (i : Int) < (j : Int) := by omega
      have hhl : (i + j) / 2 < l.length := by have := HN.out; omega
      obtain ⟨g1, i1, rfl, hg1, ax⟩ := HasRts.cell hh ((i + j) / 2) hhl
      have co := HC.out ((i + j) / 2) hhl
      have HL : Hid (ordP l[(i + j) / 2].pf p < 0 ↔ ltP l[(i + j) / 2].pf p) := ordP_lt _ _
      have HLB : Hid (ltP l[(i + j) / 2].pf p → ∀ t (h : t < l.length), t < (i + j) / 2 + 1 → ltP l[t].pf p) := fun hq t h ht => lt_below HU.out h hhl (by omega) hq
      have HLA : Hid (¬ ltP l[(i + j) / 2].pf p → ∀ t (h : t < l.length), (i + j) / 2 ≤ t → ¬ ltP l[t].pf p) := fun hq t h ht hc => hq (lt_below HU.out hhl h ht hc)
      go_upto_region 5 with fail
      rw [show ((i : Int) + (j : Int)) / 2 = (((i + j) / 2 : Nat) : Int) by omega]
      have hm1 : i ≤ (i + j) / 2 := by omega
      have hm2 : (i + j) / 2 < j := by omega
      generalize (i + j) / 2 = m at *
      have hmn : (m : Int) < (n : Int) := by omega
      obtain ⟨b0, b1, b2, b3, b4, b5⟩ := six_at ax
      clear ax
      obtain ⟨rk, hrk⟩ : ∃ rk, rk = l[m] := ⟨_, rfl⟩
      rw [← hrk] at co HL HLB HLA b0 b1 b2 b3 b4 b5
      clear hrk
      generalize ordP rk.pf p = OR at co HL
      have HD : Hid (decide (OR < 0) = true ↔ ltP rk.pf p) := by show _ ↔ _; rw [decide_eq_true_eq]; exact HL.out
      clear HL
      generalize rk.pf.six = s0 at *
      generalize (hiN rk.pf.n : Int) = s1 at *
      generalize (loN rk.pf.n : Int) = s2 at *
      generalize rk.pf.len = s3 at *
      generalize (rk.act.k : Int) = s4 at *
      generalize rk.act.i = s5 at *
      have u0 : ∀ p : Bl wr, p.W.cell? ⟨g1, i1 + m * 6, none⟩ = some (.bool s0) := fun p => (p.h.cell (p := ⟨g1, i1 + m * 6, none⟩) hg1).trans b0
      have u1 : ∀ p : Bl wr, p.W.cell? ⟨g1, i1 + m * 6 + 1, none⟩ = some (.int .u64 s1) := fun p => (p.h.cell (p := ⟨g1, i1 + m * 6 + 1, none⟩) hg1).trans b1
      have u2 : ∀ p : Bl wr, p.W.cell? ⟨g1, i1 + m * 6 + 2, none⟩ = some (.int .u64 s2) := fun p => (p.h.cell (p := ⟨g1, i1 + m * 6 + 2, none⟩) hg1).trans b2
      have u3 : ∀ p : Bl wr, p.W.cell? ⟨g1, i1 + m * 6 + 3, none⟩ = some (.int .i64 s3) := fun p => (p.h.cell (p := ⟨g1, i1 + m * 6 + 3, none⟩) hg1).trans b3
      have u4 : ∀ p : Bl wr, p.W.cell? ⟨g1, i1 + m * 6 + 4, none⟩ = some (.int .u8 s4) := fun p => (p.h.cell (p := ⟨g1, i1 + m * 6 + 4, none⟩) hg1).trans b4
      have u5 : ∀ p : Bl wr, p.W.cell? ⟨g1, i1 + m * 6 + 5, none⟩ = some (.int .i64 s5) := fun p => (p.h.cell (p := ⟨g1, i1 + m * 6 + 5, none⟩) hg1).trans b5
      have m0 : ∀ p : Bl wr, p.W.cell? ⟨w.heap.size, 0, none⟩ = some (.bool t0) := fun p => (rr.below p.h).cell 0
      have m1 : ∀ p : Bl wr, p.W.cell? ⟨w.heap.size, 1, none⟩ = some (.int .u64 t1) := fun p => (rr.below p.h).cell 1
      have m2 : ∀ p : Bl wr, p.W.cell? ⟨w.heap.size, 2, none⟩ = some (.int .u64 t2) := fun p => (rr.below p.h).cell 2
      have m3 : ∀ p : Bl wr, p.W.cell? ⟨w.heap.size, 3, none⟩ = some (.int .i64 t3) := fun p => (rr.below p.h).cell 3
      haveI := bl_ne wr
      clear b0 b1 b2 b3 b4 b5 hh rr
      refine wp_region_bl (by kernel_rfl) (by kernel_rfl) ?_
      repeat (go_big_quiet_step (first | (go_at_call 136; with_reducible exact bl_call (co _))))
      refine wpQuiet_nil ?_
      intro wq hw'
      obtain ⟨⟨wz, hq⟩, hw2⟩ := hw'
      subst hw2
      have hW := below2 hbr hq
      clear u0 u1 u2 u3 u4 u5 m0 m1 m2 m3 hbr hq co
      cases hOR : decide (OR < 0)
      · have HF : Hid ((∀ t (h : t < l.length), t < i → ltP l[t].pf p) ∧ ∀ t (h : t < l.length), m ≤ t → ¬ ltP l[t].pf p) := ⟨HI.out.1, HLA.out (fun h => by have := HD.out.2 h; rw [hOR] at this; cases this)⟩
        clear HLA HLB HD HI
        go_wp2_with fail
        go_roundw
        case rel => exact ⟨i, m, hm1, by omega, rfl, rfl, hW, HF⟩
        case measure => simp [Go.RowKit.intOf]; omega
      · have HF : Hid ((∀ t (h : t < l.length), t < m + 1 → ltP l[t].pf p) ∧ ∀ t (h : t < l.length), j ≤ t → ¬ ltP l[t].pf p) := ⟨HLB.out (HD.out.1 hOR), HI.out.2⟩
        clear HLA HLB HD HI
        go_wp2_with fail
        go_roundw
        case rel => exact ⟨m + 1, j, by omega, hjn, by go_num, rfl, hW, HF⟩
        case measure => simp [Go.RowKit.intOf]; omega
    · obtain rfl : i = j := by omega
      have hd : decide ((i : Int) < (i : Int)) = false := decide_eq_false (by omega)
      have HP : Hid (Pos l p i) := ⟨by have := HN.out; omega, HI.out.1, HI.out.2⟩
      clear HI
      by_cases hin2 : i < n
      · have hhl : i < l.length := by have := HN.out; omega
        obtain ⟨g1, i1, rfl, hg1, ax⟩ := HasRts.cell hh i hhl
        have co := HC.out i hhl
        have hii : (i : Int) < (n : Int) := by omega
        have HE : Hid (isAt l p i = decide (ordP l[i].pf p = 0)) := by show isAt l p i = _; unfold isAt; rw [List.getElem?_eq_getElem hhl]
        obtain ⟨b0, b1, b2, b3, b4, b5⟩ := six_at ax
        clear ax
        obtain ⟨rk, hrk⟩ : ∃ rk, rk = l[i] := ⟨_, rfl⟩
        rw [← hrk] at co HE b0 b1 b2 b3 b4 b5
        clear hrk
        generalize ordP rk.pf p = OR at co HE
        generalize rk.pf.six = s0 at *
        generalize (hiN rk.pf.n : Int) = s1 at *
        generalize (loN rk.pf.n : Int) = s2 at *
        generalize rk.pf.len = s3 at *
        generalize (rk.act.k : Int) = s4 at *
        generalize rk.act.i = s5 at *
        have u0 : ∀ p : Bl wr, p.W.cell? ⟨g1, i1 + i * 6, none⟩ = some (.bool s0) := fun p => (p.h.cell (p := ⟨g1, i1 + i * 6, none⟩) hg1).trans b0
        have u1 : ∀ p : Bl wr, p.W.cell? ⟨g1, i1 + i * 6 + 1, none⟩ = some (.int .u64 s1) := fun p => (p.h.cell (p := ⟨g1, i1 + i * 6 + 1, none⟩) hg1).trans b1
        have u2 : ∀ p : Bl wr, p.W.cell? ⟨g1, i1 + i * 6 + 2, none⟩ = some (.int .u64 s2) := fun p => (p.h.cell (p := ⟨g1, i1 + i * 6 + 2, none⟩) hg1).trans b2
        have u3 : ∀ p : Bl wr, p.W.cell? ⟨g1, i1 + i * 6 + 3, none⟩ = some (.int .i64 s3) := fun p => (p.h.cell (p := ⟨g1, i1 + i * 6 + 3, none⟩) hg1).trans b3
        have u4 : ∀ p : Bl wr, p.W.cell? ⟨g1, i1 + i * 6 + 4, none⟩ = some (.int .u8 s4) := fun p => (p.h.cell (p := ⟨g1, i1 + i * 6 + 4, none⟩) hg1).trans b4
        have u5 : ∀ p : Bl wr, p.W.cell? ⟨g1, i1 + i * 6 + 5, none⟩ = some (.int .i64 s5) := fun p => (p.h.cell (p := ⟨g1, i1 + i * 6 + 5, none⟩) hg1).trans b5
        have m0 : ∀ p : Bl wr, p.W.cell? ⟨w.heap.size, 0, none⟩ = some (.bool t0) := fun p => (rr.below p.h).cell 0
        have m1 : ∀ p : Bl wr, p.W.cell? ⟨w.heap.size, 1, none⟩ = some (.int .u64 t1) := fun p => (rr.below p.h).cell 1
        have m2 : ∀ p : Bl wr, p.W.cell? ⟨w.heap.size, 2, none⟩ = some (.int .u64 t2) := fun p => (rr.below p.h).cell 2
        have m3 : ∀ p : Bl wr, p.W.cell? ⟨w.heap.size, 3, none⟩ = some (.int .i64 t3) := fun p => (rr.below p.h).cell 3
        haveI := bl_ne wr
        clear b0 b1 b2 b3 b4 b5 hh rr
        go_wp2_with fail
        refine wp_region_bl (by kernel_rfl) (by kernel_rfl) ?_
        repeat (go_big_quiet_step (first | (go_at_call 136; with_reducible exact bl_call (co _))))
        refine wpQuiet_nil ?_
        intro wq hw'
        obtain ⟨⟨wz, hq⟩, hw2⟩ := hw'
        subst hw2
        have hW := below2 (below2 hB hbr) hq
        clear u0 u1 u2 u3 u4 u5 m0 m1 m2 m3 hbr hq co
        go_wp2_with fail
        go_ret2
        refine ⟨i, HP.out, ?_, hW⟩
        rw [HE.out]
        first
          | rfl
          | (by_cases h : OR = 0 <;> simp [h])
      · have hii : ¬ ((i : Int) < (n : Int)) := by omega
        have HE : Hid (isAt l p i = false) := by show isAt l p i = _; unfold isAt; rw [List.getElem?_eq_none (by have := HN.out; omega)]
        have hW := below2 hB hbr
        haveI := bl_ne wr
        clear hh rr
        go_wp2_with fail
        refine wp_region_bl (by kernel_rfl) (by kernel_rfl) ?_
        repeat (go_big_quiet_step (fail))
        refine wpQuiet_nil ?_
        intro wq hw'
        obtain ⟨⟨wz, hq⟩, hw2⟩ := hw'
        subst hw2
        replace hW := below2 hW hq
        go_wp2_with fail
        go_ret2
        exact ⟨i, HP.out, by rw [HE.out]; rfl, hW⟩
set_option maxHeartbeats 4000000 in
set_option maxRecDepth 20000 in
theorem place_any (l : List Rt) (v : Value) (p : Pf) (w : World) (hl : HasRts w v l) (hu : Up l) (hf : ∀ r ∈ l, FitR r) (hp : FitP p) (hlen : l.length ≤ 256) :
    Calls Tryz.prog 116 #[v, .agg #[.bool p.six, .int .u64 (hiN p.n : Int), .int .u64 (loN p.n : Int), .int .i64 p.len]] w fun e w' => ∃ k, Pos l p k ∧ e = .returned (.tuple #[.int .i64 (k : Int), .bool (isAt l p k)]) ∧ Below w.heap.size w w' := by
  have cs := fun W (hb : Below w.heap.size w W) => search_any l v p W (hl.keep hb) hu hf hp hlen
  obtain ⟨X, hX⟩ : ∃ X, X = w.alloc (.cells #[.bool p.six, .int .u64 (hiN p.n : Int), .int .u64 (loN p.n : Int), .int .i64 p.len] 33) := ⟨_, rfl⟩
  have hB : Below w.heap.size w X := by rw [hX]; exact below_new (Below.refl _ _) _
  have r1 : RowAt X w.heap.size [.bool p.six, .int .u64 (hiN p.n : Int), .int .u64 (loN p.n : Int), .int .i64 p.len] 33 := by rw [hX]; exact RowAt.new _ _ _
  obtain ⟨z0, z1, z2, z3, zf⟩ := cells4 r1
  obtain ⟨o, c, rfl, hc1, hc2⟩ := Lk.HasRow.slice hl
  clear hl hu hf hp
  go_enter Tryz.func116, Tryz.ntmps116
  go_upto_region 1 with fail
  rw [← hX]
  clear hX r1
  go_wp2_with fail
  go_at_call 135; refine (cs _ hB).mono ?_; rintro e w1 ⟨k, hk, rfl, hb1⟩
  have hF := below2 hB hb1
  clear z0 z1 z2 z3 zf cs
  go_wp2_with fail
  go_ret2
  exact ⟨k, hk, rfl, hF⟩
end Go.Proofs.YtkjhnefbcnnjlaaGreat.Tr
namespace Go.Proofs.YtkjhnefbcnnjlaaGreat.Tr
open Go.RowKit
open Go.Proofs.YtkjhnefbcnnjlaaGreat.Addr (Pf okP)
open Go.Proofs.YtkjhnefbcnnjlaaGreat.Lk (HasRow addr_add)
def aheadT (l : List Rt) (p : Pf) : List Rt := l.filter (fun s => decide (ordP s.pf p < 0))
def behindT (l : List Rt) (p : Pf) : List Rt := l.filter (fun s => decide (0 < ordP s.pf p))
def othersT (l : List Rt) (p : Pf) : List Rt := l.filter (fun s => !decide (ordP s.pf p = 0))
def insT (l : List Rt) (r : Rt) : List Rt := aheadT l r.pf ++ ([r] ++ behindT l r.pf)
def putT (l : List Rt) (r : Rt) : List Rt × Int := if okT l && okR r then (if (othersT l r.pf).length = 256 then (l, 8) else (insT l r, 0)) else ([], 2)
def findT (l : List Rt) (p : Pf) : Option Rt := l.find? (fun s => decide (ordP s.pf p = 0))
def delT (l : List Rt) (p : Pf) : List Rt × Int := if okT l && okP p then (othersT l p, if (othersT l p).length = l.length then 3 else 0) else ([], 2)
theorem filt_all {α : Type} {f : α → Bool} {l : List α} (h : ∀ x ∈ l, f x = true) : l.filter f = l := List.filter_eq_self.2 h
theorem filt_none {α : Type} {f : α → Bool} {l : List α} (h : ∀ x ∈ l, f x = false) : l.filter f = [] := List.filter_eq_nil_iff.2 (fun x hx => by rw [h x hx]; simp)
/-- the list in three parts about a place -/
theorem parts_at {l : List Rt} {p : Pf} {k : Nat} (hu : Up l) (hk : Pos l p k) (hi : isAt l p k = true) : ∃ h : k < l.length, l[k].pf = p ∧ l.take k = aheadT l p ∧ l.drop (k + 1) = behindT l p ∧ othersT l p = l.take k ++ l.drop (k + 1) := by
  unfold isAt at hi
  have hkl : k < l.length := by
    rcases Nat.lt_or_ge k l.length with h | h
    · exact h
    · rw [List.getElem?_eq_none h] at hi; cases hi
  rw [List.getElem?_eq_getElem hkl] at hi
  simp only [decide_eq_true_eq] at hi
  have he : l[k].pf = p := (ordP_eq _ _).1 hi
  have hsp : l = l.take k ++ (l[k] :: l.drop (k + 1)) := by
    have := (List.take_append_drop k l).symm
    rw [List.drop_eq_getElem_cons hkl] at this
    exact this
  have h1 : ∀ x ∈ l.take k, ordP x.pf p < 0 := fun x hx => by
    obtain ⟨j, hj, rfl⟩ := List.getElem_of_mem hx
    rw [List.length_take] at hj
    rw [List.getElem_take]
    exact (ordP_lt _ _).2 (hk.2.1 j (by omega) (by omega))
  have h2 : ∀ x ∈ l.drop (k + 1), 0 < ordP x.pf p := fun x hx => by
    obtain ⟨j, hj, rfl⟩ := List.getElem_of_mem hx
    rw [List.length_drop] at hj
    rw [List.getElem_drop, ordP_gt]
    have := List.pairwise_iff_getElem.1 hu k (k + 1 + j) hkl (by omega) (by omega)
    rw [he] at this
    exact this
  have hz : ordP l[k].pf p = 0 := hi
  refine ⟨hkl, he, ?_, ?_, ?_⟩
  · unfold aheadT
    conv => rhs; rw [hsp]
    rw [List.filter_append, filt_all (fun x hx => decide_eq_true (h1 x hx)), filt_none (fun x hx => ?_), List.append_nil]
    rcases List.mem_cons.1 hx with rfl | hx
    · exact decide_eq_false (by omega)
    · have := h2 x hx; exact decide_eq_false (by omega)
  · unfold behindT
    conv => rhs; rw [hsp]
    rw [List.filter_append, filt_none (fun x hx => by have := h1 x hx; exact decide_eq_false (by omega)), List.filter_cons_of_neg (by rw [hz]; decide), List.nil_append, filt_all (fun x hx => decide_eq_true (h2 x hx))]
  · unfold othersT
    conv => lhs; rw [hsp]
    rw [List.filter_append, filt_all (fun x hx => by have := h1 x hx; simp; omega), List.filter_cons_of_neg (by rw [hz]; decide), filt_all (fun x hx => by have := h2 x hx; simp; omega)]
theorem parts_off {l : List Rt} {p : Pf} {k : Nat} (hu : Up l) (hk : Pos l p k) (hi : isAt l p k = false) : l.take k = aheadT l p ∧ l.drop k = behindT l p ∧ othersT l p = l := by
  have h1 : ∀ x ∈ l.take k, ordP x.pf p < 0 := fun x hx => by
    obtain ⟨j, hj, rfl⟩ := List.getElem_of_mem hx
    rw [List.length_take] at hj
    rw [List.getElem_take]
    exact (ordP_lt _ _).2 (hk.2.1 j (by omega) (by omega))
  have h2 : ∀ x ∈ l.drop k, 0 < ordP x.pf p := fun x hx => by
    obtain ⟨j, hj, rfl⟩ := List.getElem_of_mem hx
    rw [List.length_drop] at hj
    rw [List.getElem_drop]
    have hkl : k < l.length := by omega
    have hnk : 0 < ordP l[k].pf p := by
      unfold isAt at hi
      rw [List.getElem?_eq_getElem hkl] at hi
      simp only [decide_eq_false_iff_not] at hi
      have := hk.2.2 k hkl (Nat.le_refl _)
      rw [← ordP_lt] at this
      omega
    by_cases e : j = 0
    · subst e; exact hnk
    · rw [ordP_gt] at hnk ⊢
      exact ltP_trans hnk (List.pairwise_iff_getElem.1 hu k (k + j) hkl (by omega) (by omega))
  have hsp := (List.take_append_drop k l).symm
  refine ⟨?_, ?_, ?_⟩
  · unfold aheadT
    conv => rhs; rw [hsp]
    rw [List.filter_append, filt_all (fun x hx => decide_eq_true (h1 x hx)), filt_none (fun x hx => by have := h2 x hx; exact decide_eq_false (by omega)), List.append_nil]
  · unfold behindT
    conv => rhs; rw [hsp]
    rw [List.filter_append, filt_none (fun x hx => by have := h1 x hx; exact decide_eq_false (by omega)), List.nil_append, filt_all (fun x hx => decide_eq_true (h2 x hx))]
  · unfold othersT
    conv => lhs; rw [hsp]
    rw [List.filter_append, filt_all (fun x hx => by have := h1 x hx; simp; omega), filt_all (fun x hx => by have := h2 x hx; simp; omega), List.take_append_drop]
/-- parts of a row in memory -/
theorem rtCs_take (l : List Rt) : ∀ j, (rtCs l).take (j * 6) = rtCs (l.take j) := by
  induction l with
  | nil => intro j; simp [rtCs]
  | cons x l ih =>
    intro j
    cases j with
    | zero => simp [rtCs]
    | succ j =>
      show (rtC x ++ rtCs l).take ((j + 1) * 6) = rtC x ++ rtCs (l.take j)
      rw [List.take_append, ← ih j]
      congr 1
      · rw [List.take_of_length_le (by show 6 ≤ _; omega)]
      · show (rtCs l).take ((j + 1) * 6 - 6) = _
        congr 1
        omega
theorem rtCs_drop (l : List Rt) : ∀ j, (rtCs l).drop (j * 6) = rtCs (l.drop j) := by
  induction l with
  | nil => intro j; simp [rtCs]
  | cons x l ih =>
    intro j
    cases j with
    | zero => simp
    | succ j =>
      show (rtC x ++ rtCs l).drop ((j + 1) * 6) = rtCs (l.drop j)
      rw [List.drop_append, ← ih j, List.drop_of_length_le (l := rtC x) (by show 6 ≤ _; omega), List.nil_append]
      show (rtCs l).drop ((j + 1) * 6 - 6) = _
      congr 1
      omega
theorem HasRts.take {W : World} {o : Option Addr} {n c : Nat} {l : List Rt} (h : HasRts W (.slice o n c) l) (k : Nat) (hk : k ≤ l.length) : HasRts W (.slice o k c) (l.take k) := by
  have hlk : (l.take k).length = k := by rw [List.length_take]; omega
  show HasRow _ _ _ _ _
  rw [hlk]
  refine ⟨by rw [rtCs_len, hlk], ?_⟩
  rcases h.2 with ⟨e, h0⟩ | ⟨a, cap, e, h1, h2, h3, h4⟩
  · injection e with e1 e2 e3
    subst e1 e3
    have hk0 : k = 0 := by omega
    subst hk0
    exact .inl ⟨rfl, rfl⟩
  · injection e with e1 e2 e3
    subst e1 e3
    refine .inr ⟨a, c, rfl, by omega, h2, fun hp => h3 (by omega), fun j hj => ?_⟩
    rw [h4 j (by omega), ← rtCs_take, List.getElem?_take, if_pos hj]
theorem HasRts.drop {W : World} {b i n c : Nat} {l : List Rt} (h : HasRts W (.slice (some ⟨b, i, none⟩) n c) l) (k : Nat) (hk : k ≤ l.length) : HasRts W (.slice (some ⟨b, i + k * 6, none⟩) (l.length - k) (c - k)) (l.drop k) := by
  have hlk : (l.drop k).length = l.length - k := by rw [List.length_drop]
  show HasRow _ _ _ _ _
  rw [hlk]
  refine ⟨by rw [rtCs_len, hlk], ?_⟩
  rcases h.2 with ⟨e, h0⟩ | ⟨a, cap, e, h1, h2, h3, h4⟩
  · cases e
  · injection e with e1 e2 e3
    injection e1 with e1
    subst e1 e3
    refine .inr ⟨_, _, rfl, by omega, by omega, fun hp => ⟨rfl, (h3 (by omega)).2⟩, fun j hj => ?_⟩
    have := h4 (k * 6 + j) (by omega)
    rw [addr_add] at this ⊢
    rw [Nat.add_assoc, this, ← rtCs_drop, List.getElem?_drop]
/-- nothing of a row -/
theorem has_empty (W : World) (a : Addr) (c : Nat) (hc : c ≤ 9223372036854775807) : HasRts W (.slice (some a) 0 c) [] :=
  ⟨rfl, .inr ⟨a, c, rfl, Nat.zero_le _, hc, fun h => absurd h (by decide), fun j hj => absurd hj (by show ¬ j < 0 * 6; omega)⟩⟩
end Go.Proofs.YtkjhnefbcnnjlaaGreat.Tr
namespace Go.Proofs.YtkjhnefbcnnjlaaGreat.Lk
open Go.RowKit
open Go.Proofs.YtkjhnefbcnnjlaaGreat.Addr (RowAt below_new RowAt.new RowAt.alloc cells2)
set_option maxHeartbeats 4000000 in
theorem right_walk (a b : Int) (w : World) : Calls Tryz.prog 77 #[.agg #[.int .i64 a, .int .i64 b]] w fun e w' => e = .returned (.bool (decide (0 ≤ a) && decide (a ≤ 65536) && decide (0 ≤ b) && decide (b ≤ 1048576))) ∧ Below w.heap.size w w' := by
  obtain ⟨X, hX⟩ : ∃ X, X = w.alloc (.cells #[.int .i64 a, .int .i64 b] 101) := ⟨_, rfl⟩
  have hB : Below w.heap.size w X := by rw [hX]; exact below_new (Below.refl _ _) _
  have r0 : RowAt X w.heap.size [.int .i64 a, .int .i64 b] 101 := by rw [hX]; exact RowAt.new _ _ _
  obtain ⟨x0, x1, xf⟩ := cells2 r0
  clear r0
  generalize hR : (decide (0 ≤ a) && decide (a ≤ 65536) && decide (0 ≤ b) && decide (b ≤ 1048576)) = R
  have HR : Hid ((decide (0 ≤ a) && decide (a ≤ 65536) && decide (0 ≤ b) && decide (b ≤ 1048576)) = R) := hR
  clear hR
  cases q0 : decide (0 ≤ a)
  · go_enter Tryz.func77, Tryz.ntmps77
    go_upto_region 1 with fail
    rw [← hX]
    clear hX
    go_wp2_with fail
    go_ret
    exact ⟨by rw [← HR.out]; simp [q0], hB⟩
  cases q1 : decide (a ≤ 65536)
  · go_enter Tryz.func77, Tryz.ntmps77
    go_upto_region 1 with fail
    rw [← hX]
    clear hX
    go_wp2_with fail
    go_ret
    exact ⟨by rw [← HR.out]; simp [q0, q1], hB⟩
  cases q2 : decide (0 ≤ b)
  · go_enter Tryz.func77, Tryz.ntmps77
    go_upto_region 1 with fail
    rw [← hX]
    clear hX
    go_wp2_with fail
    go_ret
    exact ⟨by rw [← HR.out]; simp [q0, q1, q2], hB⟩
  cases q3 : decide (b ≤ 1048576)
  · go_enter Tryz.func77, Tryz.ntmps77
    go_upto_region 1 with fail
    rw [← hX]
    clear hX
    go_wp2_with fail
    go_ret
    exact ⟨by rw [← HR.out]; simp [q0, q1, q2, q3], hB⟩
  go_enter Tryz.func77, Tryz.ntmps77
  go_upto_region 1 with fail
  rw [← hX]
  clear hX
  go_wp2_with fail
  go_ret
  exact ⟨by rw [← HR.out]; simp [q0, q1, q2, q3], hB⟩
theorem right_any (x : Lk) (w : World) : Calls Tryz.prog 77 #[.agg #[.int .i64 x.iface, .int .i64 x.peer]] w fun e w' => e = .returned (.bool (okK x)) ∧ Below w.heap.size w w' := right_walk x.iface x.peer w
set_option maxHeartbeats 4000000 in
theorem one_walk (a b : Int) (w : World) : Calls Tryz.prog 80 #[.agg #[.int .i64 a, .int .i64 b]] w fun e w' => e = .returned (.bool (decide (0 ≤ a) && decide (a ≤ 65536) && decide (0 ≤ b) && decide (b ≤ 1048576))) ∧ Below w.heap.size w w' := by
  obtain ⟨X, hX⟩ : ∃ X, X = w.alloc (.cells #[.int .i64 a, .int .i64 b] 101) := ⟨_, rfl⟩
  have hB : Below w.heap.size w X := by rw [hX]; exact below_new (Below.refl _ _) _
  have r0 : RowAt X w.heap.size [.int .i64 a, .int .i64 b] 101 := by rw [hX]; exact RowAt.new _ _ _
  obtain ⟨x0, x1, xf⟩ := cells2 r0
  clear r0
  generalize hR : (decide (0 ≤ a) && decide (a ≤ 65536) && decide (0 ≤ b) && decide (b ≤ 1048576)) = R
  have HR : Hid ((decide (0 ≤ a) && decide (a ≤ 65536) && decide (0 ≤ b) && decide (b ≤ 1048576)) = R) := hR
  clear hR
  cases q0 : decide (0 ≤ a)
  · go_enter Tryz.func80, Tryz.ntmps80
    go_upto_region 1 with fail
    rw [← hX]
    clear hX
    go_wp2_with fail
    go_ret
    exact ⟨by rw [← HR.out]; simp [q0], hB⟩
  cases q1 : decide (a ≤ 65536)
  · go_enter Tryz.func80, Tryz.ntmps80
    go_upto_region 1 with fail
    rw [← hX]
    clear hX
    go_wp2_with fail
    go_ret
    exact ⟨by rw [← HR.out]; simp [q0, q1], hB⟩
  cases q2 : decide (0 ≤ b)
  · go_enter Tryz.func80, Tryz.ntmps80
    go_upto_region 1 with fail
    rw [← hX]
    clear hX
    go_wp2_with fail
    go_ret
    exact ⟨by rw [← HR.out]; simp [q0, q1, q2], hB⟩
  cases q3 : decide (b ≤ 1048576)
  · go_enter Tryz.func80, Tryz.ntmps80
    go_upto_region 1 with fail
    rw [← hX]
    clear hX
    go_wp2_with fail
    go_ret
    exact ⟨by rw [← HR.out]; simp [q0, q1, q2, q3], hB⟩
  go_enter Tryz.func80, Tryz.ntmps80
  go_upto_region 1 with fail
  rw [← hX]
  clear hX
  go_wp2_with fail
  go_ret
  exact ⟨by rw [← HR.out]; simp [q0, q1, q2, q3], hB⟩
theorem one_any (x : Lk) (w : World) : Calls Tryz.prog 80 #[.agg #[.int .i64 x.iface, .int .i64 x.peer]] w fun e w' => e = .returned (.bool (okK x)) ∧ Below w.heap.size w w' := one_walk x.iface x.peer w
end Go.Proofs.YtkjhnefbcnnjlaaGreat.Lk
namespace Go.Proofs.YtkjhnefbcnnjlaaGreat.Lk
open Go.RowKit
open Go.Proofs.YtkjhnefbcnnjlaaGreat.Addr (RowAt below2 below_new RowAt.cell RowAt.new RowAt.alloc cells2)
theorem of_any (i : Int) (w : World) : Calls Tryz.prog 119 #[.int .i64 i] w fun e w' => e = .returned (.func (.func 138) #[] #[.pointer (some ⟨w.heap.size, 0, none⟩)]) ∧ w' = w.alloc (.cells #[.int .i64 i] 3) := by
  go_enter Tryz.func119, Tryz.ntmps119
  go_wp2_with fail
  go_ret
  exact ⟨rfl, rfl⟩
/-- where the first element is that p holds of -/
def idxL {α : Type} (p : α → Bool) (l : List α) : Int := match l.findIdx? p with
  | some k => (k : Int)
  | none => -1
theorem idx_at {α : Type} {p : α → Bool} {l : List α} {k : Nat} (hk : k < l.length) (h : ∀ j (hj : j < l.length), j < k → p l[j] = false) (hp : p l[k] = true) : idxL p l = (k : Int) := by
  unfold idxL
  rw [(List.findIdx?_eq_some_iff_getElem (xs := l) (p := p) (i := k)).2 ⟨hk, hp, fun j hj => by rw [h j (by omega) hj]; simp⟩]
theorem idx_none {α : Type} {p : α → Bool} {l : List α} (h : ∀ j (hj : j < l.length), p l[j] = false) : idxL p l = -1 := by
  unfold idxL
  rw [List.findIdx?_eq_none_iff.2 (fun x hx => by obtain ⟨j, hj, rfl⟩ := List.getElem_of_mem hx; exact h j hj)]
set_option maxHeartbeats 2000000 in
theorem of1_any (x : Lk) (i : Int) (g : Nat) (w : World) (hg : w.cell? ⟨g, 0, none⟩ = some (.int .i64 i)) (hl : g < w.heap.size) : Calls Tryz.prog 138 #[.agg #[.int .i64 x.iface, .int .i64 x.peer], .pointer (some ⟨g, 0, none⟩)] w fun e w' => e = .returned (.bool (decide (x.iface = i))) ∧ Below w.heap.size w w' := by
  obtain ⟨a, b⟩ := x
  simp only
  obtain ⟨X, hX⟩ : ∃ X, X = w.alloc (.cells #[.int .i64 a, .int .i64 b] 101) := ⟨_, rfl⟩
  have hB : Below w.heap.size w X := by rw [hX]; exact below_new (Below.refl _ _) _
  have r0 : RowAt X w.heap.size [.int .i64 a, .int .i64 b] 101 := by rw [hX]; exact RowAt.new _ _ _
  have hg2 : X.cell? ⟨g, 0, none⟩ = some (.int .i64 i) := (hB.cell (p := ⟨g, 0, none⟩) hl).trans hg
  obtain ⟨x0, x1, xf⟩ := cells2 r0
  go_enter Tryz.func138, Tryz.ntmps138
  go_upto_region 1 with fail
  rw [← hX]
  clear hX r0
  go_wp2_with fail
  have hB2 := hB
  go_ret
  exact ⟨by first | rfl | simp | (congr 2; rw [Bool.eq_iff_iff]; simp), hB2⟩
set_option maxHeartbeats 2000000 in
theorem put1_any (x : Lk) (i : Int) (g : Nat) (w : World) (hg : w.cell? ⟨g, 0, none⟩ = some (.int .i64 i)) (hl : g < w.heap.size) : Calls Tryz.prog 121 #[.agg #[.int .i64 x.iface, .int .i64 x.peer], .pointer (some ⟨g, 0, none⟩)] w fun e w' => e = .returned (.bool (decide (i < x.iface))) ∧ Below w.heap.size w w' := by
  obtain ⟨a, b⟩ := x
  simp only
  obtain ⟨X, hX⟩ : ∃ X, X = w.alloc (.cells #[.int .i64 a, .int .i64 b] 101) := ⟨_, rfl⟩
  have hB : Below w.heap.size w X := by rw [hX]; exact below_new (Below.refl _ _) _
  have r0 : RowAt X w.heap.size [.int .i64 a, .int .i64 b] 101 := by rw [hX]; exact RowAt.new _ _ _
  have hg2 : X.cell? ⟨g, 0, none⟩ = some (.int .i64 i) := (hB.cell (p := ⟨g, 0, none⟩) hl).trans hg
  obtain ⟨x0, x1, xf⟩ := cells2 r0
  go_enter Tryz.func121, Tryz.ntmps121
  go_upto_region 1 with fail
  rw [← hX]
  clear hX r0
  go_wp2_with fail
  have hB2 := hB
  go_ret
  exact ⟨by first | rfl | simp | (congr 2; rw [Bool.eq_iff_iff]; simp), hB2⟩
set_option maxHeartbeats 4000000 in
set_option maxRecDepth 20000 in
theorem idxOf_any (l : List Lk) (v : Value) (i : Int) (g : Nat) (w : World) (hl : HasLks w v l) (hg : w.cell? ⟨g, 0, none⟩ = some (.int .i64 i)) (hlt : g < w.heap.size) :
    Calls Tryz.prog 120 #[v, .func (.func 138) #[] #[.pointer (some ⟨g, 0, none⟩)]] w fun e w' => e = .returned (.int .i64 (idxL (fun x : Lk => decide (x.iface = i)) l)) ∧ Below w.heap.size w w' := by
  obtain ⟨o, c, rfl, hc1, hc2⟩ := HasRow.slice hl
  have HR : Hid (∀ wr : World, Below w.heap.size w wr → HasLks wr (.slice o l.length c) l) := fun wr hb => hl.keep hb
  have HG : Hid (∀ wr : World, Below w.heap.size w wr → wr.cell? ⟨g, 0, none⟩ = some (.int .i64 i) ∧ g < wr.heap.size) := fun wr hb => ⟨(hb.cell (p := ⟨g, 0, none⟩) hlt).trans hg, Nat.lt_of_lt_of_le hlt hb.size⟩
  obtain ⟨n, hn⟩ : ∃ n, n = l.length := ⟨_, rfl⟩
  have HN : Hid (n = l.length) := hn
  rw [← hn] at HR hc1 ⊢
  have hni : (n : Int) ≤ 9223372036854775807 := by omega
  obtain ⟨R, hR⟩ : ∃ R, R = idxL (fun x : Lk => decide (x.iface = i)) l := ⟨_, rfl⟩
  have HRD : Hid (R = idxL (fun x : Lk => decide (x.iface = i)) l) := hR
  rw [← hR]
  clear hl hn hR hg hlt
  go_enter Tryz.func120, Tryz.ntmps120
  go_wp2_with fail
  go_loopw [8] (fun q wr => ∃ k : Nat, k ≤ n ∧ q = .int .i64 k ∧ Below w.heap.size w wr ∧ Hid (∀ j (hj : j < l.length), j < k → (fun x : Lk => decide (x.iface = i)) l[j] = false)) (fun q _ => n - (intOf q).toNat)
  case atStart => exact ⟨0, by omega, rfl, Below.refl _ _, fun j hj h => absurd h (Nat.not_lt_zero _)⟩
  case round =>
    obtain ⟨k, hk, rfl, hB, HI⟩ := hrel
    by_cases hlt : k < n
    · have hkz : k < l.length := by rw [← HN.out]; exact hlt
      obtain ⟨g1, i1, rfl, hg1, a0, a1⟩ := HasLks.cell (HR.out _ hB) k hkz
      obtain ⟨hgc, hgl⟩ := HG.out _ hB
      have cc := fun W => of1_any l[k] i g W
      have HV1 : Hid ((fun x : Lk => decide (x.iface = i)) l[k] = true → R = (k : Int)) := fun h => by rw [HRD.out]; exact idx_at hkz HI.out h
      have HV2 : Hid ((fun x : Lk => decide (x.iface = i)) l[k] = false → ∀ j (hj : j < l.length), j < k + 1 → (fun x : Lk => decide (x.iface = i)) l[j] = false) := fun h j hj hjk => by
        by_cases e : j = k
        · subst e; exact h
        · exact HI.out j hj (by omega)
      have hki : (k : Int) < (n : Int) := by omega
      have cc2 := cc wr hgc hgl
      clear cc HI hgc hgl hg1
      simp only at HV1 HV2
      generalize hD : decide (l[k].iface = i) = D at *
      generalize l[k].iface = ra at *
      generalize l[k].peer = rb at *
      clear hD
      go_wp2_with fail
      go_at_call 138; refine cc2.mono ?_; rintro e w2 ⟨rfl, hb2⟩
      have hB2 := below2 hB hb2
      cases D
      · have HV := HV2.out rfl
        have HV3 : Hid (∀ j (hj : j < l.length), j < k + 1 → (fun x : Lk => decide (x.iface = i)) l[j] = false) := HV
        clear HV HV1 HV2 cc2
        go_wp2_with fail
        go_roundw
        case rel => exact ⟨k + 1, by omega, by go_num, hB2, HV3⟩
        case measure => simp [intOf]; omega
      · have HV : Hid (R = (k : Int)) := HV1.out rfl
        clear HV1 HV2 cc2
        go_wp2_with fail
        go_ret
        exact ⟨by have h := HV.out; subst h; rfl, hB2⟩
    · have hkn : decide ((k : Int) < (n : Int)) = false := decide_eq_false (by omega)
      have HV : Hid (R = -1) := by show _ = _; rw [HRD.out]; exact idx_none (fun j hj => HI.out j hj (by have := HN.out; omega))
      clear HI
      go_wp2_with fail
      go_ret
      exact ⟨by have h := HV.out; subst h; rfl, hB⟩
set_option maxHeartbeats 4000000 in
set_option maxRecDepth 20000 in
theorem idxPut_any (l : List Lk) (v : Value) (i : Int) (g : Nat) (w : World) (hl : HasLks w v l) (hg : w.cell? ⟨g, 0, none⟩ = some (.int .i64 i)) (hlt : g < w.heap.size) :
    Calls Tryz.prog 120 #[v, .func (.func 121) #[] #[.pointer (some ⟨g, 0, none⟩)]] w fun e w' => e = .returned (.int .i64 (idxL (fun x : Lk => decide (i < x.iface)) l)) ∧ Below w.heap.size w w' := by
  obtain ⟨o, c, rfl, hc1, hc2⟩ := HasRow.slice hl
  have HR : Hid (∀ wr : World, Below w.heap.size w wr → HasLks wr (.slice o l.length c) l) := fun wr hb => hl.keep hb
  have HG : Hid (∀ wr : World, Below w.heap.size w wr → wr.cell? ⟨g, 0, none⟩ = some (.int .i64 i) ∧ g < wr.heap.size) := fun wr hb => ⟨(hb.cell (p := ⟨g, 0, none⟩) hlt).trans hg, Nat.lt_of_lt_of_le hlt hb.size⟩
  obtain ⟨n, hn⟩ : ∃ n, n = l.length := ⟨_, rfl⟩
  have HN : Hid (n = l.length) := hn
  rw [← hn] at HR hc1 ⊢
  have hni : (n : Int) ≤ 9223372036854775807 := by omega
  obtain ⟨R, hR⟩ : ∃ R, R = idxL (fun x : Lk => decide (i < x.iface)) l := ⟨_, rfl⟩
  have HRD : Hid (R = idxL (fun x : Lk => decide (i < x.iface)) l) := hR
  rw [← hR]
  clear hl hn hR hg hlt
  go_enter Tryz.func120, Tryz.ntmps120
  go_wp2_with fail
  go_loopw [8] (fun q wr => ∃ k : Nat, k ≤ n ∧ q = .int .i64 k ∧ Below w.heap.size w wr ∧ Hid (∀ j (hj : j < l.length), j < k → (fun x : Lk => decide (i < x.iface)) l[j] = false)) (fun q _ => n - (intOf q).toNat)
  case atStart => exact ⟨0, by omega, rfl, Below.refl _ _, fun j hj h => absurd h (Nat.not_lt_zero _)⟩
  case round =>
    obtain ⟨k, hk, rfl, hB, HI⟩ := hrel
    by_cases hlt : k < n
    · have hkz : k < l.length := by rw [← HN.out]; exact hlt
      obtain ⟨g1, i1, rfl, hg1, a0, a1⟩ := HasLks.cell (HR.out _ hB) k hkz
      obtain ⟨hgc, hgl⟩ := HG.out _ hB
      have cc := fun W => put1_any l[k] i g W
      have HV1 : Hid ((fun x : Lk => decide (i < x.iface)) l[k] = true → R = (k : Int)) := fun h => by rw [HRD.out]; exact idx_at hkz HI.out h
      have HV2 : Hid ((fun x : Lk => decide (i < x.iface)) l[k] = false → ∀ j (hj : j < l.length), j < k + 1 → (fun x : Lk => decide (i < x.iface)) l[j] = false) := fun h j hj hjk => by
        by_cases e : j = k
        · subst e; exact h
        · exact HI.out j hj (by omega)
      have hki : (k : Int) < (n : Int) := by omega
      have cc2 := cc wr hgc hgl
      clear cc HI hgc hgl hg1
      simp only at HV1 HV2
      generalize hD : decide (i < l[k].iface) = D at *
      generalize l[k].iface = ra at *
      generalize l[k].peer = rb at *
      clear hD
      go_wp2_with fail
      go_at_call 121; refine cc2.mono ?_; rintro e w2 ⟨rfl, hb2⟩
      have hB2 := below2 hB hb2
      cases D
      · have HV := HV2.out rfl
        have HV3 : Hid (∀ j (hj : j < l.length), j < k + 1 → (fun x : Lk => decide (i < x.iface)) l[j] = false) := HV
        clear HV HV1 HV2 cc2
        go_wp2_with fail
        go_roundw
        case rel => exact ⟨k + 1, by omega, by go_num, hB2, HV3⟩
        case measure => simp [intOf]; omega
      · have HV : Hid (R = (k : Int)) := HV1.out rfl
        clear HV1 HV2 cc2
        go_wp2_with fail
        go_ret
        exact ⟨by have h := HV.out; subst h; rfl, hB2⟩
    · have hkn : decide ((k : Int) < (n : Int)) = false := decide_eq_false (by omega)
      have HV : Hid (R = -1) := by show _ = _; rw [HRD.out]; exact idx_none (fun j hj => HI.out j hj (by have := HN.out; omega))
      clear HI
      go_wp2_with fail
      go_ret
      exact ⟨by have h := HV.out; subst h; rfl, hB⟩
end Go.Proofs.YtkjhnefbcnnjlaaGreat.Lk
