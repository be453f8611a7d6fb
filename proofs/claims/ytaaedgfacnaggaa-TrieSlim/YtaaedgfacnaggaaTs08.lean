/- What a put makes of routes, plain. -/
import Derived.Test.YtaaedgfacnaggaaTs05
import Derived.Test.YtaaedgfacnaggaaTs04
set_option linter.unusedVariables false
namespace Go.Proofs.Ytaaedgfacnaggaa.Tr
open Go.RowKit
open Go.Proofs.Ytaaedgfacnaggaa.Lk (HasRow)
open Go.Proofs.Ytaaedgfacnaggaa.Addr (Pf hiN loN pfV RowAt below2 below_new RowAt.cell RowAt.below RowAt.new RowAt.alloc cells4 Bl bl_ne wp_region_bl bl_call)
set_option maxHeartbeats 4000000 in
set_option maxRecDepth 20000 in
theorem place1_any (r : Rt) (p : Pf) (w : World) (hr : FitR r) (hp : FitP p) : Calls Try.prog 53 #[.agg #[.bool r.pf.six, .int .u64 (hiN r.pf.n : Int), .int .u64 (loN r.pf.n : Int), .int .i64 r.pf.len, .int .u8 (r.act.k : Int), .int .i64 r.act.i], .agg #[.bool p.six, .int .u64 (hiN p.n : Int), .int .u64 (loN p.n : Int), .int .i64 p.len]] w fun e w' => e = .returned (.int .i64 (ordP r.pf p)) ∧ Below w.heap.size w w' := by
  have cc := fun W => order_any r.pf p W hr.1 hp
  unfold pfV at cc
  obtain ⟨X, hX⟩ : ∃ X, X = (w.alloc (.cells #[.bool r.pf.six, .int .u64 (hiN r.pf.n : Int), .int .u64 (loN r.pf.n : Int), .int .i64 r.pf.len, .int .u8 (r.act.k : Int), .int .i64 r.act.i] 37)).alloc (.cells #[.bool p.six, .int .u64 (hiN p.n : Int), .int .u64 (loN p.n : Int), .int .i64 p.len] 32) := ⟨_, rfl⟩
  have hB : Below w.heap.size w X := by rw [hX]; exact below_new (below_new (Below.refl _ _) _) _
  have r0 : RowAt X w.heap.size [.bool r.pf.six, .int .u64 (hiN r.pf.n : Int), .int .u64 (loN r.pf.n : Int), .int .i64 r.pf.len, .int .u8 (r.act.k : Int), .int .i64 r.act.i] 37 := by rw [hX]; exact (RowAt.new _ _ _).alloc _
  have r1 : RowAt X (w.heap.size + 1) [.bool p.six, .int .u64 (hiN p.n : Int), .int .u64 (loN p.n : Int), .int .i64 p.len] 32 := by rw [hX, ← World.size_alloc w (.cells #[.bool r.pf.six, .int .u64 (hiN r.pf.n : Int), .int .u64 (loN r.pf.n : Int), .int .i64 r.pf.len, .int .u8 (r.act.k : Int), .int .i64 r.act.i] 37)]; exact RowAt.new _ _ _
  generalize ordP r.pf p = R at *
  generalize r.pf.six = s0 at *
  generalize (hiN r.pf.n : Int) = s1 at *
  generalize (loN r.pf.n : Int) = s2 at *
  generalize r.pf.len = s3 at *
  generalize (r.act.k : Int) = s4 at *
  generalize r.act.i = s5 at *
  generalize p.six = t0 at *
  generalize (hiN p.n : Int) = t1 at *
  generalize (loN p.n : Int) = t2 at *
  generalize p.len = t3 at *
  clear hr hp
  have y0 := r0.cell 0
  have y1 := r0.cell 1
  have y2 := r0.cell 2
  have y3 := r0.cell 3
  simp only [List.getElem?_cons_zero, List.getElem?_cons_succ] at y0 y1 y2 y3
  obtain ⟨z0, z1, z2, z3, zf⟩ := cells4 r1
  go_enter Try.func53, Try.ntmps53
  go_upto_region 1 with fail
  rw [← hX]
  clear hX r0 r1
  go_wp2_with fail
  go_at_call 22; refine (cc _).mono ?_; rintro e w1 ⟨rfl, hb1⟩
  have hF := below2 hB hb1
  clear y0 y1 y2 y3 z0 z1 z2 z3 zf cc
  go_wp2_with fail
  go_ret
  exact ⟨rfl, hF⟩
/-- where a prefix's route is, or would be -/
def Pos (l : List Rt) (p : Pf) (k : Nat) : Prop := k ≤ l.length ∧ (∀ j (h : j < l.length), j < k → ltP l[j].pf p) ∧ ∀ j (h : j < l.length), k ≤ j → ¬ ltP l[j].pf p
def isAt (l : List Rt) (p : Pf) (k : Nat) : Bool := match l[k]? with
  | some r => decide (ordP r.pf p = 0)
  | none => false
theorem lt_below {l : List Rt} (hu : Up l) {p : Pf} {i j : Nat} (hi : i < l.length) (hj : j < l.length) (hij : i ≤ j) (h : ltP l[j].pf p) : ltP l[i].pf p := by
  by_cases e : i = j
  · subst e; exact h
  · exact ltP_trans (List.pairwise_iff_getElem.1 hu i j hi hj (by omega)) h
set_option maxHeartbeats 8000000 in
set_option maxRecDepth 20000 in
theorem search_any (l : List Rt) (v : Value) (p : Pf) (w : World) (hl : HasRts w v l) (hu : Up l) (hf : ∀ r ∈ l, FitR r) (hp : FitP p) (hlen : l.length ≤ 256) :
    Calls Try.prog 52 #[v, .agg #[.bool p.six, .int .u64 (hiN p.n : Int), .int .u64 (loN p.n : Int), .int .i64 p.len], .func (.func 53) #[] #[]] w fun e w' => ∃ k, Pos l p k ∧ e = .returned (.tuple #[.int .i64 (k : Int), .bool (isAt l p k)]) ∧ Below w.heap.size w w' := by
  obtain ⟨o, c, rfl, hc1, hc2⟩ := Lk.HasRow.slice hl
  have HC : Hid (∀ k (h : k < l.length) (W : World), Calls Try.prog 53 #[.agg #[.bool l[k].pf.six, .int .u64 (hiN l[k].pf.n : Int), .int .u64 (loN l[k].pf.n : Int), .int .i64 l[k].pf.len, .int .u8 (l[k].act.k : Int), .int .i64 l[k].act.i], .agg #[.bool p.six, .int .u64 (hiN p.n : Int), .int .u64 (loN p.n : Int), .int .i64 p.len]] W fun e w' => e = .returned (.int .i64 (ordP l[k].pf p)) ∧ Below W.heap.size W w') := fun k h W => place1_any l[k] p W (hf _ (List.getElem_mem h)) hp
  obtain ⟨X, hX⟩ : ∃ X, X = w.alloc (.cells #[.bool p.six, .int .u64 (hiN p.n : Int), .int .u64 (loN p.n : Int), .int .i64 p.len] 32) := ⟨_, rfl⟩
  have hB : Below w.heap.size w X := by rw [hX]; exact below_new (Below.refl _ _) _
  have r1 : RowAt X w.heap.size [.bool p.six, .int .u64 (hiN p.n : Int), .int .u64 (loN p.n : Int), .int .i64 p.len] 32 := by rw [hX]; exact RowAt.new _ _ _
  have HR : Hid (∀ wr : World, Below X.heap.size X wr → HasRts wr (.slice o l.length c) l ∧ RowAt wr w.heap.size [.bool p.six, .int .u64 (hiN p.n : Int), .int .u64 (loN p.n : Int), .int .i64 p.len] 32) := fun wr hb => ⟨(hl.keep hB).keep hb, RowAt.below r1 hb⟩
  have HU : Hid (Up l) := hu
  obtain ⟨n, hn⟩ : ∃ n, n = l.length := ⟨_, rfl⟩
  have HN : Hid (n = l.length) := hn
  rw [← hn] at HR hc1 hlen ⊢
  generalize (hiN p.n : Int) = t1 at *
  generalize (loN p.n : Int) = t2 at *
  have HS : Hid (∃ t0 t3, t0 = p.six ∧ t3 = p.len) := ⟨_, _, rfl, rfl⟩
  obtain ⟨t0, ht0⟩ : ∃ t0, t0 = p.six := ⟨_, rfl⟩
  obtain ⟨t3, ht3⟩ : ∃ t3, t3 = p.len := ⟨_, rfl⟩
  rw [← ht0, ← ht3] at HC HR hX ⊢
  have hni : (n : Int) ≤ 256 := by omega
  clear hl hu hf hp hn r1 HS ht0 ht3
  go_enter Try.func52, Try.ntmps52
  go_upto_region 1 with fail
  rw [← hX]
  clear hX
  go_wp2_with fail
  go_loopw [9, 10] (fun u q wr => ∃ i j : Nat, i ≤ j ∧ j ≤ n ∧ u = .int .i64 i ∧ q = .int .i64 j ∧ Below X.heap.size X wr ∧ Hid ((∀ t (h : t < l.length), t < i → ltP l[t].pf p) ∧ ∀ t (h : t < l.length), j ≤ t → ¬ ltP l[t].pf p)) (fun u q _ => (Go.RowKit.intOf q).toNat - (Go.RowKit.intOf u).toNat)
  case atStart => exact ⟨0, n, by omega, Nat.le_refl _, rfl, rfl, Below.refl _ _, (⟨fun t h h2 => by omega, fun t h h2 => by have := HN.out; omega⟩ : (∀ t (h : t < l.length), t < 0 → ltP l[t].pf p) ∧ ∀ t (h : t < l.length), n ≤ t → ¬ ltP l[t].pf p)⟩
  case round =>
    obtain ⟨i, j, hij, hjn, rfl, rfl, hbr, HI⟩ := hrel
    obtain ⟨hh, rr⟩ := HR.out _ hbr
    have hin : (i : Int) ≤ 256 := by omega
    have hjn2 : (j : Int) ≤ 256 := by omega
    by_cases hlt : i < j
    · have hlti : (i : Int) < (j : Int) := by omega
      have hhl : (i + j) / 2 < l.length := by have := HN.out; omega
      obtain ⟨g1, i1, rfl, hg1, ax⟩ := HasRts.cell hh ((i + j) / 2) hhl
      have co := HC.out ((i + j) / 2) hhl
      have HL : Hid (ordP l[(i + j) / 2].pf p < 0 ↔ ltP l[(i + j) / 2].pf p) := ordP_lt _ _
      have HLB : Hid (ltP l[(i + j) / 2].pf p → ∀ t (h : t < l.length), t < (i + j) / 2 + 1 → ltP l[t].pf p) := fun hq t h ht => lt_below HU.out h hhl (by omega) hq
      have HLA : Hid (¬ ltP l[(i + j) / 2].pf p → ∀ t (h : t < l.length), (i + j) / 2 ≤ t → ¬ ltP l[t].pf p) := fun hq t h ht hc => hq (lt_below HU.out hhl h ht hc)
      go_upto_region 5 with fail
      rw [show ((i : Int) + (j : Int)) / 2 = (((i + j) / 2 : Nat) : Int) by omega]
      have hm1 : i ≤ (i + j) / 2 := by omega
      have hm2 : (i + j) / 2 < j := by omega
      generalize (i + j) / 2 = m at *
      have hmn : (m : Int) < (n : Int) := by omega
      obtain ⟨b0, b1, b2, b3, b4, b5⟩ := six_at ax
      clear ax
      obtain ⟨rk, hrk⟩ : ∃ rk, rk = l[m] := ⟨_, rfl⟩
      rw [← hrk] at co HL HLB HLA b0 b1 b2 b3 b4 b5
      clear hrk
      generalize ordP rk.pf p = OR at co HL
      have HD : Hid (decide (OR < 0) = true ↔ ltP rk.pf p) := by show _ ↔ _; rw [decide_eq_true_eq]; exact HL.out
      clear HL
      generalize rk.pf.six = s0 at *
      generalize (hiN rk.pf.n : Int) = s1 at *
      generalize (loN rk.pf.n : Int) = s2 at *
      generalize rk.pf.len = s3 at *
      generalize (rk.act.k : Int) = s4 at *
      generalize rk.act.i = s5 at *
      have u0 : ∀ p : Bl wr, p.W.cell? ⟨g1, i1 + m * 6, none⟩ = some (.bool s0) := fun p => (p.h.cell (p := ⟨g1, i1 + m * 6, none⟩) hg1).trans b0
      have u1 : ∀ p : Bl wr, p.W.cell? ⟨g1, i1 + m * 6 + 1, none⟩ = some (.int .u64 s1) := fun p => (p.h.cell (p := ⟨g1, i1 + m * 6 + 1, none⟩) hg1).trans b1
      have u2 : ∀ p : Bl wr, p.W.cell? ⟨g1, i1 + m * 6 + 2, none⟩ = some (.int .u64 s2) := fun p => (p.h.cell (p := ⟨g1, i1 + m * 6 + 2, none⟩) hg1).trans b2
      have u3 : ∀ p : Bl wr, p.W.cell? ⟨g1, i1 + m * 6 + 3, none⟩ = some (.int .i64 s3) := fun p => (p.h.cell (p := ⟨g1, i1 + m * 6 + 3, none⟩) hg1).trans b3
      have u4 : ∀ p : Bl wr, p.W.cell? ⟨g1, i1 + m * 6 + 4, none⟩ = some (.int .u8 s4) := fun p => (p.h.cell (p := ⟨g1, i1 + m * 6 + 4, none⟩) hg1).trans b4
      have u5 : ∀ p : Bl wr, p.W.cell? ⟨g1, i1 + m * 6 + 5, none⟩ = some (.int .i64 s5) := fun p => (p.h.cell (p := ⟨g1, i1 + m * 6 + 5, none⟩) hg1).trans b5
      have m0 : ∀ p : Bl wr, p.W.cell? ⟨w.heap.size, 0, none⟩ = some (.bool t0) := fun p => (rr.below p.h).cell 0
      have m1 : ∀ p : Bl wr, p.W.cell? ⟨w.heap.size, 1, none⟩ = some (.int .u64 t1) := fun p => (rr.below p.h).cell 1
      have m2 : ∀ p : Bl wr, p.W.cell? ⟨w.heap.size, 2, none⟩ = some (.int .u64 t2) := fun p => (rr.below p.h).cell 2
      have m3 : ∀ p : Bl wr, p.W.cell? ⟨w.heap.size, 3, none⟩ = some (.int .i64 t3) := fun p => (rr.below p.h).cell 3
      haveI := bl_ne wr
      clear b0 b1 b2 b3 b4 b5 hh rr
      refine wp_region_bl (by kernel_rfl) (by kernel_rfl) ?_
      repeat (go_big_quiet_step (first | (go_at_call 53; with_reducible exact bl_call (co _))))
      refine wpQuiet_nil ?_
      intro wq hw'
      obtain ⟨⟨wz, hq⟩, hw2⟩ := hw'
      subst hw2
      have hW := below2 hbr hq
      clear u0 u1 u2 u3 u4 u5 m0 m1 m2 m3 hbr hq co
      cases hOR : decide (OR < 0)
      · have HF : Hid ((∀ t (h : t < l.length), t < i → ltP l[t].pf p) ∧ ∀ t (h : t < l.length), m ≤ t → ¬ ltP l[t].pf p) := ⟨HI.out.1, HLA.out (fun h => by have := HD.out.2 h; rw [hOR] at this; cases this)⟩
        clear HLA HLB HD HI
        go_wp2_with fail
        go_roundw
        case rel => exact ⟨i, m, hm1, by omega, rfl, rfl, hW, HF⟩
        case measure => simp [Go.RowKit.intOf]; omega
      · have HF : Hid ((∀ t (h : t < l.length), t < m + 1 → ltP l[t].pf p) ∧ ∀ t (h : t < l.length), j ≤ t → ¬ ltP l[t].pf p) := ⟨HLB.out (HD.out.1 hOR), HI.out.2⟩
        clear HLA HLB HD HI
        go_wp2_with fail
        go_roundw
        case rel => exact ⟨m + 1, j, by omega, hjn, by go_num, rfl, hW, HF⟩
        case measure => simp [Go.RowKit.intOf]; omega
    · obtain rfl : i = j := by omega
      have hd : decide ((i : Int) < (i : Int)) = false := decide_eq_false (by omega)
      have HP : Hid (Pos l p i) := ⟨by have := HN.out; omega, HI.out.1, HI.out.2⟩
      clear HI
      by_cases hin2 : i < n
      · have hhl : i < l.length := by have := HN.out; omega
        obtain ⟨g1, i1, rfl, hg1, ax⟩ := HasRts.cell hh i hhl
        have co := HC.out i hhl
        have hii : (i : Int) < (n : Int) := by omega
        have HE : Hid (isAt l p i = decide (ordP l[i].pf p = 0)) := by show isAt l p i = _; unfold isAt; rw [List.getElem?_eq_getElem hhl]
        obtain ⟨b0, b1, b2, b3, b4, b5⟩ := six_at ax
        clear ax
        obtain ⟨rk, hrk⟩ : ∃ rk, rk = l[i] := ⟨_, rfl⟩
        rw [← hrk] at co HE b0 b1 b2 b3 b4 b5
        clear hrk
        generalize ordP rk.pf p = OR at co HE
        generalize rk.pf.six = s0 at *
        generalize (hiN rk.pf.n : Int) = s1 at *
        generalize (loN rk.pf.n : Int) = s2 at *
        generalize rk.pf.len = s3 at *
        generalize (rk.act.k : Int) = s4 at *
        generalize rk.act.i = s5 at *
        have u0 : ∀ p : Bl wr, p.W.cell? ⟨g1, i1 + i * 6, none⟩ = some (.bool s0) := fun p => (p.h.cell (p := ⟨g1, i1 + i * 6, none⟩) hg1).trans b0
        have u1 : ∀ p : Bl wr, p.W.cell? ⟨g1, i1 + i * 6 + 1, none⟩ = some (.int .u64 s1) := fun p => (p.h.cell (p := ⟨g1, i1 + i * 6 + 1, none⟩) hg1).trans b1
        have u2 : ∀ p : Bl wr, p.W.cell? ⟨g1, i1 + i * 6 + 2, none⟩ = some (.int .u64 s2) := fun p => (p.h.cell (p := ⟨g1, i1 + i * 6 + 2, none⟩) hg1).trans b2
        have u3 : ∀ p : Bl wr, p.W.cell? ⟨g1, i1 + i * 6 + 3, none⟩ = some (.int .i64 s3) := fun p => (p.h.cell (p := ⟨g1, i1 + i * 6 + 3, none⟩) hg1).trans b3
        have u4 : ∀ p : Bl wr, p.W.cell? ⟨g1, i1 + i * 6 + 4, none⟩ = some (.int .u8 s4) := fun p => (p.h.cell (p := ⟨g1, i1 + i * 6 + 4, none⟩) hg1).trans b4
        have u5 : ∀ p : Bl wr, p.W.cell? ⟨g1, i1 + i * 6 + 5, none⟩ = some (.int .i64 s5) := fun p => (p.h.cell (p := ⟨g1, i1 + i * 6 + 5, none⟩) hg1).trans b5
        have m0 : ∀ p : Bl wr, p.W.cell? ⟨w.heap.size, 0, none⟩ = some (.bool t0) := fun p => (rr.below p.h).cell 0
        have m1 : ∀ p : Bl wr, p.W.cell? ⟨w.heap.size, 1, none⟩ = some (.int .u64 t1) := fun p => (rr.below p.h).cell 1
        have m2 : ∀ p : Bl wr, p.W.cell? ⟨w.heap.size, 2, none⟩ = some (.int .u64 t2) := fun p => (rr.below p.h).cell 2
        have m3 : ∀ p : Bl wr, p.W.cell? ⟨w.heap.size, 3, none⟩ = some (.int .i64 t3) := fun p => (rr.below p.h).cell 3
        haveI := bl_ne wr
        clear b0 b1 b2 b3 b4 b5 hh rr
        go_wp2_with fail
        refine wp_region_bl (by kernel_rfl) (by kernel_rfl) ?_
        repeat (go_big_quiet_step (first | (go_at_call 53; with_reducible exact bl_call (co _))))
        refine wpQuiet_nil ?_
        intro wq hw'
        obtain ⟨⟨wz, hq⟩, hw2⟩ := hw'
        subst hw2
        have hW := below2 (below2 hB hbr) hq
        clear u0 u1 u2 u3 u4 u5 m0 m1 m2 m3 hbr hq co
        go_wp2_with fail
        go_ret2
        refine ⟨i, HP.out, ?_, hW⟩
        rw [HE.out]
        first
          | rfl
          | (by_cases h : OR = 0 <;> simp [h])
      · have hii : ¬ ((i : Int) < (n : Int)) := by omega
        have HE : Hid (isAt l p i = false) := by show isAt l p i = _; unfold isAt; rw [List.getElem?_eq_none (by have := HN.out; omega)]
        have hW := below2 hB hbr
        haveI := bl_ne wr
        clear hh rr
        go_wp2_with fail
        refine wp_region_bl (by kernel_rfl) (by kernel_rfl) ?_
        repeat (go_big_quiet_step (fail))
        refine wpQuiet_nil ?_
        intro wq hw'
        obtain ⟨⟨wz, hq⟩, hw2⟩ := hw'
        subst hw2
        replace hW := below2 hW hq
        go_wp2_with fail
        go_ret2
        exact ⟨i, HP.out, by rw [HE.out]; rfl, hW⟩
set_option maxHeartbeats 4000000 in
set_option maxRecDepth 20000 in
theorem place_any (l : List Rt) (v : Value) (p : Pf) (w : World) (hl : HasRts w v l) (hu : Up l) (hf : ∀ r ∈ l, FitR r) (hp : FitP p) (hlen : l.length ≤ 256) :
    Calls Try.prog 29 #[v, .agg #[.bool p.six, .int .u64 (hiN p.n : Int), .int .u64 (loN p.n : Int), .int .i64 p.len]] w fun e w' => ∃ k, Pos l p k ∧ e = .returned (.tuple #[.int .i64 (k : Int), .bool (isAt l p k)]) ∧ Below w.heap.size w w' := by
  have cs := fun W (hb : Below w.heap.size w W) => search_any l v p W (hl.keep hb) hu hf hp hlen
  obtain ⟨X, hX⟩ : ∃ X, X = w.alloc (.cells #[.bool p.six, .int .u64 (hiN p.n : Int), .int .u64 (loN p.n : Int), .int .i64 p.len] 32) := ⟨_, rfl⟩
  have hB : Below w.heap.size w X := by rw [hX]; exact below_new (Below.refl _ _) _
  have r1 : RowAt X w.heap.size [.bool p.six, .int .u64 (hiN p.n : Int), .int .u64 (loN p.n : Int), .int .i64 p.len] 32 := by rw [hX]; exact RowAt.new _ _ _
  obtain ⟨z0, z1, z2, z3, zf⟩ := cells4 r1
  obtain ⟨o, c, rfl, hc1, hc2⟩ := Lk.HasRow.slice hl
  clear hl hu hf hp
  go_enter Try.func29, Try.ntmps29
  go_upto_region 1 with fail
  rw [← hX]
  clear hX r1
  go_wp2_with fail
  go_at_call 52; refine (cs _ hB).mono ?_; rintro e w1 ⟨k, hk, rfl, hb1⟩
  have hF := below2 hB hb1
  clear z0 z1 z2 z3 zf cs
  go_wp2_with fail
  go_ret2
  exact ⟨k, hk, rfl, hF⟩
end Go.Proofs.Ytaaedgfacnaggaa.Tr
namespace Go.Proofs.Ytaaedgfacnaggaa.Tr
open Go.RowKit
open Go.Proofs.Ytaaedgfacnaggaa.Addr (Pf okP)
open Go.Proofs.Ytaaedgfacnaggaa.Lk (HasRow addr_add)
def aheadT (l : List Rt) (p : Pf) : List Rt := l.filter (fun s => decide (ordP s.pf p < 0))
def behindT (l : List Rt) (p : Pf) : List Rt := l.filter (fun s => decide (0 < ordP s.pf p))
def othersT (l : List Rt) (p : Pf) : List Rt := l.filter (fun s => !decide (ordP s.pf p = 0))
def insT (l : List Rt) (r : Rt) : List Rt := aheadT l r.pf ++ ([r] ++ behindT l r.pf)
def putT (l : List Rt) (r : Rt) : List Rt × Int := if okT l && okR r then (if (othersT l r.pf).length = 256 then (l, 8) else (insT l r, 0)) else ([], 2)
def findT (l : List Rt) (p : Pf) : Option Rt := l.find? (fun s => decide (ordP s.pf p = 0))
def delT (l : List Rt) (p : Pf) : List Rt × Int := if okT l && okP p then (othersT l p, if (othersT l p).length = l.length then 3 else 0) else ([], 2)
theorem filt_all {α : Type} {f : α → Bool} {l : List α} (h : ∀ x ∈ l, f x = true) : l.filter f = l := List.filter_eq_self.2 h
theorem filt_none {α : Type} {f : α → Bool} {l : List α} (h : ∀ x ∈ l, f x = false) : l.filter f = [] := List.filter_eq_nil_iff.2 (fun x hx => by rw [h x hx]; simp)
/-- the list in three parts about a place -/
theorem parts_at {l : List Rt} {p : Pf} {k : Nat} (hu : Up l) (hk : Pos l p k) (hi : isAt l p k = true) : ∃ h : k < l.length, l[k].pf = p ∧ l.take k = aheadT l p ∧ l.drop (k + 1) = behindT l p ∧ othersT l p = l.take k ++ l.drop (k + 1) := by
  unfold isAt at hi
  have hkl : k < l.length := by
    rcases Nat.lt_or_ge k l.length with h | h
    · exact h
    · rw [List.getElem?_eq_none h] at hi; cases hi
  rw [List.getElem?_eq_getElem hkl] at hi
  simp only [decide_eq_true_eq] at hi
  have he : l[k].pf = p := (ordP_eq _ _).1 hi
  have hsp : l = l.take k ++ (l[k] :: l.drop (k + 1)) := by
    have := (List.take_append_drop k l).symm
    rw [List.drop_eq_getElem_cons hkl] at this
    exact this
  have h1 : ∀ x ∈ l.take k, ordP x.pf p < 0 := fun x hx => by
    obtain ⟨j, hj, rfl⟩ := List.getElem_of_mem hx
    rw [List.length_take] at hj
    rw [List.getElem_take]
    exact (ordP_lt _ _).2 (hk.2.1 j (by omega) (by omega))
  have h2 : ∀ x ∈ l.drop (k + 1), 0 < ordP x.pf p := fun x hx => by
    obtain ⟨j, hj, rfl⟩ := List.getElem_of_mem hx
    rw [List.length_drop] at hj
    rw [List.getElem_drop, ordP_gt]
    have := List.pairwise_iff_getElem.1 hu k (k + 1 + j) hkl (by omega) (by omega)
    rw [he] at this
    exact this
  have hz : ordP l[k].pf p = 0 := hi
  refine ⟨hkl, he, ?_, ?_, ?_⟩
  · unfold aheadT
    conv => rhs; rw [hsp]
    rw [List.filter_append, filt_all (fun x hx => decide_eq_true (h1 x hx)), filt_none (fun x hx => ?_), List.append_nil]
    rcases List.mem_cons.1 hx with rfl | hx
    · exact decide_eq_false (by omega)
    · have := h2 x hx; exact decide_eq_false (by omega)
  · unfold behindT
    conv => rhs; rw [hsp]
    rw [List.filter_append, filt_none (fun x hx => by have := h1 x hx; exact decide_eq_false (by omega)), List.filter_cons_of_neg (by rw [hz]; decide), List.nil_append, filt_all (fun x hx => decide_eq_true (h2 x hx))]
  · unfold othersT
    conv => lhs; rw [hsp]
    rw [List.filter_append, filt_all (fun x hx => by have := h1 x hx; simp; omega), List.filter_cons_of_neg (by rw [hz]; decide), filt_all (fun x hx => by have := h2 x hx; simp; omega)]
theorem parts_off {l : List Rt} {p : Pf} {k : Nat} (hu : Up l) (hk : Pos l p k) (hi : isAt l p k = false) : l.take k = aheadT l p ∧ l.drop k = behindT l p ∧ othersT l p = l := by
  have h1 : ∀ x ∈ l.take k, ordP x.pf p < 0 := fun x hx => by
    obtain ⟨j, hj, rfl⟩ := List.getElem_of_mem hx
    rw [List.length_take] at hj
    rw [List.getElem_take]
    exact (ordP_lt _ _).2 (hk.2.1 j (by omega) (by omega))
  have h2 : ∀ x ∈ l.drop k, 0 < ordP x.pf p := fun x hx => by
    obtain ⟨j, hj, rfl⟩ := List.getElem_of_mem hx
    rw [List.length_drop] at hj
    rw [List.getElem_drop]
    have hkl : k < l.length := by omega
    have hnk : 0 < ordP l[k].pf p := by
      unfold isAt at hi
      rw [List.getElem?_eq_getElem hkl] at hi
      simp only [decide_eq_false_iff_not] at hi
      have := hk.2.2 k hkl (Nat.le_refl _)
      rw [← ordP_lt] at this
      omega
    by_cases e : j = 0
    · subst e; exact hnk
    · rw [ordP_gt] at hnk ⊢
      exact ltP_trans hnk (List.pairwise_iff_getElem.1 hu k (k + j) hkl (by omega) (by omega))
  have hsp := (List.take_append_drop k l).symm
  refine ⟨?_, ?_, ?_⟩
  · unfold aheadT
    conv => rhs; rw [hsp]
    rw [List.filter_append, filt_all (fun x hx => decide_eq_true (h1 x hx)), filt_none (fun x hx => by have := h2 x hx; exact decide_eq_false (by omega)), List.append_nil]
  · unfold behindT
    conv => rhs; rw [hsp]
    rw [List.filter_append, filt_none (fun x hx => by have := h1 x hx; exact decide_eq_false (by omega)), List.nil_append, filt_all (fun x hx => decide_eq_true (h2 x hx))]
  · unfold othersT
    conv => lhs; rw [hsp]
    rw [List.filter_append, filt_all (fun x hx => by have := h1 x hx; simp; omega), filt_all (fun x hx => by have := h2 x hx; simp; omega), List.take_append_drop]
/-- parts of a row in memory -/
theorem rtCs_take (l : List Rt) : ∀ j, (rtCs l).take (j * 6) = rtCs (l.take j) := by
  induction l with
  | nil => intro j; simp [rtCs]
  | cons x l ih =>
    intro j
    cases j with
    | zero => simp [rtCs]
    | succ j =>
      show (rtC x ++ rtCs l).take ((j + 1) * 6) = rtC x ++ rtCs (l.take j)
      rw [List.take_append, ← ih j]
      congr 1
      · rw [List.take_of_length_le (by show 6 ≤ _; omega)]
      · show (rtCs l).take ((j + 1) * 6 - 6) = _
        congr 1
        omega
theorem rtCs_drop (l : List Rt) : ∀ j, (rtCs l).drop (j * 6) = rtCs (l.drop j) := by
  induction l with
  | nil => intro j; simp [rtCs]
  | cons x l ih =>
    intro j
    cases j with
    | zero => simp
    | succ j =>
      show (rtC x ++ rtCs l).drop ((j + 1) * 6) = rtCs (l.drop j)
      rw [List.drop_append, ← ih j, List.drop_of_length_le (l := rtC x) (by show 6 ≤ _; omega), List.nil_append]
      show (rtCs l).drop ((j + 1) * 6 - 6) = _
      congr 1
      omega
theorem HasRts.take {W : World} {o : Option Addr} {n c : Nat} {l : List Rt} (h : HasRts W (.slice o n c) l) (k : Nat) (hk : k ≤ l.length) : HasRts W (.slice o k c) (l.take k) := by
  have hlk : (l.take k).length = k := by rw [List.length_take]; omega
  show HasRow _ _ _ _ _
  rw [hlk]
  refine ⟨by rw [rtCs_len, hlk], ?_⟩
  rcases h.2 with ⟨e, h0⟩ | ⟨a, cap, e, h1, h2, h3, h4⟩
  · injection e with e1 e2 e3
    subst e1 e3
    have hk0 : k = 0 := by omega
    subst hk0
    exact .inl ⟨rfl, rfl⟩
  · injection e with e1 e2 e3
    subst e1 e3
    refine .inr ⟨a, c, rfl, by omega, h2, fun hp => h3 (by omega), fun j hj => ?_⟩
    rw [h4 j (by omega), ← rtCs_take, List.getElem?_take, if_pos hj]
theorem HasRts.drop {W : World} {b i n c : Nat} {l : List Rt} (h : HasRts W (.slice (some ⟨b, i, none⟩) n c) l) (k : Nat) (hk : k ≤ l.length) : HasRts W (.slice (some ⟨b, i + k * 6, none⟩) (l.length - k) (c - k)) (l.drop k) := by
  have hlk : (l.drop k).length = l.length - k := by rw [List.length_drop]
  show HasRow _ _ _ _ _
  rw [hlk]
  refine ⟨by rw [rtCs_len, hlk], ?_⟩
  rcases h.2 with ⟨e, h0⟩ | ⟨a, cap, e, h1, h2, h3, h4⟩
  · cases e
  · injection e with e1 e2 e3
    injection e1 with e1
    subst e1 e3
    refine .inr ⟨_, _, rfl, by omega, by omega, fun hp => ⟨rfl, (h3 (by omega)).2⟩, fun j hj => ?_⟩
    have := h4 (k * 6 + j) (by omega)
    rw [addr_add] at this ⊢
    rw [Nat.add_assoc, this, ← rtCs_drop, List.getElem?_drop]
/-- nothing of a row -/
theorem has_empty (W : World) (a : Addr) (c : Nat) (hc : c ≤ 9223372036854775807) : HasRts W (.slice (some a) 0 c) [] :=
  ⟨rfl, .inr ⟨a, c, rfl, Nat.zero_le _, hc, fun h => absurd h (by decide), fun j hj => absurd hj (by show ¬ j < 0 * 6; omega)⟩⟩
end Go.Proofs.Ytaaedgfacnaggaa.Tr
namespace Go.Proofs.Ytaaedgfacnaggaa.Tr
open Go.Proofs.Ytaaedgfacnaggaa.Addr (Pf okP wideN rightB hasB coversB kP firstN)
theorem first_iff {k n a : Nat} (hn : n % 2 ^ k = 0) : firstN k a = n ↔ n ≤ a ∧ a < n + 2 ^ k := by
  unfold firstN
  have hp : 0 < 2 ^ k := Nat.pow_pos (by decide)
  have h1 := Nat.mod_lt a hp
  have h2 := Nat.div_add_mod a (2 ^ k)
  have h3 := Nat.div_add_mod n (2 ^ k)
  rw [hn, Nat.add_zero] at h3
  constructor
  · intro h; omega
  · rintro ⟨h4, h5⟩
    have h6 : a / 2 ^ k = n / 2 ^ k := by
      refine Nat.div_eq_of_lt_le ?_ ?_
      · rw [Nat.mul_comm, h3]; exact h4
      · rw [Nat.add_mul, Nat.one_mul, Nat.mul_comm, h3]; exact h5
    rw [h6, h3] at h2
    omega
theorem ok_parts {p : Pf} (h : okP p = true) : 0 ≤ p.len ∧ p.len ≤ (wideN p.six : Int) ∧ p.n < 2 ^ wideN p.six ∧ p.n % 2 ^ kP p = 0 := by
  unfold okP rightB at h
  simp only [Bool.and_eq_true, decide_eq_true_eq] at h
  exact ⟨h.1.1, h.1.2, h.2.1, h.2.2⟩
theorem has_iff {p : Pf} (h : okP p = true) (six : Bool) (a : Nat) : hasB p six a = true ↔ p.six = six ∧ a < 2 ^ wideN six ∧ p.n ≤ a ∧ a < p.n + 2 ^ kP p := by
  unfold hasB rightB
  rw [h]
  simp only [Bool.true_and, Bool.and_eq_true, decide_eq_true_eq]
  rw [first_iff (ok_parts h).2.2.2]
theorem has_ok {p : Pf} {six : Bool} {a : Nat} (h : hasB p six a = true) : okP p = true := by
  unfold hasB at h
  simp only [Bool.and_eq_true] at h
  exact h.1
theorem covers_parts {p q : Pf} (h : coversB p q = true) : okP q = true ∧ p.len ≤ q.len ∧ hasB p q.six q.n = true := by
  unfold coversB at h
  simp only [Bool.and_eq_true, decide_eq_true_eq] at h
  exact ⟨h.1, h.2.1, h.2.2⟩
theorem kP_le {p q : Pf} (hs : p.six = q.six) (hl : p.len ≤ q.len) : kP q ≤ kP p := by
  unfold kP
  rw [hs]
  omega
theorem mul_of_mod {n k : Nat} (h : n % 2 ^ k = 0) : ∃ m, n = 2 ^ k * m := ⟨n / 2 ^ k, by have := Nat.div_add_mod n (2 ^ k); omega⟩
theorem mod_of_le {n j k : Nat} (hjk : j ≤ k) (h : n % 2 ^ k = 0) : n % 2 ^ j = 0 := by
  obtain ⟨m, rfl⟩ := mul_of_mod h
  obtain ⟨d, rfl⟩ : ∃ d, k = j + d := ⟨k - j, by omega⟩
  rw [Nat.pow_add, Nat.mul_assoc, Nat.mul_mod_right]
/-- two multiples, the one below the other, lie apart by the size -/
theorem mult_apart {a b k : Nat} (ha : a % 2 ^ k = 0) (hb : b % 2 ^ k = 0) (h : a < b) : a + 2 ^ k ≤ b := by
  obtain ⟨x, rfl⟩ := mul_of_mod ha
  obtain ⟨y, rfl⟩ := mul_of_mod hb
  have hxy : x < y := by
    rcases Nat.lt_or_ge x y with h1 | h1
    · exact h1
    · have := Nat.mul_le_mul_left (2 ^ k) h1; omega
  have := Nat.mul_le_mul_left (2 ^ k) (show x + 1 ≤ y from hxy)
  rw [Nat.mul_add, Nat.mul_one] at this
  exact this
theorem covers_has {p q : Pf} {six : Bool} {a : Nat} (h : coversB p q = true) (ha : hasB q six a = true) : hasB p six a = true := by
  obtain ⟨h1, h2, h3⟩ := covers_parts h
  have hp := has_ok h3
  obtain ⟨e1, e2, e3, e4⟩ := (has_iff hp _ _).1 h3
  obtain ⟨f1, f2, f3, f4⟩ := (has_iff h1 _ _).1 ha
  refine (has_iff hp _ _).2 ⟨e1.trans f1, f2, by omega, ?_⟩
  have hk := kP_le e1 h2
  have hm1 := (ok_parts h1).2.2.2
  have hm2 := mod_of_le hk (ok_parts hp).2.2.2
  have hm3 : (p.n + 2 ^ kP p) % 2 ^ kP q = 0 := by
    rw [Nat.add_mod, hm2, mod_of_le hk (Nat.mod_self _)]
    simp
  have := mult_apart hm1 hm3 e4
  omega
theorem covers_trans {p q r : Pf} (h1 : coversB p q = true) (h2 : coversB q r = true) : coversB p r = true := by
  obtain ⟨a1, a2, a3⟩ := covers_parts h1
  obtain ⟨b1, b2, b3⟩ := covers_parts h2
  unfold coversB
  rw [b1, covers_has h1 b3, decide_eq_true (show p.len ≤ r.len by omega)]
  rfl
theorem covers_six {p q : Pf} (h : coversB p q = true) : q.six = p.six := by
  obtain ⟨_, _, h3⟩ := covers_parts h
  exact ((has_iff (has_ok h3) _ _).1 h3).1.symm
/-- one that stands behind, and is not covered, begins behind the end -/
theorem apart_of {p q : Pf} (hp : okP p = true) (hq : okP q = true) (hl : ltP p q) (hc : coversB p q = false) (hs : q.six = p.six) : p.n + 2 ^ kP p ≤ q.n := by
  rcases Nat.lt_or_ge q.n (p.n + 2 ^ kP p) with h | h
  · exfalso
    unfold ltP at hl
    rcases hl with ⟨h1, h2⟩ | ⟨_, h3⟩
    · rw [hs, h1] at h2; cases h2
    · have hpq : p.n ≤ q.n := by omega
      have hh : hasB p q.six q.n = true := (has_iff hp _ _).2 ⟨hs.symm, by have := (ok_parts hq).2.2.1; exact this, hpq, h⟩
      have hlen : q.len < p.len := by
        rcases Int.lt_or_le q.len p.len with h5 | h5
        · exact h5
        · unfold coversB at hc
          rw [hq, hh, decide_eq_true h5] at hc
          cases hc
      have hk := kP_le (p := q) (q := p) hs (Int.le_of_lt hlen)
      have hm := mod_of_le hk (ok_parts hq).2.2.2
      have hne : p.n < q.n := by
        rcases h3 with h3 | h3
        · exact h3
        · omega
      have := mult_apart (ok_parts hp).2.2.2 hm hne
      omega
  · exact h
/-- rows of routes, each with those under it -/
abbrev Seg : Type := Rt × List Rt
def flat (s : List Seg) : List Rt := s.flatMap (fun x => x.1 :: x.2)
structure Good (s : List Seg) (six : Bool) : Prop where
  cov : ∀ x ∈ s, ∀ y ∈ x.2, coversB x.1.pf y.pf = true
  six : ∀ x ∈ s, x.1.pf.six = six
  ok : ∀ x ∈ s, okP x.1.pf = true
  up : s.Pairwise (fun x y => x.1.pf.n + 2 ^ kP x.1.pf ≤ y.1.pf.n)
theorem good_nil (six : Bool) : Good [] six := ⟨by simp, by simp, by simp, List.Pairwise.nil⟩
def hasR (six : Bool) (a : Nat) (r : Rt) : Bool := hasB r.pf six a
theorem filter_seg {x : Seg} {six : Bool} {a : Nat} (hc : ∀ y ∈ x.2, coversB x.1.pf y.pf = true) (h : hasB x.1.pf six a = false) : (x.1 :: x.2).filter (hasR six a) = [] := by
  rw [List.filter_eq_nil_iff]
  intro y hy
  rcases List.mem_cons.1 hy with rfl | hy
  · unfold hasR; rw [h]; simp
  · intro h2
    have := covers_has (hc y hy) (show hasB y.pf six a = true from h2)
    rw [h] at this
    cases this
theorem flat_none {s : List Seg} {six : Bool} {a : Nat} (hc : ∀ x ∈ s, ∀ y ∈ x.2, coversB x.1.pf y.pf = true) (h : ∀ x ∈ s, hasB x.1.pf six a = false) : (flat s).filter (hasR six a) = [] := by
  induction s with
  | nil => rfl
  | cons x s ih =>
    show ((x.1 :: x.2) ++ flat s).filter _ = _
    rw [List.filter_append, filter_seg (hc x List.mem_cons_self) (h x List.mem_cons_self), ih (fun y hy => hc y (List.mem_cons_of_mem _ hy)) (fun y hy => h y (List.mem_cons_of_mem _ hy))]
    rfl
/-- those of a row that do not begin behind an address are in front: k of them -/
def Cut (s : List Seg) (a k : Nat) : Prop := k ≤ s.length ∧ (∀ j (h : j < s.length), j < k → s[j].1.pf.n ≤ a) ∧ ∀ j (h : j < s.length), k ≤ j → a < s[j].1.pf.n
theorem over_none {s : List Seg} {six : Bool} {a k : Nat} (hg : Good s six) (hk : Cut s a k) (h : k = 0 ∨ ∀ h : k - 1 < s.length, hasB s[k - 1].1.pf six a = false) : (flat s).filter (hasR six a) = [] := by
  refine flat_none hg.cov (fun x hx => ?_)
  cases hb : hasB x.1.pf six a with
  | false => rfl
  | true =>
    exfalso
    obtain ⟨j, hj, rfl⟩ := List.getElem_of_mem hx
    obtain ⟨e1, e2, e3, e4⟩ := (has_iff (hg.ok _ hx) _ _).1 hb
    have hjk : j < k := by
      rcases Nat.lt_or_ge j k with h1 | h1
      · exact h1
      · have := hk.2.2 j hj h1; omega
    have hk1 : k - 1 < s.length := by have := hk.1; omega
    have hje : j = k - 1 := by
      rcases Nat.lt_or_ge j (k - 1) with h1 | h1
      · have h2 := List.pairwise_iff_getElem.1 hg.up j (k - 1) hj hk1 h1
        have h3 := hk.2.1 (k - 1) hk1 (by omega)
        omega
      · omega
    rcases h with h | h
    · omega
    · have h4 := h hk1
      subst hje
      rw [h4] at hb
      cases hb
theorem over_some {s : List Seg} {six : Bool} {a k : Nat} (hg : Good s six) (hk : Cut s a k) (h0 : 0 < k) (hk1 : k - 1 < s.length) (hb : hasB s[k - 1].1.pf six a = true) : (flat s).filter (hasR six a) = s[k - 1].1 :: s[k - 1].2.filter (hasR six a) := by
  have hsp : s = s.take (k - 1) ++ (s[k - 1] :: s.drop k) := by
    have := (List.take_append_drop (k - 1) s).symm
    rw [List.drop_eq_getElem_cons hk1, show k - 1 + 1 = k by omega] at this
    exact this
  have hfa : flat s = flat (s.take (k - 1)) ++ ((s[k - 1].1 :: s[k - 1].2) ++ flat (s.drop k)) := by
    have h1 : flat s = flat (s.take (k - 1) ++ (s[k - 1] :: s.drop k)) := congrArg flat hsp
    rw [h1]
    unfold flat
    rw [List.flatMap_append, List.flatMap_cons]
  obtain ⟨e1, e2, e3, e4⟩ := (has_iff (hg.ok _ (List.getElem_mem hk1)) _ _).1 hb
  rw [hfa, List.filter_append, List.filter_append, flat_none (s := s.take (k - 1)) (fun x hx => hg.cov x (List.mem_of_mem_take hx)) (fun x hx => ?_), flat_none (s := s.drop k) (fun x hx => hg.cov x (List.mem_of_mem_drop hx)) (fun x hx => ?_), List.nil_append, List.append_nil, List.filter_cons_of_pos (show hasR six a s[k - 1].1 = true from hb)]
  · cases hc : hasB x.1.pf six a with
    | false => rfl
    | true =>
      obtain ⟨j, hj, rfl⟩ := List.getElem_of_mem hx
      rw [List.length_drop] at hj
      rw [List.getElem_drop] at hc
      obtain ⟨f1, f2, f3, f4⟩ := (has_iff (hg.ok _ (List.getElem_mem _)) _ _).1 hc
      have := hk.2.2 (k + j) (by omega) (by omega)
      omega
  · cases hc : hasB x.1.pf six a with
    | false => rfl
    | true =>
      obtain ⟨j, hj, rfl⟩ := List.getElem_of_mem hx
      rw [List.length_take] at hj
      rw [List.getElem_take] at hc
      obtain ⟨f1, f2, f3, f4⟩ := (has_iff (hg.ok _ (List.getElem_mem _)) _ _).1 hc
      have := List.pairwise_iff_getElem.1 hg.up j (k - 1) (by omega) hk1 (by omega)
      omega
end Go.Proofs.Ytaaedgfacnaggaa.Tr
namespace Go.Proofs.Ytaaedgfacnaggaa.Tr
open Go.Proofs.Ytaaedgfacnaggaa.Addr (Pf hasB coversB kP)
/-- of two prefixes that have one address the later one is longer, and covered -/
theorem later_long {p q : Pf} {six : Bool} {a : Nat} (hl : ltP p q) (hp : hasB p six a = true) (hq : hasB q six a = true) : p.len < q.len ∧ coversB p q = true := by
  have o1 := has_ok hp
  have o2 := has_ok hq
  obtain ⟨e1, e2, e3, e4⟩ := (has_iff o1 _ _).1 hp
  obtain ⟨f1, f2, f3, f4⟩ := (has_iff o2 _ _).1 hq
  have hs : q.six = p.six := f1.trans e1.symm
  have hc : coversB p q = true := by
    cases hc : coversB p q with
    | true => rfl
    | false => have := apart_of o1 o2 hl hc hs; omega
  refine ⟨?_, hc⟩
  obtain ⟨_, c2, c3⟩ := covers_parts hc
  rcases Int.lt_or_eq_of_le c2 with h | h
  · exact h
  · exfalso
    obtain ⟨g1, g2, g3, g4⟩ := (has_iff o1 _ _).1 c3
    have hk : kP p = kP q := by unfold kP; rw [hs, h]
    have hn : p.n < q.n := by
      unfold ltP at hl
      rcases hl with ⟨h1, h2⟩ | ⟨_, h3⟩
      · rw [hs, h1] at h2; cases h2
      · rcases h3 with h3 | h3
        · exact h3
        · omega
    have := mult_apart (ok_parts o1).2.2.2 (by rw [hk]; exact (ok_parts o2).2.2.2) hn
    omega
end Go.Proofs.Ytaaedgfacnaggaa.Tr
