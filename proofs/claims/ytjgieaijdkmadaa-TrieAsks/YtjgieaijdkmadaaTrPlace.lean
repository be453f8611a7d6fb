/- Where among routes that of a prefix is: trie.place. -/
import Derived.Test.YtjgieaijdkmadaaTrCheck
set_option linter.unusedVariables false
namespace Go.Proofs.Ytjgieaijdkmadaa.Tr
open Go.RowKit
open Go.Proofs.Ytjgieaijdkmadaa.Msg (Ac FitA)
open Go.Proofs.Ytjgieaijdkmadaa.Lk (HasRow)
open Go.Proofs.Ytjgieaijdkmadaa.Addr (Pf okP hiN loN pfV RowAt below2 below_drew below_new bset RowAt.lt RowAt.cell RowAt.frozen RowAt.below RowAt.drew RowAt.new RowAt.alloc cells2 cells4 Bl bl_ne wp_region_bl bl_call bl_same)
set_option maxHeartbeats 4000000 in
set_option maxRecDepth 20000 in
theorem place1_any (r : Rt) (p : Pf) (w : World) (hr : FitR r) (hp : FitP p) : Calls Try.prog 61 #[.agg #[.bool r.pf.six, .int .u64 (hiN r.pf.n : Int), .int .u64 (loN r.pf.n : Int), .int .i64 r.pf.len, .int .u8 (r.act.k : Int), .int .i64 r.act.i], .agg #[.bool p.six, .int .u64 (hiN p.n : Int), .int .u64 (loN p.n : Int), .int .i64 p.len]] w fun e w' => e = .returned (.int .i64 (ordP r.pf p)) ∧ Below w.heap.size w w' := by
  have cc := fun W => order_any r.pf p W hr.1 hp
  unfold pfV at cc
  obtain ⟨X, hX⟩ : ∃ X, X = (w.alloc (.cells #[.bool r.pf.six, .int .u64 (hiN r.pf.n : Int), .int .u64 (loN r.pf.n : Int), .int .i64 r.pf.len, .int .u8 (r.act.k : Int), .int .i64 r.act.i] 32)).alloc (.cells #[.bool p.six, .int .u64 (hiN p.n : Int), .int .u64 (loN p.n : Int), .int .i64 p.len] 27) := ⟨_, rfl⟩
  have hB : Below w.heap.size w X := by rw [hX]; exact below_new (below_new (Below.refl _ _) _) _
  have r0 : RowAt X w.heap.size [.bool r.pf.six, .int .u64 (hiN r.pf.n : Int), .int .u64 (loN r.pf.n : Int), .int .i64 r.pf.len, .int .u8 (r.act.k : Int), .int .i64 r.act.i] 32 := by rw [hX]; exact (RowAt.new _ _ _).alloc _
  have r1 : RowAt X (w.heap.size + 1) [.bool p.six, .int .u64 (hiN p.n : Int), .int .u64 (loN p.n : Int), .int .i64 p.len] 27 := by rw [hX, ← World.size_alloc w (.cells #[.bool r.pf.six, .int .u64 (hiN r.pf.n : Int), .int .u64 (loN r.pf.n : Int), .int .i64 r.pf.len, .int .u8 (r.act.k : Int), .int .i64 r.act.i] 32)]; exact RowAt.new _ _ _
  generalize ordP r.pf p = R at *
  generalize r.pf.six = s0 at *
  generalize (hiN r.pf.n : Int) = s1 at *
  generalize (loN r.pf.n : Int) = s2 at *
  generalize r.pf.len = s3 at *
  generalize (r.act.k : Int) = s4 at *
  generalize r.act.i = s5 at *
  generalize p.six = t0 at *
  generalize (hiN p.n : Int) = t1 at *
  generalize (loN p.n : Int) = t2 at *
  generalize p.len = t3 at *
  clear hr hp
  have y0 := r0.cell 0
  have y1 := r0.cell 1
  have y2 := r0.cell 2
  have y3 := r0.cell 3
  simp only [List.getElem?_cons_zero, List.getElem?_cons_succ] at y0 y1 y2 y3
  obtain ⟨z0, z1, z2, z3, zf⟩ := cells4 r1
  go_enter Try.func61, Try.ntmps61
  go_upto_region 1 with fail
  rw [← hX]
  clear hX r0 r1
  go_wp2_with fail
  go_at_call 40; refine (cc _).mono ?_; rintro e w1 ⟨rfl, hb1⟩
  have hF := below2 hB hb1
  clear y0 y1 y2 y3 z0 z1 z2 z3 zf cc
  go_wp2_with fail
  go_ret
  exact ⟨rfl, hF⟩
/-- where a prefix's route is, or would be -/
def Pos (l : List Rt) (p : Pf) (k : Nat) : Prop := k ≤ l.length ∧ (∀ j (h : j < l.length), j < k → ltP l[j].pf p) ∧ ∀ j (h : j < l.length), k ≤ j → ¬ ltP l[j].pf p
def isAt (l : List Rt) (p : Pf) (k : Nat) : Bool := match l[k]? with
  | some r => decide (ordP r.pf p = 0)
  | none => false
theorem lt_below {l : List Rt} (hu : Up l) {p : Pf} {i j : Nat} (hi : i < l.length) (hj : j < l.length) (hij : i ≤ j) (h : ltP l[j].pf p) : ltP l[i].pf p := by
  by_cases e : i = j
  · subst e; exact h
  · exact ltP_trans (List.pairwise_iff_getElem.1 hu i j hi hj (by omega)) h
theorem half (i j : Nat) (h : i + j ≤ 2000) : IntKind.u64.wrap ((i : Int) + (j : Int)) = ((i + j : Nat) : Int) := by rw [IntKind.wrap_u64]; omega
set_option maxHeartbeats 8000000 in
set_option maxRecDepth 20000 in
theorem search_any (l : List Rt) (v : Value) (p : Pf) (w : World) (hl : HasRts w v l) (hu : Up l) (hf : ∀ r ∈ l, FitR r) (hp : FitP p) (hlen : l.length ≤ 256) :
    Calls Try.prog 60 #[v, .agg #[.bool p.six, .int .u64 (hiN p.n : Int), .int .u64 (loN p.n : Int), .int .i64 p.len], .func (.func 61) #[] #[]] w fun e w' => ∃ k, Pos l p k ∧ e = .returned (.tuple #[.int .i64 (k : Int), .bool (isAt l p k)]) ∧ Below w.heap.size w w' := by
  obtain ⟨o, c, rfl, hc1, hc2⟩ := Lk.HasRow.slice hl
  have HC : Hid (∀ k (h : k < l.length) (W : World), Calls Try.prog 61 #[.agg #[.bool l[k].pf.six, .int .u64 (hiN l[k].pf.n : Int), .int .u64 (loN l[k].pf.n : Int), .int .i64 l[k].pf.len, .int .u8 (l[k].act.k : Int), .int .i64 l[k].act.i], .agg #[.bool p.six, .int .u64 (hiN p.n : Int), .int .u64 (loN p.n : Int), .int .i64 p.len]] W fun e w' => e = .returned (.int .i64 (ordP l[k].pf p)) ∧ Below W.heap.size W w') := fun k h W => place1_any l[k] p W (hf _ (List.getElem_mem h)) hp
  obtain ⟨X, hX⟩ : ∃ X, X = w.alloc (.cells #[.bool p.six, .int .u64 (hiN p.n : Int), .int .u64 (loN p.n : Int), .int .i64 p.len] 27) := ⟨_, rfl⟩
  have hB : Below w.heap.size w X := by rw [hX]; exact below_new (Below.refl _ _) _
  have r1 : RowAt X w.heap.size [.bool p.six, .int .u64 (hiN p.n : Int), .int .u64 (loN p.n : Int), .int .i64 p.len] 27 := by rw [hX]; exact RowAt.new _ _ _
  have HR : Hid (∀ wr : World, Below X.heap.size X wr → HasRts wr (.slice o l.length c) l ∧ RowAt wr w.heap.size [.bool p.six, .int .u64 (hiN p.n : Int), .int .u64 (loN p.n : Int), .int .i64 p.len] 27) := fun wr hb => ⟨(hl.keep hB).keep hb, RowAt.below r1 hb⟩
  have HU : Hid (Up l) := hu
  obtain ⟨n, hn⟩ : ∃ n, n = l.length := ⟨_, rfl⟩
  have HN : Hid (n = l.length) := hn
  rw [← hn] at HR hc1 hlen ⊢
  generalize (hiN p.n : Int) = t1 at *
  generalize (loN p.n : Int) = t2 at *
  have HS : Hid (∃ t0 t3, t0 = p.six ∧ t3 = p.len) := ⟨_, _, rfl, rfl⟩
  obtain ⟨t0, ht0⟩ : ∃ t0, t0 = p.six := ⟨_, rfl⟩
  obtain ⟨t3, ht3⟩ : ∃ t3, t3 = p.len := ⟨_, rfl⟩
  rw [← ht0, ← ht3] at HC HR hX ⊢
  have hni : (n : Int) ≤ 256 := by omega
  clear hl hu hf hp hn r1 HS ht0 ht3
  go_enter Try.func60, Try.ntmps60
  go_upto_region 1 with fail
  rw [← hX]
  clear hX
  go_wp2_with fail
  go_loopw [9, 10] (fun u q wr => ∃ i j : Nat, i ≤ j ∧ j ≤ n ∧ u = .int .i64 i ∧ q = .int .i64 j ∧ Below X.heap.size X wr ∧ Hid ((∀ t (h : t < l.length), t < i → ltP l[t].pf p) ∧ ∀ t (h : t < l.length), j ≤ t → ¬ ltP l[t].pf p)) (fun u q _ => (Go.RowKit.intOf q).toNat - (Go.RowKit.intOf u).toNat)
  case atStart => exact ⟨0, n, by omega, Nat.le_refl _, rfl, rfl, Below.refl _ _, (⟨fun t h h2 => by omega, fun t h h2 => by have := HN.out; omega⟩ : (∀ t (h : t < l.length), t < 0 → ltP l[t].pf p) ∧ ∀ t (h : t < l.length), n ≤ t → ¬ ltP l[t].pf p)⟩
  case round =>
    obtain ⟨i, j, hij, hjn, rfl, rfl, hbr, HI⟩ := hrel
    obtain ⟨hh, rr⟩ := HR.out _ hbr
    have hin : (i : Int) ≤ 256 := by omega
    have hjn2 : (j : Int) ≤ 256 := by omega
    by_cases hlt : i < j
    · have hlti : (i : Int) < (j : Int) := by omega
      have hhl : (i + j) / 2 < l.length := by have := HN.out; omega
      obtain ⟨g1, i1, rfl, hg1, ax⟩ := HasRts.cell hh ((i + j) / 2) hhl
      have co := HC.out ((i + j) / 2) hhl
      have HL : Hid (ordP l[(i + j) / 2].pf p < 0 ↔ ltP l[(i + j) / 2].pf p) := ordP_lt _ _
      have HLB : Hid (ltP l[(i + j) / 2].pf p → ∀ t (h : t < l.length), t < (i + j) / 2 + 1 → ltP l[t].pf p) := fun hq t h ht => lt_below HU.out h hhl (by omega) hq
      have HLA : Hid (¬ ltP l[(i + j) / 2].pf p → ∀ t (h : t < l.length), (i + j) / 2 ≤ t → ¬ ltP l[t].pf p) := fun hq t h ht hc => hq (lt_below HU.out hhl h ht hc)
      go_upto_region 5 with fail
      rw [show ((i : Int) + (j : Int)) / 2 = (((i + j) / 2 : Nat) : Int) by omega]
      have hm1 : i ≤ (i + j) / 2 := by omega
      have hm2 : (i + j) / 2 < j := by omega
      generalize (i + j) / 2 = m at *
      have hmn : (m : Int) < (n : Int) := by omega
      obtain ⟨b0, b1, b2, b3, b4, b5⟩ := six_at ax
      clear ax
      obtain ⟨rk, hrk⟩ : ∃ rk, rk = l[m] := ⟨_, rfl⟩
      rw [← hrk] at co HL HLB HLA b0 b1 b2 b3 b4 b5
      clear hrk
      generalize ordP rk.pf p = OR at co HL
      have HD : Hid (decide (OR < 0) = true ↔ ltP rk.pf p) := by show _ ↔ _; rw [decide_eq_true_eq]; exact HL.out
      clear HL
      generalize rk.pf.six = s0 at *
      generalize (hiN rk.pf.n : Int) = s1 at *
      generalize (loN rk.pf.n : Int) = s2 at *
      generalize rk.pf.len = s3 at *
      generalize (rk.act.k : Int) = s4 at *
      generalize rk.act.i = s5 at *
      have u0 : ∀ p : Bl wr, p.W.cell? ⟨g1, i1 + m * 6, none⟩ = some (.bool s0) := fun p => (p.h.cell (p := ⟨g1, i1 + m * 6, none⟩) hg1).trans b0
      have u1 : ∀ p : Bl wr, p.W.cell? ⟨g1, i1 + m * 6 + 1, none⟩ = some (.int .u64 s1) := fun p => (p.h.cell (p := ⟨g1, i1 + m * 6 + 1, none⟩) hg1).trans b1
      have u2 : ∀ p : Bl wr, p.W.cell? ⟨g1, i1 + m * 6 + 2, none⟩ = some (.int .u64 s2) := fun p => (p.h.cell (p := ⟨g1, i1 + m * 6 + 2, none⟩) hg1).trans b2
      have u3 : ∀ p : Bl wr, p.W.cell? ⟨g1, i1 + m * 6 + 3, none⟩ = some (.int .i64 s3) := fun p => (p.h.cell (p := ⟨g1, i1 + m * 6 + 3, none⟩) hg1).trans b3
      have u4 : ∀ p : Bl wr, p.W.cell? ⟨g1, i1 + m * 6 + 4, none⟩ = some (.int .u8 s4) := fun p => (p.h.cell (p := ⟨g1, i1 + m * 6 + 4, none⟩) hg1).trans b4
      have u5 : ∀ p : Bl wr, p.W.cell? ⟨g1, i1 + m * 6 + 5, none⟩ = some (.int .i64 s5) := fun p => (p.h.cell (p := ⟨g1, i1 + m * 6 + 5, none⟩) hg1).trans b5
      have m0 : ∀ p : Bl wr, p.W.cell? ⟨w.heap.size, 0, none⟩ = some (.bool t0) := fun p => (rr.below p.h).cell 0
      have m1 : ∀ p : Bl wr, p.W.cell? ⟨w.heap.size, 1, none⟩ = some (.int .u64 t1) := fun p => (rr.below p.h).cell 1
      have m2 : ∀ p : Bl wr, p.W.cell? ⟨w.heap.size, 2, none⟩ = some (.int .u64 t2) := fun p => (rr.below p.h).cell 2
      have m3 : ∀ p : Bl wr, p.W.cell? ⟨w.heap.size, 3, none⟩ = some (.int .i64 t3) := fun p => (rr.below p.h).cell 3
      haveI := bl_ne wr
      clear b0 b1 b2 b3 b4 b5 hh rr
      refine wp_region_bl (by kernel_rfl) (by kernel_rfl) ?_
      repeat (go_big_quiet_step (first | (go_at_call 61; with_reducible exact bl_call (co _))))
      refine wpQuiet_nil ?_
      intro wq hw'
      obtain ⟨⟨wz, hq⟩, hw2⟩ := hw'
      subst hw2
      have hW := below2 hbr hq
      clear u0 u1 u2 u3 u4 u5 m0 m1 m2 m3 hbr hq co
      cases hOR : decide (OR < 0)
      · have HF : Hid ((∀ t (h : t < l.length), t < i → ltP l[t].pf p) ∧ ∀ t (h : t < l.length), m ≤ t → ¬ ltP l[t].pf p) := ⟨HI.out.1, HLA.out (fun h => by have := HD.out.2 h; rw [hOR] at this; cases this)⟩
        clear HLA HLB HD HI
        go_wp2_with fail
        go_roundw
        case rel => exact ⟨i, m, hm1, by omega, rfl, rfl, hW, HF⟩
        case measure => simp [Go.RowKit.intOf]; omega
      · have HF : Hid ((∀ t (h : t < l.length), t < m + 1 → ltP l[t].pf p) ∧ ∀ t (h : t < l.length), j ≤ t → ¬ ltP l[t].pf p) := ⟨HLB.out (HD.out.1 hOR), HI.out.2⟩
        clear HLA HLB HD HI
        go_wp2_with fail
        go_roundw
        case rel => exact ⟨m + 1, j, by omega, hjn, by go_num, rfl, hW, HF⟩
        case measure => simp [Go.RowKit.intOf]; omega
    · obtain rfl : i = j := by omega
      have hd : decide ((i : Int) < (i : Int)) = false := decide_eq_false (by omega)
      have HP : Hid (Pos l p i) := ⟨by have := HN.out; omega, HI.out.1, HI.out.2⟩
      clear HI
      by_cases hin2 : i < n
      · have hhl : i < l.length := by have := HN.out; omega
        obtain ⟨g1, i1, rfl, hg1, ax⟩ := HasRts.cell hh i hhl
        have co := HC.out i hhl
        have hii : (i : Int) < (n : Int) := by omega
        have HE : Hid (isAt l p i = decide (ordP l[i].pf p = 0)) := by show isAt l p i = _; unfold isAt; rw [List.getElem?_eq_getElem hhl]
        obtain ⟨b0, b1, b2, b3, b4, b5⟩ := six_at ax
        clear ax
        obtain ⟨rk, hrk⟩ : ∃ rk, rk = l[i] := ⟨_, rfl⟩
        rw [← hrk] at co HE b0 b1 b2 b3 b4 b5
        clear hrk
        generalize ordP rk.pf p = OR at co HE
        generalize rk.pf.six = s0 at *
        generalize (hiN rk.pf.n : Int) = s1 at *
        generalize (loN rk.pf.n : Int) = s2 at *
        generalize rk.pf.len = s3 at *
        generalize (rk.act.k : Int) = s4 at *
        generalize rk.act.i = s5 at *
        have u0 : ∀ p : Bl wr, p.W.cell? ⟨g1, i1 + i * 6, none⟩ = some (.bool s0) := fun p => (p.h.cell (p := ⟨g1, i1 + i * 6, none⟩) hg1).trans b0
        have u1 : ∀ p : Bl wr, p.W.cell? ⟨g1, i1 + i * 6 + 1, none⟩ = some (.int .u64 s1) := fun p => (p.h.cell (p := ⟨g1, i1 + i * 6 + 1, none⟩) hg1).trans b1
        have u2 : ∀ p : Bl wr, p.W.cell? ⟨g1, i1 + i * 6 + 2, none⟩ = some (.int .u64 s2) := fun p => (p.h.cell (p := ⟨g1, i1 + i * 6 + 2, none⟩) hg1).trans b2
        have u3 : ∀ p : Bl wr, p.W.cell? ⟨g1, i1 + i * 6 + 3, none⟩ = some (.int .i64 s3) := fun p => (p.h.cell (p := ⟨g1, i1 + i * 6 + 3, none⟩) hg1).trans b3
        have u4 : ∀ p : Bl wr, p.W.cell? ⟨g1, i1 + i * 6 + 4, none⟩ = some (.int .u8 s4) := fun p => (p.h.cell (p := ⟨g1, i1 + i * 6 + 4, none⟩) hg1).trans b4
        have u5 : ∀ p : Bl wr, p.W.cell? ⟨g1, i1 + i * 6 + 5, none⟩ = some (.int .i64 s5) := fun p => (p.h.cell (p := ⟨g1, i1 + i * 6 + 5, none⟩) hg1).trans b5
        have m0 : ∀ p : Bl wr, p.W.cell? ⟨w.heap.size, 0, none⟩ = some (.bool t0) := fun p => (rr.below p.h).cell 0
        have m1 : ∀ p : Bl wr, p.W.cell? ⟨w.heap.size, 1, none⟩ = some (.int .u64 t1) := fun p => (rr.below p.h).cell 1
        have m2 : ∀ p : Bl wr, p.W.cell? ⟨w.heap.size, 2, none⟩ = some (.int .u64 t2) := fun p => (rr.below p.h).cell 2
        have m3 : ∀ p : Bl wr, p.W.cell? ⟨w.heap.size, 3, none⟩ = some (.int .i64 t3) := fun p => (rr.below p.h).cell 3
        haveI := bl_ne wr
        clear b0 b1 b2 b3 b4 b5 hh rr
        go_wp2_with fail
        refine wp_region_bl (by kernel_rfl) (by kernel_rfl) ?_
        repeat (go_big_quiet_step (first | (go_at_call 61; with_reducible exact bl_call (co _))))
        refine wpQuiet_nil ?_
        intro wq hw'
        obtain ⟨⟨wz, hq⟩, hw2⟩ := hw'
        subst hw2
        have hW := below2 (below2 hB hbr) hq
        clear u0 u1 u2 u3 u4 u5 m0 m1 m2 m3 hbr hq co
        go_wp2_with fail
        go_ret2
        refine ⟨i, HP.out, ?_, hW⟩
        rw [HE.out]
        first
          | rfl
          | (by_cases h : OR = 0 <;> simp [h])
      · have hii : ¬ ((i : Int) < (n : Int)) := by omega
        have HE : Hid (isAt l p i = false) := by show isAt l p i = _; unfold isAt; rw [List.getElem?_eq_none (by have := HN.out; omega)]
        have hW := below2 hB hbr
        haveI := bl_ne wr
        clear hh rr
        go_wp2_with fail
        refine wp_region_bl (by kernel_rfl) (by kernel_rfl) ?_
        repeat (go_big_quiet_step (fail))
        refine wpQuiet_nil ?_
        intro wq hw'
        obtain ⟨⟨wz, hq⟩, hw2⟩ := hw'
        subst hw2
        replace hW := below2 hW hq
        go_wp2_with fail
        go_ret2
        exact ⟨i, HP.out, by rw [HE.out]; rfl, hW⟩
set_option maxHeartbeats 4000000 in
set_option maxRecDepth 20000 in
theorem place_any (l : List Rt) (v : Value) (p : Pf) (w : World) (hl : HasRts w v l) (hu : Up l) (hf : ∀ r ∈ l, FitR r) (hp : FitP p) (hlen : l.length ≤ 256) :
    Calls Try.prog 31 #[v, .agg #[.bool p.six, .int .u64 (hiN p.n : Int), .int .u64 (loN p.n : Int), .int .i64 p.len]] w fun e w' => ∃ k, Pos l p k ∧ e = .returned (.tuple #[.int .i64 (k : Int), .bool (isAt l p k)]) ∧ Below w.heap.size w w' := by
  have cs := fun W (hb : Below w.heap.size w W) => search_any l v p W (hl.keep hb) hu hf hp hlen
  obtain ⟨X, hX⟩ : ∃ X, X = w.alloc (.cells #[.bool p.six, .int .u64 (hiN p.n : Int), .int .u64 (loN p.n : Int), .int .i64 p.len] 27) := ⟨_, rfl⟩
  have hB : Below w.heap.size w X := by rw [hX]; exact below_new (Below.refl _ _) _
  have r1 : RowAt X w.heap.size [.bool p.six, .int .u64 (hiN p.n : Int), .int .u64 (loN p.n : Int), .int .i64 p.len] 27 := by rw [hX]; exact RowAt.new _ _ _
  obtain ⟨z0, z1, z2, z3, zf⟩ := cells4 r1
  obtain ⟨o, c, rfl, hc1, hc2⟩ := Lk.HasRow.slice hl
  clear hl hu hf hp
  go_enter Try.func31, Try.ntmps31
  go_upto_region 1 with fail
  rw [← hX]
  clear hX r1
  go_wp2_with fail
  go_at_call 60; refine (cs _ hB).mono ?_; rintro e w1 ⟨k, hk, rfl, hb1⟩
  have hF := below2 hB hb1
  clear z0 z1 z2 z3 zf cs
  go_wp2_with fail
  go_ret2
  exact ⟨k, hk, rfl, hF⟩
end Go.Proofs.Ytjgieaijdkmadaa.Tr
