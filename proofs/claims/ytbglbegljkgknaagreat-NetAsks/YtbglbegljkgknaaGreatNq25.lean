/- trie.Longest. -/
import Derived.Test.YtbglbegljkgknaaGreatNq24
set_option linter.unusedVariables false
namespace Go.Proofs.YtbglbegljkgknaaGreat.Tr
open Go.RowKit Go.Shelf
open Go.Proofs.YtbglbegljkgknaaGreat.Rng
open Go.Proofs.YtbglbegljkgknaaGreat.Lk (HasRow)
open Go.Proofs.YtbglbegljkgknaaGreat.Addr (Pf okP wideN kP hasB coversB rightB hiN loN adV RowAt below2 below_drew below_new bset RowAt.lt RowAt.cell RowAt.frozen RowAt.below RowAt.drew RowAt.new RowAt.alloc RowAt.set1 cells2)
attribute [local go_sem] Oper.semAt_some
theorem way_any (g : Nat) (six : Bool) (z1 z2 : Int) (w : World) : Calls Tryz.prog 95 #[.pointer (some ⟨g, 0, none⟩), .bool six, .agg #[.int .u64 z1, .int .u64 z2]] w fun e w' => e = .returned (.func (.func 121) #[] #[.pointer (some ⟨w.heap.size, 0, none⟩), .pointer (some ⟨w.heap.size + 1, 0, none⟩), .pointer (some ⟨w.heap.size + 1 + 1, 0, none⟩)]) ∧ w' = ((w.alloc (.cells #[.pointer (some ⟨g, 0, none⟩)] 141)).alloc (.cells #[.bool six] 4)).alloc (.cells #[.int .u64 z1, .int .u64 z2] 31) := by
  go_enter Tryz.func95, Tryz.ntmps95
  go_wp2
  go_ret
  exact ⟨rfl, rfl⟩
def zeroR : Rt := ⟨⟨false, 0, 0⟩, ⟨0, 0⟩⟩
def lastR (xs : List Rt) : Rt := xs.getLast?.getD zeroR
def codeR (xs : List Rt) : Int := if xs.length = 0 then 3 else 0
def longT (l : List Rt) (six : Bool) (a : Nat) : Rt × Int := if okT l && rightB six a then (lastR (l.filter (hasR six a)), codeR (l.filter (hasR six a))) else (zeroR, 2)
theorem lastR_snoc (xs : List Rt) (x : Rt) : lastR (xs ++ [x]) = x := by unfold lastR; simp
theorem codeR_snoc (xs : List Rt) (x : Rt) : codeR (xs ++ [x]) = 0 := by unfold codeR; simp
def rtA (r : Rt) : Value := .agg #[.bool r.pf.six, .int .u64 (hiN r.pf.n : Int), .int .u64 (loN r.pf.n : Int), .int .i64 r.pf.len, .int .u8 (r.act.k : Int), .int .i64 r.act.i]
theorem kw_b {bL bW : Nat} (W : World) (l : Nat) (o o' : Obj) (h : W.heap[l]? = some o) (hc : o.isCells = false) : Kw bL bW W (W.putObj l o') :=
  ⟨by simp, fun b p _ _ hp hpc => (World.putObj_heap_other (fun e => by subst e; rw [h] at hp; injection hp with hp; subst hp; rw [hc] at hpc; cases hpc)).trans hp⟩
theorem grown_drew {W W' : World} {r : Option Nat} (h : W.grownBy W' r) : W.grownBy W'.drew r := ⟨h.os, h.tape, h.output, h.size, h.block⟩
/-- between two rounds -/
structure LI (m n₀ bR bL bW : Nat) (w : World) (pre : List Rt) (W : World) : Prop where
  sz : m ≤ W.heap.size
  lo : RowAt W bL (rtC (lastR pre)) 105
  wy : RowAt W bW [.int .i64 (codeR pre)] 39
  re : RowAt W bR (rtC zeroR) 105
  bl : Below n₀ w W
theorem li_held {m n₀ bR bL bW B : Nat} {w : World} (h0 : n₀ ≤ w.heap.size) (h1 : bR < B) (h2 : bL < B) (h3 : bW < B) (hB : n₀ ≤ B) : Held B (LI m n₀ bR bL bW w) := by
  intro s A C row h hg hr
  have keep : ∀ k cs t, k < B → RowAt A k cs t → RowAt C k cs t := fun k cs t hk hrow => (hg.block k (RowAt.lt hrow) (fun e => by have := hr k e.symm; omega)).trans hrow
  exact ⟨Nat.le_trans h.sz hg.size, keep _ _ _ h2 h.lo, keep _ _ _ h3 h.wy, keep _ _ _ h1 h.re, h.bl.grown hg (Nat.le_trans h0 h.bl.size) (fun k e => by have := hr k e; omega)⟩
set_option maxHeartbeats 8000000 in
set_option maxRecDepth 20000 in
theorem longest_any (l : List Rt) (v : Value) (six : Bool) (a : Nat) (w : World) (hl : HasRts w v l) (hf : ∀ x ∈ l, FitR x) (ha : a < 2 ^ 128) :
    Calls Tryz.prog 68 #[v, .bool six, .agg #[.int .u64 (hiN a : Int), .int .u64 (loN a : Int)]] w fun e w' => e = .returned (.tuple #[rtA (longT l six a).1, .int .i64 (longT l six a).2]) ∧ Below w.heap.size w w' := by
  obtain ⟨o, c, rfl, hc1, hc2⟩ := Lk.HasRow.slice hl
  have cc := fun W (hb : Below w.heap.size w W) => check_any l _ W (hl.keep hb) hf
  have cr := fun W => Go.Proofs.YtbglbegljkgknaaGreat.Addr.right_any six a W ha
  unfold adV at cr
  have hck : checkT l = if okT l then 0 else 2 := rfl
  rw [hck] at cc
  obtain ⟨X, hX⟩ : ∃ X, X = (w.alloc (.cells #[.int .u64 (hiN a : Int), .int .u64 (loN a : Int)] 31)).alloc (.cells #[.bool false, .int .u64 0, .int .u64 0, .int .i64 0, .int .u8 0, .int .i64 0] 105) := ⟨_, rfl⟩
  have hB : Below w.heap.size w X := by rw [hX]; exact below_new (below_new (Below.refl _ _) _) _
  have r0 : RowAt X w.heap.size [.int .u64 (hiN a : Int), .int .u64 (loN a : Int)] 31 := by rw [hX]; exact (RowAt.new _ _ _).alloc _
  have r1 : RowAt X (w.heap.size + 1) (rtC zeroR) 105 := by rw [hX, ← World.size_alloc w (.cells #[.int .u64 (hiN a : Int), .int .u64 (loN a : Int)] 31)]; exact RowAt.new _ _ _
  have bad : ∀ (W : World), Below X.heap.size X W → RowAt W (w.heap.size + 1) [.bool false, .int .u64 0, .int .u64 0, .int .i64 0, .int .u8 0, .int .i64 0] 105 := fun W hb => r1.below hb
  have HBAD : Hid (∀ (W : World), Below X.heap.size X W → RowAt W (w.heap.size + 1) [.bool false, .int .u64 0, .int .u64 0, .int .i64 0, .int .u8 0, .int .i64 0] 105) := bad
  clear bad
  cases hok : okT l
  · have hP : longT l six a = (zeroR, 2) := by unfold longT; rw [hok]; rfl
    rw [hok] at cc
    simp only [Bool.false_eq_true, if_false] at cc
    rw [hP]
    clear cr hP
    generalize (hiN a : Int) = z1 at *
    generalize (loN a : Int) = z2 at *
    go_enter Tryz.func68, Tryz.ntmps68
    go_upto_region 1 with fail
    rw [← hX]
    clear hX
    go_wp2_with fail
    go_at_call 56; refine (cc _ hB).mono ?_; rintro e w1 ⟨rfl, hb1⟩
    have r3 := HBAD.out _ hb1
    have y0 := r3.cell 0
    have y1 := r3.cell 1
    have y2 := r3.cell 2
    have y3 := r3.cell 3
    have y4 := r3.cell 4
    have y5 := r3.cell 5
    simp only [List.getElem?_cons_zero, List.getElem?_cons_succ] at y0 y1 y2 y3 y4 y5
    have yf := r3.frozen
    have yl := r3.lt
    have hW := below2 hB hb1
    go_wp2_with fail
    (try simp only [Exit.inBlock, Exit.then])
    refine bodyPost_ret (v := .tuple #[.agg #[.bool false, .int .u64 0, .int .u64 0, .int .i64 0, .int .u8 0, .int .i64 0], .int .i64 2]) ?_ rfl ⟨rfl, bset (bset (bset (bset (bset (bset hW (by omega)) (by omega)) (by omega)) (by omega)) (by omega)) (by omega)⟩
    rw [results_cell_tmp1 rfl]
    go_simp
  rw [hok] at cc
  simp only [if_true] at cc
  cases hri : rightB six a
  · have hP : longT l six a = (zeroR, 2) := by unfold longT; rw [hok, hri]; rfl
    rw [hri] at cr
    rw [hP]
    clear hP
    generalize (hiN a : Int) = z1 at *
    generalize (loN a : Int) = z2 at *
    go_enter Tryz.func68, Tryz.ntmps68
    go_upto_region 1 with fail
    rw [← hX]
    clear hX
    go_wp2_with fail
    go_at_call 56; refine (cc _ hB).mono ?_; rintro e w1 ⟨rfl, hb1⟩
    obtain ⟨x0, x1, xf⟩ := cells2 (r0.below hb1)
    go_wp2_with fail
    go_at_call 38; refine (cr _).mono ?_; rintro e w2 ⟨rfl, hb2⟩
    clear x0 x1 xf
    have r3 := HBAD.out _ (below2 hb1 hb2)
    have y0 := r3.cell 0
    have y1 := r3.cell 1
    have y2 := r3.cell 2
    have y3 := r3.cell 3
    have y4 := r3.cell 4
    have y5 := r3.cell 5
    simp only [List.getElem?_cons_zero, List.getElem?_cons_succ] at y0 y1 y2 y3 y4 y5
    have yf := r3.frozen
    have yl := r3.lt
    have hW := below2 (below2 hB hb1) hb2
    go_wp2_with fail
    (try simp only [Exit.inBlock, Exit.then])
    refine bodyPost_ret (v := .tuple #[.agg #[.bool false, .int .u64 0, .int .u64 0, .int .i64 0, .int .u8 0, .int .i64 0], .int .i64 2]) ?_ rfl ⟨rfl, bset (bset (bset (bset (bset (bset hW (by omega)) (by omega)) (by omega)) (by omega)) (by omega)) (by omega)⟩
    rw [results_cell_tmp1 rfl]
    go_simp
  have hP : longT l six a = (lastR (l.filter (hasR six a)), codeR (l.filter (hasR six a))) := by unfold longT; rw [hok, hri]; rfl
  rw [hri] at cr
  rw [hP]
  have hokl := (okT_iff l).1 hok
  have cg := fun W (hb : Below w.heap.size w W) => grown_any l _ W (hl.keep hb) hokl.2.2 (fun x hx => by have := hokl.2.1 x hx; unfold okR at this; simp only [Bool.and_eq_true] at this; exact this.1) hokl.1
  have cw := fun g W => way_any g six (hiN a : Int) (loN a : Int) W
  refine (callsIn_wide (n := 5)).1 ?_
  refine callsIn_of_wp_marks Tryz.func68 rfl trivial ?_ rfl
  simp only [Tryz.ntmps68, List.size_toArray, List.length_cons, List.length_nil, Nat.reduceAdd, Nat.reduceSub, Array.replicate_succ, Array.replicate_zero, List.push_toArray, List.append_toArray, List.nil_append, List.cons_append]
  gi_upto_region 1 with fail
  rw [← hX]
  clear hX
  gi_wp2_with fail
  refine ⟨trivial, ?_⟩
  gi_at_call 56; refine (callsIn_wide.2 (cc _ hB)).mono ?_; rintro e w1 ⟨rfl, hb1⟩
  obtain ⟨x0, x1, xf⟩ := cells2 (r0.below hb1)
  gi_wp2_with fail
  refine ⟨trivial, ?_⟩
  gi_at_call 38; refine (callsIn_wide.2 (cr _)).mono ?_; rintro e w2 ⟨rfl, hb2⟩
  clear x0 x1 xf
  have hb02 := below2 hb1 hb2
  gi_upto_region 4 with fail
  obtain ⟨Y, hY⟩ : ∃ Y, Y = (w2.alloc (.cells #[.bool false, .int .u64 0, .int .u64 0, .int .i64 0, .int .u8 0, .int .i64 0] 105)).alloc (.cells #[.int .i64 3] 39) := ⟨_, rfl⟩
  have hbY2 : Below w2.heap.size w2 Y := by rw [hY]; exact below_new (below_new (Below.refl _ _) _) _
  have rL : RowAt Y w2.heap.size (rtC zeroR) 105 := by rw [hY]; exact (RowAt.new _ _ _).alloc _
  have rW : RowAt Y (w2.heap.size + 1) [.int .i64 3] 39 := by rw [hY, ← World.size_alloc w2 (.cells #[.bool false, .int .u64 0, .int .u64 0, .int .i64 0, .int .u8 0, .int .i64 0] 105)]; exact RowAt.new _ _ _
  have hYs : Y.heap.size = w2.heap.size + 1 + 1 := by rw [hY]; simp
  rw [← hY]
  clear hY
  have hbXY := below2 hb02 hbY2
  have hbwY := below2 hB hbXY
  have rR : RowAt Y (w.heap.size + 1) (rtC zeroR) 105 := HBAD.out _ hbXY
  have rA : RowAt Y w.heap.size [.int .u64 (hiN a : Int), .int .u64 (loN a : Int)] 31 := r0.below hbXY
  have hws : w.heap.size + 1 < w2.heap.size := (HBAD.out _ hb02).lt
  obtain ⟨bL, hbL⟩ : ∃ bL, bL = w2.heap.size := ⟨_, rfl⟩
  rw [← hbL] at rL rW hYs hws ⊢
  have cg2 := fun W (hb : Below Y.heap.size Y W) => cg W (below2 hbwY hb)
  have HSK : Hid (∀ W : World, Below Y.heap.size Y W → W.cell? ⟨w.heap.size, 0, none⟩ = some (.int .u64 (hiN a : Int)) ∧ W.cell? ⟨w.heap.size, 1, none⟩ = some (.int .u64 (loN a : Int))) := fun W hb => ⟨(rA.below hb).cell 0, (rA.below hb).cell 1⟩
  have hbA : Below Y.heap.size Y Y := Below.refl _ _
  clear cc cr cg hbL hb1 hb2 hb02 hbY2 hbXY
  refine wpIn_wide.2 ?_
  go_region_held3 (fun W => W.cell? ⟨w.heap.size, 0, none⟩ = some (.int .u64 (hiN a : Int)) ∧ W.cell? ⟨w.heap.size, 1, none⟩ = some (.int .u64 (loN a : Int)))
    (first
      | (refine HSK.out _ ?_
         repeat' (first | with_reducible exact hbA | with_reducible apply below_drew | with_reducible apply below_new)))
    (first
      | (go_at_call 94
         refine (cg2 _ (by repeat' (first | with_reducible exact hbA | with_reducible apply below_drew))).mono ?_
         rintro e w3 ⟨g, u0, u1, K0, K1, rfl, hT, hfil, hlnK, hb3⟩
         have hbN : Below Y.heap.size Y w3 := below2 (by repeat' (first | with_reducible exact hbA | with_reducible apply below_drew)) hb3
         clear hbA
         have hbA := hbN
         clear hbN)
      | (go_at_call 95
         refine (cw _ _).mono ?_
         rintro e w4 ⟨rfl, rfl⟩))
  obtain ⟨V, hV⟩ : ∃ V, V = ((w3.alloc (.cells #[.pointer (some ⟨g, 0, none⟩)] 141)).alloc (.cells #[.bool six] 4)).alloc (.cells #[.int .u64 (hiN a : Int), .int .u64 (loN a : Int)] 31) := ⟨_, rfl⟩
  have hb3V : Below w3.heap.size w3 V := by rw [hV]; exact below_new (below_new (below_new (Below.refl _ _) _) _) _
  have e1 : (w3.alloc (.cells #[.pointer (some ⟨g, 0, none⟩)] 141)).heap.size = w3.heap.size + 1 := World.size_alloc _ _
  have e2 : ((w3.alloc (.cells #[.pointer (some ⟨g, 0, none⟩)] 141)).alloc (.cells #[.bool six] 4)).heap.size = w3.heap.size + 1 + 1 := by rw [World.size_alloc, e1]
  have v1 : RowAt V w3.heap.size [.pointer (some ⟨g, 0, none⟩)] 141 := by rw [hV]; exact ((RowAt.new _ _ _).alloc _).alloc _
  have v2 : RowAt V (w3.heap.size + 1) [.bool six] 4 := by rw [hV, ← e1]; exact (RowAt.new _ _ _).alloc _
  have v3 : RowAt V (w3.heap.size + 1 + 1) [.int .u64 (hiN a : Int), .int .u64 (loN a : Int)] 31 := by rw [hV, ← e2]; exact RowAt.new _ _ _
  rw [← hV]
  clear hV e1 e2 HSK cg2 cw
  have hbYV := below2 hbA hb3V
  have hTV := hT.below hb3V
  have hY3 : Y.heap.size ≤ w3.heap.size := hbA.size
  have hYd : (Y.drew).heap.size = Y.heap.size := rfl
  have hwV := below2 hbwY hbYV
  have I0 : LI V.heap.size w.heap.size (w.heap.size + 1) bL (bL + 1) w [] V := ⟨Nat.le_refl _, rL.below hbYV, rW.below hbYV, rR.below hbYV, hwV⟩
  have hVY := hbYV.size
  have hww := hbwY.size
  gi_wp2_with fail
  refine range_cells (α := Rt) (by omega) (gf := 121) (lb := #[.pointer (some ⟨w3.heap.size, 0, none⟩), .pointer (some ⟨w3.heap.size + 1, 0, none⟩), .pointer (some ⟨w3.heap.size + 1 + 1, 0, none⟩)]) rfl (enters_of Tryz.func121 (by kernel_rfl) rfl)
    (way1_tells six a (5 - 1) w3.heap.size (w3.heap.size + 1) (w3.heap.size + 1 + 1) bL (bL + 1) V hTV v1 v2 v3 (by omega) (by omega) (by omega) (by omega) ha (hlnK six)) kw_t kw_b (fun _ => rfl)
    (LI V.heap.size w.heap.size (w.heap.size + 1) bL (bL + 1) w) (li_held (Nat.le_refl _) (by omega) (by omega) (by omega) (by omega)) I0
    (fun x a' W => ∃ Bx, RowAt W Bx (rtC x) 105 ∧ V.heap.size ≤ Bx ∧ a' = { tmps := #[.slice o l.length c, .bool six, .agg #[.int .u64 (hiN a : Int), .int .u64 (loN a : Int)], undef, undef, .pointer (some ⟨w.heap.size, 0, none⟩), .pointer (some ⟨w.heap.size + 1, 0, none⟩), .int .i64 0, .pointer (some ⟨bL, 0, none⟩), .pointer (some ⟨bL + 1, 0, none⟩), .pointer (some ⟨Bx, 0, none⟩), .slice o l.length c, .int .i64 0, .bool false, .bool false, .bool six, .agg #[.int .u64 (hiN a : Int), .int .u64 (loN a : Int)], .bool true, .bool false, .bool false, undef, .agg #[.bool false, .int .u64 0, .int .u64 0, .int .i64 0, .int .u8 0, .int .i64 0], .slice o l.length c, .pointer (some ⟨g, 0, none⟩), .bool six, .agg #[.int .u64 (hiN a : Int), .int .u64 (loN a : Int)], .func (.func 121) #[] #[.pointer (some ⟨w3.heap.size, 0, none⟩), .pointer (some ⟨w3.heap.size + 1, 0, none⟩), .pointer (some ⟨w3.heap.size + 1 + 1, 0, none⟩)], .agg #[.bool x.pf.six, .int .u64 (hiN x.pf.n : Int), .int .u64 (loN x.pf.n : Int), .int .i64 x.pf.len, .int .u8 (x.act.k : Int), .int .i64 x.act.i], undef, undef, undef], defers := [] })
    (fun x a' W l o o' ⟨Bx, h1, h2, h3⟩ ho hc => ⟨Bx, (World.putObj_heap_other (fun e => by subst e; have h4 : W.heap[Bx]? = _ := h1; rw [h4] at ho; injection ho with ho; subst ho; cases hc)).trans h1, h2, h3⟩)
    ?assign ?body ?done
  case assign =>
    rintro lp pre x W K hI hK
    have hA := hK _ (W.alloc (.cells #[.bool x.pf.six, .int .u64 (hiN x.pf.n : Int), .int .u64 (loN x.pf.n : Int), .int .i64 x.pf.len, .int .u8 (x.act.k : Int), .int .i64 x.act.i] 105)) ((KeepsOthers.alloc W _).from _) ⟨by simp, fun b o _ _ h _ => (Below.heap_alloc W _ b (Array.getElem?_eq_some_iff.1 h).1).trans h⟩ (li_held (B := V.heap.size) (Nat.le_refl _) (by omega) (by omega) (by omega) (by omega) pre W _ none hI (World.grownBy_alloc W _ none) (fun r e => by cases e)) ⟨W.heap.size, RowAt.new W (rtC x) _, hI.sz, rfl⟩
    unfold encW
    gi_wp2
    exact hA
  case body =>
    rintro lp pre x a' W hI ⟨Bx, hx, hge, rfl⟩
    obtain ⟨c0, c1, c2, c3, c4, c5⟩ := six_at (i := 0) (fun t ht => by rw [Nat.zero_add]; exact hx.cell t)
    obtain ⟨d0, d1, d2, d3, d4, d5⟩ := six_at (i := 0) (fun t ht => by rw [Nat.zero_add]; exact hI.lo.cell t)
    simp only [Nat.zero_add] at c0 c1 c2 c3 c4 c5 d0 d1 d2 d3 d4 d5
    have df := hI.lo.frozen
    have e0 := hI.wy.cell 0
    simp only [List.getElem?_cons_zero] at e0
    have ef := hI.wy.frozen
    have hdl := hI.lo.lt
    have hel := hI.wy.lt
    obtain ⟨W5, hW5⟩ : ∃ W5, W5 = ((((((W.setCell ⟨bL, 0, none⟩ (.bool x.pf.six)).setCell ⟨bL, 1, none⟩ (.int .u64 (hiN x.pf.n : Int))).setCell ⟨bL, 2, none⟩ (.int .u64 (loN x.pf.n : Int))).setCell ⟨bL, 3, none⟩ (.int .i64 x.pf.len)).setCell ⟨bL, 4, none⟩ (.int .u8 (x.act.k : Int))).setCell ⟨bL, 5, none⟩ (.int .i64 x.act.i)) := ⟨_, rfl⟩
    have hg5 : W.grownBy W5 (some bL) := by rw [hW5]; exact grown_s (grown_s (grown_s (grown_s (grown_s (grown_s (World.grownBy.refl W _) 0 _) 1 _) 2 _) 3 _) 4 _) 5 _
    have r5 : RowAt W5 bL (rtC x) 105 := by rw [hW5]; exact (((((hI.lo.set1 0 _).set1 1 _).set1 2 _).set1 3 _).set1 4 _).set1 5 _
    have hg6 : W5.grownBy (W5.setCell ⟨bL + 1, 0, none⟩ (.int .i64 0)) (some (bL + 1)) := grown_s (World.grownBy.refl W5 _) 0 _
    have w5 : RowAt W5 (bL + 1) [.int .i64 (codeR pre)] 39 := row_other hI.wy hg5 (by omega)
    have q5 : RowAt W5 (w.heap.size + 1) (rtC zeroR) 105 := row_other hI.re hg5 (by omega)
    have HL : Hid (LI V.heap.size w.heap.size (w.heap.size + 1) bL (bL + 1) w (pre ++ [x]) (W5.setCell ⟨bL + 1, 0, none⟩ (.int .i64 0))) := by
      refine ⟨Nat.le_trans hI.sz (Nat.le_trans hg5.size hg6.size), by rw [lastR_snoc]; exact row_other r5 hg6 (by omega), by rw [codeR_snoc]; exact w5.set1 0 _, row_other q5 hg6 (by omega), ?_⟩
      exact (hI.bl.grown hg5 hI.bl.size (fun k e => by injection e with e; omega)).grown hg6 (Nat.le_trans hI.bl.size hg5.size) (fun k e => by injection e with e; omega)
    have HK : Hid (KeepsFrom V.heap.size W (W5.setCell ⟨bL + 1, 0, none⟩ (.int .i64 0)) ∧ Kw bL (bL + 1) W (W5.setCell ⟨bL + 1, 0, none⟩ (.int .i64 0))) := by
      refine ⟨(KeepsFrom.of_grownBy hg5 (fun j e => by injection e with e; omega)).trans (KeepsFrom.of_grownBy hg6 (fun j e => by injection e with e; omega)), Nat.le_trans hg5.size hg6.size, fun b o h1 h2 h3 h4 => ?_⟩
      have hb := (Array.getElem?_eq_some_iff.1 h3).1
      rw [hg6.block b (Nat.lt_of_lt_of_le hb hg5.size) (fun e => by injection e with e; exact h2 e), hg5.block b hb (fun e => by injection e with e; exact h1 e)]
      exact h3
    have HW5 : Hid (W5 = ((((((W.setCell ⟨bL, 0, none⟩ (.bool x.pf.six)).setCell ⟨bL, 1, none⟩ (.int .u64 (hiN x.pf.n : Int))).setCell ⟨bL, 2, none⟩ (.int .u64 (loN x.pf.n : Int))).setCell ⟨bL, 3, none⟩ (.int .i64 x.pf.len)).setCell ⟨bL, 4, none⟩ (.int .u8 (x.act.k : Int))).setCell ⟨bL, 5, none⟩ (.int .i64 x.act.i))) := hW5
    clear hW5 hg5 hg6 r5 w5 q5
    gi_wp2
    rw [← HW5.out]
    exact ⟨HK.out.1, HK.out.2, HL.out⟩
  case done =>
    rintro D xs W hD hS hI hK
    rw [hfil six a] at hS
    subst hS
    obtain ⟨d0, d1, d2, d3, d4, d5⟩ := six_at (i := 0) (fun t ht => by rw [Nat.zero_add]; exact hI.lo.cell t)
    obtain ⟨f0, f1, f2, f3, f4, f5⟩ := six_at (i := 0) (fun t ht => by rw [Nat.zero_add]; exact hI.re.cell t)
    simp only [Nat.zero_add] at d0 d1 d2 d3 d4 d5 f0 f1 f2 f3 f4 f5
    have ff := hI.re.frozen
    have e0 := hI.wy.cell 0
    simp only [List.getElem?_cons_zero] at e0
    have hfl := hI.re.lt
    have hdl := hI.lo.lt
    have hel := hI.wy.lt
    have HRT : Hid (rtA (lastR (l.filter (hasR six a))) = .agg #[.bool (lastR (l.filter (hasR six a))).pf.six, .int .u64 (hiN (lastR (l.filter (hasR six a))).pf.n : Int), .int .u64 (loN (lastR (l.filter (hasR six a))).pf.n : Int), .int .i64 (lastR (l.filter (hasR six a))).pf.len, .int .u8 ((lastR (l.filter (hasR six a))).act.k : Int), .int .i64 (lastR (l.filter (hasR six a))).act.i]) := rfl
    have hne1 : w.heap.size + 1 ≠ bL := by omega
    have hne2 : w.heap.size + 1 ≠ bL + 1 := by omega
    have hbl := hI.bl
    have hre := hI.re
    clear hI
    generalize hCR : codeR (l.filter (hasR six a)) = CR at e0
    have HCR : Hid (codeR (l.filter (hasR six a)) = CR) := hCR
    clear hCR
    generalize (lastR (l.filter (hasR six a))).pf.six = s0 at *
    generalize (hiN (lastR (l.filter (hasR six a))).pf.n : Int) = s1 at *
    generalize (loN (lastR (l.filter (hasR six a))).pf.n : Int) = s2 at *
    generalize (lastR (l.filter (hasR six a))).pf.len = s3 at *
    generalize ((lastR (l.filter (hasR six a))).act.k : Int) = s4 at *
    generalize (lastR (l.filter (hasR six a))).act.i = s5 at *
    have mixed : Tryz.prog.follows Departure.mixedOrders = true := by kernel_rfl
    have late : Tryz.prog.follows Departure.lateStores = true ∨ Tryz.prog.follows Departure.lateStores = false := by cases Tryz.prog.follows Departure.lateStores <;> simp
    gi_wp2_with fail
    refine wpIn_wide.2 ?_
    go_region
    obtain ⟨W7, hW7⟩ : ∃ W7, W7 = ((((((W.setCell ⟨w.heap.size + 1, 0, none⟩ (.bool s0)).setCell ⟨w.heap.size + 1, 1, none⟩ (.int .u64 s1)).setCell ⟨w.heap.size + 1, 2, none⟩ (.int .u64 s2)).setCell ⟨w.heap.size + 1, 3, none⟩ (.int .i64 s3)).setCell ⟨w.heap.size + 1, 4, none⟩ (.int .u8 s4)).setCell ⟨w.heap.size + 1, 5, none⟩ (.int .i64 s5)).drew := ⟨_, rfl⟩
    have r7 : RowAt W7 (w.heap.size + 1) [.bool s0, .int .u64 s1, .int .u64 s2, .int .i64 s3, .int .u8 s4, .int .i64 s5] 105 := by rw [hW7]; exact ((((((hre.set1 0 _).set1 1 _).set1 2 _).set1 3 _).set1 4 _).set1 5 _).drew
    have hg7 : W.grownBy W7 (some (w.heap.size + 1)) := by
      rw [hW7]
      exact grown_drew (grown_s (grown_s (grown_s (grown_s (grown_s (grown_s (World.grownBy.refl W (some (w.heap.size + 1))) 0 (.bool s0)) 1 (.int .u64 s1)) 2 (.int .u64 s2)) 3 (.int .i64 s3)) 4 (.int .u8 s4)) 5 (.int .i64 s5))
    have hK7 : W7.heap[D]? = some (.deferred (some [])) := (hg7.block D (Array.getElem?_eq_some_iff.1 hK).1 (fun e => by injection e with e; omega)).trans hK
    have hb7 : Below w.heap.size w W7 := hbl.grown hg7 hbl.size (fun k e => by injection e with e; omega)
    rw [← hW7]
    have r8 : RowAt (W7.putObj D (.deferred none)) (w.heap.size + 1) [.bool s0, .int .u64 s1, .int .u64 s2, .int .i64 s3, .int .u8 s4, .int .i64 s5] 105 := (World.putObj_heap_other (by omega)).trans r7
    have hb8 : Below w.heap.size w (W7.putObj D (.deferred none)) := hb7.trans (belowK_b (w := w) (Nat.le_refl _) W7 D _ _ (by omega) hK7 rfl rfl)
    have y0 := r8.cell 0
    have y1 := r8.cell 1
    have y2 := r8.cell 2
    have y3 := r8.cell 3
    have y4 := r8.cell 4
    have y5 := r8.cell 5
    simp only [List.getElem?_cons_zero, List.getElem?_cons_succ] at y0 y1 y2 y3 y4 y5
    clear hW7 d0 d1 d2 d3 d4 d5 f0 f1 f2 f3 f4 f5 ff e0 hg7 r7 hre
    gi_wp2
    refine ⟨by simp, .inl ⟨_, _, rfl, run_takeDeferred (w := W7) hK7, ?_⟩⟩
    refine ⟨.tuple #[.agg #[.bool s0, .int .u64 s1, .int .u64 s2, .int .i64 s3, .int .u8 s4, .int .i64 s5], .int .i64 CR], ?_, ?_⟩
    · rw [results_cell_tmp1 rfl]
      go_simp
    · exact ⟨by show _ = Ending.returned (Value.tuple #[rtA (lastR (l.filter (hasR six a))), _]); rw [HRT.out, HCR.out], hb8⟩
end Go.Proofs.YtbglbegljkgknaaGreat.Tr
