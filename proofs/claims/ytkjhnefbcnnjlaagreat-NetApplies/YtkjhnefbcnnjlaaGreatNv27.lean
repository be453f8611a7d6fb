/- fib.Make, fib.Size, (*fib.box).sends, does, fib.Hop. -/
import Derived.Test.YtkjhnefbcnnjlaaGreatNv26
import Derived.Test.YtkjhnefbcnnjlaaGreatNv13
import Derived.Test.YtkjhnefbcnnjlaaGreatNv07
set_option linter.unusedVariables false
namespace Go.Proofs.YtkjhnefbcnnjlaaGreat.Tr
open Go.RowKit Go.Shelf
open Go.Proofs.YtkjhnefbcnnjlaaGreat.Rng
open Go.Proofs.YtkjhnefbcnnjlaaGreat.Lk (HasRow)
open Go.Proofs.YtkjhnefbcnnjlaaGreat.Addr (rightB hiN loN adV RowAt below2 below_drew below_new bset RowAt.lt RowAt.cell RowAt.frozen RowAt.below RowAt.drew RowAt.new RowAt.alloc RowAt.set1 cells2)
attribute [local go_sem] Oper.semAt_some
theorem way_any (g : Nat) (six : Bool) (z1 z2 : Int) (w : World) : Calls Tryz.prog 102 #[.pointer (some ⟨g, 0, none⟩), .bool six, .agg #[.int .u64 z1, .int .u64 z2]] w fun e w' => e = .returned (.func (.func 129) #[] #[.pointer (some ⟨w.heap.size, 0, none⟩), .pointer (some ⟨w.heap.size + 1, 0, none⟩), .pointer (some ⟨w.heap.size + 1 + 1, 0, none⟩)]) ∧ w' = ((w.alloc (.cells #[.pointer (some ⟨g, 0, none⟩)] 146)).alloc (.cells #[.bool six] 4)).alloc (.cells #[.int .u64 z1, .int .u64 z2] 31) := by
  go_enter Tryz.func102, Tryz.ntmps102
  go_wp2
  go_ret
  exact ⟨rfl, rfl⟩
def zeroR : Rt := ⟨⟨false, 0, 0⟩, ⟨0, 0⟩⟩
def lastR (xs : List Rt) : Rt := xs.getLast?.getD zeroR
def codeR (xs : List Rt) : Int := if xs.length = 0 then 3 else 0
def longT (l : List Rt) (six : Bool) (a : Nat) : Rt × Int := if okT l && rightB six a then (lastR (l.filter (hasR six a)), codeR (l.filter (hasR six a))) else (zeroR, 2)
theorem lastR_snoc (xs : List Rt) (x : Rt) : lastR (xs ++ [x]) = x := by unfold lastR; simp
theorem codeR_snoc (xs : List Rt) (x : Rt) : codeR (xs ++ [x]) = 0 := by unfold codeR; simp
def rtA (r : Rt) : Value := .agg #[.bool r.pf.six, .int .u64 (hiN r.pf.n : Int), .int .u64 (loN r.pf.n : Int), .int .i64 r.pf.len, .int .u8 (r.act.k : Int), .int .i64 r.act.i]
theorem kw_b {bL bW : Nat} (W : World) (l : Nat) (o o' : Obj) (h : W.heap[l]? = some o) (hc : o.isCells = false) : Kw bL bW W (W.putObj l o') :=
  ⟨by simp, fun b p _ _ hp hpc => (World.putObj_heap_other (fun e => by subst e; rw [h] at hp; injection hp with hp; subst hp; rw [hc] at hpc; cases hpc)).trans hp⟩
theorem grown_drew {W W' : World} {r : Option Nat} (h : W.grownBy W' r) : W.grownBy W'.drew r := ⟨h.os, h.tape, h.output, h.size, h.block⟩
/-- between two rounds -/
structure LI (m n₀ bR bL bW : Nat) (w : World) (pre : List Rt) (W : World) : Prop where
  sz : m ≤ W.heap.size
  lo : RowAt W bL (rtC (lastR pre)) 98
  wy : RowAt W bW [.int .i64 (codeR pre)] 39
  re : RowAt W bR (rtC zeroR) 98
  bl : Below n₀ w W
theorem li_held {m n₀ bR bL bW B : Nat} {w : World} (h0 : n₀ ≤ w.heap.size) (h1 : bR < B) (h2 : bL < B) (h3 : bW < B) (hB : n₀ ≤ B) : Held B (LI m n₀ bR bL bW w) := by
  intro s A C row h hg hr
  have keep : ∀ k cs t, k < B → RowAt A k cs t → RowAt C k cs t := fun k cs t hk hrow => (hg.block k (RowAt.lt hrow) (fun e => by have := hr k e.symm; omega)).trans hrow
  exact ⟨Nat.le_trans h.sz hg.size, keep _ _ _ h2 h.lo, keep _ _ _ h3 h.wy, keep _ _ _ h1 h.re, h.bl.grown hg (Nat.le_trans h0 h.bl.size) (fun k e => by have := hr k e; omega)⟩
set_option maxHeartbeats 8000000 in
set_option maxRecDepth 20000 in
theorem longest_any (l : List Rt) (v : Value) (six : Bool) (a : Nat) (w : World) (hl : HasRts w v l) (hf : ∀ x ∈ l, FitR x) (ha : a < 2 ^ 128) :
    Calls Tryz.prog 73 #[v, .bool six, .agg #[.int .u64 (hiN a : Int), .int .u64 (loN a : Int)]] w fun e w' => e = .returned (.tuple #[rtA (longT l six a).1, .int .i64 (longT l six a).2]) ∧ Below w.heap.size w w' := by
  obtain ⟨o, c, rfl, hc1, hc2⟩ := Lk.HasRow.slice hl
  have cc := fun W (hb : Below w.heap.size w W) => check_any l _ W (hl.keep hb) hf
  have cr := fun W => Go.Proofs.YtkjhnefbcnnjlaaGreat.Addr.right_any six a W ha
  unfold adV at cr
  have hck : checkT l = if okT l then 0 else 2 := rfl
  rw [hck] at cc
  obtain ⟨X, hX⟩ : ∃ X, X = (w.alloc (.cells #[.int .u64 (hiN a : Int), .int .u64 (loN a : Int)] 31)).alloc (.cells #[.bool false, .int .u64 0, .int .u64 0, .int .i64 0, .int .u8 0, .int .i64 0] 98) := ⟨_, rfl⟩
  have hB : Below w.heap.size w X := by rw [hX]; exact below_new (below_new (Below.refl _ _) _) _
  have r0 : RowAt X w.heap.size [.int .u64 (hiN a : Int), .int .u64 (loN a : Int)] 31 := by rw [hX]; exact (RowAt.new _ _ _).alloc _
  have r1 : RowAt X (w.heap.size + 1) (rtC zeroR) 98 := by rw [hX, ← World.size_alloc w (.cells #[.int .u64 (hiN a : Int), .int .u64 (loN a : Int)] 31)]; exact RowAt.new _ _ _
  have bad : ∀ (W : World), Below X.heap.size X W → RowAt W (w.heap.size + 1) [.bool false, .int .u64 0, .int .u64 0, .int .i64 0, .int .u8 0, .int .i64 0] 98 := fun W hb => r1.below hb
  have HBAD : Hid (∀ (W : World), Below X.heap.size X W → RowAt W (w.heap.size + 1) [.bool false, .int .u64 0, .int .u64 0, .int .i64 0, .int .u8 0, .int .i64 0] 98) := bad
  clear bad
  cases hok : okT l
  · have hP : longT l six a = (zeroR, 2) := by unfold longT; rw [hok]; rfl
    rw [hok] at cc
    simp only [Bool.false_eq_true, if_false] at cc
    rw [hP]
    clear cr hP
    generalize (hiN a : Int) = z1 at *
    generalize (loN a : Int) = z2 at *
    go_enter Tryz.func73, Tryz.ntmps73
    go_upto_region 1 with fail
    rw [← hX]
    clear hX
    go_wp2_with fail
    go_at_call 47; refine (cc _ hB).mono ?_; rintro e w1 ⟨rfl, hb1⟩
    have r3 := HBAD.out _ hb1
    have y0 := r3.cell 0
    have y1 := r3.cell 1
    have y2 := r3.cell 2
    have y3 := r3.cell 3
    have y4 := r3.cell 4
    have y5 := r3.cell 5
    simp only [List.getElem?_cons_zero, List.getElem?_cons_succ] at y0 y1 y2 y3 y4 y5
    have yf := r3.frozen
    have yl := r3.lt
    have hW := below2 hB hb1
    go_wp2_with fail
    (try simp only [Exit.inBlock, Exit.then])
    refine bodyPost_ret (v := .tuple #[.agg #[.bool false, .int .u64 0, .int .u64 0, .int .i64 0, .int .u8 0, .int .i64 0], .int .i64 2]) ?_ rfl ⟨rfl, bset (bset (bset (bset (bset (bset hW (by omega)) (by omega)) (by omega)) (by omega)) (by omega)) (by omega)⟩
    rw [results_cell_tmp1 rfl]
    go_simp
  rw [hok] at cc
  simp only [if_true] at cc
  cases hri : rightB six a
  · have hP : longT l six a = (zeroR, 2) := by unfold longT; rw [hok, hri]; rfl
    rw [hri] at cr
    rw [hP]
    clear hP
    generalize (hiN a : Int) = z1 at *
    generalize (loN a : Int) = z2 at *
    go_enter Tryz.func73, Tryz.ntmps73
    go_upto_region 1 with fail
    rw [← hX]
    clear hX
    go_wp2_with fail
    go_at_call 47; refine (cc _ hB).mono ?_; rintro e w1 ⟨rfl, hb1⟩
    obtain ⟨x0, x1, xf⟩ := cells2 (r0.below hb1)
    go_wp2_with fail
    go_at_call 42; refine (cr _).mono ?_; rintro e w2 ⟨rfl, hb2⟩
    clear x0 x1 xf
    have r3 := HBAD.out _ (below2 hb1 hb2)
    have y0 := r3.cell 0
    have y1 := r3.cell 1
    have y2 := r3.cell 2
    have y3 := r3.cell 3
    have y4 := r3.cell 4
    have y5 := r3.cell 5
    simp only [List.getElem?_cons_zero, List.getElem?_cons_succ] at y0 y1 y2 y3 y4 y5
    have yf := r3.frozen
    have yl := r3.lt
    have hW := below2 (below2 hB hb1) hb2
    go_wp2_with fail
    (try simp only [Exit.inBlock, Exit.then])
    refine bodyPost_ret (v := .tuple #[.agg #[.bool false, .int .u64 0, .int .u64 0, .int .i64 0, .int .u8 0, .int .i64 0], .int .i64 2]) ?_ rfl ⟨rfl, bset (bset (bset (bset (bset (bset hW (by omega)) (by omega)) (by omega)) (by omega)) (by omega)) (by omega)⟩
    rw [results_cell_tmp1 rfl]
    go_simp
  have hP : longT l six a = (lastR (l.filter (hasR six a)), codeR (l.filter (hasR six a))) := by unfold longT; rw [hok, hri]; rfl
  rw [hri] at cr
  rw [hP]
  have hokl := (okT_iff l).1 hok
  have cg := fun W (hb : Below w.heap.size w W) => grown_any l _ W (hl.keep hb) hokl.2.2 (fun x hx => by have := hokl.2.1 x hx; unfold okR at this; simp only [Bool.and_eq_true] at this; exact this.1) hokl.1
  have cw := fun g W => way_any g six (hiN a : Int) (loN a : Int) W
  refine (callsIn_wide (n := 5)).1 ?_
  refine callsIn_of_wp_marks Tryz.func73 rfl trivial ?_ rfl
  simp only [Tryz.ntmps73, List.size_toArray, List.length_cons, List.length_nil, Nat.reduceAdd, Nat.reduceSub, Array.replicate_succ, Array.replicate_zero, List.push_toArray, List.append_toArray, List.nil_append, List.cons_append]
  gi_upto_region 1 with fail
  rw [← hX]
  clear hX
  gi_wp2_with fail
  refine ⟨trivial, ?_⟩
  gi_at_call 47; refine (callsIn_wide.2 (cc _ hB)).mono ?_; rintro e w1 ⟨rfl, hb1⟩
  obtain ⟨x0, x1, xf⟩ := cells2 (r0.below hb1)
  gi_wp2_with fail
  refine ⟨trivial, ?_⟩
  gi_at_call 42; refine (callsIn_wide.2 (cr _)).mono ?_; rintro e w2 ⟨rfl, hb2⟩
  clear x0 x1 xf
  have hb02 := below2 hb1 hb2
  gi_upto_region 4 with fail
  obtain ⟨Y, hY⟩ : ∃ Y, Y = (w2.alloc (.cells #[.bool false, .int .u64 0, .int .u64 0, .int .i64 0, .int .u8 0, .int .i64 0] 98)).alloc (.cells #[.int .i64 3] 39) := ⟨_, rfl⟩
  have hbY2 : Below w2.heap.size w2 Y := by rw [hY]; exact below_new (below_new (Below.refl _ _) _) _
  have rL : RowAt Y w2.heap.size (rtC zeroR) 98 := by rw [hY]; exact (RowAt.new _ _ _).alloc _
  have rW : RowAt Y (w2.heap.size + 1) [.int .i64 3] 39 := by rw [hY, ← World.size_alloc w2 (.cells #[.bool false, .int .u64 0, .int .u64 0, .int .i64 0, .int .u8 0, .int .i64 0] 98)]; exact RowAt.new _ _ _
  have hYs : Y.heap.size = w2.heap.size + 1 + 1 := by rw [hY]; simp
  rw [← hY]
  clear hY
  have hbXY := below2 hb02 hbY2
  have hbwY := below2 hB hbXY
  have rR : RowAt Y (w.heap.size + 1) (rtC zeroR) 98 := HBAD.out _ hbXY
  have rA : RowAt Y w.heap.size [.int .u64 (hiN a : Int), .int .u64 (loN a : Int)] 31 := r0.below hbXY
  have hws : w.heap.size + 1 < w2.heap.size := (HBAD.out _ hb02).lt
  obtain ⟨bL, hbL⟩ : ∃ bL, bL = w2.heap.size := ⟨_, rfl⟩
  rw [← hbL] at rL rW hYs hws ⊢
  have cg2 := fun W (hb : Below Y.heap.size Y W) => cg W (below2 hbwY hb)
  have HSK : Hid (∀ W : World, Below Y.heap.size Y W → W.cell? ⟨w.heap.size, 0, none⟩ = some (.int .u64 (hiN a : Int)) ∧ W.cell? ⟨w.heap.size, 1, none⟩ = some (.int .u64 (loN a : Int))) := fun W hb => ⟨(rA.below hb).cell 0, (rA.below hb).cell 1⟩
  have hbA : Below Y.heap.size Y Y := Below.refl _ _
  clear cc cr cg hbL hb1 hb2 hb02 hbY2 hbXY
  refine wpIn_wide.2 ?_
  go_region_held3 (fun W => W.cell? ⟨w.heap.size, 0, none⟩ = some (.int .u64 (hiN a : Int)) ∧ W.cell? ⟨w.heap.size, 1, none⟩ = some (.int .u64 (loN a : Int)))
    (first
      | (refine HSK.out _ ?_
         repeat' (first | with_reducible exact hbA | with_reducible apply below_drew | with_reducible apply below_new)))
    (first
      | (go_at_call 101
         refine (cg2 _ (by repeat' (first | with_reducible exact hbA | with_reducible apply below_drew))).mono ?_
         rintro e w3 ⟨g, u0, u1, K0, K1, rfl, hT, hfil, hlnK, hb3⟩
         have hbN : Below Y.heap.size Y w3 := below2 (by repeat' (first | with_reducible exact hbA | with_reducible apply below_drew)) hb3
         clear hbA
         have hbA := hbN
         clear hbN)
      | (go_at_call 102
         refine (cw _ _).mono ?_
         rintro e w4 ⟨rfl, rfl⟩))
  obtain ⟨V, hV⟩ : ∃ V, V = ((w3.alloc (.cells #[.pointer (some ⟨g, 0, none⟩)] 146)).alloc (.cells #[.bool six] 4)).alloc (.cells #[.int .u64 (hiN a : Int), .int .u64 (loN a : Int)] 31) := ⟨_, rfl⟩
  have hb3V : Below w3.heap.size w3 V := by rw [hV]; exact below_new (below_new (below_new (Below.refl _ _) _) _) _
  have e1 : (w3.alloc (.cells #[.pointer (some ⟨g, 0, none⟩)] 146)).heap.size = w3.heap.size + 1 := World.size_alloc _ _
  have e2 : ((w3.alloc (.cells #[.pointer (some ⟨g, 0, none⟩)] 146)).alloc (.cells #[.bool six] 4)).heap.size = w3.heap.size + 1 + 1 := by rw [World.size_alloc, e1]
  have v1 : RowAt V w3.heap.size [.pointer (some ⟨g, 0, none⟩)] 146 := by rw [hV]; exact ((RowAt.new _ _ _).alloc _).alloc _
  have v2 : RowAt V (w3.heap.size + 1) [.bool six] 4 := by rw [hV, ← e1]; exact (RowAt.new _ _ _).alloc _
  have v3 : RowAt V (w3.heap.size + 1 + 1) [.int .u64 (hiN a : Int), .int .u64 (loN a : Int)] 31 := by rw [hV, ← e2]; exact RowAt.new _ _ _
  rw [← hV]
  clear hV e1 e2 HSK cg2 cw
  have hbYV := below2 hbA hb3V
  have hTV := hT.below hb3V
  have hY3 : Y.heap.size ≤ w3.heap.size := hbA.size
  have hYd : (Y.drew).heap.size = Y.heap.size := rfl
  have hwV := below2 hbwY hbYV
  have I0 : LI V.heap.size w.heap.size (w.heap.size + 1) bL (bL + 1) w [] V := ⟨Nat.le_refl _, rL.below hbYV, rW.below hbYV, rR.below hbYV, hwV⟩
  have hVY := hbYV.size
  have hww := hbwY.size
  gi_wp2_with fail
  refine range_cells (α := Rt) (by omega) (gf := 129) (lb := #[.pointer (some ⟨w3.heap.size, 0, none⟩), .pointer (some ⟨w3.heap.size + 1, 0, none⟩), .pointer (some ⟨w3.heap.size + 1 + 1, 0, none⟩)]) rfl (enters_of Tryz.func129 (by kernel_rfl) rfl)
    (way1_tells six a (5 - 1) w3.heap.size (w3.heap.size + 1) (w3.heap.size + 1 + 1) bL (bL + 1) V hTV v1 v2 v3 (by omega) (by omega) (by omega) (by omega) ha (hlnK six)) kw_t kw_b (fun _ => rfl)
    (LI V.heap.size w.heap.size (w.heap.size + 1) bL (bL + 1) w) (li_held (Nat.le_refl _) (by omega) (by omega) (by omega) (by omega)) I0
    (fun x a' W => ∃ Bx, RowAt W Bx (rtC x) 98 ∧ V.heap.size ≤ Bx ∧ a' = { tmps := #[.slice o l.length c, .bool six, .agg #[.int .u64 (hiN a : Int), .int .u64 (loN a : Int)], undef, undef, .pointer (some ⟨w.heap.size, 0, none⟩), .pointer (some ⟨w.heap.size + 1, 0, none⟩), .int .i64 0, .pointer (some ⟨bL, 0, none⟩), .pointer (some ⟨bL + 1, 0, none⟩), .pointer (some ⟨Bx, 0, none⟩), .slice o l.length c, .int .i64 0, .bool false, .bool false, .bool six, .agg #[.int .u64 (hiN a : Int), .int .u64 (loN a : Int)], .bool true, .bool false, .bool false, undef, .agg #[.bool false, .int .u64 0, .int .u64 0, .int .i64 0, .int .u8 0, .int .i64 0], .slice o l.length c, .pointer (some ⟨g, 0, none⟩), .bool six, .agg #[.int .u64 (hiN a : Int), .int .u64 (loN a : Int)], .func (.func 129) #[] #[.pointer (some ⟨w3.heap.size, 0, none⟩), .pointer (some ⟨w3.heap.size + 1, 0, none⟩), .pointer (some ⟨w3.heap.size + 1 + 1, 0, none⟩)], .agg #[.bool x.pf.six, .int .u64 (hiN x.pf.n : Int), .int .u64 (loN x.pf.n : Int), .int .i64 x.pf.len, .int .u8 (x.act.k : Int), .int .i64 x.act.i], undef, undef, undef], defers := [] })
    (fun x a' W l o o' ⟨Bx, h1, h2, h3⟩ ho hc => ⟨Bx, (World.putObj_heap_other (fun e => by subst e; have h4 : W.heap[Bx]? = _ := h1; rw [h4] at ho; injection ho with ho; subst ho; cases hc)).trans h1, h2, h3⟩)
    ?assign ?body ?done
  case assign =>
    rintro lp pre x W K hI hK
    have hA := hK _ (W.alloc (.cells #[.bool x.pf.six, .int .u64 (hiN x.pf.n : Int), .int .u64 (loN x.pf.n : Int), .int .i64 x.pf.len, .int .u8 (x.act.k : Int), .int .i64 x.act.i] 98)) ((KeepsOthers.alloc W _).from _) ⟨by simp, fun b o _ _ h _ => (Below.heap_alloc W _ b (Array.getElem?_eq_some_iff.1 h).1).trans h⟩ (li_held (B := V.heap.size) (Nat.le_refl _) (by omega) (by omega) (by omega) (by omega) pre W _ none hI (World.grownBy_alloc W _ none) (fun r e => by cases e)) ⟨W.heap.size, RowAt.new W (rtC x) _, hI.sz, rfl⟩
    unfold encW
    gi_wp2
    exact hA
  case body =>
    rintro lp pre x a' W hI ⟨Bx, hx, hge, rfl⟩
    obtain ⟨c0, c1, c2, c3, c4, c5⟩ := six_at (i := 0) (fun t ht => by rw [Nat.zero_add]; exact hx.cell t)
    obtain ⟨d0, d1, d2, d3, d4, d5⟩ := six_at (i := 0) (fun t ht => by rw [Nat.zero_add]; exact hI.lo.cell t)
    simp only [Nat.zero_add] at c0 c1 c2 c3 c4 c5 d0 d1 d2 d3 d4 d5
    have df := hI.lo.frozen
    have e0 := hI.wy.cell 0
    simp only [List.getElem?_cons_zero] at e0
    have ef := hI.wy.frozen
    have hdl := hI.lo.lt
    have hel := hI.wy.lt
    obtain ⟨W5, hW5⟩ : ∃ W5, W5 = ((((((W.setCell ⟨bL, 0, none⟩ (.bool x.pf.six)).setCell ⟨bL, 1, none⟩ (.int .u64 (hiN x.pf.n : Int))).setCell ⟨bL, 2, none⟩ (.int .u64 (loN x.pf.n : Int))).setCell ⟨bL, 3, none⟩ (.int .i64 x.pf.len)).setCell ⟨bL, 4, none⟩ (.int .u8 (x.act.k : Int))).setCell ⟨bL, 5, none⟩ (.int .i64 x.act.i)) := ⟨_, rfl⟩
    have hg5 : W.grownBy W5 (some bL) := by rw [hW5]; exact grown_s (grown_s (grown_s (grown_s (grown_s (grown_s (World.grownBy.refl W _) 0 _) 1 _) 2 _) 3 _) 4 _) 5 _
    have r5 : RowAt W5 bL (rtC x) 98 := by rw [hW5]; exact (((((hI.lo.set1 0 _).set1 1 _).set1 2 _).set1 3 _).set1 4 _).set1 5 _
    have hg6 : W5.grownBy (W5.setCell ⟨bL + 1, 0, none⟩ (.int .i64 0)) (some (bL + 1)) := grown_s (World.grownBy.refl W5 _) 0 _
    have w5 : RowAt W5 (bL + 1) [.int .i64 (codeR pre)] 39 := row_other hI.wy hg5 (by omega)
    have q5 : RowAt W5 (w.heap.size + 1) (rtC zeroR) 98 := row_other hI.re hg5 (by omega)
    have HL : Hid (LI V.heap.size w.heap.size (w.heap.size + 1) bL (bL + 1) w (pre ++ [x]) (W5.setCell ⟨bL + 1, 0, none⟩ (.int .i64 0))) := by
      refine ⟨Nat.le_trans hI.sz (Nat.le_trans hg5.size hg6.size), by rw [lastR_snoc]; exact row_other r5 hg6 (by omega), by rw [codeR_snoc]; exact w5.set1 0 _, row_other q5 hg6 (by omega), ?_⟩
      exact (hI.bl.grown hg5 hI.bl.size (fun k e => by injection e with e; omega)).grown hg6 (Nat.le_trans hI.bl.size hg5.size) (fun k e => by injection e with e; omega)
    have HK : Hid (KeepsFrom V.heap.size W (W5.setCell ⟨bL + 1, 0, none⟩ (.int .i64 0)) ∧ Kw bL (bL + 1) W (W5.setCell ⟨bL + 1, 0, none⟩ (.int .i64 0))) := by
      refine ⟨(KeepsFrom.of_grownBy hg5 (fun j e => by injection e with e; omega)).trans (KeepsFrom.of_grownBy hg6 (fun j e => by injection e with e; omega)), Nat.le_trans hg5.size hg6.size, fun b o h1 h2 h3 h4 => ?_⟩
      have hb := (Array.getElem?_eq_some_iff.1 h3).1
      rw [hg6.block b (Nat.lt_of_lt_of_le hb hg5.size) (fun e => by injection e with e; exact h2 e), hg5.block b hb (fun e => by injection e with e; exact h1 e)]
      exact h3
    have HW5 : Hid (W5 = ((((((W.setCell ⟨bL, 0, none⟩ (.bool x.pf.six)).setCell ⟨bL, 1, none⟩ (.int .u64 (hiN x.pf.n : Int))).setCell ⟨bL, 2, none⟩ (.int .u64 (loN x.pf.n : Int))).setCell ⟨bL, 3, none⟩ (.int .i64 x.pf.len)).setCell ⟨bL, 4, none⟩ (.int .u8 (x.act.k : Int))).setCell ⟨bL, 5, none⟩ (.int .i64 x.act.i))) := hW5
    clear hW5 hg5 hg6 r5 w5 q5
    gi_wp2
    rw [← HW5.out]
    exact ⟨HK.out.1, HK.out.2, HL.out⟩
  case done =>
    rintro D xs W hD hS hI hK
    rw [hfil six a] at hS
    subst hS
    obtain ⟨d0, d1, d2, d3, d4, d5⟩ := six_at (i := 0) (fun t ht => by rw [Nat.zero_add]; exact hI.lo.cell t)
    obtain ⟨f0, f1, f2, f3, f4, f5⟩ := six_at (i := 0) (fun t ht => by rw [Nat.zero_add]; exact hI.re.cell t)
    simp only [Nat.zero_add] at d0 d1 d2 d3 d4 d5 f0 f1 f2 f3 f4 f5
    have ff := hI.re.frozen
    have e0 := hI.wy.cell 0
    simp only [List.getElem?_cons_zero] at e0
    have hfl := hI.re.lt
    have hdl := hI.lo.lt
    have hel := hI.wy.lt
    have HRT : Hid (rtA (lastR (l.filter (hasR six a))) = .agg #[.bool (lastR (l.filter (hasR six a))).pf.six, .int .u64 (hiN (lastR (l.filter (hasR six a))).pf.n : Int), .int .u64 (loN (lastR (l.filter (hasR six a))).pf.n : Int), .int .i64 (lastR (l.filter (hasR six a))).pf.len, .int .u8 ((lastR (l.filter (hasR six a))).act.k : Int), .int .i64 (lastR (l.filter (hasR six a))).act.i]) := rfl
    have hne1 : w.heap.size + 1 ≠ bL := by omega
    have hne2 : w.heap.size + 1 ≠ bL + 1 := by omega
    have hbl := hI.bl
    have hre := hI.re
    clear hI
    generalize hCR : codeR (l.filter (hasR six a)) = CR at e0
    have HCR : Hid (codeR (l.filter (hasR six a)) = CR) := hCR
    clear hCR
    generalize (lastR (l.filter (hasR six a))).pf.six = s0 at *
    generalize (hiN (lastR (l.filter (hasR six a))).pf.n : Int) = s1 at *
    generalize (loN (lastR (l.filter (hasR six a))).pf.n : Int) = s2 at *
    generalize (lastR (l.filter (hasR six a))).pf.len = s3 at *
    generalize ((lastR (l.filter (hasR six a))).act.k : Int) = s4 at *
    generalize (lastR (l.filter (hasR six a))).act.i = s5 at *
    have mixed : Tryz.prog.follows Departure.mixedOrders = true := by kernel_rfl
    have late : Tryz.prog.follows Departure.lateStores = true ∨ Tryz.prog.follows Departure.lateStores = false := by cases Tryz.prog.follows Departure.lateStores <;> simp
    gi_wp2_with fail
    refine wpIn_wide.2 ?_
    go_region
    obtain ⟨W7, hW7⟩ : ∃ W7, W7 = ((((((W.setCell ⟨w.heap.size + 1, 0, none⟩ (.bool s0)).setCell ⟨w.heap.size + 1, 1, none⟩ (.int .u64 s1)).setCell ⟨w.heap.size + 1, 2, none⟩ (.int .u64 s2)).setCell ⟨w.heap.size + 1, 3, none⟩ (.int .i64 s3)).setCell ⟨w.heap.size + 1, 4, none⟩ (.int .u8 s4)).setCell ⟨w.heap.size + 1, 5, none⟩ (.int .i64 s5)).drew := ⟨_, rfl⟩
    have r7 : RowAt W7 (w.heap.size + 1) [.bool s0, .int .u64 s1, .int .u64 s2, .int .i64 s3, .int .u8 s4, .int .i64 s5] 98 := by rw [hW7]; exact ((((((hre.set1 0 _).set1 1 _).set1 2 _).set1 3 _).set1 4 _).set1 5 _).drew
    have hg7 : W.grownBy W7 (some (w.heap.size + 1)) := by
      rw [hW7]
      exact grown_drew (grown_s (grown_s (grown_s (grown_s (grown_s (grown_s (World.grownBy.refl W (some (w.heap.size + 1))) 0 (.bool s0)) 1 (.int .u64 s1)) 2 (.int .u64 s2)) 3 (.int .i64 s3)) 4 (.int .u8 s4)) 5 (.int .i64 s5))
    have hK7 : W7.heap[D]? = some (.deferred (some [])) := (hg7.block D (Array.getElem?_eq_some_iff.1 hK).1 (fun e => by injection e with e; omega)).trans hK
    have hb7 : Below w.heap.size w W7 := hbl.grown hg7 hbl.size (fun k e => by injection e with e; omega)
    rw [← hW7]
    have r8 : RowAt (W7.putObj D (.deferred none)) (w.heap.size + 1) [.bool s0, .int .u64 s1, .int .u64 s2, .int .i64 s3, .int .u8 s4, .int .i64 s5] 98 := (World.putObj_heap_other (by omega)).trans r7
    have hb8 : Below w.heap.size w (W7.putObj D (.deferred none)) := hb7.trans (belowK_b (w := w) (Nat.le_refl _) W7 D _ _ (by omega) hK7 rfl rfl)
    have y0 := r8.cell 0
    have y1 := r8.cell 1
    have y2 := r8.cell 2
    have y3 := r8.cell 3
    have y4 := r8.cell 4
    have y5 := r8.cell 5
    simp only [List.getElem?_cons_zero, List.getElem?_cons_succ] at y0 y1 y2 y3 y4 y5
    clear hW7 d0 d1 d2 d3 d4 d5 f0 f1 f2 f3 f4 f5 ff e0 hg7 r7 hre
    gi_wp2
    refine ⟨by simp, .inl ⟨_, _, rfl, run_takeDeferred (w := W7) hK7, ?_⟩⟩
    refine ⟨.tuple #[.agg #[.bool s0, .int .u64 s1, .int .u64 s2, .int .i64 s3, .int .u8 s4, .int .i64 s5], .int .i64 CR], ?_, ?_⟩
    · rw [results_cell_tmp1 rfl]
      go_simp
    · exact ⟨by show _ = Ending.returned (Value.tuple #[rtA (lastR (l.filter (hasR six a))), _]); rw [HRT.out, HCR.out], hb8⟩
end Go.Proofs.YtkjhnefbcnnjlaaGreat.Tr
namespace Go.Proofs.YtkjhnefbcnnjlaaGreat.Fib
open Go.RowKit
open Go.Proofs.YtkjhnefbcnnjlaaGreat.Addr (hiN loN rightB RowAt below2 below_new RowAt.cell RowAt.frozen RowAt.below RowAt.new RowAt.alloc cells4 cells2 bset results_cell)
open Go.Proofs.YtkjhnefbcnnjlaaGreat.Msg (Ac)
open Go.Proofs.YtkjhnefbcnnjlaaGreat.Lk (Lk HasLks HasLks.keep peerL)
open Go.Proofs.YtkjhnefbcnnjlaaGreat.Tr (HasRts HasRts.keep longT rtA)
def hopRo (R : Ro) (six : Bool) (a : Nat) : (Nat × Int) × Int := if okRo R && rightB six a then (doesRo R (longT R.rts six a).1.act, 0) else ((0, 0), 2)
theorem set2_bl {b0 B : Nat} {w0 W : World} (h : Below b0 w0 W) (hb : b0 ≤ B) (x y : Value) : Below b0 w0 ((W.setCell ⟨B, 0, none⟩ x).setCell ⟨B, 1, none⟩ y) := bset (bset h hb) hb
set_option maxHeartbeats 2000000 in
theorem sends_any (R : Ro) (i : Int) (B : Nat) (a b : Value) (w : World) (hr : RowAt w B [.int .i64 R.id, .bool R.up, a, b] 105) (hb : HasLks w b R.lks) :
    Calls Tryz.prog 103 #[.pointer (some ⟨B, 0, none⟩), .int .i64 i] w fun x w' => x = .returned (.agg #[.int .u8 ((sendsRo R i).1 : Int), .int .i64 (sendsRo R i).2]) ∧ Below w.heap.size w w' := by
  obtain ⟨o3, m3, rfl, _⟩ := Lk.HasRow.slice hb
  have cP := fun W (h : HasLks W (.slice o3 R.lks.length m3) R.lks) => Lk.peer_any R.lks _ i W h
  have hA : sendsRo R i = if (peerL R.lks i).2 = 0 then (1, (peerL R.lks i).1) else (0, 0) := rfl
  generalize sendsRo R i = A at hA ⊢
  generalize (peerL R.lks i).2 = why at hA cP
  generalize (peerL R.lks i).1 = peer at hA cP
  obtain ⟨id, up, rts, lks⟩ := R
  simp only at hr hb cP
  generalize lks.length = n3 at *
  have HA : Hid (A = if why = 0 then (1, peer) else (0, 0)) := hA
  clear hA
  obtain ⟨X, hX⟩ : ∃ X, X = w.alloc (.cells #[.int .u8 0, .int .i64 0] 60) := ⟨_, rfl⟩
  have hB : Below w.heap.size w X := by rw [hX]; exact below_new (Below.refl _ _) _
  have r0 : RowAt X w.heap.size [.int .u8 0, .int .i64 0] 60 := by rw [hX]; exact RowAt.new _ _ _
  replace hr := RowAt.below hr hB
  replace hb := hb.keep hB
  go_enter Tryz.func103, Tryz.ntmps103
  go_upto_region 1 with fail
  rw [← hX]
  clear hX
  obtain ⟨p0, p1, p2, p3, pf0⟩ := cells4 hr
  go_wp2_with fail
  clear p0 p1 p2 p3 pf0
  go_at_call 131; refine (cP _ hb).mono ?_; rintro x w1 ⟨rfl, hb1⟩
  replace hB := below2 hB hb1
  obtain ⟨q0, q1, qf⟩ := cells2 (RowAt.below r0 hb1)
  clear hb1 cP r0 hr hb
  by_cases hw : why = 0
  · have HV : Hid (A = (1, peer)) := by show _ = _; rw [HA.out, if_pos hw]
    clear HA
    subst hw
    go_wp2_with fail
    (try simp only [Exit.inBlock, Exit.then])
    refine bodyPost_ret (v := .agg #[.int .u8 1, .int .i64 peer]) ?_ rfl ⟨by rw [HV.out]; rfl, ?_⟩
    · rw [results_cell rfl]
      go_simp
    · exact set2_bl hB (by omega) _ _
  · have HV : Hid (A = (0, 0)) := by show _ = _; rw [HA.out, if_neg hw]
    have hwb : (why != 0) = true := by simpa using hw
    clear HA
    go_wp2_with fail
    (try simp only [Exit.inBlock, Exit.then])
    refine bodyPost_ret (v := .agg #[.int .u8 0, .int .i64 0]) ?_ rfl ⟨by rw [HV.out]; rfl, ?_⟩
    · rw [results_cell rfl]
      go_simp
    · exact set2_bl hB (by omega) _ _
set_option maxHeartbeats 2000000 in
theorem does_any (R : Ro) (t : Ac) (B : Nat) (a b : Value) (w : World) (hr : RowAt w B [.int .i64 R.id, .bool R.up, a, b] 105) (hb : HasLks w b R.lks) :
    Calls Tryz.prog 74 #[.pointer (some ⟨B, 0, none⟩), .agg #[.int .u8 (t.k : Int), .int .i64 t.i]] w fun x w' => x = .returned (.agg #[.int .u8 ((doesRo R t).1 : Int), .int .i64 (doesRo R t).2]) ∧ Below w.heap.size w w' := by
  have cS := fun W (hb : Below w.heap.size w W) (h : HasLks W b R.lks) => sends_any R t.i B a b W (RowAt.below hr hb) h
  have hA : doesRo R t = if t.k = 1 then sendsRo R t.i else if t.k = 2 then (2, 0) else if t.k = 3 then (3, 0) else (0, 0) := rfl
  generalize doesRo R t = A at hA ⊢
  generalize sendsRo R t.i = S at hA cS
  obtain ⟨k, i⟩ := t
  simp only at hA cS ⊢
  have HA0 : (k = 1 ↔ (k : Int) = 1) ∧ (k = 2 ↔ (k : Int) = 2) ∧ (k = 3 ↔ (k : Int) = 3) := by omega
  simp only [HA0.1, HA0.2.1, HA0.2.2] at hA
  clear HA0
  generalize (k : Int) = k at hA ⊢
  have HA : Hid (A = if k = 1 then S else if k = 2 then (2, 0) else if k = 3 then (3, 0) else (0, 0)) := hA
  clear hA
  obtain ⟨X, hX⟩ : ∃ X, X = (w.alloc (.cells #[.int .u8 k, .int .i64 i] 36)).alloc (.cells #[.int .u8 0, .int .i64 0] 60) := ⟨_, rfl⟩
  have hB : Below w.heap.size w X := by rw [hX]; exact below_new (below_new (Below.refl _ _) _) _
  have r0 : RowAt X w.heap.size [.int .u8 k, .int .i64 i] 36 := by rw [hX]; exact (RowAt.new _ _ _).alloc _
  have r1 : RowAt X (w.heap.size + 1) [.int .u8 0, .int .i64 0] 60 := by rw [hX, ← World.size_alloc w (.cells #[.int .u8 k, .int .i64 i] 36)]; exact RowAt.new _ _ _
  replace hb := hb.keep hB
  obtain ⟨p0, p1, pf0⟩ := cells2 r0
  obtain ⟨q0, q1, qf⟩ := cells2 r1
  by_cases k1 : k = 1
  · have HV : Hid (A = S) := by show _ = _; rw [HA.out, if_pos k1]
    clear HA
    subst k1
    go_enter Tryz.func74, Tryz.ntmps74
    go_upto_region 1 with fail
    rw [← hX]
    clear hX
    go_wp2_with fail
    clear p0 p1 pf0 q0 q1 qf
    go_at_call 103; refine (cS _ hB hb).mono ?_; rintro x w1 ⟨rfl, hb1⟩
    replace hB := below2 hB hb1
    obtain ⟨q0, q1, qf⟩ := cells2 (RowAt.below r1 hb1)
    clear hb1 cS r0 r1 hb hr
    go_wp2_with fail
    (try simp only [Exit.inBlock, Exit.then])
    refine bodyPost_ret (v := .agg #[.int .u8 (S.1 : Int), .int .i64 S.2]) ?_ rfl ⟨by rw [HV.out], ?_⟩
    · rw [results_cell rfl]
      go_simp
    · exact set2_bl hB (by omega) _ _
  have kb1 : (k == 1) = false := beq_eq_false_iff_ne.2 (by omega)
  clear cS r0 r1 hb hr
  by_cases k2 : k = 2
  · have HV : Hid (A = (2, 0)) := by show _ = _; rw [HA.out, if_neg k1, if_pos k2]
    clear HA
    subst k2
    go_enter Tryz.func74, Tryz.ntmps74
    go_upto_region 1 with fail
    rw [← hX]
    clear hX
    go_wp2_with fail
    (try simp only [Exit.inBlock, Exit.then])
    refine bodyPost_ret (v := .agg #[.int .u8 2, .int .i64 0]) ?_ rfl ⟨by rw [HV.out]; rfl, ?_⟩
    · rw [results_cell rfl]
      go_simp
    · exact set2_bl hB (by omega) _ _
  have kb2 : (k == 2) = false := beq_eq_false_iff_ne.2 (by omega)
  by_cases k3 : k = 3
  · have HV : Hid (A = (3, 0)) := by show _ = _; rw [HA.out, if_neg k1, if_neg k2, if_pos k3]
    clear HA
    subst k3
    go_enter Tryz.func74, Tryz.ntmps74
    go_upto_region 1 with fail
    rw [← hX]
    clear hX
    go_wp2_with fail
    (try simp only [Exit.inBlock, Exit.then])
    refine bodyPost_ret (v := .agg #[.int .u8 3, .int .i64 0]) ?_ rfl ⟨by rw [HV.out]; rfl, ?_⟩
    · rw [results_cell rfl]
      go_simp
    · exact set2_bl hB (by omega) _ _
  have kb3 : (k == 3) = false := beq_eq_false_iff_ne.2 (by omega)
  have HV : Hid (A = (0, 0)) := by show _ = _; rw [HA.out, if_neg k1, if_neg k2, if_neg k3]
  clear HA k1 k2 k3
  go_enter Tryz.func74, Tryz.ntmps74
  go_upto_region 1 with fail
  rw [← hX]
  clear hX
  go_wp2_with fail
  (try simp only [Exit.inBlock, Exit.then])
  refine bodyPost_ret (v := .agg #[.int .u8 0, .int .i64 0]) ?_ rfl ⟨by rw [HV.out]; rfl, ?_⟩
  · rw [results_cell rfl]
    go_simp
  · exact set2_bl hB (by omega) _ _
set_option maxHeartbeats 4000000 in
set_option maxRecDepth 20000 in
theorem hop_any (R : Ro) (six : Bool) (a : Nat) (u v : Value) (w : World) (ha : HasRts w u R.rts) (hb : HasLks w v R.lks) (hf : FitRo R) (hn : a < 2 ^ 128) :
    Calls Tryz.prog 44 #[.agg #[.int .i64 R.id, .bool R.up, u, v], .bool six, .agg #[.int .u64 (hiN a : Int), .int .u64 (loN a : Int)]] w fun e w' => e = .returned (.tuple #[.agg #[.int .u8 ((hopRo R six a).1.1 : Int), .int .i64 (hopRo R six a).1.2], .int .i64 (hopRo R six a).2]) ∧ Below w.heap.size w w' := by
  obtain ⟨o2, m2, rfl, _⟩ := Lk.HasRow.slice ha
  obtain ⟨o3, m3, rfl, _⟩ := Lk.HasRow.slice hb
  have cC := fun W (h : HasRts W (.slice o2 R.rts.length m2) R.rts) (h' : HasLks W (.slice o3 R.lks.length m3) R.lks) => check_any R _ _ W h h' hf.rts
  have cR : ∀ W, Calls Tryz.prog 42 #[.bool six, .agg #[.int .u64 (hiN a : Int), .int .u64 (loN a : Int)]] W fun e w' => e = .returned (.bool (rightB six a)) ∧ Below W.heap.size W w' := fun W => Addr.right_any six a W hn
  have cL := fun W (h : HasRts W (.slice o2 R.rts.length m2) R.rts) => Tr.longest_any R.rts _ six a W h hf.rts hn
  have cD := fun W B (hr : RowAt W B [.int .i64 R.id, .bool R.up, .slice o2 R.rts.length m2, .slice o3 R.lks.length m3] 105) (h : HasLks W (.slice o3 R.lks.length m3) R.lks) => does_any R (longT R.rts six a).1.act B _ _ W hr h
  have hck : checkRo R = if okRo R then 0 else 2 := rfl
  rw [hck] at cC
  clear hck
  have hA : hopRo R six a = if okRo R && rightB six a then (doesRo R (longT R.rts six a).1.act, 0) else ((0, 0), 2) := rfl
  generalize hopRo R six a = A at hA ⊢
  generalize okRo R = kr at hA cC
  generalize rightB six a = ka at hA cR
  generalize doesRo R (longT R.rts six a).1.act = D at hA cD
  unfold rtA at cL
  generalize (longT R.rts six a).2 = lw at cL
  generalize (longT R.rts six a).1 = lr at cL cD
  obtain ⟨⟨z0, z1, z2⟩, ⟨z3, z4⟩⟩ := lr
  obtain ⟨id, up, rts, lks⟩ := R
  simp only at ha hb cC cL cD hA
  generalize rts.length = n2 at *
  generalize lks.length = n3 at *
  generalize hiN a = h at *
  generalize loN a = l at *
  generalize hiN z1 = zh at *
  generalize loN z1 = zl at *
  have HA : Hid (A = if kr && ka then (D, 0) else ((0, 0), 2)) := hA
  clear hA hf hn
  show Calls Tryz.prog 44 #[.agg #[.int .i64 id, .bool up, .slice o2 n2 m2, .slice o3 n3 m3], .bool six, .agg #[.int .u64 (h : Int), .int .u64 (l : Int)]] w _
  obtain ⟨X, hX⟩ : ∃ X, X = ((w.alloc (.cells #[.int .i64 id, .bool up, .slice o2 n2 m2, .slice o3 n3 m3] 51)).alloc (.cells #[.int .u64 (h : Int), .int .u64 (l : Int)] 31)).alloc (.cells #[.int .u8 0, .int .i64 0] 60) := ⟨_, rfl⟩
  have hB : Below w.heap.size w X := by rw [hX]; exact below_new (below_new (below_new (Below.refl _ _) _) _) _
  have r0 : RowAt X w.heap.size [.int .i64 id, .bool up, .slice o2 n2 m2, .slice o3 n3 m3] 51 := by rw [hX]; exact ((RowAt.new _ _ _).alloc _).alloc _
  have r1 : RowAt X (w.heap.size + 1) [.int .u64 (h : Int), .int .u64 (l : Int)] 31 := by rw [hX, ← World.size_alloc w (.cells #[.int .i64 id, .bool up, .slice o2 n2 m2, .slice o3 n3 m3] 51)]; exact (RowAt.new _ _ _).alloc _
  have r2 : RowAt X (w.heap.size + 2) [.int .u8 0, .int .i64 0] 60 := by rw [hX, show w.heap.size + 2 = ((w.alloc (.cells #[.int .i64 id, .bool up, .slice o2 n2 m2, .slice o3 n3 m3] 51)).alloc (.cells #[.int .u64 (h : Int), .int .u64 (l : Int)] 31)).heap.size by simp]; exact RowAt.new _ _ _
  replace ha := ha.keep hB
  replace hb := hb.keep hB
  cases kr
  · have HV : Hid (A = ((0, 0), 2)) := HA.out
    clear HA cL cD cR
    simp only [Bool.false_eq_true, if_false] at cC
    go_enter Tryz.func44, Tryz.ntmps44
    go_upto_region 1 with fail
    rw [← hX]
    clear hX
    obtain ⟨p0, p1, p2, p3, pf0⟩ := cells4 r0
    go_wp2_with fail
    clear p0 p1 p2 p3 pf0
    go_at_call 23; refine (cC _ ha hb).mono ?_; rintro x w1 ⟨rfl, hb1⟩
    replace hB := below2 hB hb1
    replace r0 := RowAt.below r0 hb1
    replace r1 := RowAt.below r1 hb1
    replace r2 := RowAt.below r2 hb1
    replace ha := ha.keep hb1
    replace hb := hb.keep hb1
    clear hb1 cC
    obtain ⟨q0, q1, qf⟩ := cells2 r2
    go_wp2_with fail
    (try simp only [Exit.inBlock, Exit.then])
    refine bodyPost_ret (v := .tuple #[.agg #[.int .u8 0, .int .i64 0], .int .i64 2]) ?_ rfl ⟨by rw [HV.out]; rfl, ?_⟩
    · rw [results_cell_tmp rfl]
      go_simp
    · exact set2_bl hB (by omega) _ _
  simp only [if_true] at cC
  cases ka
  · have HV : Hid (A = ((0, 0), 2)) := HA.out
    clear HA cL cD
    go_enter Tryz.func44, Tryz.ntmps44
    go_upto_region 1 with fail
    rw [← hX]
    clear hX
    obtain ⟨p0, p1, p2, p3, pf0⟩ := cells4 r0
    go_wp2_with fail
    clear p0 p1 p2 p3 pf0
    go_at_call 23; refine (cC _ ha hb).mono ?_; rintro x w1 ⟨rfl, hb1⟩
    replace hB := below2 hB hb1
    replace r0 := RowAt.below r0 hb1
    replace r1 := RowAt.below r1 hb1
    replace r2 := RowAt.below r2 hb1
    replace ha := ha.keep hb1
    replace hb := hb.keep hb1
    clear hb1 cC
    obtain ⟨q0, q1, qf⟩ := cells2 r1
    go_wp2_with fail
    clear q0 q1 qf
    go_at_call 42; refine (cR _).mono ?_; rintro x w2 ⟨rfl, hb2⟩
    replace hB := below2 hB hb2
    replace r2 := RowAt.below r2 hb2
    clear hb2 cR
    obtain ⟨q0, q1, qf⟩ := cells2 r2
    go_wp2_with fail
    (try simp only [Exit.inBlock, Exit.then])
    refine bodyPost_ret (v := .tuple #[.agg #[.int .u8 0, .int .i64 0], .int .i64 2]) ?_ rfl ⟨by rw [HV.out]; rfl, ?_⟩
    · rw [results_cell_tmp rfl]
      go_simp
    · exact set2_bl hB (by omega) _ _
  have HV : Hid (A = (D, 0)) := HA.out
  clear HA
  go_enter Tryz.func44, Tryz.ntmps44
  go_upto_region 1 with fail
  rw [← hX]
  clear hX
  obtain ⟨p0, p1, p2, p3, pf0⟩ := cells4 r0
  go_wp2_with fail
  clear p0 p1 p2 p3 pf0
  go_at_call 23; refine (cC _ ha hb).mono ?_; rintro x w1 ⟨rfl, hb1⟩
  replace hB := below2 hB hb1
  replace r0 := RowAt.below r0 hb1
  replace r1 := RowAt.below r1 hb1
  replace r2 := RowAt.below r2 hb1
  replace ha := ha.keep hb1
  replace hb := hb.keep hb1
  clear hb1 cC
  obtain ⟨q0, q1, qf⟩ := cells2 r1
  go_wp2_with fail
  clear q0 q1 qf
  go_at_call 42; refine (cR _).mono ?_; rintro x w2 ⟨rfl, hb2⟩
  replace hB := below2 hB hb2
  replace r0 := RowAt.below r0 hb2
  replace r1 := RowAt.below r1 hb2
  replace r2 := RowAt.below r2 hb2
  replace ha := ha.keep hb2
  replace hb := hb.keep hb2
  clear hb2 cR
  obtain ⟨p0, p1, p2, p3, pf0⟩ := cells4 r0
  obtain ⟨q0, q1, qf⟩ := cells2 r1
  go_wp2_with fail
  clear p0 p1 p2 p3 pf0 q0 q1 qf
  go_at_call 73; refine (cL _ ha).mono ?_; rintro x w3 ⟨rfl, hb3⟩
  replace hB := below2 hB hb3
  replace r0 := RowAt.below r0 hb3
  replace r2 := RowAt.below r2 hb3
  replace hb := hb.keep hb3
  clear hb3 cL r1 ha
  obtain ⟨V, hV⟩ : ∃ V, V = w3.alloc (.cells #[.bool z0, .int .u64 (zh : Int), .int .u64 (zl : Int), .int .i64 z2, .int .u8 (z3 : Int), .int .i64 z4] 98) := ⟨_, rfl⟩
  have hbV : Below w3.heap.size w3 V := by rw [hV]; exact below_new (Below.refl _ _) _
  have r3 : RowAt V w3.heap.size [.bool z0, .int .u64 (zh : Int), .int .u64 (zl : Int), .int .i64 z2, .int .u8 (z3 : Int), .int .i64 z4] 98 := by rw [hV]; exact RowAt.new _ _ _
  replace hB := below2 hB hbV
  replace r0 := RowAt.below r0 hbV
  replace r2 := RowAt.below r2 hbV
  replace hb := hb.keep hbV
  go_upto_region 4 with fail
  rw [← hV]
  clear hV hbV
  generalize w3.heap.size = B at *
  obtain ⟨p0, p1, p2, p3, pf0⟩ := cells4 r0
  obtain ⟨Y, hY⟩ : ∃ Y, Y = V.alloc (.cells #[.int .i64 id, .bool up, .slice o2 n2 m2, .slice o3 n3 m3] 105) := ⟨_, rfl⟩
  have hbY : Below V.heap.size V Y := by rw [hY]; exact below_new (Below.refl _ _) _
  have r4 : RowAt Y V.heap.size [.int .i64 id, .bool up, .slice o2 n2 m2, .slice o3 n3 m3] 105 := by rw [hY]; exact RowAt.new _ _ _
  replace hB := below2 hB hbY
  replace r2 := RowAt.below r2 hbY
  replace r3 := RowAt.below r3 hbY
  replace hb := hb.keep hbY
  go_upto_region 5 with fail
  rw [← hY]
  clear hY p0 p1 p2 p3 pf0 r0 hbY
  have s4 := RowAt.cell r3 4
  have s5 := RowAt.cell r3 5
  have s6 := RowAt.frozen r3
  simp only [List.getElem?_cons_succ, List.getElem?_cons_zero] at s4 s5
  go_wp2_with fail
  clear s4 s5 s6
  go_at_call 74; refine (cD _ _ r4 hb).mono ?_; rintro x w4 ⟨rfl, hb4⟩
  replace hB := below2 hB hb4
  obtain ⟨q0, q1, qf⟩ := cells2 (RowAt.below r2 hb4)
  clear hb4 cD r2 r3 r4 hb
  go_wp2_with fail
  (try simp only [Exit.inBlock, Exit.then])
  refine bodyPost_ret (v := .tuple #[.agg #[.int .u8 (D.1 : Int), .int .i64 D.2], .int .i64 0]) ?_ rfl ⟨by rw [HV.out], ?_⟩
  · rw [results_cell_tmp rfl]
    go_simp
  · exact set2_bl hB (by omega) _ _
end Go.Proofs.YtkjhnefbcnnjlaaGreat.Fib
