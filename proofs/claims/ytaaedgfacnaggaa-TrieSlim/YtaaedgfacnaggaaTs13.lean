/- Whether links are right. -/
import Derived.Test.YtaaedgfacnaggaaTs12
import Derived.Test.YtaaedgfacnaggaaTs07
import Derived.Test.YtaaedgfacnaggaaTs08
import Derived.Test.YtaaedgfacnaggaaTs06
import Derived.Laws.ResultCell
import Derived.Test.YtaaedgfacnaggaaTs04
import Derived.Test.YtaaedgfacnaggaaTs01
import Derived.BigQuiet
set_option linter.unusedVariables false
namespace Go.Proofs.Ytaaedgfacnaggaa.Tr
open Go.RowKit Go.Shelf
open Go.Proofs.Ytaaedgfacnaggaa.Rng
open Go.Proofs.Ytaaedgfacnaggaa.Lk (HasRow)
open Go.Proofs.Ytaaedgfacnaggaa.Addr (rightB hiN loN adV RowAt below2 below_drew below_new bset RowAt.lt RowAt.cell RowAt.frozen RowAt.below RowAt.drew RowAt.new RowAt.alloc RowAt.set1 cells2)
attribute [local go_sem] Oper.semAt_some
theorem way_any (g : Nat) (six : Bool) (z1 z2 : Int) (w : World) : Calls Try.prog 20 #[.pointer (some ⟨g, 0, none⟩), .bool six, .agg #[.int .u64 z1, .int .u64 z2]] w fun e w' => e = .returned (.func (.func 40) #[] #[.pointer (some ⟨w.heap.size, 0, none⟩), .pointer (some ⟨w.heap.size + 1, 0, none⟩), .pointer (some ⟨w.heap.size + 1 + 1, 0, none⟩)]) ∧ w' = ((w.alloc (.cells #[.pointer (some ⟨g, 0, none⟩)] 42)).alloc (.cells #[.bool six] 4)).alloc (.cells #[.int .u64 z1, .int .u64 z2] 25) := by
  go_enter Try.func20, Try.ntmps20
  go_wp2
  go_ret
  exact ⟨rfl, rfl⟩
def zeroR : Rt := ⟨⟨false, 0, 0⟩, ⟨0, 0⟩⟩
def lastR (xs : List Rt) : Rt := xs.getLast?.getD zeroR
def codeR (xs : List Rt) : Int := if xs.length = 0 then 3 else 0
def longT (l : List Rt) (six : Bool) (a : Nat) : Rt × Int := if okT l && rightB six a then (lastR (l.filter (hasR six a)), codeR (l.filter (hasR six a))) else (zeroR, 2)
theorem lastR_snoc (xs : List Rt) (x : Rt) : lastR (xs ++ [x]) = x := by unfold lastR; simp
theorem codeR_snoc (xs : List Rt) (x : Rt) : codeR (xs ++ [x]) = 0 := by unfold codeR; simp
def rtA (r : Rt) : Value := .agg #[.bool r.pf.six, .int .u64 (hiN r.pf.n : Int), .int .u64 (loN r.pf.n : Int), .int .i64 r.pf.len, .int .u8 (r.act.k : Int), .int .i64 r.act.i]
theorem kw_b {bL bW : Nat} (W : World) (l : Nat) (o o' : Obj) (h : W.heap[l]? = some o) (hc : o.isCells = false) : Kw bL bW W (W.putObj l o') :=
  ⟨by simp, fun b p _ _ hp hpc => (World.putObj_heap_other (fun e => by subst e; rw [h] at hp; injection hp with hp; subst hp; rw [hc] at hpc; cases hpc)).trans hp⟩
theorem grown_drew {W W' : World} {r : Option Nat} (h : W.grownBy W' r) : W.grownBy W'.drew r := ⟨h.os, h.tape, h.output, h.size, h.block⟩
/-- between two rounds -/
structure LI (m n₀ bR bL bW : Nat) (w : World) (pre : List Rt) (W : World) : Prop where
  sz : m ≤ W.heap.size
  lo : RowAt W bL (rtC (lastR pre)) 37
  wy : RowAt W bW [.int .i64 (codeR pre)] 26
  re : RowAt W bR (rtC zeroR) 37
  bl : Below n₀ w W
theorem li_held {m n₀ bR bL bW B : Nat} {w : World} (h0 : n₀ ≤ w.heap.size) (h1 : bR < B) (h2 : bL < B) (h3 : bW < B) (hB : n₀ ≤ B) : Held B (LI m n₀ bR bL bW w) := by
  intro s A C row h hg hr
  have keep : ∀ k cs t, k < B → RowAt A k cs t → RowAt C k cs t := fun k cs t hk hrow => (hg.block k (RowAt.lt hrow) (fun e => by have := hr k e.symm; omega)).trans hrow
  exact ⟨Nat.le_trans h.sz hg.size, keep _ _ _ h2 h.lo, keep _ _ _ h3 h.wy, keep _ _ _ h1 h.re, h.bl.grown hg (Nat.le_trans h0 h.bl.size) (fun k e => by have := hr k e; omega)⟩
set_option maxHeartbeats 8000000 in
set_option maxRecDepth 20000 in
theorem longest_any (l : List Rt) (v : Value) (six : Bool) (a : Nat) (w : World) (hl : HasRts w v l) (hf : ∀ x ∈ l, FitR x) (ha : a < 2 ^ 128) :
    Calls Try.prog 8 #[v, .bool six, .agg #[.int .u64 (hiN a : Int), .int .u64 (loN a : Int)]] w fun e w' => e = .returned (.tuple #[rtA (longT l six a).1, .int .i64 (longT l six a).2]) ∧ Below w.heap.size w w' := by
  obtain ⟨o, c, rfl, hc1, hc2⟩ := Lk.HasRow.slice hl
  have cc := fun W (hb : Below w.heap.size w W) => check_any l _ W (hl.keep hb) hf
  have cr := fun W => Go.Proofs.Ytaaedgfacnaggaa.Addr.right_any six a W ha
  unfold adV at cr
  have hck : checkT l = if okT l then 0 else 2 := rfl
  rw [hck] at cc
  obtain ⟨X, hX⟩ : ∃ X, X = (w.alloc (.cells #[.int .u64 (hiN a : Int), .int .u64 (loN a : Int)] 25)).alloc (.cells #[.bool false, .int .u64 0, .int .u64 0, .int .i64 0, .int .u8 0, .int .i64 0] 37) := ⟨_, rfl⟩
  have hB : Below w.heap.size w X := by rw [hX]; exact below_new (below_new (Below.refl _ _) _) _
  have r0 : RowAt X w.heap.size [.int .u64 (hiN a : Int), .int .u64 (loN a : Int)] 25 := by rw [hX]; exact (RowAt.new _ _ _).alloc _
  have r1 : RowAt X (w.heap.size + 1) (rtC zeroR) 37 := by rw [hX, ← World.size_alloc w (.cells #[.int .u64 (hiN a : Int), .int .u64 (loN a : Int)] 25)]; exact RowAt.new _ _ _
  have bad : ∀ (W : World), Below X.heap.size X W → RowAt W (w.heap.size + 1) [.bool false, .int .u64 0, .int .u64 0, .int .i64 0, .int .u8 0, .int .i64 0] 37 := fun W hb => r1.below hb
  have HBAD : Hid (∀ (W : World), Below X.heap.size X W → RowAt W (w.heap.size + 1) [.bool false, .int .u64 0, .int .u64 0, .int .i64 0, .int .u8 0, .int .i64 0] 37) := bad
  clear bad
  cases hok : okT l
  · have hP : longT l six a = (zeroR, 2) := by unfold longT; rw [hok]; rfl
    rw [hok] at cc
    simp only [Bool.false_eq_true, if_false] at cc
    rw [hP]
    clear cr hP
    generalize (hiN a : Int) = z1 at *
    generalize (loN a : Int) = z2 at *
    go_enter Try.func8, Try.ntmps8
    go_upto_region 1 with fail
    rw [← hX]
    clear hX
    go_wp2_with fail
    go_at_call 9; refine (cc _ hB).mono ?_; rintro e w1 ⟨rfl, hb1⟩
    have r3 := HBAD.out _ hb1
    have y0 := r3.cell 0
    have y1 := r3.cell 1
    have y2 := r3.cell 2
    have y3 := r3.cell 3
    have y4 := r3.cell 4
    have y5 := r3.cell 5
    simp only [List.getElem?_cons_zero, List.getElem?_cons_succ] at y0 y1 y2 y3 y4 y5
    have yf := r3.frozen
    have yl := r3.lt
    have hW := below2 hB hb1
    go_wp2_with fail
    (try simp only [Exit.inBlock, Exit.then])
    refine bodyPost_ret (v := .tuple #[.agg #[.bool false, .int .u64 0, .int .u64 0, .int .i64 0, .int .u8 0, .int .i64 0], .int .i64 2]) ?_ rfl ⟨rfl, bset (bset (bset (bset (bset (bset hW (by omega)) (by omega)) (by omega)) (by omega)) (by omega)) (by omega)⟩
    rw [results_cell_tmp1 rfl]
    go_simp
  rw [hok] at cc
  simp only [if_true] at cc
  cases hri : rightB six a
  · have hP : longT l six a = (zeroR, 2) := by unfold longT; rw [hok, hri]; rfl
    rw [hri] at cr
    rw [hP]
    clear hP
    generalize (hiN a : Int) = z1 at *
    generalize (loN a : Int) = z2 at *
    go_enter Try.func8, Try.ntmps8
    go_upto_region 1 with fail
    rw [← hX]
    clear hX
    go_wp2_with fail
    go_at_call 9; refine (cc _ hB).mono ?_; rintro e w1 ⟨rfl, hb1⟩
    obtain ⟨x0, x1, xf⟩ := cells2 (r0.below hb1)
    go_wp2_with fail
    go_at_call 19; refine (cr _).mono ?_; rintro e w2 ⟨rfl, hb2⟩
    clear x0 x1 xf
    have r3 := HBAD.out _ (below2 hb1 hb2)
    have y0 := r3.cell 0
    have y1 := r3.cell 1
    have y2 := r3.cell 2
    have y3 := r3.cell 3
    have y4 := r3.cell 4
    have y5 := r3.cell 5
    simp only [List.getElem?_cons_zero, List.getElem?_cons_succ] at y0 y1 y2 y3 y4 y5
    have yf := r3.frozen
    have yl := r3.lt
    have hW := below2 (below2 hB hb1) hb2
    go_wp2_with fail
    (try simp only [Exit.inBlock, Exit.then])
    refine bodyPost_ret (v := .tuple #[.agg #[.bool false, .int .u64 0, .int .u64 0, .int .i64 0, .int .u8 0, .int .i64 0], .int .i64 2]) ?_ rfl ⟨rfl, bset (bset (bset (bset (bset (bset hW (by omega)) (by omega)) (by omega)) (by omega)) (by omega)) (by omega)⟩
    rw [results_cell_tmp1 rfl]
    go_simp
  have hP : longT l six a = (lastR (l.filter (hasR six a)), codeR (l.filter (hasR six a))) := by unfold longT; rw [hok, hri]; rfl
  rw [hri] at cr
  rw [hP]
  have hokl := (okT_iff l).1 hok
  have cg := fun W (hb : Below w.heap.size w W) => grown_any l _ W (hl.keep hb) hokl.2.2 (fun x hx => by have := hokl.2.1 x hx; unfold okR at this; simp only [Bool.and_eq_true] at this; exact this.1) hokl.1
  have cw := fun g W => way_any g six (hiN a : Int) (loN a : Int) W
  refine (callsIn_wide (n := 5)).1 ?_
  refine callsIn_of_wp_marks Try.func8 rfl trivial ?_ rfl
  simp only [Try.ntmps8, List.size_toArray, List.length_cons, List.length_nil, Nat.reduceAdd, Nat.reduceSub, Array.replicate_succ, Array.replicate_zero, List.push_toArray, List.append_toArray, List.nil_append, List.cons_append]
  gi_upto_region 1 with fail
  rw [← hX]
  clear hX
  gi_wp2_with fail
  refine ⟨trivial, ?_⟩
  gi_at_call 9; refine (callsIn_wide.2 (cc _ hB)).mono ?_; rintro e w1 ⟨rfl, hb1⟩
  obtain ⟨x0, x1, xf⟩ := cells2 (r0.below hb1)
  gi_wp2_with fail
  refine ⟨trivial, ?_⟩
  gi_at_call 19; refine (callsIn_wide.2 (cr _)).mono ?_; rintro e w2 ⟨rfl, hb2⟩
  clear x0 x1 xf
  have hb02 := below2 hb1 hb2
  gi_upto_region 4 with fail
  obtain ⟨Y, hY⟩ : ∃ Y, Y = (w2.alloc (.cells #[.bool false, .int .u64 0, .int .u64 0, .int .i64 0, .int .u8 0, .int .i64 0] 37)).alloc (.cells #[.int .i64 3] 26) := ⟨_, rfl⟩
  have hbY2 : Below w2.heap.size w2 Y := by rw [hY]; exact below_new (below_new (Below.refl _ _) _) _
  have rL : RowAt Y w2.heap.size (rtC zeroR) 37 := by rw [hY]; exact (RowAt.new _ _ _).alloc _
  have rW : RowAt Y (w2.heap.size + 1) [.int .i64 3] 26 := by rw [hY, ← World.size_alloc w2 (.cells #[.bool false, .int .u64 0, .int .u64 0, .int .i64 0, .int .u8 0, .int .i64 0] 37)]; exact RowAt.new _ _ _
  have hYs : Y.heap.size = w2.heap.size + 1 + 1 := by rw [hY]; simp
  rw [← hY]
  clear hY
  have hbXY := below2 hb02 hbY2
  have hbwY := below2 hB hbXY
  have rR : RowAt Y (w.heap.size + 1) (rtC zeroR) 37 := HBAD.out _ hbXY
  have rA : RowAt Y w.heap.size [.int .u64 (hiN a : Int), .int .u64 (loN a : Int)] 25 := r0.below hbXY
  have hws : w.heap.size + 1 < w2.heap.size := (HBAD.out _ hb02).lt
  obtain ⟨bL, hbL⟩ : ∃ bL, bL = w2.heap.size := ⟨_, rfl⟩
  rw [← hbL] at rL rW hYs hws ⊢
  have cg2 := fun W (hb : Below Y.heap.size Y W) => cg W (below2 hbwY hb)
  have HSK : Hid (∀ W : World, Below Y.heap.size Y W → W.cell? ⟨w.heap.size, 0, none⟩ = some (.int .u64 (hiN a : Int)) ∧ W.cell? ⟨w.heap.size, 1, none⟩ = some (.int .u64 (loN a : Int))) := fun W hb => ⟨(rA.below hb).cell 0, (rA.below hb).cell 1⟩
  have hbA : Below Y.heap.size Y Y := Below.refl _ _
  clear cc cr cg hbL hb1 hb2 hb02 hbY2 hbXY
  refine wpIn_wide.2 ?_
  go_region_held3 (fun W => W.cell? ⟨w.heap.size, 0, none⟩ = some (.int .u64 (hiN a : Int)) ∧ W.cell? ⟨w.heap.size, 1, none⟩ = some (.int .u64 (loN a : Int)))
    (first
      | (refine HSK.out _ ?_
         repeat' (first | with_reducible exact hbA | with_reducible apply below_drew | with_reducible apply below_new)))
    (first
      | (go_at_call 10
         refine (cg2 _ (by repeat' (first | with_reducible exact hbA | with_reducible apply below_drew))).mono ?_
         rintro e w3 ⟨g, u0, u1, K0, K1, rfl, hT, hfil, hlnK, hb3⟩
         have hbN : Below Y.heap.size Y w3 := below2 (by repeat' (first | with_reducible exact hbA | with_reducible apply below_drew)) hb3
         clear hbA
         have hbA := hbN
         clear hbN)
      | (go_at_call 20
         refine (cw _ _).mono ?_
         rintro e w4 ⟨rfl, rfl⟩))
  obtain ⟨V, hV⟩ : ∃ V, V = ((w3.alloc (.cells #[.pointer (some ⟨g, 0, none⟩)] 42)).alloc (.cells #[.bool six] 4)).alloc (.cells #[.int .u64 (hiN a : Int), .int .u64 (loN a : Int)] 25) := ⟨_, rfl⟩
  have hb3V : Below w3.heap.size w3 V := by rw [hV]; exact below_new (below_new (below_new (Below.refl _ _) _) _) _
  have e1 : (w3.alloc (.cells #[.pointer (some ⟨g, 0, none⟩)] 42)).heap.size = w3.heap.size + 1 := World.size_alloc _ _
  have e2 : ((w3.alloc (.cells #[.pointer (some ⟨g, 0, none⟩)] 42)).alloc (.cells #[.bool six] 4)).heap.size = w3.heap.size + 1 + 1 := by rw [World.size_alloc, e1]
  have v1 : RowAt V w3.heap.size [.pointer (some ⟨g, 0, none⟩)] 42 := by rw [hV]; exact ((RowAt.new _ _ _).alloc _).alloc _
  have v2 : RowAt V (w3.heap.size + 1) [.bool six] 4 := by rw [hV, ← e1]; exact (RowAt.new _ _ _).alloc _
  have v3 : RowAt V (w3.heap.size + 1 + 1) [.int .u64 (hiN a : Int), .int .u64 (loN a : Int)] 25 := by rw [hV, ← e2]; exact RowAt.new _ _ _
  rw [← hV]
  clear hV e1 e2 HSK cg2 cw
  have hbYV := below2 hbA hb3V
  have hTV := hT.below hb3V
  have hY3 : Y.heap.size ≤ w3.heap.size := hbA.size
  have hYd : (Y.drew).heap.size = Y.heap.size := rfl
  have hwV := below2 hbwY hbYV
  have I0 : LI V.heap.size w.heap.size (w.heap.size + 1) bL (bL + 1) w [] V := ⟨Nat.le_refl _, rL.below hbYV, rW.below hbYV, rR.below hbYV, hwV⟩
  have hVY := hbYV.size
  have hww := hbwY.size
  gi_wp2_with fail
  refine range_cells (α := Rt) (by omega) (gf := 40) (lb := #[.pointer (some ⟨w3.heap.size, 0, none⟩), .pointer (some ⟨w3.heap.size + 1, 0, none⟩), .pointer (some ⟨w3.heap.size + 1 + 1, 0, none⟩)]) rfl (enters_of Try.func40 (by kernel_rfl) rfl)
    (way1_tells six a (5 - 1) w3.heap.size (w3.heap.size + 1) (w3.heap.size + 1 + 1) bL (bL + 1) V hTV v1 v2 v3 (by omega) (by omega) (by omega) (by omega) ha (hlnK six)) kw_t kw_b (fun _ => rfl)
    (LI V.heap.size w.heap.size (w.heap.size + 1) bL (bL + 1) w) (li_held (Nat.le_refl _) (by omega) (by omega) (by omega) (by omega)) I0
    (fun x a' W => ∃ Bx, RowAt W Bx (rtC x) 37 ∧ V.heap.size ≤ Bx ∧ a' = { tmps := #[.slice o l.length c, .bool six, .agg #[.int .u64 (hiN a : Int), .int .u64 (loN a : Int)], undef, undef, .pointer (some ⟨w.heap.size, 0, none⟩), .pointer (some ⟨w.heap.size + 1, 0, none⟩), .int .i64 0, .pointer (some ⟨bL, 0, none⟩), .pointer (some ⟨bL + 1, 0, none⟩), .pointer (some ⟨Bx, 0, none⟩), .slice o l.length c, .int .i64 0, .bool false, .bool false, .bool six, .agg #[.int .u64 (hiN a : Int), .int .u64 (loN a : Int)], .bool true, .bool false, .bool false, undef, .agg #[.bool false, .int .u64 0, .int .u64 0, .int .i64 0, .int .u8 0, .int .i64 0], .slice o l.length c, .pointer (some ⟨g, 0, none⟩), .bool six, .agg #[.int .u64 (hiN a : Int), .int .u64 (loN a : Int)], .func (.func 40) #[] #[.pointer (some ⟨w3.heap.size, 0, none⟩), .pointer (some ⟨w3.heap.size + 1, 0, none⟩), .pointer (some ⟨w3.heap.size + 1 + 1, 0, none⟩)], .agg #[.bool x.pf.six, .int .u64 (hiN x.pf.n : Int), .int .u64 (loN x.pf.n : Int), .int .i64 x.pf.len, .int .u8 (x.act.k : Int), .int .i64 x.act.i], undef, undef, undef], defers := [] })
    (fun x a' W l o o' ⟨Bx, h1, h2, h3⟩ ho hc => ⟨Bx, (World.putObj_heap_other (fun e => by subst e; have h4 : W.heap[Bx]? = _ := h1; rw [h4] at ho; injection ho with ho; subst ho; cases hc)).trans h1, h2, h3⟩)
    ?assign ?body ?done
  case assign =>
    rintro lp pre x W K hI hK
    have hA := hK _ (W.alloc (.cells #[.bool x.pf.six, .int .u64 (hiN x.pf.n : Int), .int .u64 (loN x.pf.n : Int), .int .i64 x.pf.len, .int .u8 (x.act.k : Int), .int .i64 x.act.i] 37)) ((KeepsOthers.alloc W _).from _) ⟨by simp, fun b o _ _ h _ => (Below.heap_alloc W _ b (Array.getElem?_eq_some_iff.1 h).1).trans h⟩ (li_held (B := V.heap.size) (Nat.le_refl _) (by omega) (by omega) (by omega) (by omega) pre W _ none hI (World.grownBy_alloc W _ none) (fun r e => by cases e)) ⟨W.heap.size, RowAt.new W (rtC x) _, hI.sz, rfl⟩
    unfold encW
    gi_wp2
    exact hA
  case body =>
    rintro lp pre x a' W hI ⟨Bx, hx, hge, rfl⟩
    obtain ⟨c0, c1, c2, c3, c4, c5⟩ := six_at (i := 0) (fun t ht => by rw [Nat.zero_add]; exact hx.cell t)
    obtain ⟨d0, d1, d2, d3, d4, d5⟩ := six_at (i := 0) (fun t ht => by rw [Nat.zero_add]; exact hI.lo.cell t)
    simp only [Nat.zero_add] at c0 c1 c2 c3 c4 c5 d0 d1 d2 d3 d4 d5
    have df := hI.lo.frozen
    have e0 := hI.wy.cell 0
    simp only [List.getElem?_cons_zero] at e0
    have ef := hI.wy.frozen
    have hdl := hI.lo.lt
    have hel := hI.wy.lt
    obtain ⟨W5, hW5⟩ : ∃ W5, W5 = ((((((W.setCell ⟨bL, 0, none⟩ (.bool x.pf.six)).setCell ⟨bL, 1, none⟩ (.int .u64 (hiN x.pf.n : Int))).setCell ⟨bL, 2, none⟩ (.int .u64 (loN x.pf.n : Int))).setCell ⟨bL, 3, none⟩ (.int .i64 x.pf.len)).setCell ⟨bL, 4, none⟩ (.int .u8 (x.act.k : Int))).setCell ⟨bL, 5, none⟩ (.int .i64 x.act.i)) := ⟨_, rfl⟩
    have hg5 : W.grownBy W5 (some bL) := by rw [hW5]; exact grown_s (grown_s (grown_s (grown_s (grown_s (grown_s (World.grownBy.refl W _) 0 _) 1 _) 2 _) 3 _) 4 _) 5 _
    have r5 : RowAt W5 bL (rtC x) 37 := by rw [hW5]; exact (((((hI.lo.set1 0 _).set1 1 _).set1 2 _).set1 3 _).set1 4 _).set1 5 _
    have hg6 : W5.grownBy (W5.setCell ⟨bL + 1, 0, none⟩ (.int .i64 0)) (some (bL + 1)) := grown_s (World.grownBy.refl W5 _) 0 _
    have w5 : RowAt W5 (bL + 1) [.int .i64 (codeR pre)] 26 := row_other hI.wy hg5 (by omega)
    have q5 : RowAt W5 (w.heap.size + 1) (rtC zeroR) 37 := row_other hI.re hg5 (by omega)
    have HL : Hid (LI V.heap.size w.heap.size (w.heap.size + 1) bL (bL + 1) w (pre ++ [x]) (W5.setCell ⟨bL + 1, 0, none⟩ (.int .i64 0))) := by
      refine ⟨Nat.le_trans hI.sz (Nat.le_trans hg5.size hg6.size), by rw [lastR_snoc]; exact row_other r5 hg6 (by omega), by rw [codeR_snoc]; exact w5.set1 0 _, row_other q5 hg6 (by omega), ?_⟩
      exact (hI.bl.grown hg5 hI.bl.size (fun k e => by injection e with e; omega)).grown hg6 (Nat.le_trans hI.bl.size hg5.size) (fun k e => by injection e with e; omega)
    have HK : Hid (KeepsFrom V.heap.size W (W5.setCell ⟨bL + 1, 0, none⟩ (.int .i64 0)) ∧ Kw bL (bL + 1) W (W5.setCell ⟨bL + 1, 0, none⟩ (.int .i64 0))) := by
      refine ⟨(KeepsFrom.of_grownBy hg5 (fun j e => by injection e with e; omega)).trans (KeepsFrom.of_grownBy hg6 (fun j e => by injection e with e; omega)), Nat.le_trans hg5.size hg6.size, fun b o h1 h2 h3 h4 => ?_⟩
      have hb := (Array.getElem?_eq_some_iff.1 h3).1
      rw [hg6.block b (Nat.lt_of_lt_of_le hb hg5.size) (fun e => by injection e with e; exact h2 e), hg5.block b hb (fun e => by injection e with e; exact h1 e)]
      exact h3
    have HW5 : Hid (W5 = ((((((W.setCell ⟨bL, 0, none⟩ (.bool x.pf.six)).setCell ⟨bL, 1, none⟩ (.int .u64 (hiN x.pf.n : Int))).setCell ⟨bL, 2, none⟩ (.int .u64 (loN x.pf.n : Int))).setCell ⟨bL, 3, none⟩ (.int .i64 x.pf.len)).setCell ⟨bL, 4, none⟩ (.int .u8 (x.act.k : Int))).setCell ⟨bL, 5, none⟩ (.int .i64 x.act.i))) := hW5
    clear hW5 hg5 hg6 r5 w5 q5
    gi_wp2
    rw [← HW5.out]
    exact ⟨HK.out.1, HK.out.2, HL.out⟩
  case done =>
    rintro D xs W hD hS hI hK
    rw [hfil six a] at hS
    subst hS
    obtain ⟨d0, d1, d2, d3, d4, d5⟩ := six_at (i := 0) (fun t ht => by rw [Nat.zero_add]; exact hI.lo.cell t)
    obtain ⟨f0, f1, f2, f3, f4, f5⟩ := six_at (i := 0) (fun t ht => by rw [Nat.zero_add]; exact hI.re.cell t)
    simp only [Nat.zero_add] at d0 d1 d2 d3 d4 d5 f0 f1 f2 f3 f4 f5
    have ff := hI.re.frozen
    have e0 := hI.wy.cell 0
    simp only [List.getElem?_cons_zero] at e0
    have hfl := hI.re.lt
    have hdl := hI.lo.lt
    have hel := hI.wy.lt
    have HRT : Hid (rtA (lastR (l.filter (hasR six a))) = .agg #[.bool (lastR (l.filter (hasR six a))).pf.six, .int .u64 (hiN (lastR (l.filter (hasR six a))).pf.n : Int), .int .u64 (loN (lastR (l.filter (hasR six a))).pf.n : Int), .int .i64 (lastR (l.filter (hasR six a))).pf.len, .int .u8 ((lastR (l.filter (hasR six a))).act.k : Int), .int .i64 (lastR (l.filter (hasR six a))).act.i]) := rfl
    have hne1 : w.heap.size + 1 ≠ bL := by omega
    have hne2 : w.heap.size + 1 ≠ bL + 1 := by omega
    have hbl := hI.bl
    have hre := hI.re
    clear hI
    generalize hCR : codeR (l.filter (hasR six a)) = CR at e0
    have HCR : Hid (codeR (l.filter (hasR six a)) = CR) := hCR
    clear hCR
    generalize (lastR (l.filter (hasR six a))).pf.six = s0 at *
    generalize (hiN (lastR (l.filter (hasR six a))).pf.n : Int) = s1 at *
    generalize (loN (lastR (l.filter (hasR six a))).pf.n : Int) = s2 at *
    generalize (lastR (l.filter (hasR six a))).pf.len = s3 at *
    generalize ((lastR (l.filter (hasR six a))).act.k : Int) = s4 at *
    generalize (lastR (l.filter (hasR six a))).act.i = s5 at *
    have mixed : Try.prog.follows Departure.mixedOrders = true := by kernel_rfl
    have late : Try.prog.follows Departure.lateStores = true ∨ Try.prog.follows Departure.lateStores = false := by cases Try.prog.follows Departure.lateStores <;> simp
    gi_wp2_with fail
    refine wpIn_wide.2 ?_
    go_region
    obtain ⟨W7, hW7⟩ : ∃ W7, W7 = ((((((W.setCell ⟨w.heap.size + 1, 0, none⟩ (.bool s0)).setCell ⟨w.heap.size + 1, 1, none⟩ (.int .u64 s1)).setCell ⟨w.heap.size + 1, 2, none⟩ (.int .u64 s2)).setCell ⟨w.heap.size + 1, 3, none⟩ (.int .i64 s3)).setCell ⟨w.heap.size + 1, 4, none⟩ (.int .u8 s4)).setCell ⟨w.heap.size + 1, 5, none⟩ (.int .i64 s5)).drew := ⟨_, rfl⟩
    have r7 : RowAt W7 (w.heap.size + 1) [.bool s0, .int .u64 s1, .int .u64 s2, .int .i64 s3, .int .u8 s4, .int .i64 s5] 37 := by rw [hW7]; exact ((((((hre.set1 0 _).set1 1 _).set1 2 _).set1 3 _).set1 4 _).set1 5 _).drew
    have hg7 : W.grownBy W7 (some (w.heap.size + 1)) := by
      rw [hW7]
      exact grown_drew (grown_s (grown_s (grown_s (grown_s (grown_s (grown_s (World.grownBy.refl W (some (w.heap.size + 1))) 0 (.bool s0)) 1 (.int .u64 s1)) 2 (.int .u64 s2)) 3 (.int .i64 s3)) 4 (.int .u8 s4)) 5 (.int .i64 s5))
    have hK7 : W7.heap[D]? = some (.deferred (some [])) := (hg7.block D (Array.getElem?_eq_some_iff.1 hK).1 (fun e => by injection e with e; omega)).trans hK
    have hb7 : Below w.heap.size w W7 := hbl.grown hg7 hbl.size (fun k e => by injection e with e; omega)
    rw [← hW7]
    have r8 : RowAt (W7.putObj D (.deferred none)) (w.heap.size + 1) [.bool s0, .int .u64 s1, .int .u64 s2, .int .i64 s3, .int .u8 s4, .int .i64 s5] 37 := (World.putObj_heap_other (by omega)).trans r7
    have hb8 : Below w.heap.size w (W7.putObj D (.deferred none)) := hb7.trans (belowK_b (w := w) (Nat.le_refl _) W7 D _ _ (by omega) hK7 rfl rfl)
    have y0 := r8.cell 0
    have y1 := r8.cell 1
    have y2 := r8.cell 2
    have y3 := r8.cell 3
    have y4 := r8.cell 4
    have y5 := r8.cell 5
    simp only [List.getElem?_cons_zero, List.getElem?_cons_succ] at y0 y1 y2 y3 y4 y5
    clear hW7 d0 d1 d2 d3 d4 d5 f0 f1 f2 f3 f4 f5 ff e0 hg7 r7 hre
    gi_wp2
    refine ⟨by simp, .inl ⟨_, _, rfl, run_takeDeferred (w := W7) hK7, ?_⟩⟩
    refine ⟨.tuple #[.agg #[.bool s0, .int .u64 s1, .int .u64 s2, .int .i64 s3, .int .u8 s4, .int .i64 s5], .int .i64 CR], ?_, ?_⟩
    · rw [results_cell_tmp1 rfl]
      go_simp
    · exact ⟨by show _ = Ending.returned (Value.tuple #[rtA (lastR (l.filter (hasR six a))), _]); rw [HRT.out, HCR.out], hb8⟩
end Go.Proofs.Ytaaedgfacnaggaa.Tr
namespace Go.Proofs.Ytaaedgfacnaggaa.Addr
open Go.RowKit

theorem has_bits {p : Pf} {a : Nat} (hok : okP p = true) (hr : rightB p.six a = true) :
    ((∀ j, j < p.len.toNat → p.n.testBit (wideN p.six - 1 - j) = a.testBit (wideN p.six - 1 - j)) → hasB p p.six a = true) ∧ (∀ j, j < p.len.toNat → p.n.testBit (wideN p.six - 1 - j) ≠ a.testBit (wideN p.six - 1 - j) → hasB p p.six a = false) := by
  have hk : kP p = wideN p.six - p.len.toNat := rfl
  have hle := (okP_iff.1 hok).1
  have ha : a < 2 ^ wideN p.six := of_decide_eq_true hr
  have hn := okP_lt hok
  have h0 := okP_zero hok
  have key : firstN (kP p) a = p.n ↔ p.n / 2 ^ kP p = a / 2 ^ kP p := by
    unfold firstN
    have h1 := Nat.div_add_mod a (2 ^ kP p)
    have h2 := Nat.div_add_mod p.n (2 ^ kP p)
    constructor
    · intro h
      have : 2 ^ kP p * (p.n / 2 ^ kP p) = 2 ^ kP p * (a / 2 ^ kP p) := by omega
      exact Nat.eq_of_mul_eq_mul_left (Nat.two_pow_pos _) this
    · intro h
      rw [h] at h2
      omega
  have hb := div_eq_bits (k := kP p) hn ha
  unfold hasB
  rw [hok, hr]
  simp only [decide_true, Bool.true_and]
  constructor
  · intro h
    apply decide_eq_true
    rw [key, hb]
    intro j h1 h2
    have := h (wideN p.six - 1 - j) (by omega)
    rwa [show wideN p.six - 1 - (wideN p.six - 1 - j) = j by omega] at this
  · intro j hj hne
    apply decide_eq_false
    rw [key, hb]
    intro h
    exact hne (h _ (by omega) (by omega))
set_option maxHeartbeats 4000000 in
set_option maxRecDepth 20000 in
theorem rhas_any (p : Pf) (six : Bool) (a : Nat) (w : World) (hl : -9223372036854775808 ≤ p.len ∧ p.len ≤ 9223372036854775807) (hn : p.n < 2 ^ 128) (ha : a < 2 ^ 128) : Calls Try.prog 28 #[pfV p, .bool six, adV a] w fun e w' => e = .returned (.bool (hasB p six a)) ∧ Below w.heap.size w w' := by
  have cc := fun w => rcheck_any p w hl hn
  have cr := fun w => rright_any six a w ha
  obtain ⟨X, hX⟩ : ∃ X, X = (w.alloc (.cells #[.bool p.six, .int .u64 (hiN p.n : Int), .int .u64 (loN p.n : Int), .int .i64 p.len] 32)).alloc (.cells #[.int .u64 (hiN a : Int), .int .u64 (loN a : Int)] 25) := ⟨_, rfl⟩
  have hB0 : Below w.heap.size w X := by rw [hX]; exact below_new (below_new (Below.refl _ _) _) _
  have r0 : RowAt X w.heap.size [.bool p.six, .int .u64 (hiN p.n : Int), .int .u64 (loN p.n : Int), .int .i64 p.len] 32 := by rw [hX]; exact (RowAt.new _ _ _).alloc _
  have r1 : RowAt X (w.heap.size + 1) [.int .u64 (hiN a : Int), .int .u64 (loN a : Int)] 25 := by rw [hX, ← World.size_alloc w (.cells #[.bool p.six, .int .u64 (hiN p.n : Int), .int .u64 (loN p.n : Int), .int .i64 p.len] 32)]; exact RowAt.new _ _ _
  cases hok : okP p
  · rw [checkP_bad hok] at cc
    rw [has_bad hok]
    clear hok
    unfold pfV adV at *
    generalize hiN p.n = h at *
    generalize loN p.n = l at *
    generalize hiN a = ah at *
    generalize loN a = al at *
    generalize p.six = sx at *
    generalize p.len = len at *
    clear hl hn ha cr
    go_enter Try.func28, Try.ntmps28
    go_wp2_with fail
    go_at_call 27; refine (cc _).mono ?_; rintro e w2 ⟨rfl, hb2⟩
    rw [← hX] at hb2
    have hW := below2 hB0 hb2
    clear hX cc hB0 r0 r1 hb2
    go_wp2_with fail
    go_ret
    exact ⟨rfl, hW⟩
  rw [checkP_ok hok] at cc
  by_cases hs : p.six = six
  · subst hs
    cases hr : rightB p.six a
    · rw [hr] at cr
      rw [has_wrong hr]
      clear hr hok
      unfold pfV adV at *
      generalize hiN p.n = h at *
      generalize loN p.n = l at *
      generalize hiN a = ah at *
      generalize loN a = al at *
      generalize p.six = sx at *
      generalize p.len = len at *
      clear hl hn ha
      go_enter Try.func28, Try.ntmps28
      go_wp2_with fail
      go_at_call 27; refine (cc _).mono ?_; rintro e w2 ⟨rfl, hb2⟩
      rw [← hX] at hb2
      have hW := below2 hB0 hb2
      obtain ⟨q0, q1, q2, q3, qf⟩ := cells4 (r0.below hb2)
      obtain ⟨p0, p1, pf⟩ := cells2 (r1.below hb2)
      clear hX cc hB0 r0 r1 hb2
      go_wp2_with fail
      go_at_call 50; refine (cr _).mono ?_; rintro e w3 ⟨rfl, hb3⟩
      have hW := below2 hW hb3
      clear cr
      go_wp2_with fail
      go_ret
      exact ⟨rfl, hW⟩
    · rw [hr] at cr
      obtain ⟨hA, hC⟩ := has_bits hok hr
      have c1 := fun w => rbits_any p.six p.n w hn
      have c2 := fun w => rbits_any p.six a w ha
      unfold BitsIs at c1 c2
      rw [bitL_len] at c1 c2
      have hle := (okP_iff.1 hok).1
      have hWl := wideN_le p.six
      generalize hasB p p.six a = R at *
      obtain ⟨sx, n, len⟩ := p
      simp only at *
      obtain ⟨W, hWd⟩ : ∃ W, W = wideN sx := ⟨_, rfl⟩
      rw [← hWd] at c1 c2 hA hC hle hWl
      obtain ⟨L, hL⟩ : ∃ L : Nat, len = (L : Int) := ⟨len.toNat, by omega⟩
      subst hL
      rw [Int.toNat_natCast] at hA hC
      have hLW : L ≤ W := by omega
      have hWi : (W : Int) ≤ 128 := by omega
      have HA : Hid ((∀ j, j < L → n.testBit (W - 1 - j) = a.testBit (W - 1 - j)) → R = true) := hA
      have HC : Hid (∀ j, j < L → n.testBit (W - 1 - j) ≠ a.testBit (W - 1 - j) → R = false) := hC
      clear hr hok hA hC hl hn ha hWd hle
      unfold pfV adV at *
      simp only at *
      generalize hiN n = h at *
      generalize loN n = l at *
      generalize hiN a = ah at *
      generalize loN a = al at *
      go_enter Try.func28, Try.ntmps28
      go_wp2_with fail
      go_at_call 27; refine (cc _).mono ?_; rintro e w2 ⟨rfl, hb2⟩
      rw [← hX] at hb2
      have hW := below2 hB0 hb2
      have r0 := r0.below hb2
      have r1 := r1.below hb2
      obtain ⟨q0, q1, q2, q3, qf⟩ := cells4 r0
      obtain ⟨p0, p1, pf⟩ := cells2 r1
      clear hX cc hB0 hb2
      go_wp2_with fail
      go_at_call 50; refine (cr _).mono ?_; rintro e w3 ⟨rfl, hb3⟩
      have hW := below2 hW hb3
      have r0 := r0.below hb3
      have r1 := r1.below hb3
      clear q0 q1 q2 q3 qf p0 p1 pf cr hb3
      go_upto_region 3 with fail
      have HSK : Hid (∀ V, Below w3.heap.size w3 V → (V.cell? ⟨w.heap.size, 1, none⟩ = some (.int .u64 (h : Int)) ∧ V.cell? ⟨w.heap.size, 2, none⟩ = some (.int .u64 (l : Int)) ∧ V.cell? ⟨w.heap.size + 1, 0, none⟩ = some (.int .u64 (ah : Int)) ∧ V.cell? ⟨w.heap.size + 1, 1, none⟩ = some (.int .u64 (al : Int)))) := fun V hb => ⟨(r0.below hb).cell 1, (r0.below hb).cell 2, (r1.below hb).cell 0, (r1.below hb).cell 1⟩
      have HR0 : Hid (∀ V, Below w3.heap.size w3 V → V.cell? ⟨w.heap.size, 3, none⟩ = some (.int .i64 (L : Int))) := fun V hb => (r0.below hb).cell 3
      go_cut [7, 8] (fun x y wc => ∃ g1 g2, x = .slice (some ⟨g1, 0, none⟩) W W ∧ y = .slice (some ⟨g2, 0, none⟩) W W ∧ RowAt wc g1 (celN (bitL W n)) 3 ∧ RowAt wc g2 (celN (bitL W a)) 3 ∧ Below w3.heap.size w3 wc)
      case first =>
        have hbA : Below w3.heap.size w3 w3 := Below.refl _ _
        clear r0 r1 HR0
        go_region_held3 (fun w' => w'.cell? ⟨w.heap.size, 1, none⟩ = some (.int .u64 (h : Int)) ∧ w'.cell? ⟨w.heap.size, 2, none⟩ = some (.int .u64 (l : Int)) ∧ w'.cell? ⟨w.heap.size + 1, 0, none⟩ = some (.int .u64 (ah : Int)) ∧ w'.cell? ⟨w.heap.size + 1, 1, none⟩ = some (.int .u64 (al : Int)))
          (first
            | (refine HSK.out _ ?_
               repeat' (first | with_reducible exact hbA | with_reducible apply below_drew)))
          (first
            | (go_at_call 51; with_reducible refine (c1 _).mono ?_; rintro e w4 ⟨g1, rfl, hg1, hrow1, hb4⟩
               have hbN : Below w3.heap.size w3 w4 := below2 (by repeat' (first | with_reducible exact hbA | with_reducible apply below_drew)) hb4
               clear hbA hb4 hg1
               have hbA := hbN
               clear hbN)
            | (go_at_call 51; with_reducible refine (c2 _).mono ?_; rintro e w5 ⟨g2, rfl, hg2, hrow2, hb5⟩
               have hbN : Below w3.heap.size w3 w5 := below2 (by repeat' (first | with_reducible exact hbA | with_reducible apply below_drew)) hb5
               have hrow1' := hrow1.below hb5
               clear hbA hb5 hg2
               have hbA := hbN
               clear hbN))
        go_wp2_with fail
        go_meet
        exact ⟨g1, g2, rfl, rfl, hrow1', hrow2, hbA⟩
      case rest =>
        obtain ⟨g1, g2, rfl, rfl, hrow1, hrow2, hbc⟩ := hcut
        have hW := below2 hW hbc
        have q3 := HR0.out wc hbc
        have HC1 : Hid (∀ j, j < W → wc.cell? ⟨g1, j, none⟩ = some (.int .i64 ((n.testBit (W - 1 - j)).toNat : Int))) := fun j hj => by
          rw [hrow1.cell, celN_get _ _ (by rw [bitL_len]; exact hj), bitL_get W n j hj]
        have HC2 : Hid (∀ j, j < W → wc.cell? ⟨g2, j, none⟩ = some (.int .i64 ((a.testBit (W - 1 - j)).toNat : Int))) := fun j hj => by
          rw [hrow2.cell, celN_get _ _ (by rw [bitL_len]; exact hj), bitL_get W a j hj]
        have HQ3 : Hid (∀ V : World, V.heap = wc.heap → V.cell? ⟨w.heap.size, 3, none⟩ = some (.int .i64 (L : Int))) := fun V hV => by rw [← q3]; unfold World.cell?; rw [hV]
        clear hrow1 hrow2 hbc HSK HR0 r0 r1 c1 c2 q3
        go_wp2_with fail
        go_loopw [9] (fun i wr => ∃ k : Nat, k ≤ L ∧ i = .int .i64 (k : Int) ∧ Hid (∀ j, j < k → n.testBit (W - 1 - j) = a.testBit (W - 1 - j)) ∧ wr.heap = wc.heap ∧ Below w.heap.size w wr) (fun i _ => L - (intOf i).toNat)
        case atStart => exact ⟨0, by omega, rfl, (fun j hj => by omega), rfl, hW⟩
        case round =>
          obtain ⟨k, hk, rfl, HK, hh, hb⟩ := hrel
          clear hW
          have q3 := HQ3.out wr hh
          by_cases hlt : k < L
          · have hki : (k : Int) < (L : Int) := by omega
            have hkw : (k : Int) < (W : Int) := by omega
            have e1 : wr.cell? ⟨g1, k, none⟩ = some (.int .i64 ((n.testBit (W - 1 - k)).toNat : Int)) := by rw [← HC1.out k (by omega)]; unfold World.cell?; rw [hh]
            have e2 : wr.cell? ⟨g2, k, none⟩ = some (.int .i64 ((a.testBit (W - 1 - k)).toNat : Int)) := by rw [← HC2.out k (by omega)]; unfold World.cell?; rw [hh]
            have HH : Hid (wr.heap = wc.heap) := hh
            by_cases heq : n.testBit (W - 1 - k) = a.testBit (W - 1 - k)
            · have HK2 : Hid (∀ j, j < k + 1 → n.testBit (W - 1 - j) = a.testBit (W - 1 - j)) := fun j hj => by
                by_cases hjk : j < k
                · exact HK.out j hjk
                · rw [show j = k by omega]; exact heq
              rw [heq] at e1
              generalize ((a.testBit (W - 1 - k)).toNat : Int) = z at e1 e2
              clear hh heq
              go_wp2_with fail
              go_region
              go_wp2_with fail
              go_roundw
              case rel => exact ⟨k + 1, by omega, by go_num, HK2, HH.out, below_drew hb⟩
              case measure => simp [intOf]; omega
            · have HV : Hid (R = false) := HC.out k hlt heq
              have hzne : (((n.testBit (W - 1 - k)).toNat : Int) != ((a.testBit (W - 1 - k)).toNat : Int)) = true := by
                revert heq; cases n.testBit (W - 1 - k) <;> cases a.testBit (W - 1 - k) <;> simp
              generalize ((n.testBit (W - 1 - k)).toNat : Int) = y at e1 hzne
              generalize ((a.testBit (W - 1 - k)).toNat : Int) = z at e2 hzne
              clear hh heq
              go_wp2_with fail
              go_region
              go_wp2_with fail
              go_ret
              exact ⟨by rw [HV.out]; rfl, below_drew hb⟩
          · obtain rfl : k = L := by omega
            have HV : Hid (R = true) := HA.out HK.out
            clear HK hh
            go_wp2_with fail
            go_ret
            exact ⟨by rw [HV.out]; rfl, hb⟩
  · have hs2 : (p.six != six) = true := by simpa using hs
    have HV : hasB p six a = false := by unfold hasB; rw [decide_eq_false hs]; simp
    rw [HV]
    clear HV hok
    have hs3 : six = !p.six := by revert hs; cases six <;> cases p.six <;> simp
    subst hs3
    unfold pfV adV at *
    generalize hiN p.n = h at *
    generalize loN p.n = l at *
    generalize hiN a = ah at *
    generalize loN a = al at *
    generalize p.six = sx at *
    generalize p.len = len at *
    clear hl hn ha cr hs hs2
    go_enter Try.func28, Try.ntmps28
    go_wp2_with fail
    go_at_call 27; refine (cc _).mono ?_; rintro e w2 ⟨rfl, hb2⟩
    rw [← hX] at hb2
    have hW := below2 hB0 hb2
    obtain ⟨q0, q1, q2, q3, qf⟩ := cells4 (r0.below hb2)
    clear hX cc hB0 r0 r1 hb2
    go_wp2_with fail
    go_ret
    exact ⟨rfl, hW⟩
end Go.Proofs.Ytaaedgfacnaggaa.Addr
namespace Go.Proofs.Ytaaedgfacnaggaa.Tr
open Go.RowKit
open Go.Proofs.Ytaaedgfacnaggaa.Addr (hiN loN RowAt bset RowAt.cell RowAt.frozen RowAt.set1)
def startR : Rt := ⟨⟨false, 0, -1⟩, ⟨0, 0⟩⟩
theorem set6_row {W : World} {B : Nat} {c0 c1 c2 c3 c4 c5 : Value} {t : TypeId} (h : RowAt W B [c0, c1, c2, c3, c4, c5] t) (x0 x1 x2 x3 x4 x5 : Value) : RowAt ((((((W.setCell ⟨B, 0, none⟩ x0).setCell ⟨B, 1, none⟩ x1).setCell ⟨B, 2, none⟩ x2).setCell ⟨B, 3, none⟩ x3).setCell ⟨B, 4, none⟩ x4).setCell ⟨B, 5, none⟩ x5) B [x0, x1, x2, x3, x4, x5] t := (((((h.set1 0 x0).set1 1 x1).set1 2 x2).set1 3 x3).set1 4 x4).set1 5 x5
theorem set6_bl {b0 B : Nat} {w0 W : World} (h : Below b0 w0 W) (hb : b0 ≤ B) (x0 x1 x2 x3 x4 x5 : Value) : Below b0 w0 ((((((W.setCell ⟨B, 0, none⟩ x0).setCell ⟨B, 1, none⟩ x1).setCell ⟨B, 2, none⟩ x2).setCell ⟨B, 3, none⟩ x3).setCell ⟨B, 4, none⟩ x4).setCell ⟨B, 5, none⟩ x5) := bset (bset (bset (bset (bset (bset h hb) hb) hb) hb) hb) hb
theorem six_of {W : World} {B : Nat} {c0 c1 c2 c3 c4 c5 : Value} {t : TypeId} (h : RowAt W B [c0, c1, c2, c3, c4, c5] t) : W.cell? ⟨B, 0, none⟩ = some c0 ∧ W.cell? ⟨B, 1, none⟩ = some c1 ∧ W.cell? ⟨B, 2, none⟩ = some c2 ∧ W.cell? ⟨B, 3, none⟩ = some c3 ∧ W.cell? ⟨B, 4, none⟩ = some c4 ∧ W.cell? ⟨B, 5, none⟩ = some c5 ∧ ∀ k, W.frozen? ⟨B, k, none⟩ = false := ⟨h.cell 0, h.cell 1, h.cell 2, h.cell 3, h.cell 4, h.cell 5, h.frozen⟩
/-- the box of the best route, and what lies ahead of it -/
structure BestI (g : Nat) (V W : World) (r : Rt) : Prop where
  row : RowAt W g [.bool r.pf.six, .int .u64 (hiN r.pf.n : Int), .int .u64 (loN r.pf.n : Int), .int .i64 r.pf.len, .int .u8 (r.act.k : Int), .int .i64 r.act.i] 37
  bel : Below g V W
end Go.Proofs.Ytaaedgfacnaggaa.Tr
namespace Go.Proofs.Ytaaedgfacnaggaa.Msg
open Go.RowKit
open Go.Proofs.Ytaaedgfacnaggaa.Addr (Pf hiN loN)
def eqP (p q : Pf) : Bool := decide (p.six = q.six) && decide (p.n = q.n) && decide (p.len = q.len)
theorem eqP_iff (p q : Pf) : eqP p q = true ↔ p = q := by
  obtain ⟨a, b, c⟩ := p
  obtain ⟨d, e, f⟩ := q
  unfold eqP
  simp only [Bool.and_eq_true, decide_eq_true_eq, Addr.Pf.mk.injEq, and_assoc]
theorem eqP_not (p q : Pf) : eqP p q = false ↔ p ≠ q := by
  rw [← Bool.not_eq_true, eqP_iff]
theorem pf_neq (p q : Pf) (w : World) : (binOp .neq 32 (.agg #[.bool p.six, .int .u64 (hiN p.n : Int), .int .u64 (loN p.n : Int), .int .i64 p.len]) (.agg #[.bool q.six, .int .u64 (hiN q.n : Int), .int .u64 (loN q.n : Int), .int .i64 q.len])).run Try.prog w = .ok (.bool (!eqP p q)) w := by
  have h := pf_inG p.six q.six p.n q.n p.len q.len w 9997
  rw [run_neq_struct, h]
  rfl
theorem pf_eqb (p q : Pf) (w : World) : (binOp .eql 32 (.agg #[.bool p.six, .int .u64 (hiN p.n : Int), .int .u64 (loN p.n : Int), .int .i64 p.len]) (.agg #[.bool q.six, .int .u64 (hiN q.n : Int), .int .u64 (loN q.n : Int), .int .i64 q.len])).run Try.prog w = .ok (.bool (eqP p q)) w := by
  have h := pf_inG p.six q.six p.n q.n p.len q.len w 9997
  rw [run_eql_struct, h]
  rfl
end Go.Proofs.Ytaaedgfacnaggaa.Msg
namespace Go.Proofs.Ytaaedgfacnaggaa.Lk
open Go.RowKit
theorem below_drewN {B : Nat} {w0 w : World} (h : Below B w0 w) (n : Nat) : Below B w0 (w.drewN n) := h.trans ⟨rfl, rfl, rfl, Nat.le_refl _, fun _ _ => rfl⟩
end Go.Proofs.Ytaaedgfacnaggaa.Lk
