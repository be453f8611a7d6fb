/- What the document's Load of manifests returns, for every disk. -/
import Derived.Test.YtajcmgccclemdaaManRefGet
import Derived.Test.YtajcmgccclemdaaDiskRef2
import Derived.Test.YtajcmgccclemdaaManLoad
set_option linter.unusedVariables false
namespace Go.Proofs.Ytajcmgccclemdaa.Man
open Go.RowKit Go.Shelf
open Go.Proofs.Ytajcmgccclemdaa.Page
open Go.Proofs.Ytajcmgccclemdaa.Disk (Dk HasDk Fits readD TextIs VBox strV Ok okB ok_of ok_mk inB checkE checkE_ok checkE_bad)

/-- the disk and the result of the document's Load -/
structure LdR (w W : World) (d : Dk) (so co : Option Addr) (sc cc : Nat) : Prop where
  disk : VBox W w.heap.size (.slice so d.secs.length sc) (.slice co d.cache.length cc) (.int .i64 d.fuse) (.bool d.off)
  res : MBox W (w.heap.size + 1) 0 (.slice none 0 0)
  below : Below w.heap.size w W
theorem LdR.keep {w W W' : World} {d : Dk} {so co : Option Addr} {sc cc : Nat} (h : LdR w W d so co sc cc) (hb : Below W.heap.size W W') : LdR w W' d so co sc cc :=
  ⟨h.disk.below hb, RowAt.below h.res hb, below2 h.below hb⟩
theorem ldR_new (w : World) (d : Dk) (so co : Option Addr) (sc cc : Nat) : LdR w ((w.alloc (.cells #[.slice so d.secs.length sc, .slice co d.cache.length cc, .int .i64 d.fuse, .bool d.off] 38)).alloc (.cells #[.int .u64 0, .slice none 0 0] 25)) d so co sc cc := by
  refine ⟨VBox.below (World.alloc_heap_new _ _) ((Below.refl _ _).alloc (Nat.le_refl _) _), ?_, ((Below.refl _ w).alloc (Nat.le_refl _) _).alloc (by simp) _⟩
  have := RowAt.new (w.alloc (.cells #[.slice so d.secs.length sc, .slice co d.cache.length cc, .int .i64 d.fuse, .bool d.off] 38)) [.int .u64 0, .slice none 0 0] 25
  rw [World.size_alloc] at this
  exact this
theorem load_form {d : Dk} (h : okB d = false) : loadM d = ((0, []), 2) := by
  have e : readD d 0 = ([], 2) := by unfold readD; rw [h]; rfl
  unfold loadM; rw [e]; rfl
theorem load_off {d : Dk} (h : okB d = true) (ho : d.off = true) : loadM d = ((0, []), 9) := by
  have e : readD d 0 = ([], 9) := by unfold readD; rw [h, ho]; rfl
  unfold loadM; rw [e]; rfl
theorem load_one {d : Dk} (h : okB d = true) (ho : d.off = false) (hl : d.secs.length < 2) : loadM d = ((0, []), 1) := by
  have h1 := (ok_of h).one
  have e : (readD d 0).2 = 0 := by unfold readD; rw [h, ho]; rw [if_pos rfl, if_neg (by decide), if_pos (by unfold inB; exact decide_eq_true (by omega))]
  have e2 : readD d 1 = ([], 1) := by unfold readD; rw [h, ho]; rw [if_pos rfl, if_neg (by decide), if_neg (by unfold inB; rw [decide_eq_true_iff]; omega)]
  unfold loadM; rw [if_pos e, e2]; rfl
theorem read_two {d : Dk} (h : okB d = true) (ho : d.off = false) (hl : 2 ≤ d.secs.length) : (readD d 0).2 = 0 ∧ (readD d 1).2 = 0 := by
  constructor
  · unfold readD; rw [h, ho]; rw [if_pos rfl, if_neg (by decide), if_pos (by unfold inB; exact decide_eq_true (by omega))]
  · unfold readD; rw [h, ho]; rw [if_pos rfl, if_neg (by decide), if_pos (by unfold inB; exact decide_eq_true (by omega))]
set_option maxHeartbeats 4000000 in
set_option maxRecDepth 20000 in
theorem rmload_bad (d : Dk) (so co : Option Addr) (sc cc : Nat) (y : Int) (R : ManT × Int) (w : World) (hs9 : d.secs.length ≤ 9223372036854775807) (HR : Hid (R = ((0, []), y)))
    (cck : ∀ W, Below w.heap.size w W → Calls Try.prog 49 #[.agg #[.slice so d.secs.length sc, .slice co d.cache.length cc, .int .i64 d.fuse, .bool d.off]] W fun e w' => e = .returned (.int .i64 (checkE d)) ∧ Below W.heap.size W w')
    (hc : okB d = false ∧ y = 2 ∨ okB d = true ∧ d.off = true ∧ y = 9 ∨ okB d = true ∧ d.off = false ∧ d.secs.length < 2 ∧ y = 1) :
    Calls Try.prog 19 #[.agg #[.slice so d.secs.length sc, .slice co d.cache.length cc, .int .i64 d.fuse, .bool d.off]] w (ManIs R w) := by
  obtain ⟨X, hX⟩ : ∃ X, X = (w.alloc (.cells #[.slice so d.secs.length sc, .slice co d.cache.length cc, .int .i64 d.fuse, .bool d.off] 38)).alloc (.cells #[.int .u64 0, .slice none 0 0] 25) := ⟨_, rfl⟩
  have la : LdR w X d so co sc cc := by rw [hX]; exact ldR_new w d so co sc cc
  have cck := cck X la.below
  obtain ⟨k0, k1, k2, k3, _⟩ := la.disk.cells
  rcases hc with ⟨hk, rfl⟩ | ⟨hk, ho, rfl⟩ | ⟨hk, ho, hl, rfl⟩
  · rw [checkE_bad hk] at cck
    clear hk
    go_enter Try.func19, Try.ntmps19
    go_upto_region 1 with fail
    rw [← hX]
    clear hX
    go_wp2_with fail
    go_at_call 49; refine cck.mono ?_; rintro e w1 ⟨rfl, hb1⟩
    have l1 := la.keep hb1
    obtain ⟨r0, r1⟩ := l1.res.cells
    have f0 := RowAt.frozen l1.res 0
    have f1 := RowAt.frozen l1.res 1
    have hBf := l1.below
    clear la l1 k0 k1 k2 k3 cck
    go_wp2
    (try simp only [Exit.inBlock, Exit.then])
    refine bodyPost_ret ?_ rfl (manIs_zero HR.out (set2_below hBf (by omega) _ _))
    rw [results_cell_tmp rfl]
    go_simp
  · rw [checkE_ok hk] at cck
    rw [ho] at cck k3
    rw [ho]
    rw [ho] at hX
    clear hk
    go_enter Try.func19, Try.ntmps19
    go_upto_region 1 with fail
    rw [← hX]
    clear hX
    go_wp2_with fail
    go_at_call 49; refine cck.mono ?_; rintro e w1 ⟨rfl, hb1⟩
    have l1 := la.keep hb1
    clear k0 k1 k2 k3
    obtain ⟨k0, k1, k2, k3, _⟩ := l1.disk.cells
    rw [ho] at k3
    obtain ⟨r0, r1⟩ := l1.res.cells
    have f0 := RowAt.frozen l1.res 0
    have f1 := RowAt.frozen l1.res 1
    have hBf := l1.below
    clear la l1 cck ho
    go_wp2
    (try simp only [Exit.inBlock, Exit.then])
    refine bodyPost_ret ?_ rfl (manIs_zero HR.out (set2_below hBf (by omega) _ _))
    rw [results_cell_tmp rfl]
    go_simp
  · rw [checkE_ok hk] at cck
    rw [ho] at cck k3
    rw [ho]
    rw [ho] at hX
    clear hk
    have hli : (d.secs.length : Int) < 2 := by omega
    go_enter Try.func19, Try.ntmps19
    go_upto_region 1 with fail
    rw [← hX]
    clear hX
    go_wp2_with fail
    go_at_call 49; refine cck.mono ?_; rintro e w1 ⟨rfl, hb1⟩
    have l1 := la.keep hb1
    clear k0 k1 k2 k3
    obtain ⟨k0, k1, k2, k3, _⟩ := l1.disk.cells
    rw [ho] at k3
    obtain ⟨r0, r1⟩ := l1.res.cells
    have f0 := RowAt.frozen l1.res 0
    have f1 := RowAt.frozen l1.res 1
    have hBf := l1.below
    clear la l1 cck ho
    go_wp2
    (try simp only [Exit.inBlock, Exit.then])
    refine bodyPost_ret ?_ rfl (manIs_zero HR.out (set2_below hBf (by omega) _ _))
    rw [results_cell_tmp rfl]
    go_simp
/-- a result that is one of the two manifests -/
theorem res_put {w W : World} {e : Nat} {o : Option Addr} {n c : Nat} {ps : List PartT} (hr : MBox W (w.heap.size + 1) 0 (.slice none 0 0)) (hp : HasParts W (.slice o n c) ps) (hb : Below w.heap.size w W) :
    HasParts ((W.setCell ⟨w.heap.size + 1, 0, none⟩ (.int .u64 (e : Int))).setCell ⟨w.heap.size + 1, 1, none⟩ (.slice o n c)) (.slice o n c) ps ∧ (W.setCell ⟨w.heap.size + 1, 0, none⟩ (.int .u64 (e : Int))).cell? ⟨w.heap.size + 1, 0, none⟩ = some (.int .u64 (e : Int)) ∧
    Below w.heap.size w ((W.setCell ⟨w.heap.size + 1, 0, none⟩ (.int .u64 (e : Int))).setCell ⟨w.heap.size + 1, 1, none⟩ (.slice o n c)) := by
  have h1 : RowAt (W.setCell ⟨w.heap.size + 1, 0, none⟩ (.int .u64 (e : Int))) (w.heap.size + 1) [.int .u64 (e : Int), .slice none 0 0] 25 := by
    unfold MBox at hr; rw [hr.setCell]; exact RowAt.set hr _
  exact ⟨HasParts.far hp hr (grown2 (grown_cell _ _ _ _) (grown_cell _ _ _ _)), h1.cell 0, set2_below hb (by omega) _ _⟩
set_option maxHeartbeats 4000000 in
set_option maxRecDepth 20000 in
theorem rmload_two (d : Dk) (so co : Option Addr) (sc cc : Nat) (A B : ByteArray) (x y : ManT × Int) (R : ManT × Int) (w : World) (hs9 : d.secs.length ≤ 9223372036854775807) (hs2 : 2 ≤ d.secs.length) (ho : d.off = false) (hx9 : x.1.1 < 18446744073709551616) (hy9 : y.1.1 < 18446744073709551616)
    (cck : ∀ W, Below w.heap.size w W → Calls Try.prog 49 #[.agg #[.slice so d.secs.length sc, .slice co d.cache.length cc, .int .i64 d.fuse, .bool false]] W fun e w' => e = .returned (.int .i64 0) ∧ Below W.heap.size W w')
    (cr0 : ∀ W, Below w.heap.size w W → Calls Try.prog 50 #[.agg #[.slice so d.secs.length sc, .slice co d.cache.length cc, .int .i64 d.fuse, .bool false], .int .i64 0] W fun e w' => e = .returned (.tuple #[.string A, .int .i64 0]) ∧ Below W.heap.size W w')
    (cr1 : ∀ W, Below w.heap.size w W → Calls Try.prog 50 #[.agg #[.slice so d.secs.length sc, .slice co d.cache.length cc, .int .i64 d.fuse, .bool false], .int .i64 1] W fun e w' => e = .returned (.tuple #[.string B, .int .i64 0]) ∧ Below W.heap.size W w')
    (cg0 : ∀ W, Calls Try.prog 12 #[.string A] W fun e w' => ∃ xo xc, e = .returned (.tuple #[.agg #[.int .u64 (x.1.1 : Int), .slice xo x.1.2.length xc], .int .i64 x.2]) ∧ HasParts w' (.slice xo x.1.2.length xc) x.1.2 ∧ Below W.heap.size W w')
    (cg1 : ∀ W, Calls Try.prog 12 #[.string B] W fun e w' => ∃ xo xc, e = .returned (.tuple #[.agg #[.int .u64 (y.1.1 : Int), .slice xo y.1.2.length xc], .int .i64 y.2]) ∧ HasParts w' (.slice xo y.1.2.length xc) y.1.2 ∧ Below W.heap.size W w')
    (hc : x.2 ≠ 0 ∧ y.2 ≠ 0 ∧ Hid (R = ((0, []), 3)) ∨ (x.2 ≠ 0 ∧ y.2 = 0 ∨ x.2 = 0 ∧ y.2 = 0 ∧ x.1.1 < y.1.1) ∧ Hid (R = (y.1, 0)) ∨ (x.2 = 0 ∧ y.2 ≠ 0 ∨ x.2 = 0 ∧ y.2 = 0 ∧ ¬ x.1.1 < y.1.1) ∧ Hid (R = (x.1, 0))) :
    Calls Try.prog 19 #[.agg #[.slice so d.secs.length sc, .slice co d.cache.length cc, .int .i64 d.fuse, .bool false]] w (ManIs R w) := by
  obtain ⟨X, hX⟩ : ∃ X, X = (w.alloc (.cells #[.slice so d.secs.length sc, .slice co d.cache.length cc, .int .i64 d.fuse, .bool false] 38)).alloc (.cells #[.int .u64 0, .slice none 0 0] 25) := ⟨_, rfl⟩
  have la : LdR w X ⟨d.secs, d.cache, d.fuse, false⟩ so co sc cc := by rw [hX]; exact ldR_new w ⟨d.secs, d.cache, d.fuse, false⟩ so co sc cc
  obtain ⟨k0, k1, k2, k3, _⟩ := la.disk.cells
  simp only at k0 k1 k2 k3
  have hli : ¬ ((d.secs.length : Int) < 2) := by omega
  obtain ⟨⟨ex, px⟩, yx⟩ := x
  obtain ⟨⟨ey, py⟩, yy⟩ := y
  simp only at hx9 hy9 cg0 cg1 hc
  have hxi : (ex : Int) ≤ 18446744073709551615 := by omega
  have hyi : (ey : Int) ≤ 18446744073709551615 := by omega
  clear ho hx9 hy9
  have HC : Hid (yx ≠ 0 ∧ yy ≠ 0 ∧ Hid (R = ((0, []), 3)) ∨ (yx ≠ 0 ∧ yy = 0 ∨ yx = 0 ∧ yy = 0 ∧ ex < ey) ∧ Hid (R = ((ey, py), 0)) ∨ (yx = 0 ∧ yy ≠ 0 ∨ yx = 0 ∧ yy = 0 ∧ ¬ ex < ey) ∧ Hid (R = ((ex, px), 0))) := hc
  clear hc
  go_enter Try.func19, Try.ntmps19
  go_upto_region 1 with fail
  rw [← hX]
  clear hX
  go_wp2_with fail
  go_at_call 49; refine (cck _ la.below).mono ?_; rintro e w1 ⟨rfl, hb1⟩
  have l1 := la.keep hb1
  clear k0 k1 k2 k3 la cck hb1
  obtain ⟨k0, k1, k2, k3, _⟩ := l1.disk.cells
  simp only at k0 k1 k2 k3
  go_wp2_with fail
  go_at_call 50; refine (cr0 _ l1.below).mono ?_; rintro e w2 ⟨rfl, hb2⟩
  have l2 := l1.keep hb2
  clear k0 k1 k2 k3 l1 cr0 hb2
  obtain ⟨k0, k1, k2, k3, _⟩ := l2.disk.cells
  simp only at k0 k1 k2 k3
  go_wp2_with fail
  go_at_call 50; refine (cr1 _ l2.below).mono ?_; rintro e w3 ⟨rfl, hb3⟩
  have l3 := l2.keep hb3
  clear k0 k1 k2 k3 l2 cr1 hb3
  go_wp2_with fail
  go_at_call 12; refine (cg0 _).mono ?_; rintro e w4 ⟨xo, xc, rfl, hxp, hb4⟩
  obtain ⟨X4, hX4⟩ : ∃ X, X = w4.alloc (.cells #[.int .u64 (ex : Int), .slice xo px.length xc] 25) := ⟨_, rfl⟩
  obtain ⟨bx, hbx⟩ : ∃ b, b = w4.heap.size := ⟨_, rfl⟩
  have hb5 : Below w4.heap.size w4 X4 := by rw [hX4]; exact (Below.refl _ _).alloc (Nat.le_refl _) _
  have xb : MBox X4 bx ex (.slice xo px.length xc) := by rw [hX4, hbx]; exact RowAt.new w4 [_, _] _
  have hxp := hxp.keep hb5
  have l4 := (l3.keep hb4).keep hb5
  go_upto_region 10 with fail
  rw [← hX4, ← hbx]
  clear hX4 hbx hb4 hb5 cg0 l3
  go_wp2_with fail
  go_at_call 12; refine (cg1 _).mono ?_; rintro e w5 ⟨yo, yc, rfl, hyp, hb6⟩
  obtain ⟨X5, hX5⟩ : ∃ X, X = w5.alloc (.cells #[.int .u64 (ey : Int), .slice yo py.length yc] 25) := ⟨_, rfl⟩
  obtain ⟨by', hby⟩ : ∃ b, b = w5.heap.size := ⟨_, rfl⟩
  have hb7 : Below w5.heap.size w5 X5 := by rw [hX5]; exact (Below.refl _ _).alloc (Nat.le_refl _) _
  have xb : MBox X5 bx ex (.slice xo px.length xc) := RowAt.below xb (below2 hb6 hb7)
  have yb : MBox X5 by' ey (.slice yo py.length yc) := by rw [hX5, hby]; exact RowAt.new w5 [_, _] _
  have hxp := hxp.keep (below2 hb6 hb7)
  have hyp := hyp.keep hb7
  have l5 := (l4.keep hb6).keep hb7
  go_upto_region 11 with fail
  rw [← hX5, ← hby]
  clear hX5 hby hb6 hb7 cg1 l4
  obtain ⟨x0, x1⟩ := xb.cells
  obtain ⟨y0, y1⟩ := yb.cells
  obtain ⟨r0, r1⟩ := l5.res.cells
  have f0 := RowAt.frozen l5.res 0
  have f1 := RowAt.frozen l5.res 1
  have hBf := l5.below
  rcases HC.out with ⟨hx, hy, HR⟩ | ⟨hxy, HR⟩ | ⟨hxy, HR⟩
  · have hx2 : (yx != 0) = true := by simpa using hx
    have hy2 : (yy != 0) = true := by simpa using hy
    clear HC hx hy hxp hyp xb yb l5
    go_wp2
    (try simp only [Exit.inBlock, Exit.then])
    refine bodyPost_ret ?_ rfl (manIs_zero HR.out (set2_below hBf (by omega) _ _))
    rw [results_cell_tmp rfl]
    go_simp
  · obtain ⟨HP, q0, hBF⟩ := res_put (e := ey) l5.res hyp l5.below
    have HPH : Hid (HasParts ((X5.setCell ⟨w.heap.size + 1, 0, none⟩ (.int .u64 (ey : Int))).setCell ⟨w.heap.size + 1, 1, none⟩ (.slice yo py.length yc)) (.slice yo py.length yc) py) := HP
    clear HC hxp hyp xb yb l5 HP
    rcases hxy with ⟨hx, hy⟩ | ⟨hx, hy, hlt⟩
    · have hx2 : (yx != 0) = true := by simpa using hx
      clear hx
      subst hy
      go_wp2
      (try simp only [Exit.inBlock, Exit.then])
      refine bodyPost_ret (v := .tuple #[.agg #[.int .u64 (ey : Int), .slice yo py.length yc], .int .i64 0]) ?_ rfl ⟨_, by rw [HR.out], by rw [HR.out]; exact HPH.out, hBF⟩
      rw [results_cell_tmp rfl]
      go_simp
    · subst hx hy
      have dl : decide ((ex : Int) < (ey : Int)) = true := by rw [decide_eq_true_iff]; omega
      have hli2 : (ex : Int) < (ey : Int) := by omega
      go_wp2
      (try simp only [Exit.inBlock, Exit.then])
      refine bodyPost_ret (v := .tuple #[.agg #[.int .u64 (ey : Int), .slice yo py.length yc], .int .i64 0]) ?_ rfl ⟨_, by rw [HR.out], by rw [HR.out]; exact HPH.out, hBF⟩
      rw [results_cell_tmp rfl]
      go_simp
  · obtain ⟨HP, q0, hBF⟩ := res_put (e := ex) l5.res hxp l5.below
    have HPH : Hid (HasParts ((X5.setCell ⟨w.heap.size + 1, 0, none⟩ (.int .u64 (ex : Int))).setCell ⟨w.heap.size + 1, 1, none⟩ (.slice xo px.length xc)) (.slice xo px.length xc) px) := HP
    clear HC hxp hyp xb yb l5 HP
    rcases hxy with ⟨hx, hy⟩ | ⟨hx, hy, hlt⟩
    · have hy2 : (yy != 0) = true := by simpa using hy
      have hy3 : (yy == 0) = false := by simpa using hy
      clear hy
      subst hx
      go_wp2
      (try simp only [Exit.inBlock, Exit.then])
      refine bodyPost_ret (v := .tuple #[.agg #[.int .u64 (ex : Int), .slice xo px.length xc], .int .i64 0]) ?_ rfl ⟨_, by rw [HR.out], by rw [HR.out]; exact HPH.out, hBF⟩
      rw [results_cell_tmp rfl]
      go_simp
    · subst hx hy
      have dl : decide ((ex : Int) < (ey : Int)) = false := by rw [decide_eq_false_iff_not]; omega
      have hli2 : ¬ ((ex : Int) < (ey : Int)) := by omega
      go_wp2
      (try simp only [Exit.inBlock, Exit.then])
      refine bodyPost_ret (v := .tuple #[.agg #[.int .u64 (ex : Int), .slice xo px.length xc], .int .i64 0]) ?_ rfl ⟨_, by rw [HR.out], by rw [HR.out]; exact HPH.out, hBF⟩
      rw [results_cell_tmp rfl]
      go_simp
theorem rmload_any (d : Dk) (v : Value) (w : World) (h : HasDk w v d) (hf : Fits d) :
    Calls Try.prog 19 #[v] w (ManIs (loadM d) w) := by
  have cck := fun W (hb : Below w.heap.size w W) => Disk.rcheck_any d v W (h.keep hb) hf
  have cr := fun (k : Int) (hk : -9223372036854775808 ≤ k ∧ k ≤ 9223372036854775807) W (hb : Below w.heap.size w W) => Disk.rread_any d v k W (h.keep hb) hf hk
  obtain ⟨so, sc, co, cc, rfl, hs, hc⟩ := h.parts
  obtain ⟨_, _, _, hs1, _⟩ := Disk.HasRow.slice hs
  cases hok : okB d
  · exact rmload_bad d so co sc cc 2 _ w (by omega) (load_form hok) cck (.inl ⟨hok, rfl⟩)
  · cases hoff : d.off
    · by_cases hl : d.secs.length < 2
      · have := rmload_bad d so co sc cc 1 _ w (by omega) (load_one hok hoff hl) cck (.inr (.inr ⟨hok, hoff, hl, rfl⟩))
        rw [hoff] at this; exact this
      · obtain ⟨r0, r1⟩ := read_two hok hoff (by omega)
        have form : ∀ (t : List UInt8) (ht : t.length ≤ 9223372036854775807) W, Calls Try.prog 12 #[.string ⟨t.toArray⟩] W fun e w' => ∃ xo xc, e = .returned (.tuple #[.agg #[.int .u64 ((getM t).1.1 : Int), .slice xo (getM t).1.2.length xc], .int .i64 (getM t).2]) ∧ HasParts w' (.slice xo (getM t).1.2.length xc) (getM t).1.2 ∧ Below W.heap.size W w' := by
          intro t ht W
          refine (rmget_any t W ht).mono ?_
          rintro e w' ⟨v, rfl, hp, hb⟩
          obtain ⟨xo, xc, rfl, _, _⟩ := hp.form
          exact ⟨xo, xc, rfl, hp, hb⟩
        have c0 := cr 0 (by omega)
        have c1 := cr 1 (by omega)
        unfold TextIs at c0 c1
        rw [r0] at c0
        rw [r1] at c1
        rw [checkE_ok hok] at cck
        rw [hoff] at c0 c1 cck
        refine rmload_two d so co sc cc _ _ (getM (readD d 0).1) (getM (readD d 1).1) _ w (by omega) (by omega) hoff (getM_lt _) (getM_lt _) cck c0 c1 (form _ (by have := readD_len d 0; omega)) (form _ (by have := readD_len d 1; omega)) ?_
        by_cases g0 : (getM (readD d 0).1).2 = 0
        · by_cases g1 : (getM (readD d 1).1).2 = 0
          · by_cases hlt : (getM (readD d 0).1).1.1 < (getM (readD d 1).1).1.1
            · exact .inr (.inl ⟨.inr ⟨g0, g1, hlt⟩, load_second r0 r1 g1 (.inr hlt)⟩)
            · exact .inr (.inr ⟨.inr ⟨g0, g1, hlt⟩, load_first r0 r1 g0 (.inr hlt)⟩)
          · exact .inr (.inr ⟨.inl ⟨g0, g1⟩, load_first r0 r1 g0 (.inl g1)⟩)
        · by_cases g1 : (getM (readD d 1).1).2 = 0
          · exact .inr (.inl ⟨.inl ⟨g0, g1⟩, load_second r0 r1 g1 (.inl g0)⟩)
          · exact .inl ⟨g0, g1, load_none r0 r1 g0 g1⟩
    · have := rmload_bad d so co sc cc 9 _ w (by omega) (load_off hok hoff) cck (.inr (.inl ⟨hok, hoff, rfl⟩))
      rw [hoff] at this; exact this
end Go.Proofs.Ytajcmgccclemdaa.Man
