/- (*fib.box).take. -/
import Derived.Test.YtkjhnefbcnnjlaaGreatNv11
import Derived.Test.YtkjhnefbcnnjlaaGreatNv08
import Derived.Test.YtkjhnefbcnnjlaaGreatNv09
import Derived.Test.YtkjhnefbcnnjlaaGreatNv10
import Derived.Deep.RegionHeld3
set_option linter.unusedVariables false
namespace Go.Proofs.YtkjhnefbcnnjlaaGreat.Lk
open Go.RowKit
open Go.Proofs.YtkjhnefbcnnjlaaGreat.Addr (RowAt below_drew below_new RowAt.lt RowAt.cell RowAt.below RowAt.drew RowAt.new RowAt.alloc)
attribute [-go_sem] Builtin.append_
/-- what stands in the new row behind both copies -/
theorem grow_cells (l : List Lk) (x : Lk) (k : Nat) (hk : k ≤ l.length) (ys : List Value) (hy : ys.length = (l.length + 1 - k) * 2) :
    let a := (lkCs (l.take k) ++ ys).take (k * 2) ++ lkC x ++ (lkCs (l.take k) ++ ys).drop (k * 2 + 1 * 2)
    a.take ((k + 1) * 2) ++ lkCs (l.drop k) ++ a.drop ((k + 1) * 2 + (l.length - k) * 2) = lkCs (l.take k ++ ([x] ++ l.drop k)) := by
  intro a
  have hll := lkCs_len (l.take k)
  rw [List.length_take, Nat.min_eq_left hk] at hll
  have e1 : (lkCs (l.take k) ++ ys).take (k * 2) = lkCs (l.take k) := by rw [List.take_append_of_le_length (by omega), List.take_of_length_le (by omega)]
  have e2 : (lkCs (l.take k) ++ lkC x).length = (k + 1) * 2 := by rw [List.length_append, hll]; show _ + 2 = _; omega
  have h1 : a.take ((k + 1) * 2) = lkCs (l.take k) ++ lkC x := by
    show List.take _ (_ ++ _) = _
    rw [e1, List.take_append_of_le_length (by omega), List.take_of_length_le (by omega)]
  have h2 : a.drop ((k + 1) * 2 + (l.length - k) * 2) = [] := by
    apply List.drop_of_length_le
    show (List.length (_ ++ _)) ≤ _
    rw [e1, List.length_append, e2, List.length_drop, List.length_append, hll, hy]
    omega
  rw [h1, h2, List.append_nil, lkCs_app, lkCs_app, List.append_assoc]
  simp [lkCs]
theorem zeros_len (k : Nat) : (Builtin.zeroCells (Value.cells (.agg #[.int .i64 0, .int .i64 0])) k).size = k * 2 := by
  simp [Builtin.zeroCells, Value.cells]
set_option maxHeartbeats 8000000 in
set_option maxRecDepth 20000 in
theorem ins_grow (l : List Lk) (x : Lk) (k g cap vb B : Nat) (w : World) (hown : w.ownsRow B 101 2 (.slice (some ⟨g, 0, none⟩) l.length cap) l.length (lkCs l)) (hB : B ≤ w.heap.size) (hlen : l.length ≤ 1000) (hk : k < l.length) (hnc : l.length ≤ cap) (hr : cap < l.length + 1) (rv : RowAt w vb (lkC x) 101) :
    Calls Tryz.prog 122 #[.slice (some ⟨g, 0, none⟩) l.length cap, .int .i64 (k : Int), .slice (some ⟨vb, 0, none⟩) 1 1] w fun e w' => ∃ u, e = .returned u ∧ HasLks w' u (l.take k ++ ([x] ++ l.drop k)) ∧ Below B w w' := by
  obtain ⟨i0, hi0, hz0, hzs, hzb⟩ := info_parts info_lk
  have hll := lkCs_len l
  have hik : k + (l.length + 1 - k) = l.length + 1 := by omega
  have hgw : g < w.heap.size := (hown.lt g rfl).2
  have hold : (Builtin.firstCells i0.size k (.slice (some ⟨g, 0, none⟩) k cap)).run Tryz.prog w.drew = .ok (lkCs (l.take k)).toArray w.drew := by
    rw [hzs]
    exact run_firstCells_some w.drew 2 k ⟨g, 0, none⟩ k cap (lkCs (l.take k)) (by rw [lkCs_len, List.length_take]; omega) (fun j v hj => by
      have hjl := (List.getElem?_eq_some_iff.1 hj).1
      rw [lkCs_len, List.length_take] at hjl
      rw [addr_add, Nat.zero_add, show w.drew.cell? ⟨g, j, none⟩ = w.cell? ⟨g, j, none⟩ from rfl, hown.cellAt _ (by omega), ← hj, ← lkCs_take, List.getElem?_take, if_pos (by omega)])
  obtain ⟨G, hG⟩ : ∃ G, G = grownCap w (l.length + 1) cap 101 := ⟨_, rfl⟩
  have hGn : l.length + 1 ≤ G := by rw [hG]; exact grownCap_ge w _ _ _
  have hGm : G ≤ maxLen := by rw [hG]; exact grownCap_le_maxLen w (l.length + 1) cap 101 (by unfold maxLen; omega)
  obtain ⟨ZS, hZS⟩ : ∃ ZS, ZS = Builtin.zeroCells (Value.cells (.agg #[.int .i64 0, .int .i64 0])) (l.length + 1 - k) := ⟨_, rfl⟩
  obtain ⟨ZR, hZR⟩ : ∃ ZR, ZR = Builtin.zeroCells (Value.cells (.agg #[.int .i64 0, .int .i64 0])) (G - (l.length + 1)) := ⟨_, rfl⟩
  have hZl : ZS.size = (l.length + 1 - k) * 2 := by rw [hZS, zeros_len]
  have hZT : ZS.toList.length = (l.length + 1 - k) * 2 := by rw [Array.length_toList, hZl]
  have hZr : ZR.size = (G - (l.length + 1)) * 2 := by rw [hZR, zeros_len]
  obtain ⟨W1, hW1⟩ : ∃ W1, W1 = w.drew.alloc (.cells ((lkCs (l.take k)).toArray ++ ZS ++ ZR) 101) := ⟨_, rfl⟩
  have hrz : ∀ ty, (Builtin.append_ #[49, 3] ty #[.slice (some ⟨g, 0, none⟩) k cap, .int .i64 ((l.length : Int) + 1 - (k : Int))]).run Tryz.prog w = .ok (.slice (some ⟨w.heap.size, 0, none⟩) (l.length + 1) G) W1 := fun ty => by
    have h := Lib.run_append_grow_zeros (P := Tryz.prog) w 49 3 ty 101 i0 _ .i64 .i64 Tryz.underlying49 Tryz.underlying3 hi0 hz0 (some ⟨g, 0, none⟩) k cap (lkCs (l.take k)) hold (l.length + 1 - k) (by omega) (by omega) (by omega) (by omega) (by rw [hzb]; omega) (by rw [hzb, hik]; exact growslice_fits hr (by omega))
    rw [hik, ← hG, ← hZS, ← hZR, ← hW1] at h
    rw [show (l.length : Int) + 1 - (k : Int) = ((l.length + 1 - k : Nat) : Int) by omega]
    exact h
  have htl : (lkCs (l.take k)).length = k * 2 := by rw [lkCs_len, List.length_take, Nat.min_eq_left (by omega)]
  have hb1 : Below w.heap.size w W1 := by rw [hW1]; exact below_new (below_drew (Below.refl _ w)) _
  have ho1 : W1.ownsRow B 101 2 (.slice (some ⟨w.heap.size, 0, none⟩) (l.length + 1) G) (l.length + 1) (lkCs (l.take k) ++ ZS.toList) := by
    refine ⟨by rw [List.length_append, htl, hZT]; omega, .inr ⟨w.heap.size, G, _, rfl, hB, by rw [hW1]; exact heap_alloc_new w.drew _, hGn, hGm, ?_, ?_⟩⟩
    · simp only [Array.size_append, List.size_toArray, htl, hZl, hZr]; omega
    · simp only [Array.toList_append]
      rw [List.take_append_of_le_length (by rw [List.length_append, htl, hZT]; omega), List.take_of_length_le (by rw [List.length_append, htl, hZT]; omega)]
  have rv1 := rv.below hb1
  obtain ⟨W2, hr2, ho2, hg2⟩ := own_copy Tryz.underlying49 size_lk ho1 k (l.length + 1 - k) (G - k) ⟨vb, 0, none⟩ 1 1 1 (lkC x) (by simp only [Nat.min_def]; split <;> omega) rfl (by omega)
    (fun j v hj => by rw [addr_add, Nat.zero_add, rv1.cell]; exact hj) (by have := one_links [x]; simpa [lkCs] using this)
  have hown1 := own_below hown hb1
  obtain ⟨W3, hr3, ho3, hg3⟩ := own_copy Tryz.underlying49 size_lk (W := W2.drew) ho2 (k + 1) (l.length + 1 - (k + 1)) (G - (k + 1)) ⟨g, k * 2, none⟩ (l.length - k) (cap - k) (l.length - k) (lkCs (l.drop k)) (by simp only [Nat.min_def]; split <;> omega) (by rw [lkCs_len, List.length_drop]) (by omega)
    (fun j v hj => by
      have hjl := (List.getElem?_eq_some_iff.1 hj).1
      rw [lkCs_len, List.length_drop] at hjl
      have h5 : W1.cell? ⟨g, k * 2 + j, none⟩ = some v := by rw [hown1.cellAt _ (by omega), ← List.getElem?_drop, lkCs_drop]; exact hj
      rw [addr_add]
      exact hg2.cell h5 (by intro e; injection e with e; simp only at e; omega)) (one_links _)
  have hc := grow_cells l x k (by omega) ZS.toList hZT
  simp only at hc
  rw [hc] at ho3
  have HH : Hid (HasLks W3 (.slice (some ⟨w.heap.size, 0, none⟩) (l.length + 1) G) (l.take k ++ ([x] ++ l.drop k))) := by
    show HasRow _ _ _ _ _
    rw [show (l.take k ++ ([x] ++ l.drop k)).length = l.length + 1 by simp; omega]
    exact hasRow_own ho3
  have hBB : Below B w W3 := (below_drew ((Below.mono hb1 hB).grown hg2 (Nat.le_trans hB hb1.size) (fun q e => by injection e with e; omega))).grown hg3 (Nat.le_trans hB (Nat.le_trans hb1.size hg2.size)) (fun q e => by injection e with e; omega)
  have hki : (k : Int) < (l.length : Int) := by omega
  have hni : (l.length : Int) ≤ 1000 := by omega
  have hG9 : G ≤ 9223372036854775807 := by unfold maxLen at hGm; exact hGm
  clear hZT hc ho3 ho2 ho1 hown hown1 rv rv1 hll hg2 hg3 hold hZS hZR hZl hZr hW1 hGm htl hb1 hik hG hi0 hz0 hzs hzb
  generalize l.length = n at *
  generalize w.heap.size = N at *
  have hz2 : ¬ ((k : Int) = (n : Int)) := by omega
  have hck : ¬ cap = k := by omega
  have hGk : ¬ G = k := by omega
  have hGk1 : ¬ G = k + 1 := by omega
  have hgt : (cap : Int) < (n : Int) + 1 := by omega
  have mixed : Tryz.prog.follows Departure.mixedOrders = true := by kernel_rfl
  have hw1 : IntKind.i64.wrap ((k : Int) + 1) = (k : Int) + 1 := by rw [IntKind.wrap_i64]; omega
  have hb1 : (0 : Int) ≤ (k : Int) + 1 := by omega
  have hkn : k ≤ n := by omega
  have hkc : (k : Int) ≤ (cap : Int) := by omega
  have htn : ((k : Int) + 1).toNat = k + 1 := by omega
  have hb3 : (k : Int) ≤ (n : Int) + 1 := by omega
  have hw2 : IntKind.i64.wrap ((n : Int) + 1 - (k : Int)) = (n : Int) + 1 - (k : Int) := by rw [IntKind.wrap_i64]; omega
  go_enter Tryz.func122, Tryz.ntmps122
  go_wp2_with (at_builtin; first | refine Lib.wpList_append_run _ rfl _ _ _ _ rfl _ _ rfl rfl _ _ (hrz _) ?_ | refine Lib.wpList_copy_run _ rfl _ _ 49 49 rfl _ _ rfl rfl (hr2 _ _) ?_)
  go_region_law_o (refine copy_step rfl _ _ 49 49 rfl (by simp [Act.eval, Act.put]) (by simp [Act.eval, Act.put]) (hr3 _ _) ?_)
  go_wp2_with fail
  go_ret
  exact ⟨_, rfl, HH.out, hBB⟩
theorem ins_any (l : List Lk) (v : Value) (x : Lk) (k vb B : Nat) (w : World) (hown : w.ownsRow B 101 2 v l.length (lkCs l)) (hB : B ≤ w.heap.size) (hlen : l.length ≤ 1000) (hk : k ≤ l.length) (rv : RowAt w vb (lkC x) 101) (hne : v.ownBlock ≠ some vb) :
    Calls Tryz.prog 122 #[v, .int .i64 (k : Int), .slice (some ⟨vb, 0, none⟩) 1 1] w fun e w' => ∃ u, e = .returned u ∧ HasLks w' u (l.take k ++ ([x] ++ l.drop k)) ∧ Below B w w' := by
  rcases Nat.lt_or_ge k l.length with h | h
  · rcases hown.2 with ⟨_, h0⟩ | ⟨g, cap, cur, rfl, hgb, hgc, hnc, hcm, hcs, htk⟩
    · omega
    · rcases Nat.lt_or_ge cap (l.length + 1) with h1 | h1
      · exact ins_grow l x k g cap vb B w hown hB hlen h hnc h1 rv
      · exact ins_room l x k g cap vb B w hown hB hlen h h1 (by unfold maxLen at hcm; exact hcm) rv (fun e => hne (by rw [e]; rfl))
  · obtain rfl : k = l.length := by omega
    rw [List.take_length, List.drop_length]
    exact ins_end l v x vb B w hown hB hlen rv
end Go.Proofs.YtkjhnefbcnnjlaaGreat.Lk
namespace Go.Proofs.YtkjhnefbcnnjlaaGreat.Lk
open Go.RowKit Go.Shelf
open Go.Proofs.YtkjhnefbcnnjlaaGreat.Addr (RowAt below2 below_drew below_new RowAt.lt RowAt.cell RowAt.below RowAt.new RowAt.alloc cells2)
attribute [-go_sem] Builtin.append_
theorem place_put {l : List Lk} (hp : l.Pairwise (fun x y => x.iface < y.iface)) (i : Int) :
    ∃ k, k ≤ (others l i).length ∧ (idxL (fun y : Lk => decide (i < y.iface)) (others l i) = (k : Int) ∨ (idxL (fun y : Lk => decide (i < y.iface)) (others l i) = -1 ∧ k = (others l i).length)) ∧ (others l i).take k = aheadL l i ∧ (others l i).drop k = behindL l i := by
  have hs := (others_split hp i).1
  refine ⟨(aheadL l i).length, by rw [hs, List.length_append]; omega, ?_, by rw [hs, List.take_left], by rw [hs, List.drop_left]⟩
  have ha : ∀ j (hj : j < (others l i).length), j < (aheadL l i).length → decide (i < (others l i)[j].iface) = false := fun j hj hja => by
    have hm : (others l i)[j] ∈ aheadL l i := by
      have : (others l i)[j] = (aheadL l i)[j] := by simp only [hs]; rw [List.getElem_append_left hja]
      rw [this]; exact List.getElem_mem _
    have := (List.mem_filter.1 hm).2
    simp only [decide_eq_true_eq] at this
    exact decide_eq_false (by omega)
  rcases Nat.eq_zero_or_pos (behindL l i).length with h0 | h0
  · right
    have hl : (others l i).length = (aheadL l i).length := by rw [hs, List.length_append]; omega
    exact ⟨idx_none (fun j hj => ha j hj (by omega)), hl.symm⟩
  · left
    have hl : (aheadL l i).length < (others l i).length := by rw [hs, List.length_append]; omega
    refine idx_at hl ha ?_
    have hm : (others l i)[(aheadL l i).length] ∈ behindL l i := by
      have : (others l i)[(aheadL l i).length] = (behindL l i)[0] := by simp only [hs]; rw [List.getElem_append_right (Nat.le_refl _)]; simp
      rw [this]; exact List.getElem_mem _
    exact (List.mem_filter.1 hm).2
theorem own_base {W : World} {m k e size n : Nat} {v : Value} {xs : List Value} (h : W.ownsRow m e size v n xs) (hk : k ≤ m) : W.ownsRow k e size v n xs := by
  refine ⟨h.1, ?_⟩
  rcases h.2 with h0 | ⟨g, cap, cur, e1, hg, rest⟩
  · exact .inl h0
  · exact .inr ⟨g, cap, cur, e1, Nat.le_trans hk hg, rest⟩
set_option maxHeartbeats 8000000 in
set_option maxRecDepth 20000 in
theorem put_any (l : List Lk) (v : Value) (x : Lk) (w : World) (hl : HasLks w v l) :
    Calls Tryz.prog 91 #[v, .agg #[.int .i64 x.iface, .int .i64 x.peer]] w fun e w' => ∃ u, e = .returned (.tuple #[u, .int .i64 (putL l x).2]) ∧ HasLks w' u (putL l x).1 ∧ Below w.heap.size w w' := by
  obtain ⟨o, c, rfl, hc1, hc2⟩ := HasRow.slice hl
  have cc := fun W (hb : Below w.heap.size w W) => check_any l _ W (hl.keep hb)
  have c1 := fun W => right_any x W
  have hck : checkL l = if okL l then 0 else 2 := rfl
  rw [hck] at cc
  have hPd : putL l x = if okL l && okK x then (if (others l x.iface).length = 32 then (others l x.iface, 8) else (aheadL l x.iface ++ ([x] ++ behindL l x.iface), 0)) else ([], 2) := rfl
  obtain ⟨X, hX⟩ : ∃ X, X = w.alloc (.cells #[.int .i64 x.iface, .int .i64 x.peer] 101) := ⟨_, rfl⟩
  have hB : Below w.heap.size w X := by rw [hX]; exact below_new (Below.refl _ _) _
  have r0 : RowAt X w.heap.size [.int .i64 x.iface, .int .i64 x.peer] 101 := by rw [hX]; exact RowAt.new _ _ _
  cases hok : okL l
  · rw [hok] at cc hPd
    simp only [Bool.false_eq_true, if_false, Bool.false_and] at cc hPd
    rw [hPd]
    clear hPd
    go_enter Tryz.func91, Tryz.ntmps91
    go_upto_region 1 with fail
    rw [← hX]
    clear hX
    go_wp2_with fail
    go_at_call 48; refine (cc _ hB).mono ?_; rintro e w1 ⟨rfl, hb1⟩
    go_wp2_with fail
    go_ret2
    exact ⟨_, rfl, hasRow_nil _ 2, below2 hB hb1⟩
  rw [hok] at cc hPd
  simp only [if_true, Bool.true_and] at cc hPd
  cases hox : okK x
  · rw [hox] at c1 hPd
    simp only [Bool.false_eq_true, if_false] at hPd
    rw [hPd]
    clear hPd
    obtain ⟨a, b⟩ := x
    simp only at *
    go_enter Tryz.func91, Tryz.ntmps91
    go_upto_region 1 with fail
    rw [← hX]
    clear hX
    go_wp2_with fail
    go_at_call 48; refine (cc _ hB).mono ?_; rintro e w1 ⟨rfl, hb1⟩
    replace r0 := RowAt.below r0 hb1
    obtain ⟨y0, y1, yf⟩ := cells2 r0
    go_wp2_with fail
    go_at_call 77; refine (c1 _).mono ?_; rintro e w2 ⟨rfl, hb2⟩
    go_wp2_with fail
    go_ret2
    exact ⟨_, rfl, hasRow_nil _ 2, below2 (below2 hB hb1) hb2⟩
  rw [hox] at c1 hPd
  simp only [if_true] at hPd
  have hlen := okL_len2 hok
  have hol : (others l x.iface).length ≤ l.length := List.length_filter_le _ _
  have cl := fun W (hb : Below w.heap.size w W) => clone_any l _ W (hl.keep hb) (by omega)
  have co := fun W => of_any x.iface W
  have cd := fun (W : World) (v : Value) (g B : Nat) => delf_any l v x.iface g B W hok
  have ci := fun (W : World) (v : Value) (g : Nat) => idxPut_any (others l x.iface) v x.iface g W
  have cn := fun (W : World) (v : Value) (k vb B : Nat) => ins_any (others l x.iface) v x k vb B W
  obtain ⟨k, hk1, hk2, hk3, hk4⟩ := place_put (okL_up hok) x.iface
  obtain ⟨m, hm⟩ : ∃ m, m = (others l x.iface).length := ⟨_, rfl⟩
  have HOT : Hid (∀ (W : World) (u : Value) (B : Nat), W.ownsRow B 101 2 u (others l x.iface).length (lkCs (others l x.iface)) → HasLks W u (others l x.iface) ∧ ∃ ou cu, u = .slice ou m cu) := fun W u B h => ⟨hasRow_own h, by obtain ⟨ou, cu, e, _, _⟩ := HasRow.slice (hasRow_own h); exact ⟨ou, cu, by rw [hm]; exact e⟩⟩
  have HM : Hid (m = (others l x.iface).length ∧ m ≤ 32) := ⟨hm, by omega⟩
  have HIN : Hid (∀ (W : World) (u : Value) (vb B : Nat), W.ownsRow B 101 2 u (others l x.iface).length (lkCs (others l x.iface)) → B ≤ W.heap.size → RowAt W vb [.int .i64 x.iface, .int .i64 x.peer] 101 → u.ownBlock ≠ some vb →
      Calls Tryz.prog 122 #[u, .int .i64 (k : Int), .slice (some ⟨vb, 0, none⟩) 1 1] W fun e w' => ∃ u, e = .returned u ∧ HasLks w' u (aheadL l x.iface ++ ([x] ++ behindL l x.iface)) ∧ Below B W w') := fun W u vb B h1 h2 h3 h4 => by
    have := cn W u k vb B h1 h2 (by omega) hk1 h3 h4
    rw [hk3, hk4] at this
    exact this
  rw [← hm] at hk1 hk2 hPd
  have hmi : (m : Int) ≤ 32 := by omega
  rw [hPd]
  obtain ⟨PL, hPL⟩ : ∃ PL, PL = (if m = 32 then (others l x.iface, 8) else (aheadL l x.iface ++ ([x] ++ behindL l x.iface), 0) : List Lk × Int) := ⟨_, rfl⟩
  have HP : Hid (PL = (if m = 32 then (others l x.iface, 8) else (aheadL l x.iface ++ ([x] ++ behindL l x.iface), 0) : List Lk × Int)) := hPL
  rw [← hPL]
  generalize idxL (fun y : Lk => decide (x.iface < y.iface)) (others l x.iface) = q at ci hk2
  obtain ⟨n, hn⟩ : ∃ n, n = l.length := ⟨_, rfl⟩
  have HN : Hid (n = l.length) := hn
  rw [← hn] at hlen hc1 cl cc ⊢
  have hni : (n : Int) ≤ 32 := by omega
  clear hPd hPL hm hn hl hk3 hk4 cn hck hol
  generalize x.iface = a at *
  generalize x.peer = b at *
  go_enter Tryz.func91, Tryz.ntmps91
  go_upto_region 1 with fail
  rw [← hX]
  clear hX
  go_wp2_with fail
  go_at_call 48; refine (cc _ hB).mono ?_; rintro e w1 ⟨rfl, hb1⟩
  replace r0 := RowAt.below r0 hb1
  have hbw1 := below2 hB hb1
  clear cc hB hb1
  have hgl : w.heap.size < w1.heap.size := r0.lt
  obtain ⟨y0, y1, yf⟩ := cells2 r0
  go_wp2_with fail
  go_at_call 77; refine (c1 _).mono ?_; rintro e w2 ⟨rfl, hb2⟩
  replace r0 := RowAt.below r0 hb2
  have hbw2 := below2 hbw1 hb2
  clear c1 y0 y1 yf hb2 hbw1 hgl
  have cl2 : ∀ W, Below w2.heap.size w2 W → Calls Tryz.prog 53 #[.slice o n c] W fun e w' => ∃ u, e = .returned u ∧ w'.ownsRow w2.heap.size 101 2 u n (lkCs l) ∧ Below w2.heap.size w2 w' := fun W hb => by
    refine (cl W (hbw2.trans (Below.mono hb hbw2.size))).mono ?_
    rintro e w' ⟨u, rfl, h1, h2⟩
    exact ⟨u, rfl, own_base h1 hb.size, hb.trans (Below.mono h2 hb.size)⟩
  have HSK : Hid (∀ W : World, Below w2.heap.size w2 W → W.cell? ⟨w.heap.size, 0, none⟩ = some (.int .i64 a)) := fun W hb => (RowAt.below r0 hb).cell 0
  have hbA : Below w2.heap.size w2 w2 := Below.refl _ _
  go_wp2_with fail
  go_region_held3 (fun w' => w'.cell? ⟨w.heap.size, 0, none⟩ = some (.int .i64 a))
    (first
      | (refine HSK.out _ ?_
         repeat' (first | with_reducible exact hbA | with_reducible apply below_drew)))
    (first
      | (go_at_call 53; with_reducible refine (cl2 _ (by repeat' (first | with_reducible exact hbA | with_reducible apply below_drew))).mono ?_; rintro e w3 ⟨u2, rfl, ho2, hbN⟩
         clear hbA
         have hbA := hbN
         clear hbN)
      | (go_at_call 119; with_reducible refine (co _).mono ?_; rintro e w4 ⟨rfl, hw4⟩
         have hb4 : Below w3.heap.size w3 w4 := (by rw [hw4]; exact below_new (by repeat' (first | exact Below.refl _ _ | apply below_drew)) _)
         have r4 : RowAt w4 w3.heap.size [.int .i64 a] 3 := (by rw [hw4]; exact RowAt.new _ _ _)
         have hgr : u2.ownBlock ≠ some w3.heap.size := (fun e => by have := (ho2.lt _ e).2; omega)
         have ho4 := own_below ho2 hb4
         have hbN := below2 hbA hb4
         clear hw4 hbA hb4 ho2
         have hbA := hbN
         clear hbN
         generalize w3.heap.size = g at r4 hgr ⊢
         have hc4 : w4.cell? ⟨g, 0, none⟩ = some (.int .i64 a) := r4.cell 0
         have hl4 := r4.lt
         clear r4)
      | (go_at_call 118; with_reducible refine (cd _ _ g w2.heap.size (by rw [← HN.out]; exact ho4) hbA.size hc4 hl4 hgr).mono ?_; rintro e w5 ⟨u5, rfl, ho5, _, hb5⟩
         have hbN := hbA.trans hb5
         clear hbA
         have hbA := hbN
         clear hbN
         obtain ⟨hh, ou, cu, rfl⟩ := HOT.out _ _ _ ho5))
  clear HSK cl cl2 co cd
  have hbw5 : Below w.heap.size w w5 := hbw2.trans (Below.mono hbA hbw2.size)
  have hB5 : w2.heap.size ≤ w5.heap.size := hbA.size
  have r5 := RowAt.below r0 hbA
  have hX5 : w.heap.size < w5.heap.size := r5.lt
  clear hbA hb5
  by_cases hm32 : m = 32
  · have hPv := HP.out
    rw [if_pos hm32] at hPv
    subst hm32
    clear HP ci HIN
    go_wp2_with fail
    go_ret2
    exact ⟨_, by rw [hPv]; rfl, by rw [hPv]; exact hh, hbw5⟩
  · have hPv := HP.out
    rw [if_neg hm32] at hPv
    have hmm : ((m : Int) == 32) = false := beq_eq_false_iff_ne.2 (by omega)
    have HPV : Hid (PL = (aheadL l a ++ ([x] ++ behindL l a), 0)) := hPv
    clear HP hPv hm32
    go_wp2_with fail
    go_at_call 120; refine (ci _ _ w.heap.size hh (r5.cell 0) hX5).mono ?_; rintro e w6 ⟨rfl, hb6⟩
    have ho6 := own_below ho5 hb6
    have hbw6 := below2 hbw5 hb6
    replace hB5 := Nat.le_trans hB5 hb6.size
    replace r5 := RowAt.below r5 hb6
    have hX6 : w.heap.size < w6.heap.size := r5.lt
    clear ci hb6 ho5 hbw5 hX5 hh
    obtain ⟨y0, y1, yf⟩ := cells2 r5
    have hgr6 : ∀ t, w6.heap.size ≤ t → (Value.slice ou m cu).ownBlock ≠ some t := fun t ht e => by have := (ho6.lt _ e).2; omega
    have hbN : Below w6.heap.size w6 (w6.alloc (.cells #[.int .i64 a, .int .i64 b] 101)) := below_new (Below.refl _ _) _
    have rN : RowAt (w6.alloc (.cells #[.int .i64 a, .int .i64 b] 101)) w6.heap.size [.int .i64 a, .int .i64 b] 101 := RowAt.new _ _ _
    have hbwN := below2 hbw6 hbN
    have hBN : w2.heap.size ≤ (w6.alloc (.cells #[.int .i64 a, .int .i64 b] 101)).heap.size := Nat.le_trans hB5 hbN.size
    have cn := HIN.out _ (.slice ou m cu) _ w2.heap.size (own_below ho6 hbN) hBN rN (hgr6 _ (Nat.le_refl _))
    clear HIN hgr6 hBN rN
    have HW : Hid (∀ w', Below w2.heap.size (w6.alloc (.cells #[.int .i64 a, .int .i64 b] 101)) w' → Below w.heap.size w w') := fun w' h => hbwN.trans (Below.mono h hbw2.size)
    clear hbwN hbN hbw6 ho6
    rcases hk2 with rfl | ⟨rfl, rfl⟩
    · have hk0 : ¬ ((k : Int) < 0) := by omega
      go_wp2_with fail
      go_at_call 122; refine cn.mono ?_; rintro e w7 ⟨u7, rfl, hh7, hb7⟩
      have hF := HW.out _ hb7
      have hPv := HPV.out
      clear HW hb7 y0 y1 yf
      go_wp2_with fail
      go_ret2
      exact ⟨_, by rw [hPv]; rfl, by rw [hPv]; exact hh7, hF⟩
    · go_wp2_with fail
      go_at_call 122; refine cn.mono ?_; rintro e w7 ⟨u7, rfl, hh7, hb7⟩
      have hF := HW.out _ hb7
      have hPv := HPV.out
      clear HW hb7 y0 y1 yf
      go_wp2_with fail
      go_ret2
      exact ⟨_, by rw [hPv]; rfl, by rw [hPv]; exact hh7, hF⟩
end Go.Proofs.YtkjhnefbcnnjlaaGreat.Lk
namespace Go.Proofs.YtkjhnefbcnnjlaaGreat.Fib
open Go.RowKit
open Go.Proofs.YtkjhnefbcnnjlaaGreat.Addr (hiN loN RowAt below_new RowAt.cell RowAt.frozen RowAt.below RowAt.drew RowAt.new RowAt.alloc cells4)
open Go.Proofs.YtkjhnefbcnnjlaaGreat.Msg (Ev evV)
theorem cells12 {W : World} {b : Nat} {a0 a1 a2 a3 a4 a5 a6 a7 a8 a9 a10 a11 : Value} {t : TypeId} (h : RowAt W b [a0, a1, a2, a3, a4, a5, a6, a7, a8, a9, a10, a11] t) :
    W.cell? ⟨b, 0, none⟩ = some a0 ∧ W.cell? ⟨b, 1, none⟩ = some a1 ∧ W.cell? ⟨b, 2, none⟩ = some a2 ∧ W.cell? ⟨b, 3, none⟩ = some a3 ∧ W.cell? ⟨b, 4, none⟩ = some a4 ∧ W.cell? ⟨b, 5, none⟩ = some a5 ∧ W.cell? ⟨b, 6, none⟩ = some a6 ∧ W.cell? ⟨b, 7, none⟩ = some a7 ∧ W.cell? ⟨b, 8, none⟩ = some a8 ∧ W.cell? ⟨b, 9, none⟩ = some a9 ∧ W.cell? ⟨b, 10, none⟩ = some a10 ∧ W.cell? ⟨b, 11, none⟩ = some a11 ∧ ∀ k, W.frozen? ⟨b, k, none⟩ = false :=
  ⟨h.cell 0, h.cell 1, h.cell 2, h.cell 3, h.cell 4, h.cell 5, h.cell 6, h.cell 7, h.cell 8, h.cell 9, h.cell 10, h.cell 11, h.frozen⟩
set_option maxHeartbeats 2000000 in
theorem misfit_any (R : Ro) (e : Ev) (B : Nat) (a b : Value) (w : World) (hr : RowAt w B [.int .i64 R.id, .bool R.up, a, b] 105) :
    Calls Tryz.prog 59 #[.pointer (some ⟨B, 0, none⟩), evV e] w fun x w' => x = .returned (.int .i64 (misRo R e)) ∧ Below w.heap.size w w' := by
  have HM : Hid (misRo R e = if e.router = R.id then (if decide (e.kind = 1) = R.up then 10 else 0) else 14) := rfl
  generalize misRo R e = M at HM ⊢
  obtain ⟨id, up, rts, lks⟩ := R
  obtain ⟨kind, router, seq, time, pf, act, iface, peer⟩ := e
  simp only at HM hr
  show Calls Tryz.prog 59 #[.pointer (some ⟨B, 0, none⟩), .agg #[.int .u8 (kind : Int), .int .i64 router, .int .u64 (seq : Int), .int .i64 time, .bool pf.six, .int .u64 (hiN pf.n : Int), .int .u64 (loN pf.n : Int), .int .i64 pf.len, .int .u8 (act.k : Int), .int .i64 act.i, .int .i64 iface, .int .i64 peer]] w _
  obtain ⟨X, hX⟩ : ∃ X, X = w.alloc (.cells #[.int .u8 (kind : Int), .int .i64 router, .int .u64 (seq : Int), .int .i64 time, .bool pf.six, .int .u64 (hiN pf.n : Int), .int .u64 (loN pf.n : Int), .int .i64 pf.len, .int .u8 (act.k : Int), .int .i64 act.i, .int .i64 iface, .int .i64 peer] 38) := ⟨_, rfl⟩
  have hB : Below w.heap.size w X := by rw [hX]; exact below_new (Below.refl _ _) _
  have r0 : RowAt X w.heap.size [.int .u8 (kind : Int), .int .i64 router, .int .u64 (seq : Int), .int .i64 time, .bool pf.six, .int .u64 (hiN pf.n : Int), .int .u64 (loN pf.n : Int), .int .i64 pf.len, .int .u8 (act.k : Int), .int .i64 act.i, .int .i64 iface, .int .i64 peer] 38 := by rw [hX]; exact RowAt.new _ _ _
  have r1 := RowAt.below hr hB
  obtain ⟨p0, p1, p2, p3, p4, p5, p6, p7, p8, p9, p10, p11, pf0⟩ := cells12 r0
  obtain ⟨q0, q1, q2, q3, qf⟩ := cells4 r1
  clear p2 p3 p4 p5 p6 p7 p8 p9 p10 p11 q2 q3
  by_cases h1 : router = id
  · obtain ⟨K, hK⟩ : ∃ K, K = decide (kind = 1) := ⟨_, rfl⟩
    have hK1 : ((kind : Int) == 1) = K := by rw [hK]; exact decide_eq_decide.2 (by omega)
    by_cases h2 : K = up
    · have HV : Hid (M = 10) := by show _ = _; rw [HM.out, if_pos h1, if_pos (by rw [← hK]; exact h2)]
      clear HM hK
      have h2b : (K == up) = true := by simp [h2]
      subst h1
      go_enter Tryz.func59, Tryz.ntmps59
      go_upto_region 1 with fail
      rw [← hX]
      clear hX
      go_region
      all_goals go_wp2_with fail
      all_goals go_region
      all_goals go_wp2_with fail
      all_goals go_ret
      all_goals exact ⟨by rw [HV.out]; rfl, by (repeat' (first | exact hB | refine Below.drew ?_))⟩
    · have HV : Hid (M = 0) := by show _ = _; rw [HM.out, if_pos h1, if_neg (by rw [← hK]; exact h2)]
      clear HM hK
      have h2b : (K == up) = false := by simp [h2]
      subst h1
      go_enter Tryz.func59, Tryz.ntmps59
      go_upto_region 1 with fail
      rw [← hX]
      clear hX
      go_region
      all_goals go_wp2_with fail
      all_goals go_region
      all_goals go_wp2_with fail
      all_goals go_ret
      all_goals exact ⟨by rw [HV.out]; rfl, by (repeat' (first | exact hB | refine Below.drew ?_))⟩
  · have HV : Hid (M = 14) := by show _ = _; rw [HM.out, if_neg h1]
    clear HM
    have h1b : (router != id) = true := by simp [h1]
    go_enter Tryz.func59, Tryz.ntmps59
    go_upto_region 1 with fail
    rw [← hX]
    clear hX
    go_region
    all_goals go_wp2_with fail
    all_goals go_ret
    all_goals exact ⟨by rw [HV.out]; rfl, by (repeat' (first | exact hB | refine Below.drew ?_))⟩
end Go.Proofs.YtkjhnefbcnnjlaaGreat.Fib
namespace Go.Proofs.YtkjhnefbcnnjlaaGreat.Fib
open Go.RowKit
open Go.Proofs.YtkjhnefbcnnjlaaGreat.Addr (Pf hiN loN RowAt below2 below_new RowAt.lt RowAt.cell RowAt.frozen RowAt.below RowAt.drew RowAt.new RowAt.alloc RowAt.set1 cells4 gset grefl bset)
open Go.Proofs.YtkjhnefbcnnjlaaGreat.Msg (Ac)
open Go.Proofs.YtkjhnefbcnnjlaaGreat.Lk (Lk HasLks HasLks.keep)
open Go.Proofs.YtkjhnefbcnnjlaaGreat.Tr (Rt HasRts HasRts.keep)
/-- what take leaves: the box, its rows, and all below it as it was -/
def TakeIs (B : Nat) (w : World) (id : Int) (up : Bool) (rts : List Rt) (lks : List Lk) (why : Int) (x : Ending) (w' : World) : Prop :=
  ∃ c d, x = .returned (.int .i64 why) ∧ RowAt w' B [.int .i64 id, .bool up, c, d] 105 ∧ HasRts w' c rts ∧ HasLks w' d lks ∧ Below B w w'
theorem bl_box {B : Nat} {w W : World} (h : B ≤ w.heap.size) (hb : Below w.heap.size w W) : Below B w W := hb.mono h
set_option maxHeartbeats 4000000 in
set_option maxRecDepth 20000 in
theorem take1 (id : Int) (up : Bool) (rts : List Rt) (lks : List Lk) (router : Int) (seq : Nat) (time : Int) (pf : Pf) (act : Ac) (iface peer : Int) (B : Nat) (o2 o3 : Option Addr) (n2 n3 m2 m3 : Nat) (w : World) (hr : RowAt w B [.int .i64 id, .bool up, .slice o2 n2 m2, .slice o3 n3 m3] 105) (ha : HasRts w (.slice o2 n2 m2) rts) (hb : HasLks w (.slice o3 n3 m3) lks) :
    Calls Tryz.prog 60 #[.pointer (some ⟨B, 0, none⟩), .agg #[.int .u8 1, .int .i64 router, .int .u64 (seq : Int), .int .i64 time, .bool pf.six, .int .u64 (hiN pf.n : Int), .int .u64 (loN pf.n : Int), .int .i64 pf.len, .int .u8 (act.k : Int), .int .i64 act.i, .int .i64 iface, .int .i64 peer]] w (TakeIs B w id true rts lks 0) := by
  obtain ⟨X, hX⟩ : ∃ X, X = w.alloc (.cells #[.int .u8 1, .int .i64 router, .int .u64 (seq : Int), .int .i64 time, .bool pf.six, .int .u64 (hiN pf.n : Int), .int .u64 (loN pf.n : Int), .int .i64 pf.len, .int .u8 (act.k : Int), .int .i64 act.i, .int .i64 iface, .int .i64 peer] 38) := ⟨_, rfl⟩
  have hB : Below w.heap.size w X := by rw [hX]; exact below_new (Below.refl _ _) _
  have r0 : RowAt X w.heap.size [.int .u8 1, .int .i64 router, .int .u64 (seq : Int), .int .i64 time, .bool pf.six, .int .u64 (hiN pf.n : Int), .int .u64 (loN pf.n : Int), .int .i64 pf.len, .int .u8 (act.k : Int), .int .i64 act.i, .int .i64 iface, .int .i64 peer] 38 := by rw [hX]; exact RowAt.new _ _ _
  have r1 := RowAt.below hr hB
  have hlt := hr.lt
  have hXs := hB.size
  replace ha := ha.keep hB
  replace hb := hb.keep hB
  obtain ⟨p0, p1, p2, p3, p4, p5, p6, p7, p8, p9, p10, p11, pf0⟩ := cells12 r0
  obtain ⟨q0, q1, q2, q3, qf⟩ := cells4 r1
  clear p1 p2 p3 p4 p5 p6 p7 p8 p9 p10 p11
  have HF : Hid (RowAt (X.setCell ⟨B, 1, none⟩ (.bool true)) B [.int .i64 id, .bool true, .slice o2 n2 m2, .slice o3 n3 m3] 105 ∧ HasRts (X.setCell ⟨B, 1, none⟩ (.bool true)) (.slice o2 n2 m2) rts ∧ HasLks (X.setCell ⟨B, 1, none⟩ (.bool true)) (.slice o3 n3 m3) lks ∧ Below B w (X.setCell ⟨B, 1, none⟩ (.bool true))) := ⟨r1.set1 1 _, rts_apart ha r1 (gset (grefl _ _)), lks_apart hb r1 (gset (grefl _ _)), bset (bl_box (Nat.le_of_lt hlt) hB) (Nat.le_refl _)⟩
  clear r0 r1 ha hb hr hB
  go_enter Tryz.func60, Tryz.ntmps60
  go_upto_region 1 with fail
  rw [← hX]
  clear hX
  go_wp2_with fail
  go_ret
  exact ⟨_, _, rfl, HF.out⟩
set_option maxHeartbeats 4000000 in
set_option maxRecDepth 20000 in
theorem take2 (id : Int) (up : Bool) (rts : List Rt) (lks : List Lk) (router : Int) (seq : Nat) (time : Int) (pf : Pf) (act : Ac) (iface peer : Int) (B : Nat) (o2 o3 : Option Addr) (n2 n3 m2 m3 : Nat) (w : World) (hr : RowAt w B [.int .i64 id, .bool up, .slice o2 n2 m2, .slice o3 n3 m3] 105) (ha : HasRts w (.slice o2 n2 m2) rts) (hb : HasLks w (.slice o3 n3 m3) lks) :
    Calls Tryz.prog 60 #[.pointer (some ⟨B, 0, none⟩), .agg #[.int .u8 2, .int .i64 router, .int .u64 (seq : Int), .int .i64 time, .bool pf.six, .int .u64 (hiN pf.n : Int), .int .u64 (loN pf.n : Int), .int .i64 pf.len, .int .u8 (act.k : Int), .int .i64 act.i, .int .i64 iface, .int .i64 peer]] w (TakeIs B w id false [] [] 0) := by
  obtain ⟨X, hX⟩ : ∃ X, X = w.alloc (.cells #[.int .u8 2, .int .i64 router, .int .u64 (seq : Int), .int .i64 time, .bool pf.six, .int .u64 (hiN pf.n : Int), .int .u64 (loN pf.n : Int), .int .i64 pf.len, .int .u8 (act.k : Int), .int .i64 act.i, .int .i64 iface, .int .i64 peer] 38) := ⟨_, rfl⟩
  have hB : Below w.heap.size w X := by rw [hX]; exact below_new (Below.refl _ _) _
  have r0 : RowAt X w.heap.size [.int .u8 2, .int .i64 router, .int .u64 (seq : Int), .int .i64 time, .bool pf.six, .int .u64 (hiN pf.n : Int), .int .u64 (loN pf.n : Int), .int .i64 pf.len, .int .u8 (act.k : Int), .int .i64 act.i, .int .i64 iface, .int .i64 peer] 38 := by rw [hX]; exact RowAt.new _ _ _
  have r1 := RowAt.below hr hB
  have hlt := hr.lt
  have hXs := hB.size
  replace ha := ha.keep hB
  replace hb := hb.keep hB
  obtain ⟨p0, p1, p2, p3, p4, p5, p6, p7, p8, p9, p10, p11, pf0⟩ := cells12 r0
  obtain ⟨q0, q1, q2, q3, qf⟩ := cells4 r1
  clear p1 p2 p3 p4 p5 p6 p7 p8 p9 p10 p11
  have HF : Hid (∀ Y : World, Y = (((X.setCell ⟨B, 0, none⟩ (.int .i64 id)).setCell ⟨B, 1, none⟩ (.bool false)).setCell ⟨B, 2, none⟩ (.slice none 0 0)).setCell ⟨B, 3, none⟩ (.slice none 0 0) → RowAt Y B [.int .i64 id, .bool false, .slice none 0 0, .slice none 0 0] 105 ∧ HasRts Y (.slice none 0 0) [] ∧ HasLks Y (.slice none 0 0) [] ∧ Below B w Y) := by
    rintro Y rfl
    exact ⟨set4_row r1 _ _ _ _, Lk.hasRow_nil _ 6, Lk.hasRow_nil _ 2, set4_bl (bl_box (Nat.le_of_lt hlt) hB) (Nat.le_refl _) _ _ _ _⟩
  clear r0 r1 ha hb hr hB
  go_enter Tryz.func60, Tryz.ntmps60
  go_upto_region 1 with fail
  rw [← hX]
  clear hX
  go_wp2_with fail
  go_ret
  exact ⟨_, _, rfl, HF.out _ rfl⟩
set_option maxHeartbeats 4000000 in
set_option maxRecDepth 20000 in
theorem take7 (id : Int) (up : Bool) (rts : List Rt) (lks : List Lk) (kind : Nat) (router : Int) (seq : Nat) (time : Int) (pf : Pf) (act : Ac) (iface peer : Int) (B : Nat) (o2 o3 : Option Addr) (n2 n3 m2 m3 : Nat) (w : World) (hr : RowAt w B [.int .i64 id, .bool up, .slice o2 n2 m2, .slice o3 n3 m3] 105) (ha : HasRts w (.slice o2 n2 m2) rts) (hb : HasLks w (.slice o3 n3 m3) lks) (hk1 : ¬ kind = 1) (hk2 : ¬ kind = 2) (hk3 : ¬ kind = 3) (hk4 : ¬ kind = 4) (hk5 : ¬ kind = 5) (hk6 : ¬ kind = 6) :
    Calls Tryz.prog 60 #[.pointer (some ⟨B, 0, none⟩), .agg #[.int .u8 (kind : Int), .int .i64 router, .int .u64 (seq : Int), .int .i64 time, .bool pf.six, .int .u64 (hiN pf.n : Int), .int .u64 (loN pf.n : Int), .int .i64 pf.len, .int .u8 (act.k : Int), .int .i64 act.i, .int .i64 iface, .int .i64 peer]] w (TakeIs B w id up rts lks 0) := by
  obtain ⟨X, hX⟩ : ∃ X, X = w.alloc (.cells #[.int .u8 (kind : Int), .int .i64 router, .int .u64 (seq : Int), .int .i64 time, .bool pf.six, .int .u64 (hiN pf.n : Int), .int .u64 (loN pf.n : Int), .int .i64 pf.len, .int .u8 (act.k : Int), .int .i64 act.i, .int .i64 iface, .int .i64 peer] 38) := ⟨_, rfl⟩
  have hB : Below w.heap.size w X := by rw [hX]; exact below_new (Below.refl _ _) _
  have r0 : RowAt X w.heap.size [.int .u8 (kind : Int), .int .i64 router, .int .u64 (seq : Int), .int .i64 time, .bool pf.six, .int .u64 (hiN pf.n : Int), .int .u64 (loN pf.n : Int), .int .i64 pf.len, .int .u8 (act.k : Int), .int .i64 act.i, .int .i64 iface, .int .i64 peer] 38 := by rw [hX]; exact RowAt.new _ _ _
  have r1 := RowAt.below hr hB
  have hlt := hr.lt
  have hXs := hB.size
  replace ha := ha.keep hB
  replace hb := hb.keep hB
  obtain ⟨p0, p1, p2, p3, p4, p5, p6, p7, p8, p9, p10, p11, pf0⟩ := cells12 r0
  obtain ⟨q0, q1, q2, q3, qf⟩ := cells4 r1
  clear p1 p2 p3 p4 p5 p6 p7 p8 p9 p10 p11
  have HF : Hid (RowAt X B [.int .i64 id, .bool up, .slice o2 n2 m2, .slice o3 n3 m3] 105 ∧ HasRts X (.slice o2 n2 m2) rts ∧ HasLks X (.slice o3 n3 m3) lks ∧ Below B w X) := ⟨r1, ha, hb, bl_box (Nat.le_of_lt hlt) hB⟩
  clear r0 r1 ha hb hr hB
  have hq1 : ((kind : Int) == 1) = false := beq_eq_false_iff_ne.2 (by omega)
  have hq2 : ((kind : Int) == 2) = false := beq_eq_false_iff_ne.2 (by omega)
  have hq3 : ((kind : Int) == 3) = false := beq_eq_false_iff_ne.2 (by omega)
  have hq4 : ((kind : Int) == 4) = false := beq_eq_false_iff_ne.2 (by omega)
  have hq5 : ((kind : Int) == 5) = false := beq_eq_false_iff_ne.2 (by omega)
  have hq6 : ((kind : Int) == 6) = false := beq_eq_false_iff_ne.2 (by omega)
  clear hk1
  clear hk2
  clear hk3
  clear hk4
  clear hk5
  clear hk6
  go_enter Tryz.func60, Tryz.ntmps60
  go_upto_region 1 with fail
  rw [← hX]
  clear hX
  go_wp2_with fail
  go_ret
  exact ⟨_, _, rfl, HF.out⟩
set_option maxHeartbeats 4000000 in
set_option maxRecDepth 20000 in
theorem take3 (id : Int) (up : Bool) (rts : List Rt) (lks : List Lk) (router : Int) (seq : Nat) (time : Int) (pf : Pf) (act : Ac) (iface peer : Int) (B : Nat) (o2 o3 : Option Addr) (n2 n3 m2 m3 : Nat) (w : World) (hr : RowAt w B [.int .i64 id, .bool up, .slice o2 n2 m2, .slice o3 n3 m3] 105) (ha : HasRts w (.slice o2 n2 m2) rts) (hb : HasLks w (.slice o3 n3 m3) lks)
    (CC0 : ∀ W, HasRts W (.slice o2 n2 m2) rts → Calls Tryz.prog 89 #[.slice o2 n2 m2, .agg #[.bool pf.six, .int .u64 (hiN pf.n : Int), .int .u64 (loN pf.n : Int), .int .i64 pf.len, .int .u8 (act.k : Int), .int .i64 act.i]] W fun e w' => ∃ u, e = .returned (.tuple #[u, .int .i64 (Tr.putT rts ⟨pf, act⟩).2]) ∧ HasRts w' u (Tr.putT rts ⟨pf, act⟩).1 ∧ Below W.heap.size W w') :
    Calls Tryz.prog 60 #[.pointer (some ⟨B, 0, none⟩), .agg #[.int .u8 3, .int .i64 router, .int .u64 (seq : Int), .int .i64 time, .bool pf.six, .int .u64 (hiN pf.n : Int), .int .u64 (loN pf.n : Int), .int .i64 pf.len, .int .u8 (act.k : Int), .int .i64 act.i, .int .i64 iface, .int .i64 peer]] w (TakeIs B w id up (Tr.putT rts ⟨pf, act⟩).1 lks (Tr.putT rts ⟨pf, act⟩).2) := by
  obtain ⟨X, hX⟩ : ∃ X, X = w.alloc (.cells #[.int .u8 3, .int .i64 router, .int .u64 (seq : Int), .int .i64 time, .bool pf.six, .int .u64 (hiN pf.n : Int), .int .u64 (loN pf.n : Int), .int .i64 pf.len, .int .u8 (act.k : Int), .int .i64 act.i, .int .i64 iface, .int .i64 peer] 38) := ⟨_, rfl⟩
  have hB : Below w.heap.size w X := by rw [hX]; exact below_new (Below.refl _ _) _
  have r0 : RowAt X w.heap.size [.int .u8 3, .int .i64 router, .int .u64 (seq : Int), .int .i64 time, .bool pf.six, .int .u64 (hiN pf.n : Int), .int .u64 (loN pf.n : Int), .int .i64 pf.len, .int .u8 (act.k : Int), .int .i64 act.i, .int .i64 iface, .int .i64 peer] 38 := by rw [hX]; exact RowAt.new _ _ _
  have r1 := RowAt.below hr hB
  have hlt := hr.lt
  have hXs := hB.size
  replace ha := ha.keep hB
  replace hb := hb.keep hB
  obtain ⟨p0, p1, p2, p3, p4, p5, p6, p7, p8, p9, p10, p11, pf0⟩ := cells12 r0
  obtain ⟨q0, q1, q2, q3, qf⟩ := cells4 r1
  have HF : Hid (∀ (W : World) (o : Option Addr) (n m : Nat), Below X.heap.size X W → HasRts W (.slice o n m) ((Tr.putT rts ⟨pf, act⟩).1) → ∀ Y : World, Y = W.setCell ⟨B, 2, none⟩ (.slice o n m) → RowAt Y B [.int .i64 id, .bool up, .slice o n m, .slice o3 n3 m3] 105 ∧ HasRts Y (.slice o n m) (Tr.putT rts ⟨pf, act⟩).1 ∧ HasLks Y (.slice o3 n3 m3) lks ∧ Below B w Y) := by
    rintro W o n m hbW hh Y rfl
    have R1 := RowAt.below r1 hbW
    exact ⟨R1.set1 2 _, rts_apart hh R1 (gset (grefl _ _)), lks_apart (hb.keep hbW) R1 (gset (grefl _ _)), bset (bl_box (Nat.le_of_lt hlt) (below2 hB hbW)) (Nat.le_refl _)⟩
  have CC := fun (W : World) (h : Below X.heap.size X W) => CC0 W (ha.keep h)
  clear CC0
  have HR : Hid (RowAt X B [.int .i64 id, .bool up, .slice o2 n2 m2, .slice o3 n3 m3] 105) := r1
  have HE : Hid (∀ W : World, Below X.heap.size X W → W.cell? ⟨B, 2, none⟩ = some (.slice o2 n2 m2) ∧ W.frozen? ⟨B, 2, none⟩ = false) := fun W h => ⟨(RowAt.below r1 h).cell 2, (RowAt.below r1 h).frozen 2⟩
  clear r0 r1 hr
  go_enter Tryz.func60, Tryz.ntmps60
  go_upto_region 1 with fail
  rw [← hX]
  clear hX
  go_wp2_with fail
  go_region_with (first
    | (go_at_call 89
       refine (CC _ (by (repeat' (first | exact Below.refl _ _ | refine Below.drew ?_)))).mono ?_
       rintro x w1 ⟨u, rfl, hh, hb1'⟩
       have hb1 : Below X.heap.size X w1 := below2 (by (repeat' (first | exact Below.refl _ _ | refine Below.drew ?_))) hb1'
       obtain ⟨o, c, rfl, _⟩ := Lk.HasRow.slice hh
       obtain ⟨z1, z2⟩ := HE.out _ hb1))
  all_goals go_wp2_with fail
  all_goals go_ret
  all_goals exact ⟨_, _, rfl, (HF.out _ _ _ _ hb1 hh _ rfl).1, (HF.out _ _ _ _ hb1 hh _ rfl).2⟩
end Go.Proofs.YtkjhnefbcnnjlaaGreat.Fib
