/- What follows of links put, taken out and found, plain. -/
import Derived.Test.YtkjhnefbcnnjlaaTv15
import Derived.Test.YtkjhnefbcnnjlaaTv10
import Derived.Test.YtkjhnefbcnnjlaaTv09
set_option linter.unusedVariables false
namespace Go.Proofs.Ytkjhnefbcnnjlaa.Lk
open Go.RowKit
open Go.Proofs.Ytkjhnefbcnnjlaa.Addr (RowAt below_drew below_new RowAt.lt RowAt.cell RowAt.below RowAt.drew RowAt.new RowAt.alloc)
attribute [-go_sem] Builtin.append_
/-- what stands in the new row behind both copies -/
theorem grow_cells (l : List Lk) (x : Lk) (k : Nat) (hk : k ≤ l.length) (ys : List Value) (hy : ys.length = (l.length + 1 - k) * 2) :
    let a := (lkCs (l.take k) ++ ys).take (k * 2) ++ lkC x ++ (lkCs (l.take k) ++ ys).drop (k * 2 + 1 * 2)
    a.take ((k + 1) * 2) ++ lkCs (l.drop k) ++ a.drop ((k + 1) * 2 + (l.length - k) * 2) = lkCs (l.take k ++ ([x] ++ l.drop k)) := by
  intro a
  have hll := lkCs_len (l.take k)
  rw [List.length_take, Nat.min_eq_left hk] at hll
  have e1 : (lkCs (l.take k) ++ ys).take (k * 2) = lkCs (l.take k) := by rw [List.take_append_of_le_length (by omega), List.take_of_length_le (by omega)]
  have e2 : (lkCs (l.take k) ++ lkC x).length = (k + 1) * 2 := by rw [List.length_append, hll]; show _ + 2 = _; omega
  have h1 : a.take ((k + 1) * 2) = lkCs (l.take k) ++ lkC x := by
    show List.take _ (_ ++ _) = _
    rw [e1, List.take_append_of_le_length (by omega), List.take_of_length_le (by omega)]
  have h2 : a.drop ((k + 1) * 2 + (l.length - k) * 2) = [] := by
    apply List.drop_of_length_le
    show (List.length (_ ++ _)) ≤ _
    rw [e1, List.length_append, e2, List.length_drop, List.length_append, hll, hy]
    omega
  rw [h1, h2, List.append_nil, lkCs_app, lkCs_app, List.append_assoc]
  simp [lkCs]
theorem zeros_len (k : Nat) : (Builtin.zeroCells (Value.cells (.agg #[.int .i64 0, .int .i64 0])) k).size = k * 2 := by
  simp [Builtin.zeroCells, Value.cells]
set_option maxHeartbeats 8000000 in
set_option maxRecDepth 20000 in
theorem ins_grow (l : List Lk) (x : Lk) (k g cap vb B : Nat) (w : World) (hown : w.ownsRow B 75 2 (.slice (some ⟨g, 0, none⟩) l.length cap) l.length (lkCs l)) (hB : B ≤ w.heap.size) (hlen : l.length ≤ 1000) (hk : k < l.length) (hnc : l.length ≤ cap) (hr : cap < l.length + 1) (rv : RowAt w vb (lkC x) 75) :
    Calls Try.prog 71 #[.slice (some ⟨g, 0, none⟩) l.length cap, .int .i64 (k : Int), .slice (some ⟨vb, 0, none⟩) 1 1] w fun e w' => ∃ u, e = .returned u ∧ HasLks w' u (l.take k ++ ([x] ++ l.drop k)) ∧ Below B w w' := by
  obtain ⟨i0, hi0, hz0, hzs, hzb⟩ := info_parts info_lk
  have hll := lkCs_len l
  have hik : k + (l.length + 1 - k) = l.length + 1 := by omega
  have hgw : g < w.heap.size := (hown.lt g rfl).2
  have hold : (Builtin.firstCells i0.size k (.slice (some ⟨g, 0, none⟩) k cap)).run Try.prog w.drew = .ok (lkCs (l.take k)).toArray w.drew := by
    rw [hzs]
    exact run_firstCells_some w.drew 2 k ⟨g, 0, none⟩ k cap (lkCs (l.take k)) (by rw [lkCs_len, List.length_take]; omega) (fun j v hj => by
      have hjl := (List.getElem?_eq_some_iff.1 hj).1
      rw [lkCs_len, List.length_take] at hjl
      rw [addr_add, Nat.zero_add, show w.drew.cell? ⟨g, j, none⟩ = w.cell? ⟨g, j, none⟩ from rfl, hown.cellAt _ (by omega), ← hj, ← lkCs_take, List.getElem?_take, if_pos (by omega)])
  obtain ⟨G, hG⟩ : ∃ G, G = grownCap w (l.length + 1) cap 75 := ⟨_, rfl⟩
  have hGn : l.length + 1 ≤ G := by rw [hG]; exact grownCap_ge w _ _ _
  have hGm : G ≤ maxLen := by rw [hG]; exact grownCap_le_maxLen w (l.length + 1) cap 75 (by unfold maxLen; omega)
  obtain ⟨ZS, hZS⟩ : ∃ ZS, ZS = Builtin.zeroCells (Value.cells (.agg #[.int .i64 0, .int .i64 0])) (l.length + 1 - k) := ⟨_, rfl⟩
  obtain ⟨ZR, hZR⟩ : ∃ ZR, ZR = Builtin.zeroCells (Value.cells (.agg #[.int .i64 0, .int .i64 0])) (G - (l.length + 1)) := ⟨_, rfl⟩
  have hZl : ZS.size = (l.length + 1 - k) * 2 := by rw [hZS, zeros_len]
  have hZT : ZS.toList.length = (l.length + 1 - k) * 2 := by rw [Array.length_toList, hZl]
  have hZr : ZR.size = (G - (l.length + 1)) * 2 := by rw [hZR, zeros_len]
  obtain ⟨W1, hW1⟩ : ∃ W1, W1 = w.drew.alloc (.cells ((lkCs (l.take k)).toArray ++ ZS ++ ZR) 75) := ⟨_, rfl⟩
  have hrz : ∀ ty, (Builtin.append_ #[35, 3] ty #[.slice (some ⟨g, 0, none⟩) k cap, .int .i64 ((l.length : Int) + 1 - (k : Int))]).run Try.prog w = .ok (.slice (some ⟨w.heap.size, 0, none⟩) (l.length + 1) G) W1 := fun ty => by
    have h := Lib.run_append_grow_zeros (P := Try.prog) w 35 3 ty 75 i0 _ .i64 .i64 Try.underlying35 Try.underlying3 hi0 hz0 (some ⟨g, 0, none⟩) k cap (lkCs (l.take k)) hold (l.length + 1 - k) (by omega) (by omega) (by omega) (by omega) (by rw [hzb]; omega) (by rw [hzb, hik]; exact growslice_fits hr (by omega))
    rw [hik, ← hG, ← hZS, ← hZR, ← hW1] at h
    rw [show (l.length : Int) + 1 - (k : Int) = ((l.length + 1 - k : Nat) : Int) by omega]
    exact h
  have htl : (lkCs (l.take k)).length = k * 2 := by rw [lkCs_len, List.length_take, Nat.min_eq_left (by omega)]
  have hb1 : Below w.heap.size w W1 := by rw [hW1]; exact below_new (below_drew (Below.refl _ w)) _
  have ho1 : W1.ownsRow B 75 2 (.slice (some ⟨w.heap.size, 0, none⟩) (l.length + 1) G) (l.length + 1) (lkCs (l.take k) ++ ZS.toList) := by
    refine ⟨by rw [List.length_append, htl, hZT]; omega, .inr ⟨w.heap.size, G, _, rfl, hB, by rw [hW1]; exact heap_alloc_new w.drew _, hGn, hGm, ?_, ?_⟩⟩
    · simp only [Array.size_append, List.size_toArray, htl, hZl, hZr]; omega
    · simp only [Array.toList_append]
      rw [List.take_append_of_le_length (by rw [List.length_append, htl, hZT]; omega), List.take_of_length_le (by rw [List.length_append, htl, hZT]; omega)]
  have rv1 := rv.below hb1
  obtain ⟨W2, hr2, ho2, hg2⟩ := own_copy Try.underlying35 size_lk ho1 k (l.length + 1 - k) (G - k) ⟨vb, 0, none⟩ 1 1 1 (lkC x) (by simp only [Nat.min_def]; split <;> omega) rfl (by omega)
    (fun j v hj => by rw [addr_add, Nat.zero_add, rv1.cell]; exact hj) (by have := one_links [x]; simpa [lkCs] using this)
  have hown1 := own_below hown hb1
  obtain ⟨W3, hr3, ho3, hg3⟩ := own_copy Try.underlying35 size_lk (W := W2.drew) ho2 (k + 1) (l.length + 1 - (k + 1)) (G - (k + 1)) ⟨g, k * 2, none⟩ (l.length - k) (cap - k) (l.length - k) (lkCs (l.drop k)) (by simp only [Nat.min_def]; split <;> omega) (by rw [lkCs_len, List.length_drop]) (by omega)
    (fun j v hj => by
      have hjl := (List.getElem?_eq_some_iff.1 hj).1
      rw [lkCs_len, List.length_drop] at hjl
      have h5 : W1.cell? ⟨g, k * 2 + j, none⟩ = some v := by rw [hown1.cellAt _ (by omega), ← List.getElem?_drop, lkCs_drop]; exact hj
      rw [addr_add]
      exact hg2.cell h5 (by intro e; injection e with e; simp only at e; omega)) (one_links _)
  have hc := grow_cells l x k (by omega) ZS.toList hZT
  simp only at hc
  rw [hc] at ho3
  have HH : Hid (HasLks W3 (.slice (some ⟨w.heap.size, 0, none⟩) (l.length + 1) G) (l.take k ++ ([x] ++ l.drop k))) := by
    show HasRow _ _ _ _ _
    rw [show (l.take k ++ ([x] ++ l.drop k)).length = l.length + 1 by simp; omega]
    exact hasRow_own ho3
  have hBB : Below B w W3 := (below_drew ((Below.mono hb1 hB).grown hg2 (Nat.le_trans hB hb1.size) (fun q e => by injection e with e; omega))).grown hg3 (Nat.le_trans hB (Nat.le_trans hb1.size hg2.size)) (fun q e => by injection e with e; omega)
  have hki : (k : Int) < (l.length : Int) := by omega
  have hni : (l.length : Int) ≤ 1000 := by omega
  have hG9 : G ≤ 9223372036854775807 := by unfold maxLen at hGm; exact hGm
  clear hZT hc ho3 ho2 ho1 hown hown1 rv rv1 hll hg2 hg3 hold hZS hZR hZl hZr hW1 hGm htl hb1 hik hG hi0 hz0 hzs hzb
  generalize l.length = n at *
  generalize w.heap.size = N at *
  have hz2 : ¬ ((k : Int) = (n : Int)) := by omega
  have hck : ¬ cap = k := by omega
  have hGk : ¬ G = k := by omega
  have hGk1 : ¬ G = k + 1 := by omega
  have hgt : (cap : Int) < (n : Int) + 1 := by omega
  have mixed : Try.prog.follows Departure.mixedOrders = true := by kernel_rfl
  have hw1 : IntKind.i64.wrap ((k : Int) + 1) = (k : Int) + 1 := by rw [IntKind.wrap_i64]; omega
  have hb1 : (0 : Int) ≤ (k : Int) + 1 := by omega
  have hkn : k ≤ n := by omega
  have hkc : (k : Int) ≤ (cap : Int) := by omega
  have htn : ((k : Int) + 1).toNat = k + 1 := by omega
  have hb3 : (k : Int) ≤ (n : Int) + 1 := by omega
  have hw2 : IntKind.i64.wrap ((n : Int) + 1 - (k : Int)) = (n : Int) + 1 - (k : Int) := by rw [IntKind.wrap_i64]; omega
  go_enter Try.func71, Try.ntmps71
  go_wp2_with (at_builtin; first | refine Lib.wpList_append_run _ rfl _ _ _ _ rfl _ _ rfl rfl _ _ (hrz _) ?_ | refine Lib.wpList_copy_run _ rfl _ _ 35 35 rfl _ _ rfl rfl (hr2 _ _) ?_)
  go_region_law_o (refine copy_step rfl _ _ 35 35 rfl (by simp [Act.eval, Act.put]) (by simp [Act.eval, Act.put]) (hr3 _ _) ?_)
  go_wp2_with fail
  go_ret
  exact ⟨_, rfl, HH.out, hBB⟩
theorem ins_any (l : List Lk) (v : Value) (x : Lk) (k vb B : Nat) (w : World) (hown : w.ownsRow B 75 2 v l.length (lkCs l)) (hB : B ≤ w.heap.size) (hlen : l.length ≤ 1000) (hk : k ≤ l.length) (rv : RowAt w vb (lkC x) 75) (hne : v.ownBlock ≠ some vb) :
    Calls Try.prog 71 #[v, .int .i64 (k : Int), .slice (some ⟨vb, 0, none⟩) 1 1] w fun e w' => ∃ u, e = .returned u ∧ HasLks w' u (l.take k ++ ([x] ++ l.drop k)) ∧ Below B w w' := by
  rcases Nat.lt_or_ge k l.length with h | h
  · rcases hown.2 with ⟨_, h0⟩ | ⟨g, cap, cur, rfl, hgb, hgc, hnc, hcm, hcs, htk⟩
    · omega
    · rcases Nat.lt_or_ge cap (l.length + 1) with h1 | h1
      · exact ins_grow l x k g cap vb B w hown hB hlen h hnc h1 rv
      · exact ins_room l x k g cap vb B w hown hB hlen h h1 (by unfold maxLen at hcm; exact hcm) rv (fun e => hne (by rw [e]; rfl))
  · obtain rfl : k = l.length := by omega
    rw [List.take_length, List.drop_length]
    exact ins_end l v x vb B w hown hB hlen rv
end Go.Proofs.Ytkjhnefbcnnjlaa.Lk
namespace Go.Proofs.Ytkjhnefbcnnjlaa.Lk
open Go.RowKit Go.Shelf
open Go.Proofs.Ytkjhnefbcnnjlaa.Addr (RowAt below2 below_drew below_new RowAt.lt RowAt.cell RowAt.below RowAt.new RowAt.alloc cells2)
attribute [-go_sem] Builtin.append_
theorem place_put {l : List Lk} (hp : l.Pairwise (fun x y => x.iface < y.iface)) (i : Int) :
    ∃ k, k ≤ (others l i).length ∧ (idxL (fun y : Lk => decide (i < y.iface)) (others l i) = (k : Int) ∨ (idxL (fun y : Lk => decide (i < y.iface)) (others l i) = -1 ∧ k = (others l i).length)) ∧ (others l i).take k = aheadL l i ∧ (others l i).drop k = behindL l i := by
  have hs := (others_split hp i).1
  refine ⟨(aheadL l i).length, by rw [hs, List.length_append]; omega, ?_, by rw [hs, List.take_left], by rw [hs, List.drop_left]⟩
  have ha : ∀ j (hj : j < (others l i).length), j < (aheadL l i).length → decide (i < (others l i)[j].iface) = false := fun j hj hja => by
    have hm : (others l i)[j] ∈ aheadL l i := by
      have : (others l i)[j] = (aheadL l i)[j] := by simp only [hs]; rw [List.getElem_append_left hja]
      rw [this]; exact List.getElem_mem _
    have := (List.mem_filter.1 hm).2
    simp only [decide_eq_true_eq] at this
    exact decide_eq_false (by omega)
  rcases Nat.eq_zero_or_pos (behindL l i).length with h0 | h0
  · right
    have hl : (others l i).length = (aheadL l i).length := by rw [hs, List.length_append]; omega
    exact ⟨idx_none (fun j hj => ha j hj (by omega)), hl.symm⟩
  · left
    have hl : (aheadL l i).length < (others l i).length := by rw [hs, List.length_append]; omega
    refine idx_at hl ha ?_
    have hm : (others l i)[(aheadL l i).length] ∈ behindL l i := by
      have : (others l i)[(aheadL l i).length] = (behindL l i)[0] := by simp only [hs]; rw [List.getElem_append_right (Nat.le_refl _)]; simp
      rw [this]; exact List.getElem_mem _
    exact (List.mem_filter.1 hm).2
theorem own_base {W : World} {m k e size n : Nat} {v : Value} {xs : List Value} (h : W.ownsRow m e size v n xs) (hk : k ≤ m) : W.ownsRow k e size v n xs := by
  refine ⟨h.1, ?_⟩
  rcases h.2 with h0 | ⟨g, cap, cur, e1, hg, rest⟩
  · exact .inl h0
  · exact .inr ⟨g, cap, cur, e1, Nat.le_trans hk hg, rest⟩
set_option maxHeartbeats 8000000 in
set_option maxRecDepth 20000 in
theorem put_any (l : List Lk) (v : Value) (x : Lk) (w : World) (hl : HasLks w v l) :
    Calls Try.prog 44 #[v, .agg #[.int .i64 x.iface, .int .i64 x.peer]] w fun e w' => ∃ u, e = .returned (.tuple #[u, .int .i64 (putL l x).2]) ∧ HasLks w' u (putL l x).1 ∧ Below w.heap.size w w' := by
  obtain ⟨o, c, rfl, hc1, hc2⟩ := HasRow.slice hl
  have cc := fun W (hb : Below w.heap.size w W) => check_any l _ W (hl.keep hb)
  have c1 := fun W => right_any x W
  have hck : checkL l = if okL l then 0 else 2 := rfl
  rw [hck] at cc
  have hPd : putL l x = if okL l && okK x then (if (others l x.iface).length = 32 then (others l x.iface, 8) else (aheadL l x.iface ++ ([x] ++ behindL l x.iface), 0)) else ([], 2) := rfl
  obtain ⟨X, hX⟩ : ∃ X, X = w.alloc (.cells #[.int .i64 x.iface, .int .i64 x.peer] 75) := ⟨_, rfl⟩
  have hB : Below w.heap.size w X := by rw [hX]; exact below_new (Below.refl _ _) _
  have r0 : RowAt X w.heap.size [.int .i64 x.iface, .int .i64 x.peer] 75 := by rw [hX]; exact RowAt.new _ _ _
  cases hok : okL l
  · rw [hok] at cc hPd
    simp only [Bool.false_eq_true, if_false, Bool.false_and] at cc hPd
    rw [hPd]
    clear hPd
    go_enter Try.func44, Try.ntmps44
    go_upto_region 1 with fail
    rw [← hX]
    clear hX
    go_wp2_with fail
    go_at_call 35; refine (cc _ hB).mono ?_; rintro e w1 ⟨rfl, hb1⟩
    go_wp2_with fail
    go_ret2
    exact ⟨_, rfl, hasRow_nil _ 2, below2 hB hb1⟩
  rw [hok] at cc hPd
  simp only [if_true, Bool.true_and] at cc hPd
  cases hox : okK x
  · rw [hox] at c1 hPd
    simp only [Bool.false_eq_true, if_false] at hPd
    rw [hPd]
    clear hPd
    obtain ⟨a, b⟩ := x
    simp only at *
    go_enter Try.func44, Try.ntmps44
    go_upto_region 1 with fail
    rw [← hX]
    clear hX
    go_wp2_with fail
    go_at_call 35; refine (cc _ hB).mono ?_; rintro e w1 ⟨rfl, hb1⟩
    replace r0 := RowAt.below r0 hb1
    obtain ⟨y0, y1, yf⟩ := cells2 r0
    go_wp2_with fail
    go_at_call 58; refine (c1 _).mono ?_; rintro e w2 ⟨rfl, hb2⟩
    go_wp2_with fail
    go_ret2
    exact ⟨_, rfl, hasRow_nil _ 2, below2 (below2 hB hb1) hb2⟩
  rw [hox] at c1 hPd
  simp only [if_true] at hPd
  have hlen := okL_len2 hok
  have hol : (others l x.iface).length ≤ l.length := List.length_filter_le _ _
  have cl := fun W (hb : Below w.heap.size w W) => clone_any l _ W (hl.keep hb) (by omega)
  have co := fun W => of_any x.iface W
  have cd := fun (W : World) (v : Value) (g B : Nat) => delf_any l v x.iface g B W hok
  have ci := fun (W : World) (v : Value) (g : Nat) => idxPut_any (others l x.iface) v x.iface g W
  have cn := fun (W : World) (v : Value) (k vb B : Nat) => ins_any (others l x.iface) v x k vb B W
  obtain ⟨k, hk1, hk2, hk3, hk4⟩ := place_put (okL_up hok) x.iface
  obtain ⟨m, hm⟩ : ∃ m, m = (others l x.iface).length := ⟨_, rfl⟩
  have HOT : Hid (∀ (W : World) (u : Value) (B : Nat), W.ownsRow B 75 2 u (others l x.iface).length (lkCs (others l x.iface)) → HasLks W u (others l x.iface) ∧ ∃ ou cu, u = .slice ou m cu) := fun W u B h => ⟨hasRow_own h, by obtain ⟨ou, cu, e, _, _⟩ := HasRow.slice (hasRow_own h); exact ⟨ou, cu, by rw [hm]; exact e⟩⟩
  have HM : Hid (m = (others l x.iface).length ∧ m ≤ 32) := ⟨hm, by omega⟩
  have HIN : Hid (∀ (W : World) (u : Value) (vb B : Nat), W.ownsRow B 75 2 u (others l x.iface).length (lkCs (others l x.iface)) → B ≤ W.heap.size → RowAt W vb [.int .i64 x.iface, .int .i64 x.peer] 75 → u.ownBlock ≠ some vb →
      Calls Try.prog 71 #[u, .int .i64 (k : Int), .slice (some ⟨vb, 0, none⟩) 1 1] W fun e w' => ∃ u, e = .returned u ∧ HasLks w' u (aheadL l x.iface ++ ([x] ++ behindL l x.iface)) ∧ Below B W w') := fun W u vb B h1 h2 h3 h4 => by
    have := cn W u k vb B h1 h2 (by omega) hk1 h3 h4
    rw [hk3, hk4] at this
    exact this
  rw [← hm] at hk1 hk2 hPd
  have hmi : (m : Int) ≤ 32 := by omega
  rw [hPd]
  obtain ⟨PL, hPL⟩ : ∃ PL, PL = (if m = 32 then (others l x.iface, 8) else (aheadL l x.iface ++ ([x] ++ behindL l x.iface), 0) : List Lk × Int) := ⟨_, rfl⟩
  have HP : Hid (PL = (if m = 32 then (others l x.iface, 8) else (aheadL l x.iface ++ ([x] ++ behindL l x.iface), 0) : List Lk × Int)) := hPL
  rw [← hPL]
  generalize idxL (fun y : Lk => decide (x.iface < y.iface)) (others l x.iface) = q at ci hk2
  obtain ⟨n, hn⟩ : ∃ n, n = l.length := ⟨_, rfl⟩
  have HN : Hid (n = l.length) := hn
  rw [← hn] at hlen hc1 cl cc ⊢
  have hni : (n : Int) ≤ 32 := by omega
  clear hPd hPL hm hn hl hk3 hk4 cn hck hol
  generalize x.iface = a at *
  generalize x.peer = b at *
  go_enter Try.func44, Try.ntmps44
  go_upto_region 1 with fail
  rw [← hX]
  clear hX
  go_wp2_with fail
  go_at_call 35; refine (cc _ hB).mono ?_; rintro e w1 ⟨rfl, hb1⟩
  replace r0 := RowAt.below r0 hb1
  have hbw1 := below2 hB hb1
  clear cc hB hb1
  have hgl : w.heap.size < w1.heap.size := r0.lt
  obtain ⟨y0, y1, yf⟩ := cells2 r0
  go_wp2_with fail
  go_at_call 58; refine (c1 _).mono ?_; rintro e w2 ⟨rfl, hb2⟩
  replace r0 := RowAt.below r0 hb2
  have hbw2 := below2 hbw1 hb2
  clear c1 y0 y1 yf hb2 hbw1 hgl
  have cl2 : ∀ W, Below w2.heap.size w2 W → Calls Try.prog 41 #[.slice o n c] W fun e w' => ∃ u, e = .returned u ∧ w'.ownsRow w2.heap.size 75 2 u n (lkCs l) ∧ Below w2.heap.size w2 w' := fun W hb => by
    refine (cl W (hbw2.trans (Below.mono hb hbw2.size))).mono ?_
    rintro e w' ⟨u, rfl, h1, h2⟩
    exact ⟨u, rfl, own_base h1 hb.size, hb.trans (Below.mono h2 hb.size)⟩
  have HSK : Hid (∀ W : World, Below w2.heap.size w2 W → W.cell? ⟨w.heap.size, 0, none⟩ = some (.int .i64 a)) := fun W hb => (RowAt.below r0 hb).cell 0
  have hbA : Below w2.heap.size w2 w2 := Below.refl _ _
  go_wp2_with fail
  go_region_held3 (fun w' => w'.cell? ⟨w.heap.size, 0, none⟩ = some (.int .i64 a))
    (first
      | (refine HSK.out _ ?_
         repeat' (first | with_reducible exact hbA | with_reducible apply below_drew)))
    (first
      | (go_at_call 41; with_reducible refine (cl2 _ (by repeat' (first | with_reducible exact hbA | with_reducible apply below_drew))).mono ?_; rintro e w3 ⟨u2, rfl, ho2, hbN⟩
         clear hbA
         have hbA := hbN
         clear hbN)
      | (go_at_call 68; with_reducible refine (co _).mono ?_; rintro e w4 ⟨rfl, hw4⟩
         have hb4 : Below w3.heap.size w3 w4 := (by rw [hw4]; exact below_new (by repeat' (first | exact Below.refl _ _ | apply below_drew)) _)
         have r4 : RowAt w4 w3.heap.size [.int .i64 a] 3 := (by rw [hw4]; exact RowAt.new _ _ _)
         have hgr : u2.ownBlock ≠ some w3.heap.size := (fun e => by have := (ho2.lt _ e).2; omega)
         have ho4 := own_below ho2 hb4
         have hbN := below2 hbA hb4
         clear hw4 hbA hb4 ho2
         have hbA := hbN
         clear hbN
         generalize w3.heap.size = g at r4 hgr ⊢
         have hc4 : w4.cell? ⟨g, 0, none⟩ = some (.int .i64 a) := r4.cell 0
         have hl4 := r4.lt
         clear r4)
      | (go_at_call 67; with_reducible refine (cd _ _ g w2.heap.size (by rw [← HN.out]; exact ho4) hbA.size hc4 hl4 hgr).mono ?_; rintro e w5 ⟨u5, rfl, ho5, _, hb5⟩
         have hbN := hbA.trans hb5
         clear hbA
         have hbA := hbN
         clear hbN
         obtain ⟨hh, ou, cu, rfl⟩ := HOT.out _ _ _ ho5))
  clear HSK cl cl2 co cd
  have hbw5 : Below w.heap.size w w5 := hbw2.trans (Below.mono hbA hbw2.size)
  have hB5 : w2.heap.size ≤ w5.heap.size := hbA.size
  have r5 := RowAt.below r0 hbA
  have hX5 : w.heap.size < w5.heap.size := r5.lt
  clear hbA hb5
  by_cases hm32 : m = 32
  · have hPv := HP.out
    rw [if_pos hm32] at hPv
    subst hm32
    clear HP ci HIN
    go_wp2_with fail
    go_ret2
    exact ⟨_, by rw [hPv]; rfl, by rw [hPv]; exact hh, hbw5⟩
  · have hPv := HP.out
    rw [if_neg hm32] at hPv
    have hmm : ((m : Int) == 32) = false := beq_eq_false_iff_ne.2 (by omega)
    have HPV : Hid (PL = (aheadL l a ++ ([x] ++ behindL l a), 0)) := hPv
    clear HP hPv hm32
    go_wp2_with fail
    go_at_call 69; refine (ci _ _ w.heap.size hh (r5.cell 0) hX5).mono ?_; rintro e w6 ⟨rfl, hb6⟩
    have ho6 := own_below ho5 hb6
    have hbw6 := below2 hbw5 hb6
    replace hB5 := Nat.le_trans hB5 hb6.size
    replace r5 := RowAt.below r5 hb6
    have hX6 : w.heap.size < w6.heap.size := r5.lt
    clear ci hb6 ho5 hbw5 hX5 hh
    obtain ⟨y0, y1, yf⟩ := cells2 r5
    have hgr6 : ∀ t, w6.heap.size ≤ t → (Value.slice ou m cu).ownBlock ≠ some t := fun t ht e => by have := (ho6.lt _ e).2; omega
    have hbN : Below w6.heap.size w6 (w6.alloc (.cells #[.int .i64 a, .int .i64 b] 75)) := below_new (Below.refl _ _) _
    have rN : RowAt (w6.alloc (.cells #[.int .i64 a, .int .i64 b] 75)) w6.heap.size [.int .i64 a, .int .i64 b] 75 := RowAt.new _ _ _
    have hbwN := below2 hbw6 hbN
    have hBN : w2.heap.size ≤ (w6.alloc (.cells #[.int .i64 a, .int .i64 b] 75)).heap.size := Nat.le_trans hB5 hbN.size
    have cn := HIN.out _ (.slice ou m cu) _ w2.heap.size (own_below ho6 hbN) hBN rN (hgr6 _ (Nat.le_refl _))
    clear HIN hgr6 hBN rN
    have HW : Hid (∀ w', Below w2.heap.size (w6.alloc (.cells #[.int .i64 a, .int .i64 b] 75)) w' → Below w.heap.size w w') := fun w' h => hbwN.trans (Below.mono h hbw2.size)
    clear hbwN hbN hbw6 ho6
    rcases hk2 with rfl | ⟨rfl, rfl⟩
    · have hk0 : ¬ ((k : Int) < 0) := by omega
      go_wp2_with fail
      go_at_call 71; refine cn.mono ?_; rintro e w7 ⟨u7, rfl, hh7, hb7⟩
      have hF := HW.out _ hb7
      have hPv := HPV.out
      clear HW hb7 y0 y1 yf
      go_wp2_with fail
      go_ret2
      exact ⟨_, by rw [hPv]; rfl, by rw [hPv]; exact hh7, hF⟩
    · go_wp2_with fail
      go_at_call 71; refine cn.mono ?_; rintro e w7 ⟨u7, rfl, hh7, hb7⟩
      have hF := HW.out _ hb7
      have hPv := HPV.out
      clear HW hb7 y0 y1 yf
      go_wp2_with fail
      go_ret2
      exact ⟨_, by rw [hPv]; rfl, by rw [hPv]; exact hh7, hF⟩
end Go.Proofs.Ytkjhnefbcnnjlaa.Lk
namespace Go.Proofs.Ytkjhnefbcnnjlaa.Lk
abbrev Up (l : List Lk) : Prop := l.Pairwise (fun x y => x.iface < y.iface)
theorem rise_of (l : List Lk) : ∀ p, (∀ x ∈ l, okK x = true) → Up l → (∀ r, p = some r → ∀ x ∈ l, r < x.iface) → rise p l = true := by
  induction l with
  | nil => intro p _ _ _; cases p <;> rfl
  | cons s l ih =>
    intro p h1 h2 h3
    have hp := List.pairwise_cons.1 h2
    have hr := ih (some s.iface) (fun x hx => h1 x (List.mem_cons_of_mem _ hx)) hp.2 (fun r e x hx => by injection e with e; subst e; exact hp.1 x hx)
    have hs := h1 s List.mem_cons_self
    cases p with
    | none => simp only [rise, hs, hr, Bool.and_self]
    | some r => simp only [rise, hs, hr, Bool.and_true, Bool.true_and, decide_eq_true_eq]; exact h3 r rfl s List.mem_cons_self
theorem okL_iff (l : List Lk) : okL l = true ↔ l.length ≤ 32 ∧ (∀ x ∈ l, okK x = true) ∧ Up l :=
  ⟨fun h => ⟨okL_len2 h, fun x hx => okL_mem h hx, okL_up h⟩, fun h => by
    unfold okL
    rw [rise_of l none h.2.1 h.2.2 (fun r e => by cases e), decide_eq_true h.1]
    rfl⟩
def insL (l : List Lk) (x : Lk) : List Lk := aheadL l x.iface ++ ([x] ++ behindL l x.iface)
theorem mem_others (l : List Lk) (i : Int) (z : Lk) : z ∈ others l i ↔ z ∈ l ∧ z.iface ≠ i := by
  unfold others
  rw [List.mem_filter]
  simp
theorem mem_insL (l : List Lk) (x z : Lk) : z ∈ insL l x ↔ z = x ∨ (z ∈ l ∧ z.iface ≠ x.iface) := by
  unfold insL aheadL behindL
  simp only [List.mem_append, List.mem_filter, List.mem_cons, List.not_mem_nil, or_false, decide_eq_true_eq]
  constructor
  · rintro (⟨h1, h2⟩ | h | ⟨h1, h2⟩)
    · exact .inr ⟨h1, by omega⟩
    · exact .inl h
    · exact .inr ⟨h1, by omega⟩
  · rintro (h | ⟨h1, h2⟩)
    · exact .inr (.inl h)
    · rcases Int.lt_or_gt_of_ne h2 with h3 | h3
      · exact .inl ⟨h1, h3⟩
      · exact .inr (.inr ⟨h1, h3⟩)
theorem up_insL {l : List Lk} (h : Up l) (x : Lk) : Up (insL l x) := by
  unfold insL
  refine List.pairwise_append.2 ⟨h.sublist List.filter_sublist, List.pairwise_cons.2 ⟨fun z hz => ?_, h.sublist List.filter_sublist⟩, fun a ha b hb => ?_⟩
  · have := (List.mem_filter.1 hz).2
    simpa using this
  · have h1 := (List.mem_filter.1 ha).2
    simp only [decide_eq_true_eq] at h1
    rcases List.mem_append.1 hb with hb | hb
    · simp at hb; subst hb; exact h1
    · have h2 := (List.mem_filter.1 hb).2
      simp only [decide_eq_true_eq] at h2
      omega
theorem len_insL {l : List Lk} (h : Up l) (x : Lk) : (insL l x).length = (others l x.iface).length + 1 := by
  rw [(others_split h x.iface).1]
  unfold insL
  simp only [List.length_append, List.length_cons, List.length_nil]
  omega
theorem up_others {l : List Lk} (h : Up l) (i : Int) : Up (others l i) := h.sublist List.filter_sublist
theorem others_le (l : List Lk) (i : Int) : (others l i).length ≤ l.length := List.length_filter_le _ _
theorem others_all {l : List Lk} {i : Int} (h : (others l i).length = l.length) : others l i = l := List.filter_sublist.eq_of_length h
theorem find_mem {l : List Lk} (h : Up l) {z : Lk} (hz : z ∈ l) : findL l z.iface = some z := by
  unfold findL
  cases hf : l.find? (fun s => decide (s.iface = z.iface)) with
  | none => exact absurd (List.find?_eq_none.1 hf z hz) (by simp)
  | some s =>
    have h1 := List.mem_of_find?_eq_some hf
    have h2 := List.find?_some hf
    simp only [decide_eq_true_eq] at h2
    obtain ⟨j, hj, rfl⟩ := List.getElem_of_mem h1
    obtain ⟨k, hk, rfl⟩ := List.getElem_of_mem hz
    by_cases e : j = k
    · subst e; rfl
    · exact absurd h2 (up_ne h hj hk e)
theorem put_ok {l : List Lk} {x : Lk} (h : (putL l x).2 = 0) : okL l = true ∧ okK x = true ∧ (others l x.iface).length ≤ 31 ∧ (putL l x).1 = insL l x := by
  unfold putL at h ⊢
  split at h
  · rename_i hc
    rw [if_pos hc]
    simp only [Bool.and_eq_true] at hc
    split at h
    · cases h
    · rename_i h3
      have := okL_len2 hc.1
      have := others_le l x.iface
      rw [if_neg h3]
      exact ⟨hc.1, hc.2, by omega, rfl⟩
  · cases h
theorem put_not {l : List Lk} {x : Lk} (h : ¬ (putL l x).2 = 0) : (putL l x).2 = 2 ∨ ((putL l x).2 = 8 ∧ (putL l x).1 = l) := by
  unfold putL at h ⊢
  split at h
  · rename_i hc
    rw [if_pos hc]
    simp only [Bool.and_eq_true] at hc
    split at h
    · rename_i h3
      have := okL_len2 hc.1
      have := others_le l x.iface
      rw [if_pos h3]
      exact .inr ⟨rfl, others_all (by omega)⟩
    · exact absurd rfl h
  · rename_i hc
    rw [if_neg hc]
    exact .inl rfl
theorem ok_ins {l : List Lk} {x : Lk} (h1 : okL l = true) (h2 : okK x = true) (h3 : (others l x.iface).length ≤ 31) : okL (insL l x) = true := by
  have hl := (okL_iff l).1 h1
  refine (okL_iff _).2 ⟨by rw [len_insL hl.2.2]; omega, fun z hz => ?_, up_insL hl.2.2 x⟩
  rcases (mem_insL l x z).1 hz with rfl | ⟨hz, _⟩
  · exact h2
  · exact hl.2.1 z hz
end Go.Proofs.Ytkjhnefbcnnjlaa.Lk
