/- slices.DeleteFunc of right links, whole; links.Del. -/
import Derived.Test.YtkjhnefbcnnjlaaTv15
import Derived.Test.YtkjhnefbcnnjlaaTv16
import Derived.Test.YtkjhnefbcnnjlaaTv29
import Derived.Test.YtkjhnefbcnnjlaaTv10
set_option linter.unusedVariables false
namespace Go.Proofs.Ytkjhnefbcnnjlaa.Lk
open Go.RowKit
open Go.Proofs.Ytkjhnefbcnnjlaa.Nw (HasLksW HasRtsW.mono HasLksW.mono new_at own_newV)
open Go.Proofs.Ytkjhnefbcnnjlaa.Fib (NewV NewV.mono)
open Go.Proofs.Ytkjhnefbcnnjlaa.Addr (RowAt below_drew below_new RowAt.lt RowAt.cell RowAt.below RowAt.drew RowAt.alloc RowAt.gkeep)
open Go.Proofs.Ytkjhnefbcnnjlaa.Addr (RowAt below_drew below_new RowAt.lt RowAt.cell RowAt.below RowAt.drew RowAt.alloc)
attribute [-go_sem] Builtin.append_
set_option maxHeartbeats 4000000 in
set_option maxRecDepth 20000 in
theorem ins_endW (l : List Lk) (v : Value) (x : Lk) (vb B : Nat) (w : World) (hown : w.ownsRow B 75 2 v l.length (lkCs l)) (hB : B ≤ w.heap.size) (hlen : l.length ≤ 1000) (rv : RowAt w vb (lkC x) 75) :
    Calls Try.prog 71 #[v, .int .i64 (l.length : Int), .slice (some ⟨vb, 0, none⟩) 1 1] w fun e w' => ∃ u, e = .returned u ∧ HasLksW B w' u (l ++ [x]) ∧ Below B w w' := by
  obtain ⟨v', w3, hrun, h1, h2⟩ := append_row info_lk Try.underlying35 rfl (by decide) hown (row_one rv) (by have := one_links [x]; simpa [lkCs] using this) (by omega) (by omega) hB
  have HNV : Hid (NewV B v') := own_newV h1
  have HH : Hid (HasLks w3 v' (l ++ [x])) := by
    show HasRow _ _ _ _ _
    rw [lkCs_app, List.length_append]
    exact hasRow_own h1
  have hBB : Below B w w3 := (Below.refl _ w).grown h2 hB (fun k e => (hown.lt k e).1)
  obtain ⟨o, c, rfl, hc1, hc2⟩ := HasRow.slice (hasRow_own hown)
  have hni : (l.length : Int) ≤ 1000 := by omega
  clear h1 h2 hown rv
  generalize l.length = n at *
  by_cases hcn : c = n
  · subst hcn
    go_enter Try.func71, Try.ntmps71
    go_wp2
    go_ret
    exact ⟨_, rfl, ⟨HH.out, HNV.out⟩, hBB⟩
  · go_enter Try.func71, Try.ntmps71
    go_wp2
    go_ret
    exact ⟨_, rfl, ⟨HH.out, HNV.out⟩, hBB⟩
set_option maxHeartbeats 8000000 in
set_option maxRecDepth 20000 in
theorem ins_roomW (l : List Lk) (x : Lk) (k g cap vb B : Nat) (w : World) (hown : w.ownsRow B 75 2 (.slice (some ⟨g, 0, none⟩) l.length cap) l.length (lkCs l)) (hB : B ≤ w.heap.size) (hlen : l.length ≤ 1000) (hk : k < l.length) (hr : l.length + 1 ≤ cap) (hc9 : cap ≤ 9223372036854775807) (rv : RowAt w vb (lkC x) 75) (hne : vb ≠ g) :
    Calls Try.prog 71 #[.slice (some ⟨g, 0, none⟩) l.length cap, .int .i64 (k : Int), .slice (some ⟨vb, 0, none⟩) 1 1] w fun e w' => ∃ u, e = .returned u ∧ HasLksW B w' u (l.take k ++ ([x] ++ l.drop k)) ∧ Below B w w' := by
  have hBg : B ≤ g := (hown.lt g rfl).1
  obtain ⟨ys, hy, ho1⟩ := own_more hown hr
  have hll := lkCs_len l
  have hov : ∀ o lb cb, (callFunc 90 #[.slice (some ⟨vb, 0, none⟩) 1 1, .slice (some ⟨g, o, none⟩) lb cb]).run Try.prog w = .ok (.value (.bool false)) w := fun o lb cb => overl rv hown (by omega) hne
  obtain ⟨W1, hr1, ho2, hg1⟩ := own_copy Try.underlying35 size_lk (W := w.drew) ho1 (k + 1) (l.length + 1 - (k + 1)) (cap - (k + 1)) ⟨g, k * 2, none⟩ (l.length + 1 - k) (cap - k) (l.length - k) (lkCs (l.drop k)) (by simp only [Nat.min_def]; split <;> omega) (by rw [lkCs_len, List.length_drop]) (by omega)
    (fun j v hj => by
      have hjl := (List.getElem?_eq_some_iff.1 hj).1
      rw [lkCs_len, List.length_drop] at hjl
      rw [addr_add, show w.drew.cell? ⟨g, k * 2 + j, none⟩ = w.cell? ⟨g, k * 2 + j, none⟩ from rfl, hown.cellAt _ (by omega), ← List.getElem?_drop, lkCs_drop]
      exact hj) (one_links _)
  have rv1 : RowAt W1 vb (lkC x) 75 := RowAt.gkeep (X := w.drew) rv hg1 (by intro e; injection e with e; exact hne e)
  obtain ⟨W2, hr2, ho3, hg2⟩ := own_copy Try.underlying35 size_lk ho2 k (l.length + 1 - k) (cap - k) ⟨vb, 0, none⟩ 1 1 1 (lkC x) (by simp only [Nat.min_def]; split <;> omega) rfl (by omega)
    (fun j v hj => by rw [addr_add, Nat.zero_add, rv1.cell]; exact hj) (by have := one_links [x]; simpa [lkCs] using this)
  have hc := ins_cells l x k (by omega) ys hy
  simp only at hc
  rw [hc] at ho3
  have HNV : Hid (B ≤ g) := hBg
  have HH : Hid (HasLks W2 (.slice (some ⟨g, 0, none⟩) (l.length + 1) cap) (l.take k ++ ([x] ++ l.drop k))) := by
    show HasRow _ _ _ _ _
    rw [show (l.take k ++ ([x] ++ l.drop k)).length = l.length + 1 by simp; omega]
    exact hasRow_own ho3
  have hBB : Below B w W2 := ((below_drew (Below.refl _ w)).grown hg1 hB (fun q e => by injection e with e; omega)).grown hg2 (Nat.le_trans hB hg1.size) (fun q e => by injection e with e; omega)
  have hki : (k : Int) < (l.length : Int) := by omega
  have hni : (l.length : Int) ≤ 1000 := by omega
  clear hc ho3 ho2 ho1 hown rv rv1 hy hll hg1 hg2
  generalize l.length = n at *
  have hz2 : ¬ ((k : Int) = (n : Int)) := by omega
  have hck : ¬ cap = k := by omega
  have hck1 : ¬ cap = k + 1 := by omega
  have hgt : ¬ ((cap : Int) < (n : Int) + 1) := by omega
  have mixed : Try.prog.follows Departure.mixedOrders = true := by kernel_rfl
  have hw1 : IntKind.i64.wrap ((k : Int) + 1) = (k : Int) + 1 := by rw [IntKind.wrap_i64]; omega
  have hb1 : (0 : Int) ≤ (k : Int) + 1 := by omega
  have hkn : k ≤ n := by omega
  have htn : ((k : Int) + 1).toNat = k + 1 := by omega
  have hb3 : (k : Int) ≤ (n : Int) + 1 := by omega
  go_enter Try.func71, Try.ntmps71
  go_wp2_with (simp only [hov])
  go_region_law_o (refine copy_step rfl _ _ 35 35 rfl (by simp [Act.eval, Act.put]) (by simp [Act.eval, Act.put]) (hr1 _ _) ?_)
  go_wp2_with (at_builtin; refine Lib.wpList_copy_run _ rfl _ _ 35 35 rfl _ _ rfl rfl (hr2 _ _) ?_)
  go_ret
  exact ⟨_, rfl, ⟨HH.out, new_at HNV.out _ _ _⟩, hBB⟩
set_option maxHeartbeats 8000000 in
set_option maxRecDepth 20000 in
theorem ins_growW (l : List Lk) (x : Lk) (k g cap vb B : Nat) (w : World) (hown : w.ownsRow B 75 2 (.slice (some ⟨g, 0, none⟩) l.length cap) l.length (lkCs l)) (hB : B ≤ w.heap.size) (hlen : l.length ≤ 1000) (hk : k < l.length) (hnc : l.length ≤ cap) (hr : cap < l.length + 1) (rv : RowAt w vb (lkC x) 75) :
    Calls Try.prog 71 #[.slice (some ⟨g, 0, none⟩) l.length cap, .int .i64 (k : Int), .slice (some ⟨vb, 0, none⟩) 1 1] w fun e w' => ∃ u, e = .returned u ∧ HasLksW B w' u (l.take k ++ ([x] ++ l.drop k)) ∧ Below B w w' := by
  obtain ⟨i0, hi0, hz0, hzs, hzb⟩ := info_parts info_lk
  have hll := lkCs_len l
  have hik : k + (l.length + 1 - k) = l.length + 1 := by omega
  have hgw : g < w.heap.size := (hown.lt g rfl).2
  have hold : (Builtin.firstCells i0.size k (.slice (some ⟨g, 0, none⟩) k cap)).run Try.prog w.drew = .ok (lkCs (l.take k)).toArray w.drew := by
    rw [hzs]
    exact run_firstCells_some w.drew 2 k ⟨g, 0, none⟩ k cap (lkCs (l.take k)) (by rw [lkCs_len, List.length_take]; omega) (fun j v hj => by
      have hjl := (List.getElem?_eq_some_iff.1 hj).1
      rw [lkCs_len, List.length_take] at hjl
      rw [addr_add, Nat.zero_add, show w.drew.cell? ⟨g, j, none⟩ = w.cell? ⟨g, j, none⟩ from rfl, hown.cellAt _ (by omega), ← hj, ← lkCs_take, List.getElem?_take, if_pos (by omega)])
  obtain ⟨G, hG⟩ : ∃ G, G = grownCap w (l.length + 1) cap 75 := ⟨_, rfl⟩
  have hGn : l.length + 1 ≤ G := by rw [hG]; exact grownCap_ge w _ _ _
  have hGm : G ≤ maxLen := by rw [hG]; exact grownCap_le_maxLen w (l.length + 1) cap 75 (by unfold maxLen; omega)
  obtain ⟨ZS, hZS⟩ : ∃ ZS, ZS = Builtin.zeroCells (Value.cells (.agg #[.int .i64 0, .int .i64 0])) (l.length + 1 - k) := ⟨_, rfl⟩
  obtain ⟨ZR, hZR⟩ : ∃ ZR, ZR = Builtin.zeroCells (Value.cells (.agg #[.int .i64 0, .int .i64 0])) (G - (l.length + 1)) := ⟨_, rfl⟩
  have hZl : ZS.size = (l.length + 1 - k) * 2 := by rw [hZS, zeros_len]
  have hZT : ZS.toList.length = (l.length + 1 - k) * 2 := by rw [Array.length_toList, hZl]
  have hZr : ZR.size = (G - (l.length + 1)) * 2 := by rw [hZR, zeros_len]
  obtain ⟨W1, hW1⟩ : ∃ W1, W1 = w.drew.alloc (.cells ((lkCs (l.take k)).toArray ++ ZS ++ ZR) 75) := ⟨_, rfl⟩
  have hrz : ∀ ty, (Builtin.append_ #[35, 3] ty #[.slice (some ⟨g, 0, none⟩) k cap, .int .i64 ((l.length : Int) + 1 - (k : Int))]).run Try.prog w = .ok (.slice (some ⟨w.heap.size, 0, none⟩) (l.length + 1) G) W1 := fun ty => by
    have h := Lib.run_append_grow_zeros (P := Try.prog) w 35 3 ty 75 i0 _ .i64 .i64 Try.underlying35 Try.underlying3 hi0 hz0 (some ⟨g, 0, none⟩) k cap (lkCs (l.take k)) hold (l.length + 1 - k) (by omega) (by omega) (by omega) (by omega) (by rw [hzb]; omega) (by rw [hzb, hik]; exact growslice_fits hr (by omega))
    rw [hik, ← hG, ← hZS, ← hZR, ← hW1] at h
    rw [show (l.length : Int) + 1 - (k : Int) = ((l.length + 1 - k : Nat) : Int) by omega]
    exact h
  have htl : (lkCs (l.take k)).length = k * 2 := by rw [lkCs_len, List.length_take, Nat.min_eq_left (by omega)]
  have hb1 : Below w.heap.size w W1 := by rw [hW1]; exact below_new (below_drew (Below.refl _ w)) _
  have ho1 : W1.ownsRow B 75 2 (.slice (some ⟨w.heap.size, 0, none⟩) (l.length + 1) G) (l.length + 1) (lkCs (l.take k) ++ ZS.toList) := by
    refine ⟨by rw [List.length_append, htl, hZT]; omega, .inr ⟨w.heap.size, G, _, rfl, hB, by rw [hW1]; exact heap_alloc_new w.drew _, hGn, hGm, ?_, ?_⟩⟩
    · simp only [Array.size_append, List.size_toArray, htl, hZl, hZr]; omega
    · simp only [Array.toList_append]
      rw [List.take_append_of_le_length (by rw [List.length_append, htl, hZT]; omega), List.take_of_length_le (by rw [List.length_append, htl, hZT]; omega)]
  have rv1 := rv.below hb1
  obtain ⟨W2, hr2, ho2, hg2⟩ := own_copy Try.underlying35 size_lk ho1 k (l.length + 1 - k) (G - k) ⟨vb, 0, none⟩ 1 1 1 (lkC x) (by simp only [Nat.min_def]; split <;> omega) rfl (by omega)
    (fun j v hj => by rw [addr_add, Nat.zero_add, rv1.cell]; exact hj) (by have := one_links [x]; simpa [lkCs] using this)
  have hown1 := own_below hown hb1
  obtain ⟨W3, hr3, ho3, hg3⟩ := own_copy Try.underlying35 size_lk (W := W2.drew) ho2 (k + 1) (l.length + 1 - (k + 1)) (G - (k + 1)) ⟨g, k * 2, none⟩ (l.length - k) (cap - k) (l.length - k) (lkCs (l.drop k)) (by simp only [Nat.min_def]; split <;> omega) (by rw [lkCs_len, List.length_drop]) (by omega)
    (fun j v hj => by
      have hjl := (List.getElem?_eq_some_iff.1 hj).1
      rw [lkCs_len, List.length_drop] at hjl
      have h5 : W1.cell? ⟨g, k * 2 + j, none⟩ = some v := by rw [hown1.cellAt _ (by omega), ← List.getElem?_drop, lkCs_drop]; exact hj
      rw [addr_add]
      exact hg2.cell h5 (by intro e; injection e with e; simp only at e; omega)) (one_links _)
  have hc := grow_cells l x k (by omega) ZS.toList hZT
  simp only at hc
  rw [hc] at ho3
  have HNV : Hid (B ≤ w.heap.size) := hB
  have HH : Hid (HasLks W3 (.slice (some ⟨w.heap.size, 0, none⟩) (l.length + 1) G) (l.take k ++ ([x] ++ l.drop k))) := by
    show HasRow _ _ _ _ _
    rw [show (l.take k ++ ([x] ++ l.drop k)).length = l.length + 1 by simp; omega]
    exact hasRow_own ho3
  have hBB : Below B w W3 := (below_drew ((Below.mono hb1 hB).grown hg2 (Nat.le_trans hB hb1.size) (fun q e => by injection e with e; omega))).grown hg3 (Nat.le_trans hB (Nat.le_trans hb1.size hg2.size)) (fun q e => by injection e with e; omega)
  have hki : (k : Int) < (l.length : Int) := by omega
  have hni : (l.length : Int) ≤ 1000 := by omega
  have hG9 : G ≤ 9223372036854775807 := by unfold maxLen at hGm; exact hGm
  clear hZT hc ho3 ho2 ho1 hown hown1 rv rv1 hll hg2 hg3 hold hZS hZR hZl hZr hW1 hGm htl hb1 hik hG hi0 hz0 hzs hzb
  generalize l.length = n at *
  generalize w.heap.size = N at *
  have hz2 : ¬ ((k : Int) = (n : Int)) := by omega
  have hck : ¬ cap = k := by omega
  have hGk : ¬ G = k := by omega
  have hGk1 : ¬ G = k + 1 := by omega
  have hgt : (cap : Int) < (n : Int) + 1 := by omega
  have mixed : Try.prog.follows Departure.mixedOrders = true := by kernel_rfl
  have hw1 : IntKind.i64.wrap ((k : Int) + 1) = (k : Int) + 1 := by rw [IntKind.wrap_i64]; omega
  have hb1 : (0 : Int) ≤ (k : Int) + 1 := by omega
  have hkn : k ≤ n := by omega
  have hkc : (k : Int) ≤ (cap : Int) := by omega
  have htn : ((k : Int) + 1).toNat = k + 1 := by omega
  have hb3 : (k : Int) ≤ (n : Int) + 1 := by omega
  have hw2 : IntKind.i64.wrap ((n : Int) + 1 - (k : Int)) = (n : Int) + 1 - (k : Int) := by rw [IntKind.wrap_i64]; omega
  go_enter Try.func71, Try.ntmps71
  go_wp2_with (at_builtin; first | refine Lib.wpList_append_run _ rfl _ _ _ _ rfl _ _ rfl rfl _ _ (hrz _) ?_ | refine Lib.wpList_copy_run _ rfl _ _ 35 35 rfl _ _ rfl rfl (hr2 _ _) ?_)
  go_region_law_o (refine copy_step rfl _ _ 35 35 rfl (by simp [Act.eval, Act.put]) (by simp [Act.eval, Act.put]) (hr3 _ _) ?_)
  go_wp2_with fail
  go_ret
  exact ⟨_, rfl, ⟨HH.out, new_at HNV.out _ _ _⟩, hBB⟩
theorem ins_anyW (l : List Lk) (v : Value) (x : Lk) (k vb B : Nat) (w : World) (hown : w.ownsRow B 75 2 v l.length (lkCs l)) (hB : B ≤ w.heap.size) (hlen : l.length ≤ 1000) (hk : k ≤ l.length) (rv : RowAt w vb (lkC x) 75) (hne : v.ownBlock ≠ some vb) :
    Calls Try.prog 71 #[v, .int .i64 (k : Int), .slice (some ⟨vb, 0, none⟩) 1 1] w fun e w' => ∃ u, e = .returned u ∧ HasLksW B w' u (l.take k ++ ([x] ++ l.drop k)) ∧ Below B w w' := by
  rcases Nat.lt_or_ge k l.length with h | h
  · rcases hown.2 with ⟨_, h0⟩ | ⟨g, cap, cur, rfl, hgb, hgc, hnc, hcm, hcs, htk⟩
    · omega
    · rcases Nat.lt_or_ge cap (l.length + 1) with h1 | h1
      · exact ins_growW l x k g cap vb B w hown hB hlen h hnc h1 rv
      · exact ins_roomW l x k g cap vb B w hown hB hlen h h1 (by unfold maxLen at hcm; exact hcm) rv (fun e => hne (by rw [e]; rfl))
  · obtain rfl : k = l.length := by omega
    rw [List.take_length, List.drop_length]
    exact ins_endW l v x vb B w hown hB hlen rv
end Go.Proofs.Ytkjhnefbcnnjlaa.Lk
namespace Go.Proofs.Ytkjhnefbcnnjlaa.Lk
open Go.RowKit
open Go.Proofs.Ytkjhnefbcnnjlaa.Nw (HasLksW HasRtsW.mono HasLksW.mono new_nil)
open Go.Proofs.Ytkjhnefbcnnjlaa.Fib (NewV.mono)
open Go.RowKit Go.Shelf
open Go.Proofs.Ytkjhnefbcnnjlaa.Addr (RowAt below2 below_drew below_new RowAt.lt RowAt.cell RowAt.below RowAt.new RowAt.alloc cells2)
attribute [-go_sem] Builtin.append_
set_option maxHeartbeats 8000000 in
set_option maxRecDepth 20000 in
theorem put_new (l : List Lk) (v : Value) (x : Lk) (w : World) (hl : HasLks w v l) :
    Calls Try.prog 44 #[v, .agg #[.int .i64 x.iface, .int .i64 x.peer]] w fun e w' => ∃ u, e = .returned (.tuple #[u, .int .i64 (putL l x).2]) ∧ HasLksW w.heap.size w' u (putL l x).1 ∧ Below w.heap.size w w' := by
  obtain ⟨o, c, rfl, hc1, hc2⟩ := HasRow.slice hl
  have cc := fun W (hb : Below w.heap.size w W) => check_any l _ W (hl.keep hb)
  have c1 := fun W => right_any x W
  have hck : checkL l = if okL l then 0 else 2 := rfl
  rw [hck] at cc
  have hPd : putL l x = if okL l && okK x then (if (others l x.iface).length = 32 then (others l x.iface, 8) else (aheadL l x.iface ++ ([x] ++ behindL l x.iface), 0)) else ([], 2) := rfl
  obtain ⟨X, hX⟩ : ∃ X, X = w.alloc (.cells #[.int .i64 x.iface, .int .i64 x.peer] 75) := ⟨_, rfl⟩
  have hB : Below w.heap.size w X := by rw [hX]; exact below_new (Below.refl _ _) _
  have r0 : RowAt X w.heap.size [.int .i64 x.iface, .int .i64 x.peer] 75 := by rw [hX]; exact RowAt.new _ _ _
  cases hok : okL l
  · rw [hok] at cc hPd
    simp only [Bool.false_eq_true, if_false, Bool.false_and] at cc hPd
    rw [hPd]
    clear hPd
    go_enter Try.func44, Try.ntmps44
    go_upto_region 1 with fail
    rw [← hX]
    clear hX
    go_wp2_with fail
    go_at_call 35; refine (cc _ hB).mono ?_; rintro e w1 ⟨rfl, hb1⟩
    go_wp2_with fail
    go_ret2
    exact ⟨_, rfl, ⟨hasRow_nil _ 2, new_nil _⟩, below2 hB hb1⟩
  rw [hok] at cc hPd
  simp only [if_true, Bool.true_and] at cc hPd
  cases hox : okK x
  · rw [hox] at c1 hPd
    simp only [Bool.false_eq_true, if_false] at hPd
    rw [hPd]
    clear hPd
    obtain ⟨a, b⟩ := x
    simp only at *
    go_enter Try.func44, Try.ntmps44
    go_upto_region 1 with fail
    rw [← hX]
    clear hX
    go_wp2_with fail
    go_at_call 35; refine (cc _ hB).mono ?_; rintro e w1 ⟨rfl, hb1⟩
    replace r0 := RowAt.below r0 hb1
    obtain ⟨y0, y1, yf⟩ := cells2 r0
    go_wp2_with fail
    go_at_call 58; refine (c1 _).mono ?_; rintro e w2 ⟨rfl, hb2⟩
    go_wp2_with fail
    go_ret2
    exact ⟨_, rfl, ⟨hasRow_nil _ 2, new_nil _⟩, below2 (below2 hB hb1) hb2⟩
  rw [hox] at c1 hPd
  simp only [if_true] at hPd
  have hlen := okL_len2 hok
  have hol : (others l x.iface).length ≤ l.length := List.length_filter_le _ _
  have cl := fun W (hb : Below w.heap.size w W) => clone_any l _ W (hl.keep hb) (by omega)
  have co := fun W => of_any x.iface W
  have cd := fun (W : World) (v : Value) (g B : Nat) => delf_any l v x.iface g B W hok
  have ci := fun (W : World) (v : Value) (g : Nat) => idxPut_any (others l x.iface) v x.iface g W
  have cn := fun (W : World) (v : Value) (k vb B : Nat) => ins_anyW (others l x.iface) v x k vb B W
  obtain ⟨k, hk1, hk2, hk3, hk4⟩ := place_put (okL_up hok) x.iface
  obtain ⟨m, hm⟩ : ∃ m, m = (others l x.iface).length := ⟨_, rfl⟩
  have HOT : Hid (∀ (W : World) (u : Value) (B : Nat), W.ownsRow B 75 2 u (others l x.iface).length (lkCs (others l x.iface)) → HasLks W u (others l x.iface) ∧ ∃ ou cu, u = .slice ou m cu) := fun W u B h => ⟨hasRow_own h, by obtain ⟨ou, cu, e, _, _⟩ := HasRow.slice (hasRow_own h); exact ⟨ou, cu, by rw [hm]; exact e⟩⟩
  have HM : Hid (m = (others l x.iface).length ∧ m ≤ 32) := ⟨hm, by omega⟩
  have HIN : Hid (∀ (W : World) (u : Value) (vb B : Nat), W.ownsRow B 75 2 u (others l x.iface).length (lkCs (others l x.iface)) → B ≤ W.heap.size → RowAt W vb [.int .i64 x.iface, .int .i64 x.peer] 75 → u.ownBlock ≠ some vb →
      Calls Try.prog 71 #[u, .int .i64 (k : Int), .slice (some ⟨vb, 0, none⟩) 1 1] W fun e w' => ∃ u, e = .returned u ∧ HasLksW B w' u (aheadL l x.iface ++ ([x] ++ behindL l x.iface)) ∧ Below B W w') := fun W u vb B h1 h2 h3 h4 => by
    have := cn W u k vb B h1 h2 (by omega) hk1 h3 h4
    rw [hk3, hk4] at this
    exact this
  rw [← hm] at hk1 hk2 hPd
  have hmi : (m : Int) ≤ 32 := by omega
  rw [hPd]
  obtain ⟨PL, hPL⟩ : ∃ PL, PL = (if m = 32 then (others l x.iface, 8) else (aheadL l x.iface ++ ([x] ++ behindL l x.iface), 0) : List Lk × Int) := ⟨_, rfl⟩
  have HP : Hid (PL = (if m = 32 then (others l x.iface, 8) else (aheadL l x.iface ++ ([x] ++ behindL l x.iface), 0) : List Lk × Int)) := hPL
  rw [← hPL]
  generalize idxL (fun y : Lk => decide (x.iface < y.iface)) (others l x.iface) = q at ci hk2
  obtain ⟨n, hn⟩ : ∃ n, n = l.length := ⟨_, rfl⟩
  have HN : Hid (n = l.length) := hn
  rw [← hn] at hlen hc1 cl cc ⊢
  have hni : (n : Int) ≤ 32 := by omega
  clear hPd hPL hm hn hl hk3 hk4 cn hck hol
  generalize x.iface = a at *
  generalize x.peer = b at *
  go_enter Try.func44, Try.ntmps44
  go_upto_region 1 with fail
  rw [← hX]
  clear hX
  go_wp2_with fail
  go_at_call 35; refine (cc _ hB).mono ?_; rintro e w1 ⟨rfl, hb1⟩
  replace r0 := RowAt.below r0 hb1
  have hbw1 := below2 hB hb1
  clear cc hB hb1
  have hgl : w.heap.size < w1.heap.size := r0.lt
  obtain ⟨y0, y1, yf⟩ := cells2 r0
  go_wp2_with fail
  go_at_call 58; refine (c1 _).mono ?_; rintro e w2 ⟨rfl, hb2⟩
  replace r0 := RowAt.below r0 hb2
  have hbw2 := below2 hbw1 hb2
  clear c1 y0 y1 yf hb2 hbw1 hgl
  have cl2 : ∀ W, Below w2.heap.size w2 W → Calls Try.prog 41 #[.slice o n c] W fun e w' => ∃ u, e = .returned u ∧ w'.ownsRow w2.heap.size 75 2 u n (lkCs l) ∧ Below w2.heap.size w2 w' := fun W hb => by
    refine (cl W (hbw2.trans (Below.mono hb hbw2.size))).mono ?_
    rintro e w' ⟨u, rfl, h1, h2⟩
    exact ⟨u, rfl, own_base h1 hb.size, hb.trans (Below.mono h2 hb.size)⟩
  have HSK : Hid (∀ W : World, Below w2.heap.size w2 W → W.cell? ⟨w.heap.size, 0, none⟩ = some (.int .i64 a)) := fun W hb => (RowAt.below r0 hb).cell 0
  have hbA : Below w2.heap.size w2 w2 := Below.refl _ _
  go_wp2_with fail
  go_region_held3 (fun w' => w'.cell? ⟨w.heap.size, 0, none⟩ = some (.int .i64 a))
    (first
      | (refine HSK.out _ ?_
         repeat' (first | with_reducible exact hbA | with_reducible apply below_drew)))
    (first
      | (go_at_call 41; with_reducible refine (cl2 _ (by repeat' (first | with_reducible exact hbA | with_reducible apply below_drew))).mono ?_; rintro e w3 ⟨u2, rfl, ho2, hbN⟩
         clear hbA
         have hbA := hbN
         clear hbN)
      | (go_at_call 68; with_reducible refine (co _).mono ?_; rintro e w4 ⟨rfl, hw4⟩
         have hb4 : Below w3.heap.size w3 w4 := (by rw [hw4]; exact below_new (by repeat' (first | exact Below.refl _ _ | apply below_drew)) _)
         have r4 : RowAt w4 w3.heap.size [.int .i64 a] 3 := (by rw [hw4]; exact RowAt.new _ _ _)
         have hgr : u2.ownBlock ≠ some w3.heap.size := (fun e => by have := (ho2.lt _ e).2; omega)
         have ho4 := own_below ho2 hb4
         have hbN := below2 hbA hb4
         clear hw4 hbA hb4 ho2
         have hbA := hbN
         clear hbN
         generalize w3.heap.size = g at r4 hgr ⊢
         have hc4 : w4.cell? ⟨g, 0, none⟩ = some (.int .i64 a) := r4.cell 0
         have hl4 := r4.lt
         clear r4)
      | (go_at_call 67; with_reducible refine (cd _ _ g w2.heap.size (by rw [← HN.out]; exact ho4) hbA.size hc4 hl4 hgr).mono ?_; rintro e w5 ⟨u5, rfl, ho5, _, hb5⟩
         have hbN := hbA.trans hb5
         clear hbA
         have hbA := hbN
         clear hbN
         obtain ⟨hh, ou, cu, rfl⟩ := HOT.out _ _ _ ho5))
  clear HSK cl cl2 co cd
  have hbw5 : Below w.heap.size w w5 := hbw2.trans (Below.mono hbA hbw2.size)
  have hB5 : w2.heap.size ≤ w5.heap.size := hbA.size
  have r5 := RowAt.below r0 hbA
  have hX5 : w.heap.size < w5.heap.size := r5.lt
  clear hbA hb5
  by_cases hm32 : m = 32
  · have hPv := HP.out
    rw [if_pos hm32] at hPv
    subst hm32
    clear HP ci HIN
    go_wp2_with fail
    go_ret2
    exact ⟨_, by rw [hPv]; rfl, by rw [hPv]; exact ⟨hh, fun b e => Nat.le_trans hbw2.size (ho5.lt b e).1⟩, hbw5⟩
  · have hPv := HP.out
    rw [if_neg hm32] at hPv
    have hmm : ((m : Int) == 32) = false := beq_eq_false_iff_ne.2 (by omega)
    have HPV : Hid (PL = (aheadL l a ++ ([x] ++ behindL l a), 0)) := hPv
    clear HP hPv hm32
    go_wp2_with fail
    go_at_call 69; refine (ci _ _ w.heap.size hh (r5.cell 0) hX5).mono ?_; rintro e w6 ⟨rfl, hb6⟩
    have ho6 := own_below ho5 hb6
    have hbw6 := below2 hbw5 hb6
    replace hB5 := Nat.le_trans hB5 hb6.size
    replace r5 := RowAt.below r5 hb6
    have hX6 : w.heap.size < w6.heap.size := r5.lt
    clear ci hb6 ho5 hbw5 hX5 hh
    obtain ⟨y0, y1, yf⟩ := cells2 r5
    have hgr6 : ∀ t, w6.heap.size ≤ t → (Value.slice ou m cu).ownBlock ≠ some t := fun t ht e => by have := (ho6.lt _ e).2; omega
    have hbN : Below w6.heap.size w6 (w6.alloc (.cells #[.int .i64 a, .int .i64 b] 75)) := below_new (Below.refl _ _) _
    have rN : RowAt (w6.alloc (.cells #[.int .i64 a, .int .i64 b] 75)) w6.heap.size [.int .i64 a, .int .i64 b] 75 := RowAt.new _ _ _
    have hbwN := below2 hbw6 hbN
    have hBN : w2.heap.size ≤ (w6.alloc (.cells #[.int .i64 a, .int .i64 b] 75)).heap.size := Nat.le_trans hB5 hbN.size
    have cn := HIN.out _ (.slice ou m cu) _ w2.heap.size (own_below ho6 hbN) hBN rN (hgr6 _ (Nat.le_refl _))
    clear HIN hgr6 hBN rN
    have HW : Hid (∀ w', Below w2.heap.size (w6.alloc (.cells #[.int .i64 a, .int .i64 b] 75)) w' → Below w.heap.size w w') := fun w' h => hbwN.trans (Below.mono h hbw2.size)
    clear hbwN hbN hbw6 ho6
    rcases hk2 with rfl | ⟨rfl, rfl⟩
    · have hk0 : ¬ ((k : Int) < 0) := by omega
      go_wp2_with fail
      go_at_call 71; refine cn.mono ?_; rintro e w7 ⟨u7, rfl, hh7, hb7⟩
      have hF := HW.out _ hb7
      have hPv := HPV.out
      clear HW hb7 y0 y1 yf
      go_wp2_with fail
      go_ret2
      exact ⟨_, by rw [hPv]; rfl, by rw [hPv]; exact hh7.mono hbw2.size, hF⟩
    · go_wp2_with fail
      go_at_call 71; refine cn.mono ?_; rintro e w7 ⟨u7, rfl, hh7, hb7⟩
      have hF := HW.out _ hb7
      have hPv := HPV.out
      clear HW hb7 y0 y1 yf
      go_wp2_with fail
      go_ret2
      exact ⟨_, by rw [hPv]; rfl, by rw [hPv]; exact hh7.mono hbw2.size, hF⟩
end Go.Proofs.Ytkjhnefbcnnjlaa.Lk
namespace Go.Proofs.Ytkjhnefbcnnjlaa.Lk
open Go.RowKit
open Go.Proofs.Ytkjhnefbcnnjlaa.Nw (HasLksW HasRtsW.mono HasLksW.mono new_nil)
open Go.Proofs.Ytkjhnefbcnnjlaa.Fib (NewV NewV.mono)
open Go.Proofs.Ytkjhnefbcnnjlaa.Addr (RowAt below2 below_new RowAt.lt RowAt.cell RowAt.new)
attribute [-go_sem] Builtin.append_
set_option maxHeartbeats 4000000 in
set_option maxRecDepth 20000 in
theorem del_new (l : List Lk) (v : Value) (i : Int) (w : World) (hl : HasLks w v l) :
    Calls Try.prog 45 #[v, .int .i64 i] w fun e w' => ∃ u, e = .returned (.tuple #[u, .int .i64 (delL l i).2]) ∧ HasLksW w.heap.size w' u (delL l i).1 ∧ Below w.heap.size w w' := by
  obtain ⟨o, c, rfl, hc1, hc2⟩ := HasRow.slice hl
  have cc := fun W (hb : Below w.heap.size w W) => check_any l _ W (hl.keep hb)
  have co := fun W => of_any i W
  have hck : checkL l = if okL l then 0 else 2 := rfl
  rw [hck] at cc
  cases hok : okL l
  · have hP : delL l i = ([], 2) := by unfold delL; rw [hok]; rfl
    rw [hok] at cc
    simp only [Bool.false_eq_true, if_false] at cc
    rw [hP]
    go_enter Try.func45, Try.ntmps45
    go_wp2_with fail
    go_at_call 35; refine (cc _ (Below.refl _ _)).mono ?_; rintro e w1 ⟨rfl, hb1⟩
    go_wp2_with fail
    go_ret2
    exact ⟨_, rfl, ⟨hasRow_nil _ 2, new_nil _⟩, hb1⟩
  · have hlen := okL_len2 hok
    have hP : delL l i = (others l i, if (others l i).length = l.length then 3 else 0) := by unfold delL; rw [hok]; rfl
    rw [hP]
    rw [hok] at cc
    simp only [if_true] at cc
    have cl := fun W (hb : Below w.heap.size w W) => clone_any l _ W (hl.keep hb) (by omega)
    have cd := fun (W : World) (v : Value) (g B : Nat) => delf_any l v i g B W hok
    obtain ⟨m, hm⟩ : ∃ m, m = (others l i).length := ⟨_, rfl⟩
    obtain ⟨n, hn⟩ : ∃ n, n = l.length := ⟨_, rfl⟩
    have HMN : Hid (m = (others l i).length ∧ n = l.length) := ⟨hm, hn⟩
    have HOT : Hid (∀ (W : World) (u : Value) (B : Nat), W.ownsRow B 75 2 u (others l i).length (lkCs (others l i)) → HasLks W u (others l i) ∧ ∃ ou cu, u = .slice ou m cu) := fun W u B h => ⟨hasRow_own h, by obtain ⟨ou, cu, e, _, _⟩ := HasRow.slice (hasRow_own h); exact ⟨ou, cu, by rw [hm]; exact e⟩⟩
    rw [← hn] at hlen hc1 cl cc ⊢
    have hmn : (m : Int) ≤ 32 := by
      have : m ≤ n := by rw [hm, hn]; exact List.length_filter_le _ _
      omega
    have hni : (n : Int) ≤ 32 := by omega
    rw [show (if (others l i).length = n then (3 : Int) else 0) = if m = n then 3 else 0 by rw [hm]]
    obtain ⟨yy, hyy⟩ : ∃ yy : Int, yy = if m = n then 3 else 0 := ⟨_, rfl⟩
    have HY : Hid (yy = if m = n then 3 else 0) := hyy
    rw [← hyy]
    clear hP hck hm hn hl hyy
    go_enter Try.func45, Try.ntmps45
    go_wp2_with fail
    go_at_call 35; refine (cc _ (Below.refl _ _)).mono ?_; rintro e w1 ⟨rfl, hb1⟩
    go_wp2_with fail
    go_at_call 41; refine (cl _ hb1).mono ?_; rintro e w2 ⟨u2, rfl, ho2, hb2⟩
    go_wp2_with fail
    go_at_call 68; refine (co _).mono ?_; rintro e w3 ⟨rfl, hw3⟩
    have hb3 : Below w2.heap.size w2 w3 := by rw [hw3]; exact below_new (Below.refl _ _) _
    have r3 : RowAt w3 w2.heap.size [.int .i64 i] 3 := by rw [hw3]; exact RowAt.new _ _ _
    have hgr : u2.ownBlock ≠ some w2.heap.size := fun e => by have := (ho2.lt _ e).2; omega
    have ho3 := own_below ho2 hb3
    have hBw : w1.heap.size ≤ w3.heap.size := Nat.le_trans hb2.size hb3.size
    clear hw3 ho2
    generalize w2.heap.size = g at r3 hgr ⊢
    go_wp2_with fail
    go_at_call 67; refine (cd _ _ g w1.heap.size (by rw [← HMN.out.2]; exact ho3) hBw (r3.cell 0) r3.lt hgr).mono ?_; rintro e w4 ⟨u4, rfl, ho4, _, hb4⟩
    obtain ⟨hh, ou, cu, rfl⟩ := HOT.out _ _ _ ho4
    have HNW : Hid (NewV w.heap.size (.slice ou m cu)) := fun b e => Nat.le_trans hb1.size (ho4.lt b e).1
    have hbw : Below w.heap.size w w4 := hb1.trans ((Below.mono ((below2 hb2 hb3).trans hb4) hb1.size))
    by_cases hmn2 : m = n
    · have hmm : ((m : Int) == (n : Int)) = true := by rw [hmn2]; simp
      have HV : Hid (yy = 3) := by show _ = _; rw [HY.out, if_pos hmn2]
      clear cd cl cc co ho3 ho4 hb2 hb3 hb4 hb1 hmn2 HY
      go_wp2_with fail
      go_ret2
      exact ⟨_, by have h := HV.out; subst h; rfl, ⟨hh, HNW.out⟩, hbw⟩
    · have hmm : ((m : Int) == (n : Int)) = false := beq_eq_false_iff_ne.2 (by omega)
      have HV : Hid (yy = 0) := by show _ = _; rw [HY.out, if_neg hmn2]
      clear cd cl cc co ho3 ho4 hb2 hb3 hb4 hb1 hmn2 HY
      go_wp2_with fail
      go_ret2
      exact ⟨_, by have h := HV.out; subst h; rfl, ⟨hh, HNW.out⟩, hbw⟩
end Go.Proofs.Ytkjhnefbcnnjlaa.Lk
