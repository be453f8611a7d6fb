/- slices.Insert of one link, whole. -/
import Derived.Test.YtedgmnnbmonhkaaLkIns3
set_option linter.unusedVariables false
namespace Go.Proofs.Ytedgmnnbmonhkaa.Lk
open Go.RowKit
open Go.Proofs.Ytedgmnnbmonhkaa.Addr (RowAt below2 below_drew below_new bset RowAt.lt RowAt.cell RowAt.frozen RowAt.below RowAt.drew RowAt.new RowAt.alloc cells2 RowAt.gkeep)
attribute [-go_sem] Builtin.append_
/-- what stands in the new row behind both copies -/
theorem grow_cells (l : List Lk) (x : Lk) (k : Nat) (hk : k ≤ l.length) (ys : List Value) (hy : ys.length = (l.length + 1 - k) * 2) :
    let a := (lkCs (l.take k) ++ ys).take (k * 2) ++ lkC x ++ (lkCs (l.take k) ++ ys).drop (k * 2 + 1 * 2)
    a.take ((k + 1) * 2) ++ lkCs (l.drop k) ++ a.drop ((k + 1) * 2 + (l.length - k) * 2) = lkCs (l.take k ++ ([x] ++ l.drop k)) := by
  intro a
  have hll := lkCs_len (l.take k)
  rw [List.length_take, Nat.min_eq_left hk] at hll
  have e1 : (lkCs (l.take k) ++ ys).take (k * 2) = lkCs (l.take k) := by rw [List.take_append_of_le_length (by omega), List.take_of_length_le (by omega)]
  have e2 : (lkCs (l.take k) ++ lkC x).length = (k + 1) * 2 := by rw [List.length_append, hll]; show _ + 2 = _; omega
  have h1 : a.take ((k + 1) * 2) = lkCs (l.take k) ++ lkC x := by
    show List.take _ (_ ++ _) = _
    rw [e1, List.take_append_of_le_length (by omega), List.take_of_length_le (by omega)]
  have h2 : a.drop ((k + 1) * 2 + (l.length - k) * 2) = [] := by
    apply List.drop_of_length_le
    show (List.length (_ ++ _)) ≤ _
    rw [e1, List.length_append, e2, List.length_drop, List.length_append, hll, hy]
    omega
  rw [h1, h2, List.append_nil, lkCs_app, lkCs_app, List.append_assoc]
  simp [lkCs]
theorem zeros_len (k : Nat) : (Builtin.zeroCells (Value.cells (.agg #[.int .i64 0, .int .i64 0])) k).size = k * 2 := by
  simp [Builtin.zeroCells, Value.cells]
set_option maxHeartbeats 8000000 in
set_option maxRecDepth 20000 in
theorem ins_grow (l : List Lk) (x : Lk) (k g cap vb B : Nat) (w : World) (hown : w.ownsRow B 24 2 (.slice (some ⟨g, 0, none⟩) l.length cap) l.length (lkCs l)) (hB : B ≤ w.heap.size) (hlen : l.length ≤ 1000) (hk : k < l.length) (hnc : l.length ≤ cap) (hr : cap < l.length + 1) (rv : RowAt w vb (lkC x) 24) :
    Calls Try.prog 26 #[.slice (some ⟨g, 0, none⟩) l.length cap, .int .i64 (k : Int), .slice (some ⟨vb, 0, none⟩) 1 1] w fun e w' => ∃ u, e = .returned u ∧ HasLks w' u (l.take k ++ ([x] ++ l.drop k)) ∧ Below B w w' := by
  obtain ⟨i0, hi0, hz0, hzs, hzb⟩ := info_parts info_lk
  have hll := lkCs_len l
  have hik : k + (l.length + 1 - k) = l.length + 1 := by omega
  have hgw : g < w.heap.size := (hown.lt g rfl).2
  have hold : (Builtin.firstCells i0.size k (.slice (some ⟨g, 0, none⟩) k cap)).run Try.prog w.drew = .ok (lkCs (l.take k)).toArray w.drew := by
    rw [hzs]
    exact run_firstCells_some w.drew 2 k ⟨g, 0, none⟩ k cap (lkCs (l.take k)) (by rw [lkCs_len, List.length_take]; omega) (fun j v hj => by
      have hjl := (List.getElem?_eq_some_iff.1 hj).1
      rw [lkCs_len, List.length_take] at hjl
      rw [addr_add, Nat.zero_add, show w.drew.cell? ⟨g, j, none⟩ = w.cell? ⟨g, j, none⟩ from rfl, hown.cellAt _ (by omega), ← hj, ← lkCs_take, List.getElem?_take, if_pos (by omega)])
  obtain ⟨G, hG⟩ : ∃ G, G = grownCap w (l.length + 1) cap 24 := ⟨_, rfl⟩
  have hGn : l.length + 1 ≤ G := by rw [hG]; exact grownCap_ge w _ _ _
  have hGm : G ≤ maxLen := by rw [hG]; exact grownCap_le_maxLen w (l.length + 1) cap 24 (by unfold maxLen; omega)
  obtain ⟨ZS, hZS⟩ : ∃ ZS, ZS = Builtin.zeroCells (Value.cells (.agg #[.int .i64 0, .int .i64 0])) (l.length + 1 - k) := ⟨_, rfl⟩
  obtain ⟨ZR, hZR⟩ : ∃ ZR, ZR = Builtin.zeroCells (Value.cells (.agg #[.int .i64 0, .int .i64 0])) (G - (l.length + 1)) := ⟨_, rfl⟩
  have hZl : ZS.size = (l.length + 1 - k) * 2 := by rw [hZS, zeros_len]
  have hZT : ZS.toList.length = (l.length + 1 - k) * 2 := by rw [Array.length_toList, hZl]
  have hZr : ZR.size = (G - (l.length + 1)) * 2 := by rw [hZR, zeros_len]
  obtain ⟨W1, hW1⟩ : ∃ W1, W1 = w.drew.alloc (.cells ((lkCs (l.take k)).toArray ++ ZS ++ ZR) 24) := ⟨_, rfl⟩
  have hrz : ∀ ty, (Builtin.append_ #[22, 3] ty #[.slice (some ⟨g, 0, none⟩) k cap, .int .i64 ((l.length : Int) + 1 - (k : Int))]).run Try.prog w = .ok (.slice (some ⟨w.heap.size, 0, none⟩) (l.length + 1) G) W1 := fun ty => by
    have h := Lib.run_append_grow_zeros (P := Try.prog) w 22 3 ty 24 i0 _ .i64 .i64 Try.underlying22 Try.underlying3 hi0 hz0 (some ⟨g, 0, none⟩) k cap (lkCs (l.take k)) hold (l.length + 1 - k) (by omega) (by omega) (by omega) (by omega) (by rw [hzb]; omega) (by rw [hzb, hik]; exact growslice_fits hr (by omega))
    rw [hik, ← hG, ← hZS, ← hZR, ← hW1] at h
    rw [show (l.length : Int) + 1 - (k : Int) = ((l.length + 1 - k : Nat) : Int) by omega]
    exact h
  have htl : (lkCs (l.take k)).length = k * 2 := by rw [lkCs_len, List.length_take, Nat.min_eq_left (by omega)]
  have hb1 : Below w.heap.size w W1 := by rw [hW1]; exact below_new (below_drew (Below.refl _ w)) _
  have ho1 : W1.ownsRow B 24 2 (.slice (some ⟨w.heap.size, 0, none⟩) (l.length + 1) G) (l.length + 1) (lkCs (l.take k) ++ ZS.toList) := by
    refine ⟨by rw [List.length_append, htl, hZT]; omega, .inr ⟨w.heap.size, G, _, rfl, hB, by rw [hW1]; exact heap_alloc_new w.drew _, hGn, hGm, ?_, ?_⟩⟩
    · simp only [Array.size_append, List.size_toArray, htl, hZl, hZr]; omega
    · simp only [Array.toList_append]
      rw [List.take_append_of_le_length (by rw [List.length_append, htl, hZT]; omega), List.take_of_length_le (by rw [List.length_append, htl, hZT]; omega)]
  have rv1 := rv.below hb1
  obtain ⟨W2, hr2, ho2, hg2⟩ := own_copy Try.underlying22 size_lk ho1 k (l.length + 1 - k) (G - k) ⟨vb, 0, none⟩ 1 1 1 (lkC x) (by simp only [Nat.min_def]; split <;> omega) rfl (by omega)
    (fun j v hj => by rw [addr_add, Nat.zero_add, rv1.cell]; exact hj) (by have := one_links [x]; simpa [lkCs] using this)
  have hown1 := own_below hown hb1
  obtain ⟨W3, hr3, ho3, hg3⟩ := own_copy Try.underlying22 size_lk (W := W2.drew) ho2 (k + 1) (l.length + 1 - (k + 1)) (G - (k + 1)) ⟨g, k * 2, none⟩ (l.length - k) (cap - k) (l.length - k) (lkCs (l.drop k)) (by simp only [Nat.min_def]; split <;> omega) (by rw [lkCs_len, List.length_drop]) (by omega)
    (fun j v hj => by
      have hjl := (List.getElem?_eq_some_iff.1 hj).1
      rw [lkCs_len, List.length_drop] at hjl
      have h5 : W1.cell? ⟨g, k * 2 + j, none⟩ = some v := by rw [hown1.cellAt _ (by omega), ← List.getElem?_drop, lkCs_drop]; exact hj
      rw [addr_add]
      exact hg2.cell h5 (by intro e; injection e with e; simp only at e; omega)) (one_links _)
  have hc := grow_cells l x k (by omega) ZS.toList hZT
  simp only at hc
  rw [hc] at ho3
  have HH : Hid (HasLks W3 (.slice (some ⟨w.heap.size, 0, none⟩) (l.length + 1) G) (l.take k ++ ([x] ++ l.drop k))) := by
    show HasRow _ _ _ _ _
    rw [show (l.take k ++ ([x] ++ l.drop k)).length = l.length + 1 by simp; omega]
    exact hasRow_own ho3
  have hBB : Below B w W3 := (below_drew ((Below.mono hb1 hB).grown hg2 (Nat.le_trans hB hb1.size) (fun q e => by injection e with e; omega))).grown hg3 (Nat.le_trans hB (Nat.le_trans hb1.size hg2.size)) (fun q e => by injection e with e; omega)
  have hki : (k : Int) < (l.length : Int) := by omega
  have hni : (l.length : Int) ≤ 1000 := by omega
  have hG9 : G ≤ 9223372036854775807 := by unfold maxLen at hGm; exact hGm
  clear hZT hc ho3 ho2 ho1 hown hown1 rv rv1 hll hg2 hg3 hold hZS hZR hZl hZr hW1 hGm htl hb1 hik hG hi0 hz0 hzs hzb
  generalize l.length = n at *
  generalize w.heap.size = N at *
  have hz2 : ¬ ((k : Int) = (n : Int)) := by omega
  have hck : ¬ cap = k := by omega
  have hGk : ¬ G = k := by omega
  have hGk1 : ¬ G = k + 1 := by omega
  have hgt : (cap : Int) < (n : Int) + 1 := by omega
  have mixed : Try.prog.follows Departure.mixedOrders = true := by kernel_rfl
  have hw1 : IntKind.i64.wrap ((k : Int) + 1) = (k : Int) + 1 := by rw [IntKind.wrap_i64]; omega
  have hb1 : (0 : Int) ≤ (k : Int) + 1 := by omega
  have hkn : k ≤ n := by omega
  have hkc : (k : Int) ≤ (cap : Int) := by omega
  have htn : ((k : Int) + 1).toNat = k + 1 := by omega
  have hb3 : (k : Int) ≤ (n : Int) + 1 := by omega
  have hw2 : IntKind.i64.wrap ((n : Int) + 1 - (k : Int)) = (n : Int) + 1 - (k : Int) := by rw [IntKind.wrap_i64]; omega
  go_enter Try.func26, Try.ntmps26
  go_wp2_with (at_builtin; first | refine Lib.wpList_append_run _ rfl _ _ _ _ rfl _ _ rfl rfl _ _ (hrz _) ?_ | refine Lib.wpList_copy_run _ rfl _ _ 22 22 rfl _ _ rfl rfl (hr2 _ _) ?_)
  go_region_law_o (refine copy_step rfl _ _ 22 22 rfl (by simp [Act.eval, Act.put]) (by simp [Act.eval, Act.put]) (hr3 _ _) ?_)
  go_wp2_with fail
  go_ret
  exact ⟨_, rfl, HH.out, hBB⟩
theorem ins_any (l : List Lk) (v : Value) (x : Lk) (k vb B : Nat) (w : World) (hown : w.ownsRow B 24 2 v l.length (lkCs l)) (hB : B ≤ w.heap.size) (hlen : l.length ≤ 1000) (hk : k ≤ l.length) (rv : RowAt w vb (lkC x) 24) (hne : v.ownBlock ≠ some vb) :
    Calls Try.prog 26 #[v, .int .i64 (k : Int), .slice (some ⟨vb, 0, none⟩) 1 1] w fun e w' => ∃ u, e = .returned u ∧ HasLks w' u (l.take k ++ ([x] ++ l.drop k)) ∧ Below B w w' := by
  rcases Nat.lt_or_ge k l.length with h | h
  · rcases hown.2 with ⟨_, h0⟩ | ⟨g, cap, cur, rfl, hgb, hgc, hnc, hcm, hcs, htk⟩
    · omega
    · rcases Nat.lt_or_ge cap (l.length + 1) with h1 | h1
      · exact ins_grow l x k g cap vb B w hown hB hlen h hnc h1 rv
      · exact ins_room l x k g cap vb B w hown hB hlen h h1 (by unfold maxLen at hcm; exact hcm) rv (fun e => hne (by rw [e]; rfl))
  · obtain rfl : k = l.length := by omega
    rw [List.take_length, List.drop_length]
    exact ins_end l v x vb B w hown hB hlen rv
end Go.Proofs.Ytedgmnnbmonhkaa.Lk
