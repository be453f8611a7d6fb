/- What those answers, ahead and behind of a seat. -/
import Derived.Test.YtckaajadajjijabOrdRows
set_option linter.unusedVariables false
namespace Go.Proofs.Ytckaajadajjijab.Ord
open Go.RowKit Go.Shelf
open Go.Proofs.Ytckaajadajjijab.Msg (Ev okE checkE evV evC FitE echeck_any cells12' gkeep gsetO results_cell_tmp1)
open Go.Proofs.Ytckaajadajjijab.Addr (hiN loN RowAt below2 below_drew below_new bset RowAt.lt RowAt.cell RowAt.frozen RowAt.below RowAt.drew RowAt.new RowAt.alloc gdrew gset gbelow galloc grefl gfinal cells2 cells4 results_cell Bl bl_ne wp_region_bl bl_call bl_same)
attribute [-go_sem] Builtin.append_

theorem one_has (W : World) (s : St) : HasSts (W.alloc (.cells #[.int .i64 s.router, .int .u64 (s.seq : Int), .int .i64 s.time, .bool s.up] 48)) (.slice (some ⟨W.heap.size, 0, none⟩) 1 1) [s] := by
  refine ⟨rfl, .inr ⟨⟨W.heap.size, 0, none⟩, 1, rfl, Nat.le_refl _, by decide, fun _ => ⟨rfl, by simp⟩, fun j hj => ?_⟩⟩
  rw [addr_add, Nat.zero_add]
  exact (RowAt.new W (stC s) 48).cell j
theorem own_below {W W' : World} {m e size k : Nat} {v : Value} {xs : List Value} (h : W.ownsRow m e size v k xs) (hb : Below W.heap.size W W') : W'.ownsRow m e size v k xs := h.kept (row := none) ⟨hb.os, hb.tape, hb.output, hb.size, fun k hk _ => hb.block k hk⟩ (by cases v.ownBlock <;> simp)
set_option maxHeartbeats 2000000 in
theorem ahead_is (a b c : Int) (u : Bool) (g : Nat) (p q r : Int) (t : Bool) (w : World) (hg : RowAt w g [.int .i64 p, .int .u64 q, .int .i64 r, .bool t] 48) :
    Calls Try.prog 48 #[.agg #[.int .i64 a, .int .u64 b, .int .i64 c, .bool u], .pointer (some ⟨g, 0, none⟩)] w fun e w' => e = .returned (.bool (decide (a < p))) ∧ Below w.heap.size w w' := by
  obtain ⟨X, hX⟩ : ∃ X, X = w.alloc (.cells #[.int .i64 a, .int .u64 b, .int .i64 c, .bool u] 48) := ⟨_, rfl⟩
  have hB : Below w.heap.size w X := by rw [hX]; exact below_new (Below.refl _ _) _
  have r0 : RowAt X w.heap.size [.int .i64 a, .int .u64 b, .int .i64 c, .bool u] 48 := by rw [hX]; exact RowAt.new _ _ _
  have r1 := RowAt.below hg hB
  obtain ⟨x0, x1, x2, x3, xf⟩ := cells4 r0
  obtain ⟨y0, y1, y2, y3, yf⟩ := cells4 r1
  clear r0 r1 hg
  go_enter Try.func48, Try.ntmps48
  go_upto_region 1 with fail
  rw [← hX]
  clear hX
  go_wp2_with fail
  go_ret
  exact ⟨rfl, hB⟩
set_option maxHeartbeats 4000000 in
set_option maxRecDepth 20000 in
theorem ahead_any (l : List St) (v : Value) (g : Nat) (p q r : Int) (t : Bool) (w : World) (h : HasSts w v l) (hg : RowAt w g [.int .i64 p, .int .u64 q, .int .i64 r, .bool t] 48) (hl : l.length ≤ 1000) :
    Calls Try.prog 51 #[v, .func (.func 48) #[] #[.pointer (some ⟨g, 0, none⟩)]] w fun e w' => ∃ u, e = .returned u ∧ w'.ownsRow w.heap.size 48 4 u (ahead l p).length (stCs (ahead l p)) ∧ Below w.heap.size w w' := by
  obtain ⟨o, c, rfl, hc1, hc2⟩ := HasRow.slice h
  have HR : Hid (∀ wr : World, Below w.heap.size w wr → HasSts wr (.slice o l.length c) l ∧ RowAt wr g [.int .i64 p, .int .u64 q, .int .i64 r, .bool t] 48) := fun wr hb => ⟨h.keep hb, RowAt.below hg hb⟩
  obtain ⟨n, hn⟩ : ∃ n, n = l.length := ⟨_, rfl⟩
  have HN : Hid (n = l.length) := hn
  rw [← hn] at HR hc1 hl ⊢
  have hni : (n : Int) ≤ 1000 := by omega
  clear h hg hn hl
  go_enter Try.func51, Try.ntmps51
  go_wp2_with fail
  go_loopw [5, 10] (fun s i wr => ∃ k : Nat, k ≤ n ∧ i = .int .i64 k ∧ Below w.heap.size w wr ∧ Hid (wr.ownsRow w.heap.size 48 4 s (ahead (l.take k) p).length (stCs (ahead (l.take k) p)))) (fun _ i _ => n - (intOf i).toNat)
  case atStart => exact ⟨0, by omega, rfl, Below.refl _ _, World.ownsRow_nil _ _ _ _⟩
  case round =>
    obtain ⟨k, hk, rfl, hB, HO⟩ := hrel
    obtain ⟨hh, hr⟩ := HR.out _ hB
    by_cases hlt : k < n
    · have hkz : k < l.length := by rw [← HN.out]; exact hlt
      obtain ⟨g1, i1, rfl, hg1, a0, a1, a2, a3⟩ := HasSts.cell hh k hkz
      have hstep : ahead (l.take (k + 1)) p = ahead (l.take k) p ++ (if decide (l[k].router < p) then [l[k]] else []) := by
        unfold ahead
        rw [List.take_succ_eq_append_getElem hkz, List.filter_append, List.filter_cons, List.filter_nil]
      have hlen : (ahead (l.take k) p).length ≤ n := by
        unfold ahead
        refine Nat.le_trans (List.length_filter_le _ _) ?_
        rw [List.length_take]; omega
      have HB1 : Hid (decide (l[k].router < p) = true → ahead (l.take (k + 1)) p = ahead (l.take k) p ++ [l[k]]) := fun e => by rw [hstep, e]; rfl
      have HB2 : Hid (decide (l[k].router < p) = false → ahead (l.take (k + 1)) p = ahead (l.take k) p) := fun e => by rw [hstep, e]; simp
      have hki : (k : Int) < (n : Int) := by omega
      have HST : Hid (∃ s0 : St, s0 = l[k]) := ⟨_, rfl⟩
      obtain ⟨s0, hs0⟩ := HST.out
      rw [← hs0] at a0 a1 a2 a3 HB1 HB2
      clear hs0 HST hstep hg1
      go_upto_region 5 with fail
      obtain ⟨X, hX⟩ : ∃ X, X = wr.alloc (.cells #[.int .i64 s0.router, .int .u64 (s0.seq : Int), .int .i64 s0.time, .bool s0.up] 48) := ⟨_, rfl⟩
      have hbX : Below wr.heap.size wr X := by rw [hX]; exact below_new (Below.refl _ _) _
      have rx : RowAt X wr.heap.size [.int .i64 s0.router, .int .u64 (s0.seq : Int), .int .i64 s0.time, .bool s0.up] 48 := by rw [hX]; exact RowAt.new _ _ _
      rw [← hX]
      have hOX := own_below HO.out hbX
      have hBX := below2 hB hbX
      have cr := ahead_is s0.router (s0.seq : Int) s0.time s0.up g p q r t X (RowAt.below hr hbX)
      clear hX a0 a1 a2 a3 hh hr HO
      obtain ⟨gs, hgs⟩ : ∃ g, g = wr.heap.size := ⟨_, rfl⟩
      rw [← hgs] at rx ⊢
      clear hgs hbX
      obtain ⟨x0, x1, x2, x3, xf⟩ := cells4 rx
      generalize decide (s0.router < p) = B at cr HB1 HB2
      go_wp2_with fail
      go_at_call 48; refine cr.mono ?_; rintro e w1 ⟨rfl, hb1⟩
      have hW := below2 hBX hb1
      have hO1 := own_below hOX hb1
      replace rx := RowAt.below rx hb1
      clear x0 x1 x2 x3 xf hOX hBX hb1 cr
      obtain ⟨x0, x1, x2, x3, xf⟩ := cells4 rx
      cases B
      · have HO2 : Hid (w1.ownsRow w.heap.size 48 4 u5 (ahead (l.take (k + 1)) p).length (stCs (ahead (l.take (k + 1)) p))) := by
          show w1.ownsRow _ _ _ _ _ _
          rw [HB2.out rfl]; exact hO1
        clear HB1 HB2 hO1 rx
        go_wp2_with fail
        go_roundw
        case rel => exact ⟨k + 1, by omega, by go_num, hW, HO2⟩
        case measure => simp [intOf]; omega
      · obtain ⟨Y, hY⟩ : ∃ Y, Y = w1.alloc (.cells #[.int .i64 s0.router, .int .u64 (s0.seq : Int), .int .i64 s0.time, .bool s0.up] 48) := ⟨_, rfl⟩
        have hbY : Below w1.heap.size w1 Y := by rw [hY]; exact below_new (Below.refl _ _) _
        have hOY := own_below hO1 hbY
        have hsrc : HasSts Y (.slice (some ⟨w1.heap.size, 0, none⟩) 1 1) [s0] := by rw [hY]; exact one_has w1 s0
        have hBY := below2 hW hbY
        obtain ⟨v', w3, hrun, ho3, hg3⟩ := append_row info_seat Try.underlying44 rfl (by decide) hOY hsrc (one_seats [s0]) (by simp only [List.length_cons, List.length_nil]; omega) (by simp only [List.length_cons, List.length_nil]; omega) hBY.size
        have hB3 : Below w.heap.size w w3 := hBY.grown hg3 hBY.size (fun k e => (hOY.lt k e).1)
        have HO3 : Hid (w3.ownsRow w.heap.size 48 4 v' (ahead (l.take (k + 1)) p).length (stCs (ahead (l.take (k + 1)) p))) := by
          show w3.ownsRow _ _ _ _ _ _
          rw [HB1.out rfl, stCs_app, List.length_append]; exact ho3
        clear HB1 HB2 hO1 rx hOY hsrc ho3 hg3 hBY hbY
        go_upto_region 6 with fail
        rw [hY] at hrun
        go_wp2_with fail
        go_roundw
        case rel => exact ⟨k + 1, by omega, by go_num, hB3, HO3⟩
        case measure => simp [intOf]; omega
    · obtain rfl : k = n := by omega
      have HO2 : Hid (wr.ownsRow w.heap.size 48 4 u5 (ahead l p).length (stCs (ahead l p))) := by
        have := HO.out
        rw [List.take_of_length_le (by rw [← HN.out]; exact Nat.le_refl _)] at this
        exact this
      clear hh hr HO
      go_wp2
      go_ret
      exact ⟨_, rfl, HO2.out, hB⟩
set_option maxHeartbeats 2000000 in
theorem behind_is (a b c : Int) (u : Bool) (g : Nat) (p q r : Int) (t : Bool) (w : World) (hg : RowAt w g [.int .i64 p, .int .u64 q, .int .i64 r, .bool t] 48) :
    Calls Try.prog 49 #[.agg #[.int .i64 a, .int .u64 b, .int .i64 c, .bool u], .pointer (some ⟨g, 0, none⟩)] w fun e w' => e = .returned (.bool (decide (p < a))) ∧ Below w.heap.size w w' := by
  obtain ⟨X, hX⟩ : ∃ X, X = w.alloc (.cells #[.int .i64 a, .int .u64 b, .int .i64 c, .bool u] 48) := ⟨_, rfl⟩
  have hB : Below w.heap.size w X := by rw [hX]; exact below_new (Below.refl _ _) _
  have r0 : RowAt X w.heap.size [.int .i64 a, .int .u64 b, .int .i64 c, .bool u] 48 := by rw [hX]; exact RowAt.new _ _ _
  have r1 := RowAt.below hg hB
  obtain ⟨x0, x1, x2, x3, xf⟩ := cells4 r0
  obtain ⟨y0, y1, y2, y3, yf⟩ := cells4 r1
  clear r0 r1 hg
  go_enter Try.func49, Try.ntmps49
  go_upto_region 1 with fail
  rw [← hX]
  clear hX
  go_wp2_with fail
  go_ret
  exact ⟨rfl, hB⟩
set_option maxHeartbeats 4000000 in
set_option maxRecDepth 20000 in
theorem behind_any (l : List St) (v : Value) (g : Nat) (p q r : Int) (t : Bool) (w : World) (h : HasSts w v l) (hg : RowAt w g [.int .i64 p, .int .u64 q, .int .i64 r, .bool t] 48) (hl : l.length ≤ 1000) :
    Calls Try.prog 51 #[v, .func (.func 49) #[] #[.pointer (some ⟨g, 0, none⟩)]] w fun e w' => ∃ u, e = .returned u ∧ w'.ownsRow w.heap.size 48 4 u (behind l p).length (stCs (behind l p)) ∧ Below w.heap.size w w' := by
  obtain ⟨o, c, rfl, hc1, hc2⟩ := HasRow.slice h
  have HR : Hid (∀ wr : World, Below w.heap.size w wr → HasSts wr (.slice o l.length c) l ∧ RowAt wr g [.int .i64 p, .int .u64 q, .int .i64 r, .bool t] 48) := fun wr hb => ⟨h.keep hb, RowAt.below hg hb⟩
  obtain ⟨n, hn⟩ : ∃ n, n = l.length := ⟨_, rfl⟩
  have HN : Hid (n = l.length) := hn
  rw [← hn] at HR hc1 hl ⊢
  have hni : (n : Int) ≤ 1000 := by omega
  clear h hg hn hl
  go_enter Try.func51, Try.ntmps51
  go_wp2_with fail
  go_loopw [5, 10] (fun s i wr => ∃ k : Nat, k ≤ n ∧ i = .int .i64 k ∧ Below w.heap.size w wr ∧ Hid (wr.ownsRow w.heap.size 48 4 s (behind (l.take k) p).length (stCs (behind (l.take k) p)))) (fun _ i _ => n - (intOf i).toNat)
  case atStart => exact ⟨0, by omega, rfl, Below.refl _ _, World.ownsRow_nil _ _ _ _⟩
  case round =>
    obtain ⟨k, hk, rfl, hB, HO⟩ := hrel
    obtain ⟨hh, hr⟩ := HR.out _ hB
    by_cases hlt : k < n
    · have hkz : k < l.length := by rw [← HN.out]; exact hlt
      obtain ⟨g1, i1, rfl, hg1, a0, a1, a2, a3⟩ := HasSts.cell hh k hkz
      have hstep : behind (l.take (k + 1)) p = behind (l.take k) p ++ (if decide (p < l[k].router) then [l[k]] else []) := by
        unfold behind
        rw [List.take_succ_eq_append_getElem hkz, List.filter_append, List.filter_cons, List.filter_nil]
      have hlen : (behind (l.take k) p).length ≤ n := by
        unfold behind
        refine Nat.le_trans (List.length_filter_le _ _) ?_
        rw [List.length_take]; omega
      have HB1 : Hid (decide (p < l[k].router) = true → behind (l.take (k + 1)) p = behind (l.take k) p ++ [l[k]]) := fun e => by rw [hstep, e]; rfl
      have HB2 : Hid (decide (p < l[k].router) = false → behind (l.take (k + 1)) p = behind (l.take k) p) := fun e => by rw [hstep, e]; simp
      have hki : (k : Int) < (n : Int) := by omega
      have HST : Hid (∃ s0 : St, s0 = l[k]) := ⟨_, rfl⟩
      obtain ⟨s0, hs0⟩ := HST.out
      rw [← hs0] at a0 a1 a2 a3 HB1 HB2
      clear hs0 HST hstep hg1
      go_upto_region 5 with fail
      obtain ⟨X, hX⟩ : ∃ X, X = wr.alloc (.cells #[.int .i64 s0.router, .int .u64 (s0.seq : Int), .int .i64 s0.time, .bool s0.up] 48) := ⟨_, rfl⟩
      have hbX : Below wr.heap.size wr X := by rw [hX]; exact below_new (Below.refl _ _) _
      have rx : RowAt X wr.heap.size [.int .i64 s0.router, .int .u64 (s0.seq : Int), .int .i64 s0.time, .bool s0.up] 48 := by rw [hX]; exact RowAt.new _ _ _
      rw [← hX]
      have hOX := own_below HO.out hbX
      have hBX := below2 hB hbX
      have cr := behind_is s0.router (s0.seq : Int) s0.time s0.up g p q r t X (RowAt.below hr hbX)
      clear hX a0 a1 a2 a3 hh hr HO
      obtain ⟨gs, hgs⟩ : ∃ g, g = wr.heap.size := ⟨_, rfl⟩
      rw [← hgs] at rx ⊢
      clear hgs hbX
      obtain ⟨x0, x1, x2, x3, xf⟩ := cells4 rx
      generalize decide (p < s0.router) = B at cr HB1 HB2
      go_wp2_with fail
      go_at_call 49; refine cr.mono ?_; rintro e w1 ⟨rfl, hb1⟩
      have hW := below2 hBX hb1
      have hO1 := own_below hOX hb1
      replace rx := RowAt.below rx hb1
      clear x0 x1 x2 x3 xf hOX hBX hb1 cr
      obtain ⟨x0, x1, x2, x3, xf⟩ := cells4 rx
      cases B
      · have HO2 : Hid (w1.ownsRow w.heap.size 48 4 u5 (behind (l.take (k + 1)) p).length (stCs (behind (l.take (k + 1)) p))) := by
          show w1.ownsRow _ _ _ _ _ _
          rw [HB2.out rfl]; exact hO1
        clear HB1 HB2 hO1 rx
        go_wp2_with fail
        go_roundw
        case rel => exact ⟨k + 1, by omega, by go_num, hW, HO2⟩
        case measure => simp [intOf]; omega
      · obtain ⟨Y, hY⟩ : ∃ Y, Y = w1.alloc (.cells #[.int .i64 s0.router, .int .u64 (s0.seq : Int), .int .i64 s0.time, .bool s0.up] 48) := ⟨_, rfl⟩
        have hbY : Below w1.heap.size w1 Y := by rw [hY]; exact below_new (Below.refl _ _) _
        have hOY := own_below hO1 hbY
        have hsrc : HasSts Y (.slice (some ⟨w1.heap.size, 0, none⟩) 1 1) [s0] := by rw [hY]; exact one_has w1 s0
        have hBY := below2 hW hbY
        obtain ⟨v', w3, hrun, ho3, hg3⟩ := append_row info_seat Try.underlying44 rfl (by decide) hOY hsrc (one_seats [s0]) (by simp only [List.length_cons, List.length_nil]; omega) (by simp only [List.length_cons, List.length_nil]; omega) hBY.size
        have hB3 : Below w.heap.size w w3 := hBY.grown hg3 hBY.size (fun k e => (hOY.lt k e).1)
        have HO3 : Hid (w3.ownsRow w.heap.size 48 4 v' (behind (l.take (k + 1)) p).length (stCs (behind (l.take (k + 1)) p))) := by
          show w3.ownsRow _ _ _ _ _ _
          rw [HB1.out rfl, stCs_app, List.length_append]; exact ho3
        clear HB1 HB2 hO1 rx hOY hsrc ho3 hg3 hBY hbY
        go_upto_region 6 with fail
        rw [hY] at hrun
        go_wp2_with fail
        go_roundw
        case rel => exact ⟨k + 1, by omega, by go_num, hB3, HO3⟩
        case measure => simp [intOf]; omega
    · obtain rfl : k = n := by omega
      have HO2 : Hid (wr.ownsRow w.heap.size 48 4 u5 (behind l p).length (stCs (behind l p))) := by
        have := HO.out
        rw [List.take_of_length_le (by rw [← HN.out]; exact Nat.le_refl _)] at this
        exact this
      clear hh hr HO
      go_wp2
      go_ret
      exact ⟨_, rfl, HO2.out, hB⟩
end Go.Proofs.Ytckaajadajjijab.Ord
