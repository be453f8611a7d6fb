/- What order.Next answers. -/
import Derived.Test.YtkjhnefbcnnjlaaTv22
import Derived.Deep.RegionHeld
import Derived.Test.YtkjhnefbcnnjlaaTv14
set_option linter.unusedVariables false
namespace Go.Proofs.Ytkjhnefbcnnjlaa.Ord
open Go.RowKit Go.Shelf
open Go.Proofs.Ytkjhnefbcnnjlaa.Addr (RowAt below2 below_new RowAt.lt RowAt.cell RowAt.below RowAt.new RowAt.alloc cells4)
attribute [-go_sem] Builtin.append_

theorem one_has (W : World) (s : St) : HasSts (W.alloc (.cells #[.int .i64 s.router, .int .u64 (s.seq : Int), .int .i64 s.time, .bool s.up] 33)) (.slice (some ⟨W.heap.size, 0, none⟩) 1 1) [s] := by
  refine ⟨rfl, .inr ⟨⟨W.heap.size, 0, none⟩, 1, rfl, Nat.le_refl _, by decide, fun _ => ⟨rfl, by simp⟩, fun j hj => ?_⟩⟩
  rw [addr_add, Nat.zero_add]
  exact (RowAt.new W (stC s) 33).cell j
theorem own_below {W W' : World} {m e size k : Nat} {v : Value} {xs : List Value} (h : W.ownsRow m e size v k xs) (hb : Below W.heap.size W W') : W'.ownsRow m e size v k xs := h.kept (row := none) ⟨hb.os, hb.tape, hb.output, hb.size, fun k hk _ => hb.block k hk⟩ (by cases v.ownBlock <;> simp)
set_option maxHeartbeats 2000000 in
theorem ahead_is (a b c : Int) (u : Bool) (g : Nat) (p q r : Int) (t : Bool) (w : World) (hg : RowAt w g [.int .i64 p, .int .u64 q, .int .i64 r, .bool t] 33) :
    Calls Try.prog 74 #[.agg #[.int .i64 a, .int .u64 b, .int .i64 c, .bool u], .pointer (some ⟨g, 0, none⟩)] w fun e w' => e = .returned (.bool (decide (a < p))) ∧ Below w.heap.size w w' := by
  obtain ⟨X, hX⟩ : ∃ X, X = w.alloc (.cells #[.int .i64 a, .int .u64 b, .int .i64 c, .bool u] 33) := ⟨_, rfl⟩
  have hB : Below w.heap.size w X := by rw [hX]; exact below_new (Below.refl _ _) _
  have r0 : RowAt X w.heap.size [.int .i64 a, .int .u64 b, .int .i64 c, .bool u] 33 := by rw [hX]; exact RowAt.new _ _ _
  have r1 := RowAt.below hg hB
  obtain ⟨x0, x1, x2, x3, xf⟩ := cells4 r0
  obtain ⟨y0, y1, y2, y3, yf⟩ := cells4 r1
  clear r0 r1 hg
  go_enter Try.func74, Try.ntmps74
  go_upto_region 1 with fail
  rw [← hX]
  clear hX
  go_wp2_with fail
  go_ret
  exact ⟨rfl, hB⟩
set_option maxHeartbeats 4000000 in
set_option maxRecDepth 20000 in
theorem ahead_any (l : List St) (v : Value) (g : Nat) (p q r : Int) (t : Bool) (w : World) (h : HasSts w v l) (hg : RowAt w g [.int .i64 p, .int .u64 q, .int .i64 r, .bool t] 33) (hl : l.length ≤ 1000) :
    Calls Try.prog 77 #[v, .func (.func 74) #[] #[.pointer (some ⟨g, 0, none⟩)]] w fun e w' => ∃ u, e = .returned u ∧ w'.ownsRow w.heap.size 33 4 u (ahead l p).length (stCs (ahead l p)) ∧ Below w.heap.size w w' := by
  obtain ⟨o, c, rfl, hc1, hc2⟩ := HasRow.slice h
  have HR : Hid (∀ wr : World, Below w.heap.size w wr → HasSts wr (.slice o l.length c) l ∧ RowAt wr g [.int .i64 p, .int .u64 q, .int .i64 r, .bool t] 33) := fun wr hb => ⟨h.keep hb, RowAt.below hg hb⟩
  obtain ⟨n, hn⟩ : ∃ n, n = l.length := ⟨_, rfl⟩
  have HN : Hid (n = l.length) := hn
  rw [← hn] at HR hc1 hl ⊢
  have hni : (n : Int) ≤ 1000 := by omega
  clear h hg hn hl
  go_enter Try.func77, Try.ntmps77
  go_wp2_with fail
  go_loopw [5, 10] (fun s i wr => ∃ k : Nat, k ≤ n ∧ i = .int .i64 k ∧ Below w.heap.size w wr ∧ Hid (wr.ownsRow w.heap.size 33 4 s (ahead (l.take k) p).length (stCs (ahead (l.take k) p)))) (fun _ i _ => n - (intOf i).toNat)
  case atStart => exact ⟨0, by omega, rfl, Below.refl _ _, World.ownsRow_nil _ _ _ _⟩
  case round =>
    obtain ⟨k, hk, rfl, hB, HO⟩ := hrel
    obtain ⟨hh, hr⟩ := HR.out _ hB
    by_cases hlt : k < n
    · have hkz : k < l.length := by rw [← HN.out]; exact hlt
      obtain ⟨g1, i1, rfl, hg1, a0, a1, a2, a3⟩ := HasSts.cell hh k hkz
      have hstep : ahead (l.take (k + 1)) p = ahead (l.take k) p ++ (if decide (l[k].router < p) then [l[k]] else []) := by
        unfold ahead
        rw [List.take_succ_eq_append_getElem hkz, List.filter_append, List.filter_cons, List.filter_nil]
      have hlen : (ahead (l.take k) p).length ≤ n := by
        unfold ahead
        refine Nat.le_trans (List.length_filter_le _ _) ?_
        rw [List.length_take]; omega
      have HB1 : Hid (decide (l[k].router < p) = true → ahead (l.take (k + 1)) p = ahead (l.take k) p ++ [l[k]]) := fun e => by rw [hstep, e]; rfl
      have HB2 : Hid (decide (l[k].router < p) = false → ahead (l.take (k + 1)) p = ahead (l.take k) p) := fun e => by rw [hstep, e]; simp
      have hki : (k : Int) < (n : Int) := by omega
      have HST : Hid (∃ s0 : St, s0 = l[k]) := ⟨_, rfl⟩
      obtain ⟨s0, hs0⟩ := HST.out
      rw [← hs0] at a0 a1 a2 a3 HB1 HB2
      clear hs0 HST hstep hg1
      go_upto_region 5 with fail
      obtain ⟨X, hX⟩ : ∃ X, X = wr.alloc (.cells #[.int .i64 s0.router, .int .u64 (s0.seq : Int), .int .i64 s0.time, .bool s0.up] 33) := ⟨_, rfl⟩
      have hbX : Below wr.heap.size wr X := by rw [hX]; exact below_new (Below.refl _ _) _
      have rx : RowAt X wr.heap.size [.int .i64 s0.router, .int .u64 (s0.seq : Int), .int .i64 s0.time, .bool s0.up] 33 := by rw [hX]; exact RowAt.new _ _ _
      rw [← hX]
      have hOX := own_below HO.out hbX
      have hBX := below2 hB hbX
      have cr := ahead_is s0.router (s0.seq : Int) s0.time s0.up g p q r t X (RowAt.below hr hbX)
      clear hX a0 a1 a2 a3 hh hr HO
      obtain ⟨gs, hgs⟩ : ∃ g, g = wr.heap.size := ⟨_, rfl⟩
      rw [← hgs] at rx ⊢
      clear hgs hbX
      obtain ⟨x0, x1, x2, x3, xf⟩ := cells4 rx
      generalize decide (s0.router < p) = B at cr HB1 HB2
      go_wp2_with fail
      go_at_call 74; refine cr.mono ?_; rintro e w1 ⟨rfl, hb1⟩
      have hW := below2 hBX hb1
      have hO1 := own_below hOX hb1
      replace rx := RowAt.below rx hb1
      clear x0 x1 x2 x3 xf hOX hBX hb1 cr
      obtain ⟨x0, x1, x2, x3, xf⟩ := cells4 rx
      cases B
      · have HO2 : Hid (w1.ownsRow w.heap.size 33 4 u5 (ahead (l.take (k + 1)) p).length (stCs (ahead (l.take (k + 1)) p))) := by
          show w1.ownsRow _ _ _ _ _ _
          rw [HB2.out rfl]; exact hO1
        clear HB1 HB2 hO1 rx
        go_wp2_with fail
        go_roundw
        case rel => exact ⟨k + 1, by omega, by go_num, hW, HO2⟩
        case measure => simp [intOf]; omega
      · obtain ⟨Y, hY⟩ : ∃ Y, Y = w1.alloc (.cells #[.int .i64 s0.router, .int .u64 (s0.seq : Int), .int .i64 s0.time, .bool s0.up] 33) := ⟨_, rfl⟩
        have hbY : Below w1.heap.size w1 Y := by rw [hY]; exact below_new (Below.refl _ _) _
        have hOY := own_below hO1 hbY
        have hsrc : HasSts Y (.slice (some ⟨w1.heap.size, 0, none⟩) 1 1) [s0] := by rw [hY]; exact one_has w1 s0
        have hBY := below2 hW hbY
        obtain ⟨v', w3, hrun, ho3, hg3⟩ := append_row info_seat Try.underlying24 rfl (by decide) hOY hsrc (one_seats [s0]) (by simp only [List.length_cons, List.length_nil]; omega) (by simp only [List.length_cons, List.length_nil]; omega) hBY.size
        have hB3 : Below w.heap.size w w3 := hBY.grown hg3 hBY.size (fun k e => (hOY.lt k e).1)
        have HO3 : Hid (w3.ownsRow w.heap.size 33 4 v' (ahead (l.take (k + 1)) p).length (stCs (ahead (l.take (k + 1)) p))) := by
          show w3.ownsRow _ _ _ _ _ _
          rw [HB1.out rfl, stCs_app, List.length_append]; exact ho3
        clear HB1 HB2 hO1 rx hOY hsrc ho3 hg3 hBY hbY
        go_upto_region 6 with fail
        rw [hY] at hrun
        go_wp2_with fail
        go_roundw
        case rel => exact ⟨k + 1, by omega, by go_num, hB3, HO3⟩
        case measure => simp [intOf]; omega
    · obtain rfl : k = n := by omega
      have HO2 : Hid (wr.ownsRow w.heap.size 33 4 u5 (ahead l p).length (stCs (ahead l p))) := by
        have := HO.out
        rw [List.take_of_length_le (by rw [← HN.out]; exact Nat.le_refl _)] at this
        exact this
      clear hh hr HO
      go_wp2
      go_ret
      exact ⟨_, rfl, HO2.out, hB⟩
set_option maxHeartbeats 2000000 in
theorem behind_is (a b c : Int) (u : Bool) (g : Nat) (p q r : Int) (t : Bool) (w : World) (hg : RowAt w g [.int .i64 p, .int .u64 q, .int .i64 r, .bool t] 33) :
    Calls Try.prog 75 #[.agg #[.int .i64 a, .int .u64 b, .int .i64 c, .bool u], .pointer (some ⟨g, 0, none⟩)] w fun e w' => e = .returned (.bool (decide (p < a))) ∧ Below w.heap.size w w' := by
  obtain ⟨X, hX⟩ : ∃ X, X = w.alloc (.cells #[.int .i64 a, .int .u64 b, .int .i64 c, .bool u] 33) := ⟨_, rfl⟩
  have hB : Below w.heap.size w X := by rw [hX]; exact below_new (Below.refl _ _) _
  have r0 : RowAt X w.heap.size [.int .i64 a, .int .u64 b, .int .i64 c, .bool u] 33 := by rw [hX]; exact RowAt.new _ _ _
  have r1 := RowAt.below hg hB
  obtain ⟨x0, x1, x2, x3, xf⟩ := cells4 r0
  obtain ⟨y0, y1, y2, y3, yf⟩ := cells4 r1
  clear r0 r1 hg
  go_enter Try.func75, Try.ntmps75
  go_upto_region 1 with fail
  rw [← hX]
  clear hX
  go_wp2_with fail
  go_ret
  exact ⟨rfl, hB⟩
set_option maxHeartbeats 4000000 in
set_option maxRecDepth 20000 in
theorem behind_any (l : List St) (v : Value) (g : Nat) (p q r : Int) (t : Bool) (w : World) (h : HasSts w v l) (hg : RowAt w g [.int .i64 p, .int .u64 q, .int .i64 r, .bool t] 33) (hl : l.length ≤ 1000) :
    Calls Try.prog 77 #[v, .func (.func 75) #[] #[.pointer (some ⟨g, 0, none⟩)]] w fun e w' => ∃ u, e = .returned u ∧ w'.ownsRow w.heap.size 33 4 u (behind l p).length (stCs (behind l p)) ∧ Below w.heap.size w w' := by
  obtain ⟨o, c, rfl, hc1, hc2⟩ := HasRow.slice h
  have HR : Hid (∀ wr : World, Below w.heap.size w wr → HasSts wr (.slice o l.length c) l ∧ RowAt wr g [.int .i64 p, .int .u64 q, .int .i64 r, .bool t] 33) := fun wr hb => ⟨h.keep hb, RowAt.below hg hb⟩
  obtain ⟨n, hn⟩ : ∃ n, n = l.length := ⟨_, rfl⟩
  have HN : Hid (n = l.length) := hn
  rw [← hn] at HR hc1 hl ⊢
  have hni : (n : Int) ≤ 1000 := by omega
  clear h hg hn hl
  go_enter Try.func77, Try.ntmps77
  go_wp2_with fail
  go_loopw [5, 10] (fun s i wr => ∃ k : Nat, k ≤ n ∧ i = .int .i64 k ∧ Below w.heap.size w wr ∧ Hid (wr.ownsRow w.heap.size 33 4 s (behind (l.take k) p).length (stCs (behind (l.take k) p)))) (fun _ i _ => n - (intOf i).toNat)
  case atStart => exact ⟨0, by omega, rfl, Below.refl _ _, World.ownsRow_nil _ _ _ _⟩
  case round =>
    obtain ⟨k, hk, rfl, hB, HO⟩ := hrel
    obtain ⟨hh, hr⟩ := HR.out _ hB
    by_cases hlt : k < n
    · have hkz : k < l.length := by rw [← HN.out]; exact hlt
      obtain ⟨g1, i1, rfl, hg1, a0, a1, a2, a3⟩ := HasSts.cell hh k hkz
      have hstep : behind (l.take (k + 1)) p = behind (l.take k) p ++ (if decide (p < l[k].router) then [l[k]] else []) := by
        unfold behind
        rw [List.take_succ_eq_append_getElem hkz, List.filter_append, List.filter_cons, List.filter_nil]
      have hlen : (behind (l.take k) p).length ≤ n := by
        unfold behind
        refine Nat.le_trans (List.length_filter_le _ _) ?_
        rw [List.length_take]; omega
      have HB1 : Hid (decide (p < l[k].router) = true → behind (l.take (k + 1)) p = behind (l.take k) p ++ [l[k]]) := fun e => by rw [hstep, e]; rfl
      have HB2 : Hid (decide (p < l[k].router) = false → behind (l.take (k + 1)) p = behind (l.take k) p) := fun e => by rw [hstep, e]; simp
      have hki : (k : Int) < (n : Int) := by omega
      have HST : Hid (∃ s0 : St, s0 = l[k]) := ⟨_, rfl⟩
      obtain ⟨s0, hs0⟩ := HST.out
      rw [← hs0] at a0 a1 a2 a3 HB1 HB2
      clear hs0 HST hstep hg1
      go_upto_region 5 with fail
      obtain ⟨X, hX⟩ : ∃ X, X = wr.alloc (.cells #[.int .i64 s0.router, .int .u64 (s0.seq : Int), .int .i64 s0.time, .bool s0.up] 33) := ⟨_, rfl⟩
      have hbX : Below wr.heap.size wr X := by rw [hX]; exact below_new (Below.refl _ _) _
      have rx : RowAt X wr.heap.size [.int .i64 s0.router, .int .u64 (s0.seq : Int), .int .i64 s0.time, .bool s0.up] 33 := by rw [hX]; exact RowAt.new _ _ _
      rw [← hX]
      have hOX := own_below HO.out hbX
      have hBX := below2 hB hbX
      have cr := behind_is s0.router (s0.seq : Int) s0.time s0.up g p q r t X (RowAt.below hr hbX)
      clear hX a0 a1 a2 a3 hh hr HO
      obtain ⟨gs, hgs⟩ : ∃ g, g = wr.heap.size := ⟨_, rfl⟩
      rw [← hgs] at rx ⊢
      clear hgs hbX
      obtain ⟨x0, x1, x2, x3, xf⟩ := cells4 rx
      generalize decide (p < s0.router) = B at cr HB1 HB2
      go_wp2_with fail
      go_at_call 75; refine cr.mono ?_; rintro e w1 ⟨rfl, hb1⟩
      have hW := below2 hBX hb1
      have hO1 := own_below hOX hb1
      replace rx := RowAt.below rx hb1
      clear x0 x1 x2 x3 xf hOX hBX hb1 cr
      obtain ⟨x0, x1, x2, x3, xf⟩ := cells4 rx
      cases B
      · have HO2 : Hid (w1.ownsRow w.heap.size 33 4 u5 (behind (l.take (k + 1)) p).length (stCs (behind (l.take (k + 1)) p))) := by
          show w1.ownsRow _ _ _ _ _ _
          rw [HB2.out rfl]; exact hO1
        clear HB1 HB2 hO1 rx
        go_wp2_with fail
        go_roundw
        case rel => exact ⟨k + 1, by omega, by go_num, hW, HO2⟩
        case measure => simp [intOf]; omega
      · obtain ⟨Y, hY⟩ : ∃ Y, Y = w1.alloc (.cells #[.int .i64 s0.router, .int .u64 (s0.seq : Int), .int .i64 s0.time, .bool s0.up] 33) := ⟨_, rfl⟩
        have hbY : Below w1.heap.size w1 Y := by rw [hY]; exact below_new (Below.refl _ _) _
        have hOY := own_below hO1 hbY
        have hsrc : HasSts Y (.slice (some ⟨w1.heap.size, 0, none⟩) 1 1) [s0] := by rw [hY]; exact one_has w1 s0
        have hBY := below2 hW hbY
        obtain ⟨v', w3, hrun, ho3, hg3⟩ := append_row info_seat Try.underlying24 rfl (by decide) hOY hsrc (one_seats [s0]) (by simp only [List.length_cons, List.length_nil]; omega) (by simp only [List.length_cons, List.length_nil]; omega) hBY.size
        have hB3 : Below w.heap.size w w3 := hBY.grown hg3 hBY.size (fun k e => (hOY.lt k e).1)
        have HO3 : Hid (w3.ownsRow w.heap.size 33 4 v' (behind (l.take (k + 1)) p).length (stCs (behind (l.take (k + 1)) p))) := by
          show w3.ownsRow _ _ _ _ _ _
          rw [HB1.out rfl, stCs_app, List.length_append]; exact ho3
        clear HB1 HB2 hO1 rx hOY hsrc ho3 hg3 hBY hbY
        go_upto_region 6 with fail
        rw [hY] at hrun
        go_wp2_with fail
        go_roundw
        case rel => exact ⟨k + 1, by omega, by go_num, hB3, HO3⟩
        case measure => simp [intOf]; omega
    · obtain rfl : k = n := by omega
      have HO2 : Hid (wr.ownsRow w.heap.size 33 4 u5 (behind l p).length (stCs (behind l p))) := by
        have := HO.out
        rw [List.take_of_length_le (by rw [← HN.out]; exact Nat.le_refl _)] at this
        exact this
      clear hh hr HO
      go_wp2
      go_ret
      exact ⟨_, rfl, HO2.out, hB⟩
end Go.Proofs.Ytkjhnefbcnnjlaa.Ord
namespace Go.Proofs.Ytkjhnefbcnnjlaa.Ord
open Go.RowKit Go.Shelf
open Go.Proofs.Ytkjhnefbcnnjlaa.Addr (RowAt below2 below_drew below_new RowAt.lt RowAt.cell RowAt.below RowAt.drew RowAt.new RowAt.alloc cells4)
attribute [-go_sem] Builtin.append_

theorem own_slice {W : World} {B e sz n : Nat} {v : Value} {cs : List Value} (h : W.ownsRow B e sz v n cs) : ∃ o c, v = .slice o n c := by
  obtain ⟨o, c, e, _⟩ := HasRow.slice (hasRow_own h)
  exact ⟨o, c, e⟩
theorem seats_len (l : List St) (p : Int) : (ahead l p).length ≤ l.length ∧ (behind l p).length ≤ l.length := ⟨List.length_filter_le _ _, List.length_filter_le _ _⟩
theorem one_keep {L Y : World} (s : St) (hb : Below (L.alloc (.cells #[.int .i64 s.router, .int .u64 (s.seq : Int), .int .i64 s.time, .bool s.up] 33)).heap.size (L.alloc (.cells #[.int .i64 s.router, .int .u64 (s.seq : Int), .int .i64 s.time, .bool s.up] 33)) Y) : HasSts Y (.slice (some ⟨L.heap.size, 0, none⟩) 1 1) [s] := (one_has L s).keep hb
theorem one_keep2 {L Y : World} (s : St) (hb : Below (L.alloc (.cells #[.int .i64 s.router, .int .u64 (s.seq : Int), .int .i64 s.time, .bool s.up] 33)).drew.heap.size (L.alloc (.cells #[.int .i64 s.router, .int .u64 (s.seq : Int), .int .i64 s.time, .bool s.up] 33)).drew Y) : HasSts Y (.slice (some ⟨L.heap.size, 0, none⟩) 1 1) [s] := ((one_has L s).keep (below_drew (Below.refl _ _))).keep hb
/-- three rows put together, in a world in which a row of the three has just been made -/
theorem three (L : World) (la lb lc : List St) (oa ob oc : Option Addr) (na nb nc ca cb cc : Nat) (ea : na = la.length) (eb : nb = lb.length) (ec : nc = lc.length)
    (ha : HasSts L (.slice oa na ca) la) (hb : HasSts L (.slice ob nb cb) lb) (hc : HasSts L (.slice oc nc cc) lc) (hla : na ≤ 1000) (hlb : nb ≤ 1000) (hlc : nc ≤ 1000) (W : World)
    (hW : W = L.alloc (.cells #[.slice oa na ca, .slice ob nb cb, .slice oc nc cc] 24) ∨ W = (L.alloc (.cells #[.slice oa na ca, .slice ob nb cb, .slice oc nc cc] 24)).drew) :
    Calls Try.prog 76 #[.slice (some ⟨L.heap.size, 0, none⟩) 3 3] W fun e w' => ∃ v, e = .returned v ∧ (∃ B, L.heap.size ≤ B ∧ w'.ownsRow B 33 4 v (la ++ (lb ++ lc)).length (stCs (la ++ (lb ++ lc)))) ∧ Below L.heap.size L w' := by
  have hbW : Below L.heap.size L W := by
    rcases hW with rfl | rfl
    · exact below_new (Below.refl _ _) _
    · exact below_drew (below_new (Below.refl _ _) _)
  have rw1 : RowAt W L.heap.size [.slice oa na ca, .slice ob nb cb, .slice oc nc cc] 24 := by
    rcases hW with rfl | rfl
    · exact RowAt.new _ _ _
    · exact (RowAt.new _ _ _).drew
  refine (concat_any L.heap.size la lb lc oa ob oc na nb nc ca cb cc W rw1.lt (rw1.cell 0) (rw1.cell 1) (rw1.cell 2) ea eb ec (ha.keep hbW) (hb.keep hbW) (hc.keep hbW) hla hlb hlc).mono ?_
  rintro e w' ⟨v, rfl, ho, hb'⟩
  exact ⟨v, rfl, ⟨W.heap.size, hbW.size, ho⟩, below2 hbW hb'⟩
theorem three3 (L : World) (s : St) (la lc : List St) (oa oc : Option Addr) (na nc ca cc : Nat) (ea : na = la.length) (ec : nc = lc.length)
    (ha : HasSts L (.slice oa na ca) la) (hc : HasSts L (.slice oc nc cc) lc) (hla : na ≤ 1000) (hlc : nc ≤ 1000) (W : World)
    (hW : W = (L.alloc (.cells #[.int .i64 s.router, .int .u64 (s.seq : Int), .int .i64 s.time, .bool s.up] 33)).alloc (.cells #[.slice oa na ca, .slice (some ⟨L.heap.size, 0, none⟩) 1 1, .slice oc nc cc] 24) ∨ W = ((L.alloc (.cells #[.int .i64 s.router, .int .u64 (s.seq : Int), .int .i64 s.time, .bool s.up] 33)).alloc (.cells #[.slice oa na ca, .slice (some ⟨L.heap.size, 0, none⟩) 1 1, .slice oc nc cc] 24)).drew) :
    Calls Try.prog 76 #[.slice (some ⟨L.heap.size + 1, 0, none⟩) 3 3] W fun e w' => ∃ v, e = .returned v ∧ (∃ B, L.heap.size ≤ B ∧ w'.ownsRow B 33 4 v (la ++ ([s] ++ lc)).length (stCs (la ++ ([s] ++ lc)))) ∧ Below L.heap.size L w' := by
  have hb := below_new (Below.refl _ L) (.cells #[.int .i64 s.router, .int .u64 (s.seq : Int), .int .i64 s.time, .bool s.up] 33)
  have h := three (L.alloc (.cells #[.int .i64 s.router, .int .u64 (s.seq : Int), .int .i64 s.time, .bool s.up] 33)) la [s] lc oa _ oc na 1 nc ca 1 cc ea rfl ec (ha.keep hb) (one_has L s) (hc.keep hb) hla (by decide) hlc W hW
  have e1 : (L.alloc (.cells #[.int .i64 s.router, .int .u64 (s.seq : Int), .int .i64 s.time, .bool s.up] 33)).heap.size = L.heap.size + 1 := World.size_alloc _ _
  rw [show (⟨(L.alloc (.cells #[.int .i64 s.router, .int .u64 (s.seq : Int), .int .i64 s.time, .bool s.up] 33)).heap.size, 0, none⟩ : Addr) = ⟨L.heap.size + 1, 0, none⟩ by rw [e1]] at h
  refine h.mono ?_
  rintro e w' ⟨v, rfl, ⟨B, hB, ho⟩, hb'⟩
  exact ⟨v, rfl, ⟨B, Nat.le_trans hb.size hB, ho⟩, below2 hb hb'⟩
set_option maxHeartbeats 8000000 in
set_option maxRecDepth 20000 in
theorem seated_any (l : List St) (v : Value) (s : St) (w : World) (h : HasSts w v l) (hl : l.length ≤ 1000) :
    Calls Try.prog 54 #[v, stV s] w fun e w' => ∃ u, e = .returned u ∧ (∃ B, w.heap.size ≤ B ∧ w'.ownsRow B 33 4 u (seatedL l s).length (stCs (seatedL l s))) ∧ Below w.heap.size w w' := by
  show Calls Try.prog 54 #[v, .agg #[.int .i64 s.router, .int .u64 (s.seq : Int), .int .i64 s.time, .bool s.up]] w _
  obtain ⟨X, hX⟩ : ∃ X, X = w.alloc (.cells #[.int .i64 s.router, .int .u64 (s.seq : Int), .int .i64 s.time, .bool s.up] 33) := ⟨_, rfl⟩
  have hB : Below w.heap.size w X := by rw [hX]; exact below_new (Below.refl _ _) _
  have rx : RowAt X w.heap.size [.int .i64 s.router, .int .u64 (s.seq : Int), .int .i64 s.time, .bool s.up] 33 := by rw [hX]; exact RowAt.new _ _ _
  have hXs := h.keep hB
  have c1 : Hid (∀ W : World, Below X.heap.size X W → Calls Try.prog 77 #[v, .func (.func 74) #[] #[.pointer (some ⟨w.heap.size, 0, none⟩)]] W fun e w' => ∃ u, e = .returned u ∧ w'.ownsRow W.heap.size 33 4 u (ahead l s.router).length (stCs (ahead l s.router)) ∧ Below W.heap.size W w') := fun W hb => ahead_any l v w.heap.size _ _ _ _ W (hXs.keep hb) (rx.below hb) hl
  have c2 : Hid (∀ W : World, Below X.heap.size X W → Calls Try.prog 77 #[v, .func (.func 75) #[] #[.pointer (some ⟨w.heap.size, 0, none⟩)]] W fun e w' => ∃ u, e = .returned u ∧ w'.ownsRow W.heap.size 33 4 u (behind l s.router).length (stCs (behind l s.router)) ∧ Below W.heap.size W w') := fun W hb => behind_any l v w.heap.size _ _ _ _ W (hXs.keep hb) (rx.below hb) hl
  have HSK : Hid (∀ W : World, Below X.heap.size X W → (W.cell? ⟨w.heap.size, 0, none⟩ = some (.int .i64 s.router) ∧ W.cell? ⟨w.heap.size, 1, none⟩ = some (.int .u64 (s.seq : Int)) ∧ W.cell? ⟨w.heap.size, 2, none⟩ = some (.int .i64 s.time) ∧ W.cell? ⟨w.heap.size, 3, none⟩ = some (.bool s.up))) := fun W hb => by
    have r := RowAt.below rx hb
    exact ⟨r.cell 0, r.cell 1, r.cell 2, r.cell 3⟩
  have HL : Hid (seatedL l s = ahead l s.router ++ ([s] ++ behind l s.router)) := rfl
  generalize seatedL l s = RL at HL ⊢
  obtain ⟨hla, hlb⟩ := seats_len l s.router
  have hla1 : (ahead l s.router).length ≤ 1000 := by omega
  have hlb1 : (behind l s.router).length ≤ 1000 := by omega
  generalize ahead l s.router = LA at *
  generalize behind l s.router = LB at *
  obtain ⟨x0, x1, x2, x3, xf⟩ := cells4 rx
  have hbA : Below X.heap.size X X := Below.refl _ _
  have hone : 1 = [s].length := rfl
  have H1000 : Hid (1 ≤ 1000) := by show 1 ≤ 1000; decide
  have HONE : Hid (1 = [s].length) := hone
  clear hone
  clear h hXs rx hla hlb hl
  go_enter Try.func54, Try.ntmps54
  go_upto_region 1 with fail
  rw [← hX]
  clear hX
  go_upto_region 3 with fail
  go_region_held (fun w' => w'.cell? ⟨w.heap.size, 0, none⟩ = some (.int .i64 s.router) ∧ w'.cell? ⟨w.heap.size, 1, none⟩ = some (.int .u64 (s.seq : Int)) ∧ w'.cell? ⟨w.heap.size, 2, none⟩ = some (.int .i64 s.time) ∧ w'.cell? ⟨w.heap.size, 3, none⟩ = some (.bool s.up))
    (first
      | (refine HSK.out _ ?_
         repeat' (first | with_reducible exact hbA | with_reducible apply below_drew | with_reducible apply below_new))
      | go_keep)
    (first
      | (go_at_call 77
         with_reducible refine (c1.out _ (by repeat' (first | with_reducible exact hbA | with_reducible apply below_drew | with_reducible apply below_new))).mono ?_
         rintro e w3 ⟨u1, rfl, ho1, hb3⟩
         obtain ⟨oa, ca, rfl⟩ := own_slice ho1
         (first | (with_reducible have hlit := one_keep s hb3) | (with_reducible have hlit := one_keep2 s hb3) | skip)
         have hbN : Below X.heap.size X w3 := below2 (by repeat' (first | with_reducible exact hbA | with_reducible apply below_drew | with_reducible apply below_new)) hb3
         have hra : HasSts w3 (.slice oa LA.length ca) LA := hasRow_own ho1
         clear hbA ho1 hb3
         have hbA := hbN
         clear hbN)
      | (go_at_call 77
         with_reducible refine (c2.out _ (by repeat' (first | with_reducible exact hbA | with_reducible apply below_drew | with_reducible apply below_new))).mono ?_
         rintro e w4 ⟨u2, rfl, ho2, hb4⟩
         obtain ⟨ob, cb, rfl⟩ := own_slice ho2
         (first | (with_reducible have hlit := one_keep s hb4) | (with_reducible have hlit := one_keep2 s hb4) | skip)
         have hbN : Below X.heap.size X w4 := below2 (by repeat' (first | with_reducible exact hbA | with_reducible apply below_drew | with_reducible apply below_new)) hb4
         have h34 : Below w3.heap.size w3 w4 := below2 (by repeat' (first | with_reducible exact Below.refl _ _ | with_reducible apply below_drew | with_reducible apply below_new)) hb4
         have hrb : HasSts w4 (.slice ob LB.length cb) LB := hasRow_own ho2
         replace hra := HasSts.keep hra h34
         (first | (with_reducible replace hlit := HasSts.keep hlit h34) | skip)
         clear hbA ho2 hb4
         have hbA := hbN
         clear hbN)
      | (go_at_call 76
         (first
           | (with_reducible refine (three w4 LA [s] LB oa _ ob LA.length 1 LB.length ca 1 cb rfl HONE.out rfl hra hlit hrb hla1 H1000.out hlb1 _ (.inl rfl)).mono ?_)
           | (with_reducible refine (three w4 LA [s] LB oa _ ob LA.length 1 LB.length ca 1 cb rfl HONE.out rfl hra hlit hrb hla1 H1000.out hlb1 _ (.inr rfl)).mono ?_)
           | (with_reducible refine (three3 w4 s LA LB oa ob LA.length LB.length ca cb rfl rfl hra hrb hla1 hlb1 _ (.inl rfl)).mono ?_)
           | (with_reducible refine (three3 w4 s LA LB oa ob LA.length LB.length ca cb rfl rfl hra hrb hla1 hlb1 _ (.inr rfl)).mono ?_))
         rintro e w5 ⟨u3, rfl, ⟨B5, hB5, ho5⟩, hb5⟩
         have hB6 : X.heap.size ≤ B5 := Nat.le_trans (Below.size (by repeat' (first | with_reducible exact hbA | with_reducible apply below_drew | with_reducible apply below_new))) hB5
         have hbN : Below X.heap.size X w5 := below2 (by repeat' (first | with_reducible exact hbA | with_reducible apply below_drew | with_reducible apply below_new)) hb5
         clear hbA hB5
         have hbA := hbN
         clear hbN))
  all_goals go_wp2_with fail
  all_goals go_ret
  all_goals exact ⟨_, rfl, ⟨B5, Nat.le_trans hB.size hB6, by rw [HL.out]; exact ho5⟩, below2 hB hbA⟩
end Go.Proofs.Ytkjhnefbcnnjlaa.Ord
namespace Go.Proofs.Ytkjhnefbcnnjlaa.Ord
open Go.RowKit Go.Shelf
open Go.Proofs.Ytkjhnefbcnnjlaa.Msg (Ev evV FitE cells12')
open Go.Proofs.Ytkjhnefbcnnjlaa.Addr (RowAt below2 below_new RowAt.lt RowAt.below RowAt.new RowAt.alloc)
attribute [-go_sem] Builtin.append_

set_option maxHeartbeats 8000000 in
set_option maxRecDepth 20000 in
theorem next_walk (v : Value) (c0 c1 c2 c3 c5 c6 c7 c8 c9 c10 c11 : Int) (cs : Bool) (h : Int) (w : World) (E1 E2 R : Int) (L : List St) (P : World → Value → Prop) (Q : World → Value → Prop)
    (k1 : ∀ W : World, Below w.heap.size w W → Calls Try.prog 52 #[v, .agg #[.int .u8 c0, .int .i64 c1, .int .u64 c2, .int .i64 c3, .bool cs, .int .u64 c5, .int .u64 c6, .int .i64 c7, .int .u8 c8, .int .i64 c9, .int .i64 c10, .int .i64 c11], .int .i64 h] W fun e w' => e = .returned (.int .i64 E1) ∧ Below W.heap.size W w')
    (k2 : E1 = 0 → ∀ W : World, Below w.heap.size w W → Calls Try.prog 53 #[v, .agg #[.int .u8 c0, .int .i64 c1, .int .u64 c2, .int .i64 c3, .bool cs, .int .u64 c5, .int .u64 c6, .int .i64 c7, .int .u8 c8, .int .i64 c9, .int .i64 c10, .int .i64 c11], .int .i64 h] W fun e w' => e = .returned (.int .i64 E2) ∧ Below W.heap.size W w')
    (k3 : E1 = 0 → E2 ≠ 0 → ∀ W : World, Below w.heap.size w W → Calls Try.prog 29 #[v] W fun e w' => ∃ u, e = .returned u ∧ P w' u ∧ Below W.heap.size W w')
    (k4 : E1 = 0 → E2 = 0 → ∀ W : World, Below w.heap.size w W → Calls Try.prog 54 #[v, .agg #[.int .i64 c1, .int .u64 c2, .int .i64 c3, .bool (c0 != 2)]] W fun e w' => ∃ u, e = .returned u ∧ Q w' u ∧ Below W.heap.size W w')
    (G : World → Value → Prop) (H1 : E1 ≠ 0 → Hid (R = E1 ∧ ∀ W : World, G W (.slice none 0 0))) (H2 : E1 = 0 → E2 ≠ 0 → Hid (R = E2 ∧ ∀ (W : World) (u : Value), P W u → G W u)) (H3 : E1 = 0 → E2 = 0 → Hid (R = 0 ∧ ∀ (W : World) (u : Value), Q W u → G W u)) :
    Calls Try.prog 31 #[v, .agg #[.int .u8 c0, .int .i64 c1, .int .u64 c2, .int .i64 c3, .bool cs, .int .u64 c5, .int .u64 c6, .int .i64 c7, .int .u8 c8, .int .i64 c9, .int .i64 c10, .int .i64 c11], .int .i64 h] w fun e w' => ∃ u, e = .returned (.tuple #[u, .int .i64 R]) ∧ G w' u ∧ Below w.heap.size w w' := by
  obtain ⟨X, hX⟩ : ∃ X, X = w.alloc (.cells #[.int .u8 c0, .int .i64 c1, .int .u64 c2, .int .i64 c3, .bool cs, .int .u64 c5, .int .u64 c6, .int .i64 c7, .int .u8 c8, .int .i64 c9, .int .i64 c10, .int .i64 c11] 49) := ⟨_, rfl⟩
  have hB : Below w.heap.size w X := by rw [hX]; exact below_new (Below.refl _ _) _
  have r0 : RowAt X w.heap.size [.int .u8 c0, .int .i64 c1, .int .u64 c2, .int .i64 c3, .bool cs, .int .u64 c5, .int .u64 c6, .int .i64 c7, .int .u8 c8, .int .i64 c9, .int .i64 c10, .int .i64 c11] 49 := by rw [hX]; exact RowAt.new _ _ _
  go_enter Try.func31, Try.ntmps31
  go_upto_region 1 with fail
  rw [← hX]
  clear hX
  obtain ⟨⟨y0, y1, y2, y3, y4, y5⟩, ⟨y6, y7, y8, y9, y10, y11⟩, yf, hly⟩ := cells12' r0
  by_cases h1 : E1 = 0
  · have k2' := k2 h1
    by_cases h2 : E2 = 0
    · have k4' := k4 h1 h2
      have HV := H3 h1 h2
      have HR : Hid (R = 0) := HV.out.1
      subst h1 h2
      clear H1 H2 H3 k2 k3 k4
      go_wp2_with fail
      go_at_call 52; refine (k1 _ hB).mono ?_; rintro e w1 ⟨rfl, hb⟩
      replace hB := below2 hB hb
      replace r0 := RowAt.below r0 hb
      clear hb k1 y0 y1 y2 y3 y4 y5 y6 y7 y8 y9 y10 y11 yf hly
      obtain ⟨⟨y0, y1, y2, y3, y4, y5⟩, ⟨y6, y7, y8, y9, y10, y11⟩, yf, hly⟩ := cells12' r0
      go_wp2_with fail
      go_at_call 53; refine (k2' _ hB).mono ?_; rintro e w2 ⟨rfl, hb⟩
      replace hB := below2 hB hb
      replace r0 := RowAt.below r0 hb
      clear hb k2' y0 y1 y2 y3 y4 y5 y6 y7 y8 y9 y10 y11 yf hly
      obtain ⟨⟨y0, y1, y2, y3, y4, y5⟩, ⟨y6, y7, y8, y9, y10, y11⟩, yf, hly⟩ := cells12' r0
      go_wp2_with fail
      go_at_call 54; refine (k4' _ hB).mono ?_; rintro e w3 ⟨u, rfl, hQ, hb⟩
      have hG := HV.out.2 _ _ hQ
      replace hB := below2 hB hb
      clear hb y0 y1 y2 y3 y4 y5 y6 y7 y8 y9 y10 y11 yf hly hQ HV
      have HG : Hid (G w3 u) := hG
      clear hG
      go_wp2_with fail
      go_ret2
      exact ⟨u, by rw [HR.out]; rfl, HG.out, hB⟩
    · have k3' := k3 h1 h2
      have HV := H2 h1 h2
      have HR : Hid (R = E2) := HV.out.1
      have q1 : (E2 == 0) = false := beq_eq_false_iff_ne.2 h2
      have q2 : (E2 != 0) = true := bne_iff_ne.2 h2
      subst h1
      clear H1 H2 H3 k2 k3 k4 h2
      go_wp2_with fail
      go_at_call 52; refine (k1 _ hB).mono ?_; rintro e w1 ⟨rfl, hb⟩
      replace hB := below2 hB hb
      replace r0 := RowAt.below r0 hb
      clear hb k1 y0 y1 y2 y3 y4 y5 y6 y7 y8 y9 y10 y11 yf hly
      obtain ⟨⟨y0, y1, y2, y3, y4, y5⟩, ⟨y6, y7, y8, y9, y10, y11⟩, yf, hly⟩ := cells12' r0
      go_wp2_with fail
      go_at_call 53; refine (k2' _ hB).mono ?_; rintro e w2 ⟨rfl, hb⟩
      replace hB := below2 hB hb
      replace r0 := RowAt.below r0 hb
      clear hb k2' y0 y1 y2 y3 y4 y5 y6 y7 y8 y9 y10 y11 yf hly
      obtain ⟨⟨y0, y1, y2, y3, y4, y5⟩, ⟨y6, y7, y8, y9, y10, y11⟩, yf, hly⟩ := cells12' r0
      go_wp2_with fail
      go_at_call 29; refine (k3' _ hB).mono ?_; rintro e w3 ⟨u, rfl, hQ, hb⟩
      have hG := HV.out.2 _ _ hQ
      replace hB := below2 hB hb
      clear hb y0 y1 y2 y3 y4 y5 y6 y7 y8 y9 y10 y11 yf hly hQ HV
      have HG : Hid (G w3 u) := hG
      clear hG
      go_wp2_with fail
      go_ret2
      exact ⟨u, by rw [HR.out]; rfl, HG.out, hB⟩
  · have HV := H1 h1
    have HR : Hid (R = E1) := HV.out.1
    have q1 : (E1 == 0) = false := beq_eq_false_iff_ne.2 h1
    have q2 : (E1 != 0) = true := bne_iff_ne.2 h1
    clear H1 H2 H3 k2 k3 k4 h1
    go_wp2_with fail
    go_at_call 52; refine (k1 _ hB).mono ?_; rintro e w1 ⟨rfl, hb⟩
    replace hB := below2 hB hb
    replace r0 := RowAt.below r0 hb
    clear hb k1 y0 y1 y2 y3 y4 y5 y6 y7 y8 y9 y10 y11 yf hly
    obtain ⟨⟨y0, y1, y2, y3, y4, y5⟩, ⟨y6, y7, y8, y9, y10, y11⟩, yf, hly⟩ := cells12' r0
    have HG : Hid (G w1 (.slice none 0 0)) := HV.out.2 _
    clear HV y0 y1 y2 y3 y4 y5 y6 y7 y8 y9 y10 y11 yf hly
    go_wp2_with fail
    go_ret2
    exact ⟨.slice none 0 0, by rw [HR.out]; rfl, HG.out, hB⟩
theorem newIn_own {w W : World} {m e size k : Nat} {v : Value} {xs : List Value} (h : W.ownsRow m e size v k xs) (hm : w.heap.size ≤ m) : NewIn w v := by
  intro a n c e
  subst e
  have := (h.lt a.block rfl).1
  omega
theorem newIn_nil (w : World) : NewIn w (.slice none 0 0) := fun a n c e => by injection e with e; cases e
theorem next_any (l : List St) (v : Value) (e : Ev) (h : Int) (w : World) (hl : HasSts w v l) (hf : FitE e) :
    Calls Try.prog 31 #[v, evV e, .int .i64 h] w fun r w' => ∃ u, r = .returned (.tuple #[u, .int .i64 (nextL l e h).2]) ∧ (HasSts w' u (nextL l e h).1 ∧ NewIn w u) ∧ Below w.heap.size w w' := by
  have hkind : ((e.kind : Int) != 2) = decide (e.kind ≠ 2) := by
    rw [Bool.eq_iff_iff, bne_iff_ne, decide_eq_true_eq]; omega
  refine next_walk v _ _ _ _ _ _ _ _ _ _ _ _ h w (askL l e h) (misL l e h) _ l (fun W u => HasSts W u l ∧ NewIn w u) (fun W u => HasSts W u (seatedL l ⟨e.router, e.seq, e.time, decide (e.kind ≠ 2)⟩) ∧ NewIn w u) (fun W hb => ask_any l v e h W (hl.keep hb) hf) (fun h1 W hb => mis_any l v e h W (hl.keep hb) (ask_ok h1).1) ?_ ?_ (fun W u => HasSts W u (nextL l e h).1 ∧ NewIn w u) ?_ ?_ ?_
  · intro h1 h2 W hb
    have := (okL_all (ask_ok h1).1).1
    refine (clone_any l v W (hl.keep hb) (by omega)).mono ?_
    rintro e w' ⟨u, rfl, ho, hb'⟩
    exact ⟨u, rfl, ⟨hasRow_own ho, newIn_own ho hb.size⟩, hb'⟩
  · intro h1 h2 W hb
    have := (okL_all (ask_ok h1).1).1
    rw [hkind]
    refine (seated_any l v ⟨e.router, e.seq, e.time, decide (e.kind ≠ 2)⟩ W (hl.keep hb) (by omega)).mono ?_
    rintro e w' ⟨u, rfl, ⟨B, hBB, ho⟩, hb'⟩
    exact ⟨u, rfl, ⟨hasRow_own ho, newIn_own ho (Nat.le_trans hb.size hBB)⟩, hb'⟩
  · intro h1
    show _ ∧ _
    unfold nextL
    rw [if_neg h1]
    exact ⟨rfl, fun W => ⟨hasRow_nil W 4, newIn_nil w⟩⟩
  · intro h1 h2
    show _ ∧ _
    unfold nextL
    rw [if_pos h1, if_neg h2]
    exact ⟨rfl, fun W u hu => hu⟩
  · intro h1 h2
    show _ ∧ _
    unfold nextL
    rw [if_pos h1, if_pos h2]
    exact ⟨rfl, fun W u hu => hu⟩
end Go.Proofs.Ytkjhnefbcnnjlaa.Ord
