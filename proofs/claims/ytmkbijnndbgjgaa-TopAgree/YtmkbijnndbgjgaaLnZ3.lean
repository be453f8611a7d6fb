/- What spoorref20.Differ answers. -/
import Derived.Test.YtmkbijnndbgjgaaLnZD
import Derived.Test.YtmkbijnndbgjgaaLnZ1
import Derived.Test.YtmkbijnndbgjgaaIvZ1
import Derived.Test.YtmkbijnndbgjgaaIvOpen
import Derived.Test.YtmkbijnndbgjgaaIvZ2
import Derived.BigQuiet
import Derived.Deep.DeepCutAuto
import Derived.Deep.RegionHeld
set_option linter.unusedVariables false
namespace Go.Proofs.Ytmkbijnndbgjgaa.Ln
open Go.RowKit
open Go.Proofs.Ytmkbijnndbgjgaa.Iv (Iv okI HasI lit_i)
open Go.Proofs.Ytmkbijnndbgjgaa.Lk (HasRow addr_add)
open Go.Proofs.Ytmkbijnndbgjgaa.Sp (chk)
open Go.Proofs.Ytmkbijnndbgjgaa.Addr (RowAt below2 below_drew below_new bset RowAt.lt RowAt.cell RowAt.frozen RowAt.below RowAt.drew RowAt.new RowAt.alloc cells2 cells4)
theorem lit_e (W : World) (l : List Er) (cs : List Value) (h : csE l = cs) (hl : l.length ≤ 9223372036854775807) : HasE (W.alloc (.cells cs.toArray 49)) (.slice (some ⟨W.heap.size, 0, none⟩) l.length l.length) l := by
  subst h
  refine ⟨csE_len l, .inr ⟨⟨W.heap.size, 0, none⟩, l.length, rfl, Nat.le_refl _, hl, fun _ => ⟨rfl, by simp⟩, fun j hj => ?_⟩⟩
  rw [addr_add, Nat.zero_add]
  exact (RowAt.new W (csE l) 49).cell j
theorem lit_m (W : World) (l : List Mk) (cs : List Value) (h : csM l = cs) (hl : l.length ≤ 9223372036854775807) : HasM (W.alloc (.cells cs.toArray 46)) (.slice (some ⟨W.heap.size, 0, none⟩) l.length l.length) l := by
  subst h
  refine ⟨csM_len l, .inr ⟨⟨W.heap.size, 0, none⟩, l.length, rfl, Nat.le_refl _, hl, fun _ => ⟨rfl, by simp⟩, fun j hj => ?_⟩⟩
  rw [addr_add, Nat.zero_add]
  exact (RowAt.new W (csM l) 46).cell j
theorem dif_ex : difE (0, 9) ([⟨0, 4, ⟨3, 1⟩⟩, ⟨5, 9, ⟨1, 2⟩⟩] : List Er) ([⟨0, 9, ⟨3, 1⟩⟩] : List Er) = (([(5, 9)] : List Iv), 0) := by
  have h : difL ([⟨0, 4, ⟨3, 1⟩⟩, ⟨5, 9, ⟨1, 2⟩⟩] : List Er) ([⟨0, 9, ⟨3, 1⟩⟩] : List Er) = ([(5, 9)] : List Iv) := by
    unfold difL
    rw [tog_cons, if_pos (by decide), if_neg (by decide), tog_cons, if_pos (by decide), if_pos (by decide), tog_nil1]
    rfl
  unfold difE
  rw [h]
  rfl
set_option maxHeartbeats 16000000 in
set_option maxRecDepth 20000 in
theorem lives_any (w : World) : Calls Try.prog 11 #[] w fun e w' => e = .returned (.bool true) ∧ Below w.heap.size w w' := by
  have hB : Below w.heap.size w w := Below.refl _ _
  go_enter Try.func11, Try.ntmps11
  simp only [List.append_eq, List.cons_append, List.nil_append]
  obtain ⟨wx, hwx⟩ : ∃ W, W = ((w.alloc (.cells #[.int .i64 0, .int .i64 9] 23)).alloc (.cells #[.int .u8 3, .int .i64 1] 35)).alloc (.cells #[.int .u8 1, .int .i64 2] 35) := ⟨_, rfl⟩
  have hbl : Below w.heap.size w wx := by rw [hwx]; exact below_new (below_new (below_new (Below.refl _ _) _) _) _
  have r1 : RowAt wx w.heap.size [.int .i64 0, .int .i64 9] 23 := by rw [hwx]; exact ((RowAt.new _ _ _).alloc _).alloc _
  have r2 : RowAt wx (w.heap.size + 1) [.int .u8 3, .int .i64 1] 35 := by rw [hwx, ← World.size_alloc w (.cells #[.int .i64 0, .int .i64 9] 23)]; exact (RowAt.new _ _ _).alloc _
  have r3 : RowAt wx (w.heap.size + 1 + 1) [.int .u8 1, .int .i64 2] 35 := by rw [hwx, show w.heap.size + 1 + 1 = ((w.alloc (.cells #[.int .i64 0, .int .i64 9] 23)).alloc (.cells #[.int .u8 3, .int .i64 1] 35)).heap.size by rw [World.size_alloc, World.size_alloc]]; exact RowAt.new _ _ _
  replace hB := below2 hB hbl
  clear hbl
  obtain ⟨g1, hg1⟩ : ∃ g, g = w.heap.size := ⟨_, rfl⟩
  obtain ⟨g2, hg2⟩ : ∃ g, g = w.heap.size + 1 := ⟨_, rfl⟩
  obtain ⟨g3, hg3⟩ : ∃ g, g = w.heap.size + 1 + 1 := ⟨_, rfl⟩
  rw [← hg1] at r1
  rw [← hg2] at r2
  rw [← hg3] at r3
  go_upto_region 3 with fail
  rw [← hwx, ← hg3, ← hg2, ← hg1]
  clear hwx hg1 hg2 hg3
  obtain ⟨r1x1, r1y1, r1z1⟩ := cells2 r1
  have r1l1 := RowAt.lt r1
  obtain ⟨r2x1, r2y1, r2z1⟩ := cells2 r2
  have r2l1 := RowAt.lt r2
  obtain ⟨r3x1, r3y1, r3z1⟩ := cells2 r3
  have r3l1 := RowAt.lt r3
  obtain ⟨w1, hw1⟩ : ∃ W, W = wx.alloc (.cells #[.int .i64 0, .int .u8 3, .int .i64 1, .int .i64 3, .int .u8 3, .int .i64 1, .int .i64 5, .int .u8 1, .int .i64 2] 46) := ⟨_, rfl⟩
  have hbl : Below wx.heap.size wx w1 := by rw [hw1]; exact below_new (Below.refl _ _) _
  have hl : HasM w1 (.slice (some ⟨wx.heap.size, 0, none⟩) 3 3) ([⟨0, ⟨3, 1⟩⟩, ⟨3, ⟨3, 1⟩⟩, ⟨5, ⟨1, 2⟩⟩] : List Mk) := by rw [hw1]; exact lit_m wx ([⟨0, ⟨3, 1⟩⟩, ⟨3, ⟨3, 1⟩⟩, ⟨5, ⟨1, 2⟩⟩] : List Mk) [.int .i64 0, .int .u8 3, .int .i64 1, .int .i64 3, .int .u8 3, .int .i64 1, .int .i64 5, .int .u8 1, .int .i64 2] (by kernel_rfl) (by decide)
  replace hB := below2 hB hbl
  replace r1 := r1.below hbl
  replace r2 := r2.below hbl
  replace r3 := r3.below hbl
  clear hbl
  have cc := make_any (0, 9) ([⟨0, ⟨3, 1⟩⟩, ⟨3, ⟨3, 1⟩⟩, ⟨5, ⟨1, 2⟩⟩] : List Mk) _ w1 hl
  obtain ⟨r1a, r1b, r1f⟩ := cells2 r1
  obtain ⟨r2a, r2b, r2f⟩ := cells2 r2
  obtain ⟨r3a, r3b, r3f⟩ := cells2 r3
  go_wp2_with fail
  rw [← hw1]
  clear hw1
  go_at_call 9; refine cc.mono ?_; rintro e w2 hA
  clear r1a r1b r1f
  clear r2a r2b r2f
  clear r3a r3b r3f
  clear r1x1 r1y1 r1z1 r1l1
  clear r2x1 r2y1 r2z1 r2l1
  clear r3x1 r3y1 r3z1 r3l1
  obtain ⟨u1, R, why, rfl, hOO, hR⟩ := hA
  have hO := hOO.has
  have HBL := hOO.bl
  rw [show mkL (0, 9) ([⟨0, ⟨3, 1⟩⟩, ⟨3, ⟨3, 1⟩⟩, ⟨5, ⟨1, 2⟩⟩] : List Mk) = (([⟨0, 4, ⟨3, 1⟩⟩, ⟨5, 9, ⟨1, 2⟩⟩] : List Er), 0) from by kernel_rfl] at hR
  injection hR with hR1 hR2
  subst hR1 hR2
  have h1 := hO
  have hb := HBL
  replace hB := below2 hB hb
  replace r1 := r1.below hb
  replace r2 := r2.below hb
  replace r3 := r3.below hb
  obtain ⟨ou1, cu1, eu1, _, _⟩ := HasRow.slice h1
  subst eu1
  replace h1 : HasE _ _ ([⟨0, 4, ⟨3, 1⟩⟩, ⟨5, 9, ⟨1, 2⟩⟩] : List Er) := h1
  clear hb HBL hO hOO
  clear hl
  clear cc
  have cc := at_any (0, 9) ([⟨0, 4, ⟨3, 1⟩⟩, ⟨5, 9, ⟨1, 2⟩⟩] : List Er) 4 _ w2 h1
  obtain ⟨r1a, r1b, r1f⟩ := cells2 r1
  obtain ⟨r2a, r2b, r2f⟩ := cells2 r2
  obtain ⟨r3a, r3b, r3f⟩ := cells2 r3
  go_wp2_with fail
  go_at_call 15; refine cc.mono ?_; rintro e w3 hA
  clear r1a r1b r1f
  clear r2a r2b r2f
  clear r3a r3b r3f
  obtain ⟨vk, vi, why, rfl, hb, hR⟩ := hA
  rw [show atL (0, 9) ([⟨0, 4, ⟨3, 1⟩⟩, ⟨5, 9, ⟨1, 2⟩⟩] : List Er) 4 = (⟨3, 1⟩, 0) from by kernel_rfl] at hR
  injection hR with hR1 hR2
  injection hR1 with hR1 hR3
  subst hR1 hR2 hR3
  replace hB := below2 hB hb
  replace h1 := h1.keep hb
  replace r1 := r1.below hb
  replace r2 := r2.below hb
  replace r3 := r3.below hb
  clear hb
  clear cc
  obtain ⟨r1x4, r1y4, r1z4⟩ := cells2 r1
  have r1l4 := RowAt.lt r1
  obtain ⟨r2x4, r2y4, r2z4⟩ := cells2 r2
  have r2l4 := RowAt.lt r2
  obtain ⟨r3x4, r3y4, r3z4⟩ := cells2 r3
  have r3l4 := RowAt.lt r3
  obtain ⟨w4, hw4⟩ : ∃ W, W = w3.alloc (.cells #[.int .u8 3, .int .i64 1] 35) := ⟨_, rfl⟩
  have hbl : Below w3.heap.size w3 w4 := by rw [hw4]; exact below_new (Below.refl _ _) _
  have r6 : RowAt w4 w3.heap.size [.int .u8 3, .int .i64 1] 35 := by rw [hw4]; exact RowAt.new _ _ _
  replace hB := below2 hB hbl
  replace h1 := h1.keep hbl
  replace r1 := r1.below hbl
  replace r2 := r2.below hbl
  replace r3 := r3.below hbl
  clear hbl
  obtain ⟨g6, hg6⟩ : ∃ g, g = w3.heap.size := ⟨_, rfl⟩
  rw [← hg6] at r6
  have cc := when_any (0, 9) ([⟨0, 4, ⟨3, 1⟩⟩, ⟨5, 9, ⟨1, 2⟩⟩] : List Er) ⟨1, 2⟩ _ w4 h1
  obtain ⟨r1a, r1b, r1f⟩ := cells2 r1
  obtain ⟨r2a, r2b, r2f⟩ := cells2 r2
  obtain ⟨r3a, r3b, r3f⟩ := cells2 r3
  obtain ⟨r6a, r6b, r6f⟩ := cells2 r6
  go_wp2_with fail
  rw [← hw4, ← hg6]
  clear hw4 hg6
  go_at_call 17; refine cc.mono ?_; rintro e w5 hA
  clear r1a r1b r1f
  clear r2a r2b r2f
  clear r3a r3b r3f
  clear r6a r6b r6f
  clear r1x4 r1y4 r1z4 r1l4
  clear r2x4 r2y4 r2z4 r2l4
  clear r3x4 r3y4 r3z4 r3l4
  obtain ⟨u2, R, why, rfl, hO, HBL, hR⟩ := hA
  rw [show whenE (0, 9) ([⟨0, 4, ⟨3, 1⟩⟩, ⟨5, 9, ⟨1, 2⟩⟩] : List Er) ⟨1, 2⟩ = (([(5, 9)] : List Iv), 0) from by kernel_rfl] at hR
  injection hR with hR1 hR2
  subst hR1 hR2
  have h2 := hO
  have hb := HBL
  replace hB := below2 hB hb
  replace h1 := h1.keep hb
  replace r1 := r1.below hb
  replace r2 := r2.below hb
  replace r3 := r3.below hb
  replace r6 := r6.below hb
  obtain ⟨ou2, cu2, eu2, _, _⟩ := HasRow.slice h2
  subst eu2
  replace h2 : HasI _ _ ([(5, 9)] : List Iv) := h2
  clear hb HBL hO
  clear cc
  have cc := cut_any (0, 9) ([⟨0, 4, ⟨3, 1⟩⟩, ⟨5, 9, ⟨1, 2⟩⟩] : List Er) (4, 5) _ w5 h1
  obtain ⟨r1a, r1b, r1f⟩ := cells2 r1
  obtain ⟨r2a, r2b, r2f⟩ := cells2 r2
  obtain ⟨r3a, r3b, r3f⟩ := cells2 r3
  obtain ⟨r6a, r6b, r6f⟩ := cells2 r6
  go_wp2_with fail
  go_at_call 19; refine cc.mono ?_; rintro e w6 hA
  clear r1a r1b r1f
  clear r2a r2b r2f
  clear r3a r3b r3f
  clear r6a r6b r6f
  obtain ⟨u3, R, why, rfl, hO, HBL, hR⟩ := hA
  rw [show cutE (0, 9) ([⟨0, 4, ⟨3, 1⟩⟩, ⟨5, 9, ⟨1, 2⟩⟩] : List Er) (4, 5) = (([⟨4, 4, ⟨3, 1⟩⟩, ⟨5, 5, ⟨1, 2⟩⟩] : List Er), 0) from by kernel_rfl] at hR
  injection hR with hR1 hR2
  subst hR1 hR2
  have h3 := hO
  have hb := HBL
  replace hB := below2 hB hb
  replace h1 := h1.keep hb
  replace h2 := h2.keep hb
  replace r1 := r1.below hb
  replace r2 := r2.below hb
  replace r3 := r3.below hb
  replace r6 := r6.below hb
  obtain ⟨ou3, cu3, eu3, _, _⟩ := HasRow.slice h3
  subst eu3
  replace h3 : HasE _ _ ([⟨4, 4, ⟨3, 1⟩⟩, ⟨5, 5, ⟨1, 2⟩⟩] : List Er) := h3
  clear hb HBL hO
  clear cc
  obtain ⟨r1x7, r1y7, r1z7⟩ := cells2 r1
  have r1l7 := RowAt.lt r1
  obtain ⟨r2x7, r2y7, r2z7⟩ := cells2 r2
  have r2l7 := RowAt.lt r2
  obtain ⟨r3x7, r3y7, r3z7⟩ := cells2 r3
  have r3l7 := RowAt.lt r3
  obtain ⟨r6x7, r6y7, r6z7⟩ := cells2 r6
  have r6l7 := RowAt.lt r6
  obtain ⟨w7, hw7⟩ : ∃ W, W = w6.alloc (.cells #[.int .i64 0, .int .u8 3, .int .i64 1] 46) := ⟨_, rfl⟩
  have hbl : Below w6.heap.size w6 w7 := by rw [hw7]; exact below_new (Below.refl _ _) _
  have hl : HasM w7 (.slice (some ⟨w6.heap.size, 0, none⟩) 1 1) ([⟨0, ⟨3, 1⟩⟩] : List Mk) := by rw [hw7]; exact lit_m w6 ([⟨0, ⟨3, 1⟩⟩] : List Mk) [.int .i64 0, .int .u8 3, .int .i64 1] (by kernel_rfl) (by decide)
  replace hB := below2 hB hbl
  replace h1 := h1.keep hbl
  replace h2 := h2.keep hbl
  replace h3 := h3.keep hbl
  replace r1 := r1.below hbl
  replace r2 := r2.below hbl
  replace r3 := r3.below hbl
  replace r6 := r6.below hbl
  clear hbl
  have cc := make_any (0, 9) ([⟨0, ⟨3, 1⟩⟩] : List Mk) _ w7 hl
  obtain ⟨r1a, r1b, r1f⟩ := cells2 r1
  obtain ⟨r2a, r2b, r2f⟩ := cells2 r2
  obtain ⟨r3a, r3b, r3f⟩ := cells2 r3
  obtain ⟨r6a, r6b, r6f⟩ := cells2 r6
  go_wp2_with fail
  rw [← hw7]
  clear hw7
  go_at_call 9; refine cc.mono ?_; rintro e w8 hA
  clear r1a r1b r1f
  clear r2a r2b r2f
  clear r3a r3b r3f
  clear r6a r6b r6f
  clear r1x7 r1y7 r1z7 r1l7
  clear r2x7 r2y7 r2z7 r2l7
  clear r3x7 r3y7 r3z7 r3l7
  clear r6x7 r6y7 r6z7 r6l7
  obtain ⟨u4, R, why, rfl, hOO, hR⟩ := hA
  have hO := hOO.has
  have HBL := hOO.bl
  rw [show mkL (0, 9) ([⟨0, ⟨3, 1⟩⟩] : List Mk) = (([⟨0, 9, ⟨3, 1⟩⟩] : List Er), 0) from by kernel_rfl] at hR
  injection hR with hR1 hR2
  subst hR1 hR2
  have h4 := hO
  have hb := HBL
  replace hB := below2 hB hb
  replace h1 := h1.keep hb
  replace h2 := h2.keep hb
  replace h3 := h3.keep hb
  replace r1 := r1.below hb
  replace r2 := r2.below hb
  replace r3 := r3.below hb
  replace r6 := r6.below hb
  obtain ⟨ou4, cu4, eu4, _, _⟩ := HasRow.slice h4
  subst eu4
  replace h4 : HasE _ _ ([⟨0, 9, ⟨3, 1⟩⟩] : List Er) := h4
  clear hb HBL hO hOO
  clear hl
  clear cc
  have cc := dif_any (0, 9) ([⟨0, 4, ⟨3, 1⟩⟩, ⟨5, 9, ⟨1, 2⟩⟩] : List Er) ([⟨0, 9, ⟨3, 1⟩⟩] : List Er) _ _ w8 h1 h4
  obtain ⟨r1a, r1b, r1f⟩ := cells2 r1
  obtain ⟨r2a, r2b, r2f⟩ := cells2 r2
  obtain ⟨r3a, r3b, r3f⟩ := cells2 r3
  obtain ⟨r6a, r6b, r6f⟩ := cells2 r6
  go_wp2_with fail
  go_at_call 21; refine cc.mono ?_; rintro e w9 hA
  clear r1a r1b r1f
  clear r2a r2b r2f
  clear r3a r3b r3f
  clear r6a r6b r6f
  obtain ⟨u5, R, why, rfl, hO, HBL, hR⟩ := hA
  rw [show difE (0, 9) ([⟨0, 4, ⟨3, 1⟩⟩, ⟨5, 9, ⟨1, 2⟩⟩] : List Er) ([⟨0, 9, ⟨3, 1⟩⟩] : List Er) = (([(5, 9)] : List Iv), 0) from dif_ex] at hR
  injection hR with hR1 hR2
  subst hR1 hR2
  have h5 := hO
  have hb := HBL
  replace hB := below2 hB hb
  replace h1 := h1.keep hb
  replace h2 := h2.keep hb
  replace h3 := h3.keep hb
  replace h4 := h4.keep hb
  replace r1 := r1.below hb
  replace r2 := r2.below hb
  replace r3 := r3.below hb
  replace r6 := r6.below hb
  obtain ⟨ou5, cu5, eu5, _, _⟩ := HasRow.slice h5
  subst eu5
  replace h5 : HasI _ _ ([(5, 9)] : List Iv) := h5
  clear hb HBL hO
  clear cc
  have cc := at_any (0, 9) ([⟨0, 4, ⟨3, 1⟩⟩, ⟨5, 9, ⟨1, 2⟩⟩] : List Er) 10 _ w9 h1
  obtain ⟨r1a, r1b, r1f⟩ := cells2 r1
  obtain ⟨r2a, r2b, r2f⟩ := cells2 r2
  obtain ⟨r3a, r3b, r3f⟩ := cells2 r3
  obtain ⟨r6a, r6b, r6f⟩ := cells2 r6
  go_wp2_with fail
  go_at_call 15; refine cc.mono ?_; rintro e w10 hA
  clear r1a r1b r1f
  clear r2a r2b r2f
  clear r3a r3b r3f
  clear r6a r6b r6f
  obtain ⟨vk, vi, why, rfl, hb, hR⟩ := hA
  rw [show atL (0, 9) ([⟨0, 4, ⟨3, 1⟩⟩, ⟨5, 9, ⟨1, 2⟩⟩] : List Er) 10 = (⟨0, 0⟩, 1) from by kernel_rfl] at hR
  injection hR with hR1 hR2
  injection hR1 with hR1 hR3
  subst hR1 hR2 hR3
  replace hB := below2 hB hb
  replace h1 := h1.keep hb
  replace h2 := h2.keep hb
  replace h3 := h3.keep hb
  replace h4 := h4.keep hb
  replace h5 := h5.keep hb
  replace r1 := r1.below hb
  replace r2 := r2.below hb
  replace r3 := r3.below hb
  replace r6 := r6.below hb
  clear hb
  clear cc
  obtain ⟨r1x11, r1y11, r1z11⟩ := cells2 r1
  have r1l11 := RowAt.lt r1
  obtain ⟨r2x11, r2y11, r2z11⟩ := cells2 r2
  have r2l11 := RowAt.lt r2
  obtain ⟨r3x11, r3y11, r3z11⟩ := cells2 r3
  have r3l11 := RowAt.lt r3
  obtain ⟨r6x11, r6y11, r6z11⟩ := cells2 r6
  have r6l11 := RowAt.lt r6
  obtain ⟨w11, hw11⟩ : ∃ W, W = w10.alloc (.cells #[.int .u8 0, .int .i64 0] 35) := ⟨_, rfl⟩
  have hbl : Below w10.heap.size w10 w11 := by rw [hw11]; exact below_new (Below.refl _ _) _
  have r7 : RowAt w11 w10.heap.size [.int .u8 0, .int .i64 0] 35 := by rw [hw11]; exact RowAt.new _ _ _
  replace hB := below2 hB hbl
  replace h1 := h1.keep hbl
  replace h2 := h2.keep hbl
  replace h3 := h3.keep hbl
  replace h4 := h4.keep hbl
  replace h5 := h5.keep hbl
  replace r1 := r1.below hbl
  replace r2 := r2.below hbl
  replace r3 := r3.below hbl
  replace r6 := r6.below hbl
  clear hbl
  obtain ⟨g7, hg7⟩ : ∃ g, g = w10.heap.size := ⟨_, rfl⟩
  rw [← hg7] at r7
  obtain ⟨r1x12, r1y12, r1z12⟩ := cells2 r1
  have r1l12 := RowAt.lt r1
  obtain ⟨r2x12, r2y12, r2z12⟩ := cells2 r2
  have r2l12 := RowAt.lt r2
  obtain ⟨r3x12, r3y12, r3z12⟩ := cells2 r3
  have r3l12 := RowAt.lt r3
  obtain ⟨r6x12, r6y12, r6z12⟩ := cells2 r6
  have r6l12 := RowAt.lt r6
  obtain ⟨r7x12, r7y12, r7z12⟩ := cells2 r7
  have r7l12 := RowAt.lt r7
  obtain ⟨w12, hw12⟩ : ∃ W, W = w11.alloc (.cells #[.int .i64 1, .int .u8 3, .int .i64 1] 46) := ⟨_, rfl⟩
  have hbl : Below w11.heap.size w11 w12 := by rw [hw12]; exact below_new (Below.refl _ _) _
  have hl : HasM w12 (.slice (some ⟨w11.heap.size, 0, none⟩) 1 1) ([⟨1, ⟨3, 1⟩⟩] : List Mk) := by rw [hw12]; exact lit_m w11 ([⟨1, ⟨3, 1⟩⟩] : List Mk) [.int .i64 1, .int .u8 3, .int .i64 1] (by kernel_rfl) (by decide)
  replace hB := below2 hB hbl
  replace h1 := h1.keep hbl
  replace h2 := h2.keep hbl
  replace h3 := h3.keep hbl
  replace h4 := h4.keep hbl
  replace h5 := h5.keep hbl
  replace r1 := r1.below hbl
  replace r2 := r2.below hbl
  replace r3 := r3.below hbl
  replace r6 := r6.below hbl
  replace r7 := r7.below hbl
  clear hbl
  have cc := make_any (0, 9) ([⟨1, ⟨3, 1⟩⟩] : List Mk) _ w12 hl
  obtain ⟨r1a, r1b, r1f⟩ := cells2 r1
  obtain ⟨r2a, r2b, r2f⟩ := cells2 r2
  obtain ⟨r3a, r3b, r3f⟩ := cells2 r3
  obtain ⟨r6a, r6b, r6f⟩ := cells2 r6
  obtain ⟨r7a, r7b, r7f⟩ := cells2 r7
  go_wp2_with fail
  have hsz : w11.heap.size = g7 + 1 := by rw [hw11, World.size_alloc, hg7]
  rw [hsz] at cc
  rw [← hw11, ← hg7, ← hw12]
  clear hw11 hg7 hw12 hsz
  go_at_call 9; refine cc.mono ?_; rintro e w13 hA
  clear r1a r1b r1f
  clear r2a r2b r2f
  clear r3a r3b r3f
  clear r6a r6b r6f
  clear r7a r7b r7f
  clear r1x11 r1y11 r1z11 r1l11
  clear r2x11 r2y11 r2z11 r2l11
  clear r3x11 r3y11 r3z11 r3l11
  clear r6x11 r6y11 r6z11 r6l11
  clear r1x12 r1y12 r1z12 r1l12
  clear r2x12 r2y12 r2z12 r2l12
  clear r3x12 r3y12 r3z12 r3l12
  clear r6x12 r6y12 r6z12 r6l12
  clear r7x12 r7y12 r7z12 r7l12
  obtain ⟨u8, R, why, rfl, hOO, hR⟩ := hA
  have hO := hOO.has
  have HBL := hOO.bl
  rw [show mkL (0, 9) ([⟨1, ⟨3, 1⟩⟩] : List Mk) = (([] : List Er), 2) from by kernel_rfl] at hR
  injection hR with hR1 hR2
  subst hR1 hR2
  have h8 := hO
  have hb := HBL
  replace hB := below2 hB hb
  replace h1 := h1.keep hb
  replace h2 := h2.keep hb
  replace h3 := h3.keep hb
  replace h4 := h4.keep hb
  replace h5 := h5.keep hb
  replace r1 := r1.below hb
  replace r2 := r2.below hb
  replace r3 := r3.below hb
  replace r6 := r6.below hb
  replace r7 := r7.below hb
  obtain ⟨ou8, cu8, eu8, _, _⟩ := HasRow.slice h8
  subst eu8
  replace h8 : HasE _ _ ([] : List Er) := h8
  clear hb HBL hO hOO
  clear hl
  clear cc
  have heq := fun W => vd_eql ⟨3, 1⟩ ⟨3, 1⟩ W
  rw [show eqV ⟨3, 1⟩ ⟨3, 1⟩ = true from rfl] at heq
  simp only at heq
  have hvg := vd_guard
  obtain ⟨r1x14, r1y14, r1z14⟩ := cells2 r1
  have r1l14 := RowAt.lt r1
  obtain ⟨r2x14, r2y14, r2z14⟩ := cells2 r2
  have r2l14 := RowAt.lt r2
  obtain ⟨r3x14, r3y14, r3z14⟩ := cells2 r3
  have r3l14 := RowAt.lt r3
  obtain ⟨r6x14, r6y14, r6z14⟩ := cells2 r6
  have r6l14 := RowAt.lt r6
  obtain ⟨r7x14, r7y14, r7z14⟩ := cells2 r7
  have r7l14 := RowAt.lt r7
  obtain ⟨w14, hw14⟩ : ∃ W, W = w13.alloc (.cells #[.int .i64 0, .int .i64 4, .int .u8 3, .int .i64 1, .int .i64 5, .int .i64 9, .int .u8 1, .int .i64 2] 49) := ⟨_, rfl⟩
  have hbl : Below w13.heap.size w13 w14 := by rw [hw14]; exact below_new (Below.refl _ _) _
  have hl : HasE w14 (.slice (some ⟨w13.heap.size, 0, none⟩) 2 2) ([⟨0, 4, ⟨3, 1⟩⟩, ⟨5, 9, ⟨1, 2⟩⟩] : List Er) := by rw [hw14]; exact lit_e w13 ([⟨0, 4, ⟨3, 1⟩⟩, ⟨5, 9, ⟨1, 2⟩⟩] : List Er) [.int .i64 0, .int .i64 4, .int .u8 3, .int .i64 1, .int .i64 5, .int .i64 9, .int .u8 1, .int .i64 2] (by kernel_rfl) (by decide)
  replace hB := below2 hB hbl
  replace h1 := h1.keep hbl
  replace h2 := h2.keep hbl
  replace h3 := h3.keep hbl
  replace h4 := h4.keep hbl
  replace h5 := h5.keep hbl
  replace r1 := r1.below hbl
  replace r2 := r2.below hbl
  replace r3 := r3.below hbl
  replace r6 := r6.below hbl
  replace r7 := r7.below hbl
  clear hbl
  have cc := same_any ([⟨0, 4, ⟨3, 1⟩⟩, ⟨5, 9, ⟨1, 2⟩⟩] : List Er) _ _ w14 h1 hl
  obtain ⟨r1a, r1b, r1f⟩ := cells2 r1
  obtain ⟨r2a, r2b, r2f⟩ := cells2 r2
  obtain ⟨r3a, r3b, r3f⟩ := cells2 r3
  obtain ⟨r6a, r6b, r6f⟩ := cells2 r6
  obtain ⟨r7a, r7b, r7f⟩ := cells2 r7
  go_wp2_with fail
  rw [← hw14]
  clear hw14
  go_at_call 12; refine cc.mono ?_; rintro e w15 ⟨rfl, hb⟩
  clear r1a r1b r1f
  clear r2a r2b r2f
  clear r3a r3b r3f
  clear r6a r6b r6f
  clear r7a r7b r7f
  clear r1x14 r1y14 r1z14 r1l14
  clear r2x14 r2y14 r2z14 r2l14
  clear r3x14 r3y14 r3z14 r3l14
  clear r6x14 r6y14 r6z14 r6l14
  clear r7x14 r7y14 r7z14 r7l14
  replace hB := below2 hB hb
  replace h1 := h1.keep hb
  replace h2 := h2.keep hb
  replace h3 := h3.keep hb
  replace h4 := h4.keep hb
  replace h5 := h5.keep hb
  replace r1 := r1.below hb
  replace r2 := r2.below hb
  replace r3 := r3.below hb
  replace r6 := r6.below hb
  replace r7 := r7.below hb
  clear hb hl
  clear cc
  obtain ⟨r1x16, r1y16, r1z16⟩ := cells2 r1
  have r1l16 := RowAt.lt r1
  obtain ⟨r2x16, r2y16, r2z16⟩ := cells2 r2
  have r2l16 := RowAt.lt r2
  obtain ⟨r3x16, r3y16, r3z16⟩ := cells2 r3
  have r3l16 := RowAt.lt r3
  obtain ⟨r6x16, r6y16, r6z16⟩ := cells2 r6
  have r6l16 := RowAt.lt r6
  obtain ⟨r7x16, r7y16, r7z16⟩ := cells2 r7
  have r7l16 := RowAt.lt r7
  obtain ⟨w16, hw16⟩ : ∃ W, W = w15.alloc (.cells #[.int .i64 5, .int .i64 9] 23) := ⟨_, rfl⟩
  have hbl : Below w15.heap.size w15 w16 := by rw [hw16]; exact below_new (Below.refl _ _) _
  have hl : HasI w16 (.slice (some ⟨w15.heap.size, 0, none⟩) 1 1) ([(5, 9)] : List Iv) := by rw [hw16]; exact lit_i w15 ([(5, 9)] : List Iv) [.int .i64 5, .int .i64 9] (by kernel_rfl) (by decide)
  replace hB := below2 hB hbl
  replace h1 := h1.keep hbl
  replace h2 := h2.keep hbl
  replace h3 := h3.keep hbl
  replace h4 := h4.keep hbl
  replace h5 := h5.keep hbl
  replace r1 := r1.below hbl
  replace r2 := r2.below hbl
  replace r3 := r3.below hbl
  replace r6 := r6.below hbl
  replace r7 := r7.below hbl
  clear hbl
  have cc := Iv.same_any ([(5, 9)] : List Iv) _ _ w16 h2 hl
  obtain ⟨r1a, r1b, r1f⟩ := cells2 r1
  obtain ⟨r2a, r2b, r2f⟩ := cells2 r2
  obtain ⟨r3a, r3b, r3f⟩ := cells2 r3
  obtain ⟨r6a, r6b, r6f⟩ := cells2 r6
  obtain ⟨r7a, r7b, r7f⟩ := cells2 r7
  go_wp2_with fail
  rw [← hw16]
  clear hw16
  go_at_call 23; refine cc.mono ?_; rintro e w17 ⟨rfl, hb⟩
  clear r1a r1b r1f
  clear r2a r2b r2f
  clear r3a r3b r3f
  clear r6a r6b r6f
  clear r7a r7b r7f
  clear r1x16 r1y16 r1z16 r1l16
  clear r2x16 r2y16 r2z16 r2l16
  clear r3x16 r3y16 r3z16 r3l16
  clear r6x16 r6y16 r6z16 r6l16
  clear r7x16 r7y16 r7z16 r7l16
  replace hB := below2 hB hb
  replace h1 := h1.keep hb
  replace h3 := h3.keep hb
  replace h4 := h4.keep hb
  replace h5 := h5.keep hb
  replace r1 := r1.below hb
  replace r2 := r2.below hb
  replace r3 := r3.below hb
  replace r6 := r6.below hb
  replace r7 := r7.below hb
  clear hb hl h2
  clear cc
  obtain ⟨r1x18, r1y18, r1z18⟩ := cells2 r1
  have r1l18 := RowAt.lt r1
  obtain ⟨r2x18, r2y18, r2z18⟩ := cells2 r2
  have r2l18 := RowAt.lt r2
  obtain ⟨r3x18, r3y18, r3z18⟩ := cells2 r3
  have r3l18 := RowAt.lt r3
  obtain ⟨r6x18, r6y18, r6z18⟩ := cells2 r6
  have r6l18 := RowAt.lt r6
  obtain ⟨r7x18, r7y18, r7z18⟩ := cells2 r7
  have r7l18 := RowAt.lt r7
  obtain ⟨w18, hw18⟩ : ∃ W, W = w17.alloc (.cells #[.int .i64 4, .int .i64 4, .int .u8 3, .int .i64 1, .int .i64 5, .int .i64 5, .int .u8 1, .int .i64 2] 49) := ⟨_, rfl⟩
  have hbl : Below w17.heap.size w17 w18 := by rw [hw18]; exact below_new (Below.refl _ _) _
  have hl : HasE w18 (.slice (some ⟨w17.heap.size, 0, none⟩) 2 2) ([⟨4, 4, ⟨3, 1⟩⟩, ⟨5, 5, ⟨1, 2⟩⟩] : List Er) := by rw [hw18]; exact lit_e w17 ([⟨4, 4, ⟨3, 1⟩⟩, ⟨5, 5, ⟨1, 2⟩⟩] : List Er) [.int .i64 4, .int .i64 4, .int .u8 3, .int .i64 1, .int .i64 5, .int .i64 5, .int .u8 1, .int .i64 2] (by kernel_rfl) (by decide)
  replace hB := below2 hB hbl
  replace h1 := h1.keep hbl
  replace h3 := h3.keep hbl
  replace h4 := h4.keep hbl
  replace h5 := h5.keep hbl
  replace r1 := r1.below hbl
  replace r2 := r2.below hbl
  replace r3 := r3.below hbl
  replace r6 := r6.below hbl
  replace r7 := r7.below hbl
  clear hbl
  have cc := same_any ([⟨4, 4, ⟨3, 1⟩⟩, ⟨5, 5, ⟨1, 2⟩⟩] : List Er) _ _ w18 h3 hl
  obtain ⟨r1a, r1b, r1f⟩ := cells2 r1
  obtain ⟨r2a, r2b, r2f⟩ := cells2 r2
  obtain ⟨r3a, r3b, r3f⟩ := cells2 r3
  obtain ⟨r6a, r6b, r6f⟩ := cells2 r6
  obtain ⟨r7a, r7b, r7f⟩ := cells2 r7
  go_wp2_with fail
  rw [← hw18]
  clear hw18
  go_at_call 12; refine cc.mono ?_; rintro e w19 ⟨rfl, hb⟩
  clear r1a r1b r1f
  clear r2a r2b r2f
  clear r3a r3b r3f
  clear r6a r6b r6f
  clear r7a r7b r7f
  clear r1x18 r1y18 r1z18 r1l18
  clear r2x18 r2y18 r2z18 r2l18
  clear r3x18 r3y18 r3z18 r3l18
  clear r6x18 r6y18 r6z18 r6l18
  clear r7x18 r7y18 r7z18 r7l18
  replace hB := below2 hB hb
  replace h1 := h1.keep hb
  replace h4 := h4.keep hb
  replace h5 := h5.keep hb
  replace r1 := r1.below hb
  replace r2 := r2.below hb
  replace r3 := r3.below hb
  replace r6 := r6.below hb
  replace r7 := r7.below hb
  clear hb hl h3
  clear cc
  obtain ⟨r1x20, r1y20, r1z20⟩ := cells2 r1
  have r1l20 := RowAt.lt r1
  obtain ⟨r2x20, r2y20, r2z20⟩ := cells2 r2
  have r2l20 := RowAt.lt r2
  obtain ⟨r3x20, r3y20, r3z20⟩ := cells2 r3
  have r3l20 := RowAt.lt r3
  obtain ⟨r6x20, r6y20, r6z20⟩ := cells2 r6
  have r6l20 := RowAt.lt r6
  obtain ⟨r7x20, r7y20, r7z20⟩ := cells2 r7
  have r7l20 := RowAt.lt r7
  obtain ⟨w20, hw20⟩ : ∃ W, W = w19.alloc (.cells #[.int .i64 5, .int .i64 9] 23) := ⟨_, rfl⟩
  have hbl : Below w19.heap.size w19 w20 := by rw [hw20]; exact below_new (Below.refl _ _) _
  have hl : HasI w20 (.slice (some ⟨w19.heap.size, 0, none⟩) 1 1) ([(5, 9)] : List Iv) := by rw [hw20]; exact lit_i w19 ([(5, 9)] : List Iv) [.int .i64 5, .int .i64 9] (by kernel_rfl) (by decide)
  replace hB := below2 hB hbl
  replace h1 := h1.keep hbl
  replace h4 := h4.keep hbl
  replace h5 := h5.keep hbl
  replace r1 := r1.below hbl
  replace r2 := r2.below hbl
  replace r3 := r3.below hbl
  replace r6 := r6.below hbl
  replace r7 := r7.below hbl
  clear hbl
  have cc := Iv.same_any ([(5, 9)] : List Iv) _ _ w20 h5 hl
  obtain ⟨r1a, r1b, r1f⟩ := cells2 r1
  obtain ⟨r2a, r2b, r2f⟩ := cells2 r2
  obtain ⟨r3a, r3b, r3f⟩ := cells2 r3
  obtain ⟨r6a, r6b, r6f⟩ := cells2 r6
  obtain ⟨r7a, r7b, r7f⟩ := cells2 r7
  go_wp2_with fail
  rw [← hw20]
  clear hw20
  go_at_call 23; refine cc.mono ?_; rintro e w21 ⟨rfl, hb⟩
  clear r1a r1b r1f
  clear r2a r2b r2f
  clear r3a r3b r3f
  clear r6a r6b r6f
  clear r7a r7b r7f
  clear r1x20 r1y20 r1z20 r1l20
  clear r2x20 r2y20 r2z20 r2l20
  clear r3x20 r3y20 r3z20 r3l20
  clear r6x20 r6y20 r6z20 r6l20
  clear r7x20 r7y20 r7z20 r7l20
  replace hB := below2 hB hb
  replace h1 := h1.keep hb
  replace h4 := h4.keep hb
  replace r1 := r1.below hb
  replace r2 := r2.below hb
  replace r3 := r3.below hb
  replace r6 := r6.below hb
  replace r7 := r7.below hb
  clear hb hl h5
  clear cc
  have cc := check_any (0, 9) ([⟨0, 4, ⟨3, 1⟩⟩, ⟨5, 9, ⟨1, 2⟩⟩] : List Er) _ w21 h1
  obtain ⟨r1a, r1b, r1f⟩ := cells2 r1
  obtain ⟨r2a, r2b, r2f⟩ := cells2 r2
  obtain ⟨r3a, r3b, r3f⟩ := cells2 r3
  obtain ⟨r6a, r6b, r6f⟩ := cells2 r6
  obtain ⟨r7a, r7b, r7f⟩ := cells2 r7
  go_wp2_with fail
  rw [show chk (okL (0, 9) ([⟨0, 4, ⟨3, 1⟩⟩, ⟨5, 9, ⟨1, 2⟩⟩] : List Er)) = 0 from by kernel_rfl] at cc
  go_at_call 13; refine cc.mono ?_; rintro e w22 ⟨rfl, hb⟩
  clear r1a r1b r1f
  clear r2a r2b r2f
  clear r3a r3b r3f
  clear r6a r6b r6f
  clear r7a r7b r7f
  replace hB := below2 hB hb
  clear hb
  clear cc
  go_wp2_with fail
  go_ret
  exact ⟨rfl, hB⟩
end Go.Proofs.Ytmkbijnndbgjgaa.Ln
namespace Go.Proofs.Ytmkbijnndbgjgaa.Ln
open Go.ChangeShapes Go.WideShapes Go.ChangeAt Go.RowKit
open Go.Proofs.Ytmkbijnndbgjgaa.Iv (Iv open_iv2 cI)
open Go.Proofs.Ytmkbijnndbgjgaa.Lk (HasRow row_of flat_get hasRow_nil)
section
variable {H : Type} {enc : TypeId × Value → H} {W : World} {base : Nat} {spare : Nat → Bool} {held : Bool}
set_option maxRecDepth 100000 in
theorem open_vd2 {c0 c1 : Value} {fuel : Nat} {d : DataW H × List MemPlace} (hf : DataW.trod enc Try.prog W base spare held fuel 35 [c0, c1] = some d) : ∃ v : Vd, [c0, c1] = [.int .u8 v.kind, .int .i64 v.at'] := by
  obtain ⟨xs, n, _, _, hlen, hxl, hfs⟩ := DataW.trod_struct Try.underlying35 hf
  have g0 : DataW.trod enc Try.prog W base spare held n 33 ((([c0, c1] : List Value).drop 0).take (Try.prog.cellsOf 33)) = xs[0]? := hfs 0 _ rfl
  have g1 : DataW.trod enc Try.prog W base spare held n 3 ((([c0, c1] : List Value).drop 1).take (Try.prog.cellsOf 3)) = xs[1]? := hfs 1 _ rfl
  have hx2 : xs.length = 2 := hxl
  rw [List.getElem?_eq_getElem (by omega)] at g0 g1
  rw [show Try.prog.cellsOf 33 = 1 from by kernel_rfl] at g0
  rw [show Try.prog.cellsOf 3 = 1 from by kernel_rfl] at g1
  obtain ⟨a, e2, _, hw⟩ := DataW.trod_int Try.underlying33 g0
  obtain ⟨b, e3, _, hw2⟩ := DataW.trod_int Try.underlying3 g1
  have e2' : c0 = .int .u8 a := by injection e2
  have e3' : c1 = .int .i64 b := by injection e3
  subst e2' e3'
  exact ⟨⟨a, b⟩, rfl⟩
set_option maxRecDepth 100000 in
theorem open_vd {v : Value} {d : DataW H} {ps : List MemPlace} {r : Reach} {b0 : Nat} (hval : Value.okWide Try.prog W r b0 35 v) (h : DataW.Trod enc Try.prog W base spare held 35 v d ps) : ∃ x : Vd, v = vdV x := by
  obtain ⟨cs, rfl, hsz⟩ := okWide_struct Try.underlying35 hval
  obtain ⟨fuel, hf⟩ := h
  rw [show Try.prog.cellsOf 35 = 2 from by kernel_rfl] at hsz
  obtain ⟨x, y, rfl⟩ : ∃ x y, cs = #[x, y] := by
    obtain ⟨l⟩ := cs
    match l, hsz with
    | [x, y], _ => exact ⟨x, y, rfl⟩
  obtain ⟨p, hp⟩ := open_vd2 hf
  refine ⟨p, ?_⟩
  have e : #[x, y] = [Value.int .u8 p.kind, .int .i64 p.at'].toArray := by rw [← hp]
  rw [e]; rfl
set_option maxRecDepth 100000 in
theorem open_mk3 {c0 c1 c2 : Value} {fuel : Nat} {d : DataW H × List MemPlace} (hf : DataW.trod enc Try.prog W base spare held fuel 46 [c0, c1, c2] = some d) : ∃ m : Mk, [c0, c1, c2] = cM m := by
  obtain ⟨xs, n, _, _, hlen, hxl, hfs⟩ := DataW.trod_struct Try.underlying46 hf
  have g0 : DataW.trod enc Try.prog W base spare held n 2 ((([c0, c1, c2] : List Value).drop 0).take (Try.prog.cellsOf 2)) = xs[0]? := hfs 0 _ rfl
  have g1 : DataW.trod enc Try.prog W base spare held n 35 ((([c0, c1, c2] : List Value).drop 1).take (Try.prog.cellsOf 35)) = xs[1]? := hfs 1 _ rfl
  have hx2 : xs.length = 2 := hxl
  rw [List.getElem?_eq_getElem (by omega)] at g0 g1
  rw [show Try.prog.cellsOf 2 = 1 from by kernel_rfl] at g0
  rw [show Try.prog.cellsOf 35 = 2 from by kernel_rfl] at g1
  obtain ⟨a, e2, _, hw⟩ := DataW.trod_int Try.underlying2 g0
  obtain ⟨b, e3⟩ := open_vd2 g1
  have e2' : c0 = .int .i64 a := by injection e2
  injection e3 with e3 e4
  injection e4 with e4 _
  subst e2' e3 e4
  exact ⟨⟨a, b⟩, rfl⟩
set_option maxRecDepth 100000 in
theorem open_er4 {c0 c1 c2 c3 : Value} {fuel : Nat} {d : DataW H × List MemPlace} (hf : DataW.trod enc Try.prog W base spare held fuel 49 [c0, c1, c2, c3] = some d) : ∃ x : Er, [c0, c1, c2, c3] = cE x := by
  obtain ⟨xs, n, _, _, hlen, hxl, hfs⟩ := DataW.trod_struct Try.underlying49 hf
  have g0 : DataW.trod enc Try.prog W base spare held n 23 ((([c0, c1, c2, c3] : List Value).drop 0).take (Try.prog.cellsOf 23)) = xs[0]? := hfs 0 _ rfl
  have g1 : DataW.trod enc Try.prog W base spare held n 35 ((([c0, c1, c2, c3] : List Value).drop 2).take (Try.prog.cellsOf 35)) = xs[1]? := hfs 1 _ rfl
  have hx2 : xs.length = 2 := hxl
  rw [List.getElem?_eq_getElem (by omega)] at g0 g1
  rw [show Try.prog.cellsOf 23 = 2 from by kernel_rfl] at g0
  rw [show Try.prog.cellsOf 35 = 2 from by kernel_rfl] at g1
  obtain ⟨a, e2, _⟩ := open_iv2 g0
  obtain ⟨b, e3⟩ := open_vd2 g1
  injection e2 with e1 e2
  injection e2 with e2 _
  injection e3 with e3 e4
  injection e4 with e4 _
  subst e1 e2 e3 e4
  exact ⟨⟨a.1, a.2, b⟩, rfl⟩
set_option maxRecDepth 100000 in
theorem open_marks {v : Value} {fuel : Nat} {x : DataW H × List MemPlace} (h : DataW.trod enc Try.prog W base spare held fuel 24 [v] = some x) : ∃ l : List Mk, HasM W v l := by
  rcases Go.Deep.open_slice Try.underlying24 h with ⟨hcs, _⟩ | ⟨a, l, c, m, n, D, Pl, hcs, _, hl, hm, hmm, _, hx⟩
  · injection hcs with e; subst e
    exact ⟨[], hasRow_nil _ _⟩
  · injection hcs with e; subst e
    have hlm : l ≤ m := by rw [hmm]; split <;> omega
    have hA : ∀ i, ∃ p : Mk, i < l → (∀ j, j < 3 → W.cell? (a.add (i * 3 + j)) = (cM p)[j]?) := fun i => by
      by_cases hi : i < l
      · obtain ⟨cs', h1, h2⟩ := hx i (by omega)
        rw [show Try.prog.cellsOf 46 = 3 from by kernel_rfl] at h1
        obtain ⟨_, hlen, hcell⟩ := World.cells?_some h1
        obtain ⟨c0, c1, c2, rfl⟩ : ∃ c0 c1 c2, cs' = [c0, c1, c2] := by
          match cs', hlen with
          | [c0, c1, c2], _ => exact ⟨c0, c1, c2, rfl⟩
        obtain ⟨s, es⟩ := open_mk3 h2
        refine ⟨s, fun _ j hj => ?_⟩
        rw [← es]
        have := hcell j hj
        rw [Go.Deep.add_add] at this
        rw [this]
      · exact ⟨⟨0, ⟨0, 0⟩⟩, fun h => absurd h hi⟩
    obtain ⟨F, hF⟩ := Classical.axiomOfChoice hA
    refine ⟨(List.range l).map F, ?_⟩
    unfold HasM
    rw [List.length_map, List.length_range]
    refine row_of (by decide) hl hm (by rw [csM_len]; simp) (fun j hj => ?_)
    have hj2 : j / 3 < l := by omega
    have hc := hF (j / 3) hj2
    show _ = (((List.range l).map F).flatMap cM)[j]?
    rw [flat_get cM 3 (by decide) (fun x => rfl) _ j (by simp; omega)]
    simp only [List.getElem_map, List.getElem_range]
    rw [← hc (j % 3) (by omega)]
    congr 2
    omega
set_option maxRecDepth 100000 in
theorem open_eras {v : Value} {fuel : Nat} {x : DataW H × List MemPlace} (h : DataW.trod enc Try.prog W base spare held fuel 25 [v] = some x) : ∃ l : List Er, HasE W v l := by
  rcases Go.Deep.open_slice Try.underlying25 h with ⟨hcs, _⟩ | ⟨a, l, c, m, n, D, Pl, hcs, _, hl, hm, hmm, _, hx⟩
  · injection hcs with e; subst e
    exact ⟨[], hasRow_nil _ _⟩
  · injection hcs with e; subst e
    have hlm : l ≤ m := by rw [hmm]; split <;> omega
    have hA : ∀ i, ∃ p : Er, i < l → (∀ j, j < 4 → W.cell? (a.add (i * 4 + j)) = (cE p)[j]?) := fun i => by
      by_cases hi : i < l
      · obtain ⟨cs', h1, h2⟩ := hx i (by omega)
        rw [show Try.prog.cellsOf 49 = 4 from by kernel_rfl] at h1
        obtain ⟨_, hlen, hcell⟩ := World.cells?_some h1
        obtain ⟨c0, c1, c2, c3, rfl⟩ : ∃ c0 c1 c2 c3, cs' = [c0, c1, c2, c3] := by
          match cs', hlen with
          | [c0, c1, c2, c3], _ => exact ⟨c0, c1, c2, c3, rfl⟩
        obtain ⟨s, es⟩ := open_er4 h2
        refine ⟨s, fun _ j hj => ?_⟩
        rw [← es]
        have := hcell j hj
        rw [Go.Deep.add_add] at this
        rw [this]
      · exact ⟨⟨0, 0, ⟨0, 0⟩⟩, fun h => absurd h hi⟩
    obtain ⟨F, hF⟩ := Classical.axiomOfChoice hA
    refine ⟨(List.range l).map F, ?_⟩
    unfold HasE
    rw [List.length_map, List.length_range]
    refine row_of (by decide) hl hm (by rw [csE_len]; simp) (fun j hj => ?_)
    have hj2 : j / 4 < l := by omega
    have hc := hF (j / 4) hj2
    show _ = (((List.range l).map F).flatMap cE)[j]?
    rw [flat_get cE 4 (by decide) (fun x => rfl) _ j (by simp; omega)]
    simp only [List.getElem_map, List.getElem_range]
    rw [← hc (j % 4) (by omega)]
    congr 2
    omega
end
end Go.Proofs.Ytmkbijnndbgjgaa.Ln
namespace Go.Proofs.Ytmkbijnndbgjgaa.Ln
open Go.RowKit Go.Shelf
open Go.Proofs.Ytmkbijnndbgjgaa.Iv (Iv FitT FitI okI okI_iff one_any)
open Go.Proofs.Ytmkbijnndbgjgaa.Lk (HasRow hasRow_own addr_add)
open Go.Proofs.Ytmkbijnndbgjgaa.Addr (Bl bl_ne wp_region_bl bl_call RowAt below2 below_drew below_new bset RowAt.lt RowAt.cell RowAt.frozen RowAt.below RowAt.drew RowAt.new RowAt.alloc cells2 cells4)
attribute [-go_sem] Builtin.append_
theorem own_shapeE {w W : World} {u : Value} {R : List Er} (h : OwnE w W u R) (hR : 0 < R.length) : ∃ gr c, u = .slice (some ⟨gr, 0, none⟩) R.length c ∧ R.length ≤ c ∧ c ≤ 9223372036854775807 ∧ w.heap.size ≤ gr ∧ gr < W.heap.size := by
  rcases h.ou.2 with ⟨_, h0⟩ | ⟨g, cap, cur, rfl, hg, hgb, hnc, hcm, _⟩
  · omega
  · exact ⟨g, cap, rfl, hnc, by unfold maxLen at hcm; exact hcm, hg, (Array.getElem?_eq_some_iff.1 hgb).1⟩
theorem own_putE {w W : World} {gr c : Nat} {A : List Er} {x : Er} (y : Int) (h : OwnE w W (.slice (some ⟨gr, 0, none⟩) (A.length + 1) c) (A ++ [x])) (hg : w.heap.size ≤ gr) : OwnE w (W.setCell ⟨gr, A.length * 4 + 1, none⟩ (.int .i64 y)) (.slice (some ⟨gr, 0, none⟩) (A.length + 1) c) (A ++ [⟨x.a, y, x.v⟩]) := by
  refine ⟨?_, bset h.bl hg⟩
  have e2 : (A ++ [x]).length = A.length + 1 := by simp
  have e3 : (A ++ [(⟨x.a, y, x.v⟩ : Er)]).length = A.length + 1 := by simp
  have hou := h.ou
  rw [e2] at hou
  have h5 := (hou.stored (A.length * 4 + 1) (.int .i64 y)).1
  have e : (csE (A ++ [x])).set (A.length * 4 + 1) (.int .i64 y) = csE (A ++ [⟨x.a, y, x.v⟩]) := by
    rw [csE_app, csE_app, List.set_append_right _ _ (by rw [csE_len]; omega), csE_len, csE_one, csE_one, show A.length * 4 + 1 - A.length * 4 = 1 by omega]
    rfl
  rw [e] at h5
  rw [e3]
  exact h5
set_option maxHeartbeats 16000000 in
set_option maxRecDepth 20000 in
theorem rmake_any (wi : Iv) (ms : List Mk) (v : Value) (w : World) (hl : HasM w v ms) :
    Calls Try.prog 10 #[.agg #[.int .i64 wi.1, .int .i64 wi.2], v] w fun e w' => ∃ u R why, e = .returned (.tuple #[u, .int .i64 why]) ∧ OwnE w w' u R ∧ (R, why) = mkL wi ms := by
  have c1 := fun (W : World) => one_any wi W
  have hlen := fun (hw : okI wi = true) (hm : okM wi ms = true) => okM_len hw hm
  have hat := fun (hw : okI wi = true) (hm : okM wi ms = true) (k : Nat) (hk : k < ms.length) => okM_at hw hm k hk
  have HC : Hid (∀ a b, okI wi = a → okM wi ms = b → mkL wi ms = if (a && b) = true then (if (doneE wi.2 ms ms.length).length ≤ 1024 then (doneE wi.2 ms ms.length, 0) else ([], 11)) else ([], 2)) := fun a b h1 h2 => by unfold mkL; rw [h1, h2]
  have hnil : ms.length = 0 → okM wi ms = false := fun h => by
    obtain rfl : ms = [] := List.eq_nil_of_length_eq_zero h
    rfl
  have hfirst : ∀ h : 0 < ms.length, okM wi ms = (decide (ms[0].t = wi.1) && marksB wi.2 none ms) := fun h => by
    cases ms with
    | nil => simp at h
    | cons m l => rfl
  have hII : okI wi = true → wi.1 ≤ wi.2 := fun h => (okI_iff.1 h).2.1
  generalize mkL wi ms = R at *
  generalize okM wi ms = M at *
  obtain ⟨wa, wb⟩ := wi
  simp only at c1 hat HC hfirst hII ⊢
  obtain ⟨o, c, rfl, hc1, hc2⟩ := HasRow.slice hl
  obtain ⟨n, hn⟩ : ∃ n, n = ms.length := ⟨_, rfl⟩
  have HN : Hid (n = ms.length) := hn
  rw [← hn] at hc1 hl HC hlen hnil ⊢
  have hni : (n : Int) ≤ 9223372036854775807 := by omega
  obtain ⟨X, hX⟩ : ∃ X, X = w.alloc (.cells #[.int .i64 wa, .int .i64 wb] 23) := ⟨_, rfl⟩
  have hB0 : Below w.heap.size w X := by rw [hX]; exact below_new (Below.refl _ _) _
  have rw0 : RowAt X w.heap.size [.int .i64 wa, .int .i64 wb] 23 := by rw [hX]; exact RowAt.new _ _ _
  obtain ⟨g0, hg0⟩ : ∃ g, g = w.heap.size := ⟨_, rfl⟩
  rw [← hg0] at rw0
  replace hl := hl.keep hB0
  have HR : Hid (∀ wr : World, Below X.heap.size X wr → HasM wr (.slice o n c) ms ∧ RowAt wr g0 [.int .i64 wa, .int .i64 wb] 23) := fun wr hb => ⟨hl.keep hb, rw0.below hb⟩
  obtain ⟨y0, y1, _⟩ := cells2 rw0
  go_enter Try.func10, Try.ntmps10
  go_upto_region 1 with fail
  rw [← hX, ← hg0]
  clear hX hg0 rw0 hl hn
  cases hA : okI (wa, wb)
  · rw [hA] at c1
    have HV : Hid ((([] : List Er), (2 : Int)) = R) := (HC.out _ _ hA rfl).symm
    clear HC HR hA hlen hat hnil hfirst hII
    go_wp2_with fail
    go_at_call 34; refine (c1 _).mono ?_; rintro e w3 ⟨rfl, hq⟩
    clear c1
    have hBZ := below2 hB0 hq
    clear y0 y1
    go_wp2_with fail
    go_ret2
    exact ⟨_, [], _, rfl, (OwnE.nil w).below hBZ, HV.out⟩
  · rw [hA] at c1
    replace hlen := hlen hA
    replace hat := hat hA
    have hwab := hII hA
    clear hII
    by_cases hn0 : n = 0
    · have HV : Hid ((([] : List Er), (2 : Int)) = R) := (HC.out _ _ hA (hnil hn0)).symm
      have he0 : ((n : Int) == (0 : Int)) = true := by simp [hn0]
      have he0b : decide ((n : Int) = (0 : Int)) = true := decide_eq_true (by omega)
      have he0c : (n : Int) = 0 := by omega
      clear HC HR hA hlen hat hnil hfirst
      go_wp2_with fail
      go_at_call 34; refine (c1 _).mono ?_; rintro e w3 ⟨rfl, hq⟩
      clear c1
      have hBZ := below2 hB0 hq
      clear y0 y1
      go_wp2_with fail
      go_ret2
      exact ⟨_, [], _, rfl, (OwnE.nil w).below hBZ, HV.out⟩
    · have hp0 : 0 < ms.length := by have := HN.out; omega
      have hf := hfirst hp0
      have hne0 : ((n : Int) == (0 : Int)) = false := by simp; omega
      have hne0b : decide ((n : Int) = (0 : Int)) = false := decide_eq_false (by omega)
      have hn2 : 0 < n := by omega
      have HVb : Hid (M = false → (([] : List Er), (2 : Int)) = R) := fun h => (HC.out _ _ hA h).symm
      have HVt : Hid (M = true → R = if (doneE wb ms n).length ≤ 1024 then (doneE wb ms n, 0) else ([], 11)) := fun h => HC.out _ _ hA h
      have HT : Hid (M = true → ∀ k (hk : k < ms.length), 0 ≤ ms[k].t ∧ ms[k].t ≤ wb ∧ wb ≤ 1099511627776) := fun h k hk => ⟨(hat h k hk).1, (hat h k hk).2.1, (hat h k hk).2.2.1⟩
      have HLN : Hid (M = true → n ≤ 1099511627777) := hlen
      have HF : Hid (M = (decide (ms[0].t = wa) && marksB wb none ms)) := hf
      clear HC hnil hfirst hf hat hlen hA
      go_wp2_with fail
      go_at_call 34; refine (c1 _).mono ?_; rintro e w3 ⟨rfl, hq⟩
      clear c1
      clear y0 y1
      go_wp2_with fail
      go_loopw [23] (fun q wr => ∃ k : Nat, k ≤ n ∧ q = .int .i64 k ∧ Below X.heap.size X wr ∧ (k = 0 ∨ Hid (M = marksB wb (prevM ms k) (ms.drop k)))) (fun q _ => n - (Go.RowKit.intOf q).toNat)
      case atStart => exact ⟨0, by omega, rfl, hq, .inl rfl⟩
      case round =>
        clear hq
        obtain ⟨k, hk, rfl, hB, HG⟩ := hrel
        obtain ⟨hh, rw0⟩ := HR.out _ hB
        by_cases hlt : k < n
        · have hkz : k < ms.length := by rw [← HN.out]; exact hlt
          obtain ⟨g2, i2, rfl, hg2, a0, a1, a2⟩ := HasM.cell hh k hkz
          have hki : (k : Int) < (n : Int) := by omega
          have HST : Hid (M = ((if k = 0 then decide (ms[k].t = wa) else true) && (stepM wb (prevM ms k) ms[k] && marksB wb (prevM ms (k + 1)) (ms.drop (k + 1))))) := by
            show _ = _
            rw [← marksB_drop hkz]
            rcases HG with h0 | HG
            · subst h0; rw [HF.out, if_pos rfl]; rfl
            · by_cases h0 : k = 0
              · subst h0; rw [HF.out, if_pos rfl]; rfl
              · rw [if_neg h0, HG.out]; rfl
          unfold stepM at HST
          have hP0 : Hid (k = 0 → gtP (prevM ms k) ms[k].t = true) := fun h => by subst h; rfl
          have hP1 : Hid (∀ j (hj : j < ms.length), k = j + 1 → gtP (prevM ms k) ms[k].t = decide (ms[j].t < ms[k].t)) := fun j hj h => by subst h; rw [prevM_succ hj]; rfl
          have cV := fun (W : World) => rone_any ms[k].v W
          generalize gtP (prevM ms k) ms[k].t = NP at HST hP0 hP1
          generalize okV ms[k].v = OV at HST cV
          generalize ms[k].v = xv at a1 a2 cV
          generalize ms[k].t = xt at a0 HST hP1
          generalize xv.kind = xk at *
          generalize xv.at' = xi at *
          clear HG hg2
          go_upto_region 6 with fail
          obtain ⟨Y, hY⟩ : ∃ X, X = wr.alloc (.cells #[.int .i64 xt, .int .u8 xk, .int .i64 xi] 46) := ⟨_, rfl⟩
          have hbY : Below wr.heap.size wr Y := by rw [hY]; exact below_new (Below.refl _ _) _
          have rx : RowAt Y wr.heap.size [.int .i64 xt, .int .u8 xk, .int .i64 xi] 46 := by rw [hY]; exact RowAt.new _ _ _
          rw [← hY]
          replace hB := below2 hB hbY
          clear hY hbY a0 a1 a2 rw0 hh
          obtain ⟨gx, hgx⟩ : ∃ g, g = wr.heap.size := ⟨_, rfl⟩
          rw [← hgx] at rx ⊢
          clear hgx
          have hBW := below2 hB0 hB
          obtain ⟨hh, rw0⟩ := HR.out _ hB
          haveI := bl_ne Y
          have y0 := fun p : Bl Y => (rx.below p.h).cell 0
          have y1 := fun p : Bl Y => (rx.below p.h).cell 1
          have y2 := fun p : Bl Y => (rx.below p.h).cell 2
          have z0 := fun p : Bl Y => (rw0.below p.h).cell 0
          have z1 := fun p : Bl Y => (rw0.below p.h).cell 1
          simp only [List.getElem?_cons_succ, List.getElem?_cons_zero] at y0 y1 y2 z0 z1
          cases OV
          · have HV : Hid ((([] : List Er), (2 : Int)) = R) := HVb.out (by rw [HST.out]; simp)
            clear HST hP0 hP1 hh
            refine wp_region_bl (by kernel_rfl) (by kernel_rfl) ?_
            repeat (go_big_quiet_step (first | (go_at_call 35; with_reducible exact bl_call (cV _))))
            refine wpQuiet_nil ?_
            intro wq hw'
            obtain ⟨⟨wz, hq⟩, hw2⟩ := hw'
            subst hw2
            have hBZ := below2 hBW hq
            clear y0 y1 y2 z0 z1
            go_wp2_with fail
            go_ret2
            exact ⟨_, [], _, rfl, (OwnE.nil w).below hBZ, HV.out⟩
          · by_cases hk0 : k = 0
            · have hz0 : decide ((k : Int) = (0 : Int)) = true := decide_eq_true (by omega)
              have hz0b : ((k : Int) == (0 : Int)) = true := by simp [hk0]
              have hz1 : decide ((0 : Int) < (k : Int)) = false := decide_eq_false (by omega)
              have hz2 : decide (0 < k) = false := decide_eq_false (by omega)
              have hz3 : decide (k = 0) = true := decide_eq_true hk0
              by_cases h2 : xt = wa
              · have e0 : (xt != wa) = false := by simp [h2]
                have HYE : Hid (M = marksB wb (prevM ms (k + 1)) (ms.drop (k + 1))) := by show _ = _; rw [HST.out, hP0.out hk0, if_pos hk0, decide_eq_true h2, decide_eq_true (show xt ≤ wb by omega)]; rfl
                clear HST hP0 hP1 hh
                subst h2
                refine wp_region_bl (by kernel_rfl) (by kernel_rfl) ?_
                repeat (go_big_quiet_step (first | (go_at_call 35; with_reducible exact bl_call (cV _))))
                refine wpQuiet_nil ?_
                intro wq hw'
                obtain ⟨⟨wz, hq⟩, hw2⟩ := hw'
                subst hw2
                have hBZ := below2 hB hq
                clear y0 y1 y2 z0 z1
                go_wp2_with fail
                go_roundw
                case rel => exact ⟨k + 1, by omega, by go_num, hBZ, .inr HYE⟩
                case measure => simp [Go.RowKit.intOf]; omega
              · have e0 : (xt != wa) = true := by simp [h2]
                have HV : Hid ((([] : List Er), (2 : Int)) = R) := HVb.out (by rw [HST.out, if_pos hk0, decide_eq_false h2]; rfl)
                clear HST hP0 hP1 hh
                refine wp_region_bl (by kernel_rfl) (by kernel_rfl) ?_
                repeat (go_big_quiet_step (first | (go_at_call 35; with_reducible exact bl_call (cV _))))
                refine wpQuiet_nil ?_
                intro wq hw'
                obtain ⟨⟨wz, hq⟩, hw2⟩ := hw'
                subst hw2
                have hBZ := below2 hBW hq
                clear y0 y1 y2 z0 z1
                go_wp2_with fail
                go_ret2
                exact ⟨_, [], _, rfl, (OwnE.nil w).below hBZ, HV.out⟩
            · have hz0 : decide ((k : Int) = (0 : Int)) = false := decide_eq_false (by omega)
              have hz0b : ((k : Int) == (0 : Int)) = false := by simp; omega
              have hz1 : decide ((0 : Int) < (k : Int)) = true := decide_eq_true (by omega)
              have hz2 : decide (0 < k) = true := decide_eq_true (by omega)
              have hz3 : decide (k = 0) = false := decide_eq_false hk0
              obtain ⟨j, hj⟩ : ∃ j, k = j + 1 := ⟨k - 1, by omega⟩
              have hj2 : j < ms.length := by omega
              obtain ⟨g3, i3, e13, hg3, b0, _, _⟩ := HasM.cell hh j hj2
              injection e13 with e13
              injection e13 with e3 e4
              subst e3 e4
              have hNP := hP1.out j hj2 hj
              have q0 : ∀ p : Bl Y, p.W.cell? ⟨g2, i2 + j * 3, none⟩ = some (.int .i64 ms[j].t) := fun p => (p.h.cell (p := ⟨g2, i2 + j * 3, none⟩) hg3).trans b0
              have e1 : (k : Int) - 1 = (j : Int) := by omega
              have e2 : IntKind.i64.wrap (j : Int) = (j : Int) := by rw [IntKind.wrap_i64]; omega
              have hjn : (j : Int) < (n : Int) := by omega
              generalize ms[j].t = pt at *
              clear hP0 hP1 hh hj b0 hg3
              by_cases h3 : pt < xt
              · have h3b : decide (xt ≤ pt) = false := decide_eq_false (by omega)
                by_cases h2 : wb < xt
                · have h2b : decide (wb < xt) = true := decide_eq_true h2
                  have HV : Hid ((([] : List Er), (2 : Int)) = R) := HVb.out (by rw [HST.out, if_neg hk0, decide_eq_false (show ¬ xt ≤ wb by omega)]; rfl)
                  clear HST hNP hk0
                  refine wp_region_bl (by kernel_rfl) (by kernel_rfl) ?_
                  repeat (go_big_quiet_step (first | (go_at_call 35; with_reducible exact bl_call (cV _))))
                  refine wpQuiet_nil ?_
                  intro wq hw'
                  obtain ⟨⟨wz, hq⟩, hw2⟩ := hw'
                  subst hw2
                  have hBZ := below2 hBW hq
                  clear y0 y1 y2 z0 z1 q0
                  go_wp2_with fail
                  go_ret2
                  exact ⟨_, [], _, rfl, (OwnE.nil w).below hBZ, HV.out⟩
                · have h2b : decide (wb < xt) = false := decide_eq_false h2
                  have HYE : Hid (M = marksB wb (prevM ms (k + 1)) (ms.drop (k + 1))) := by show _ = _; rw [HST.out, hNP, if_neg hk0, decide_eq_true (show xt ≤ wb by omega), decide_eq_true h3]; rfl
                  clear HST hNP hk0
                  refine wp_region_bl (by kernel_rfl) (by kernel_rfl) ?_
                  repeat (go_big_quiet_step (first | (go_at_call 35; with_reducible exact bl_call (cV _))))
                  refine wpQuiet_nil ?_
                  intro wq hw'
                  obtain ⟨⟨wz, hq⟩, hw2⟩ := hw'
                  subst hw2
                  clear q0 e1 e2 hjn
                  have hBZ := below2 hB hq
                  clear y0 y1 y2 z0 z1
                  go_wp2_with fail
                  go_roundw
                  case rel => exact ⟨k + 1, by omega, by go_num, hBZ, .inr HYE⟩
                  case measure => simp [Go.RowKit.intOf]; omega
              · have h3b : decide (xt ≤ pt) = true := decide_eq_true (by omega)
                have HV : Hid ((([] : List Er), (2 : Int)) = R) := HVb.out (by rw [HST.out, hNP, if_neg hk0, decide_eq_false h3]; simp)
                clear HST hNP hk0
                refine wp_region_bl (by kernel_rfl) (by kernel_rfl) ?_
                repeat (go_big_quiet_step (first | (go_at_call 35; with_reducible exact bl_call (cV _))))
                refine wpQuiet_nil ?_
                intro wq hw'
                obtain ⟨⟨wz, hq⟩, hw2⟩ := hw'
                subst hw2
                have hBZ := below2 hBW hq
                clear y0 y1 y2 z0 z1 q0
                go_wp2_with fail
                go_ret2
                exact ⟨_, [], _, rfl, (OwnE.nil w).below hBZ, HV.out⟩
        · have hkn : decide ((k : Int) < (n : Int)) = false := decide_eq_false (by omega)
          have hdr : ms.drop k = [] := by have := HN.out; exact List.drop_eq_nil_of_le (by omega)
          have hM : M = true := by
            rcases HG with h0 | HG
            · omega
            · rw [HG.out, hdr]; cases prevM ms k <;> rfl
          have HV : Hid (R = if (doneE wb ms n).length ≤ 1024 then (doneE wb ms n, 0) else ([], 11)) := HVt.out hM
          have HT2 : Hid (∀ k (hk : k < ms.length), 0 ≤ ms[k].t ∧ ms[k].t ≤ wb ∧ wb ≤ 1099511627776) := HT.out hM
          have hlen := HLN.out hM
          have H0 : Hid (OwnE X wr (.slice none 0 0) (doneE wb ms 0)) := (OwnE.nil wr).to hB
          clear HVt HVb HF HT HLN HG hM hdr rw0 hh hB
          go_wp2_with fail
          clear hlt hk hkn
          go_loopw [8, 68] (fun u q wr => ∃ k : Nat, k ≤ n ∧ q = .int .i64 k ∧ Hid (OwnE X wr u (doneE wb ms k))) (fun _ q _ => n - (Go.RowKit.intOf q).toNat)
          case atStart => exact ⟨0, by omega, rfl, H0⟩
          case round =>
            clear H0
            obtain ⟨k, hk, rfl, HI⟩ := hrel
            have hI := HI.out
            obtain ⟨hh, rw0⟩ := HR.out _ hI.bl
            by_cases hlt : k < n
            · have hkz : k < ms.length := by rw [← HN.out]; exact hlt
              obtain ⟨g2, i2, rfl, hg2, a0, a1, a2⟩ := HasM.cell hh k hkz
              have hki : (k : Int) < (n : Int) := by omega
              have hti := HT2.out k hkz
              have HS : Hid (∀ b : Int, b = endM wb ms k → putE (doneE wb ms k) ms[k].t b ms[k].v = doneE wb ms (k + 1)) := fun b hb => by rw [hb, doneE_succ hkz]
              have HLK : Hid ((doneE wb ms k).length ≤ k) := doneE_len wb ms k
              generalize ms[k].v = xv at a1 a2 HS
              generalize ms[k].t = xt at a0 HS hti
              generalize doneE wb ms k = D at *
              obtain ⟨xk, xi⟩ := xv
              simp only at a1 a2
              clear hg2 HI rw0 hh
              go_upto_region 13 with fail
              obtain ⟨Y, hY⟩ : ∃ X, X = wr.alloc (.cells #[.int .i64 xt, .int .u8 xk, .int .i64 xi] 46) := ⟨_, rfl⟩
              have hbY : Below wr.heap.size wr Y := by rw [hY]; exact below_new (Below.refl _ _) _
              have rx : RowAt Y wr.heap.size [.int .i64 xt, .int .u8 xk, .int .i64 xi] 46 := by rw [hY]; exact RowAt.new _ _ _
              rw [← hY]
              replace hI := hI.below hbY
              clear hY hbY a0 a1 a2
              obtain ⟨gx, hgx⟩ : ∃ g, g = wr.heap.size := ⟨_, rfl⟩
              rw [← hgx] at rx ⊢
              clear hgx
              obtain ⟨hh, rw0⟩ := HR.out _ hI.bl
              obtain ⟨z0, z1, _⟩ := cells2 rw0
              have HMV : Hid (∃ b, b = endM wb ms k) := ⟨_, rfl⟩
              obtain ⟨b, hb⟩ := HMV.out
              have HS2 : Hid (putE D xt b ⟨xk, xi⟩ = doneE wb ms (k + 1)) := HS.out b hb
              have HB : Hid (b = endM wb ms k) := hb
              clear HMV hb HS
              go_upto_if 79 with fail
              go_cut [11] (fun t wc => t = .int .i64 b ∧ wc = Y)
              case first =>
                by_cases hnx : k + 1 < n
                · have hkx : k + 1 < ms.length := by rw [← HN.out]; exact hnx
                  obtain ⟨g3, i3, e13, hg3, b0, _, _⟩ := HasM.cell hh (k + 1) hkx
                  injection e13 with e13
                  injection e13 with e3 e4
                  subst e3 e4
                  have ht2 := HT2.out (k + 1) hkx
                  have HE : Hid (ms[k + 1].t - 1 = endM wb ms k) := (endM_next hkx).symm
                  have hnxi : decide ((k : Int) + 1 < (n : Int)) = true := decide_eq_true (by omega)
                  have hnx2 : (k : Int) + 1 < (n : Int) := by omega
                  generalize ms[k + 1].t = pt at *
                  have e1 : IntKind.i64.wrap ((k : Int) + 1) = (k : Int) + 1 := by rw [IntKind.wrap_i64]; omega
                  have e2 : IntKind.i64.wrap (pt - 1) = pt - 1 := by rw [IntKind.wrap_i64]; omega
                  have e5 : ((k : Int) + 1).toNat = k + 1 := by omega
                  clear hg3 hh
                  go_wp2_with fail
                  go_meet
                  exact ⟨congrArg _ (HE.out.trans HB.out.symm), rfl⟩
                · have HE : Hid (wb = endM wb ms k) := (endM_last (by rw [← HN.out]; omega)).symm
                  have hnxi : decide ((k : Int) + 1 < (n : Int)) = false := decide_eq_false (by omega)
                  clear hh
                  go_wp2_with fail
                  go_meet
                  exact ⟨congrArg _ (HE.out.trans HB.out.symm), rfl⟩
              case rest =>
              obtain ⟨rfl, rfl⟩ := hcut
              clear hh rw0 z0 z1 HB hti
              rcases List.eq_nil_or_concat D with rfl | ⟨A, x, rfl⟩
              · obtain ⟨o5, c5, rfl, _, _⟩ := HasRow.slice hI.has
                have hl0 : ([] : List Er).length = 0 := rfl
                rw [hl0] at hI ⊢
                have HV2 : Hid (doneE wb ms (k + 1) = [⟨xt, b, ⟨xk, xi⟩⟩]) := HS2.out.symm
                have HAP : Hid (∀ W', Below wc.heap.size wc W' → ∃ v' w6, (∀ ty, (Builtin.append_ #[25, 25] ty #[.slice o5 0 c5, .slice (some ⟨W'.heap.size, 0, none⟩) 1 1]).run Try.prog (W'.alloc (.cells #[.int .i64 xt, .int .i64 b, .int .u8 xk, .int .i64 xi] 49)) = .ok v' w6) ∧ OwnE X w6 v' ([⟨xt, b, ⟨xk, xi⟩⟩])) := fun W' hq => by
                  obtain ⟨v', w6, hrun, hO2, _⟩ := appEB ((hI.below hq).below (below_new (Below.refl _ W') (.cells #[.int .i64 xt, .int .i64 b, .int .u8 xk, .int .i64 xi] 49))) (litE W' ⟨xt, b, ⟨xk, xi⟩⟩ 49) (by simp)
                  exact ⟨v', w6, hrun, hO2⟩
                clear hI HS2 HLK
                haveI := bl_ne wc
                go_upto_region 17 with fail
                refine wp_region_bl (by kernel_rfl) (by kernel_rfl) ?_
                repeat (go_big_quiet_step (first | fail))
                refine wpQuiet_nil ?_
                intro wq hw'
                obtain ⟨⟨wz, hq⟩, hw2⟩ := hw'
                subst hw2
                obtain ⟨v', w6, hrun, hO2⟩ := HAP.out _ hq
                have HI2 : Hid (OwnE X w6 v' (doneE wb ms (k + 1))) := by show OwnE _ _ _ _; rw [HV2.out]; exact hO2
                clear HAP hO2 HV2 
                obtain ⟨x0, x1, x2, _⟩ := cells3 (rx.below hq)
                go_wp2_with fail
                go_roundw
                case rel => exact ⟨k + 1, by omega, by go_num, HI2⟩
                case measure => simp [Go.RowKit.intOf]; omega
              · rw [List.concat_eq_append] at hI HS2 HLK
                rw [putE_snoc] at HS2
                have e0 : (A ++ [x]).length = A.length + 1 := by simp
                obtain ⟨gr, c5, rfl, hc5, hc6, hg5, hg6⟩ := own_shapeE hI (by simp)
                have HLA : Hid (A.length ≤ k) := by have := HLK.out; show _ ≤ _; omega
                rw [e0] at hI hc5 ⊢
                have HST : Hid (∀ W', Below wc.heap.size wc W' → OwnE X (W'.setCell ⟨gr, A.length * 4 + 1, none⟩ (.int .i64 b)) (.slice (some ⟨gr, 0, none⟩) (A.length + 1) c5) (A ++ [⟨x.a, b, x.v⟩])) := fun W' hq => own_putE b (hI.below hq) hg5
                have HCL : Hid (∀ W', Below wc.heap.size wc W' → W'.cell? ⟨gr, A.length * 4 + 1, none⟩ = some (.int .i64 x.b) ∧ W'.cell? ⟨gr, A.length * 4 + 2, none⟩ = some (.int .u8 x.v.kind) ∧ W'.cell? ⟨gr, A.length * 4 + 3, none⟩ = some (.int .i64 x.v.at') ∧ (∀ k, W'.frozen? ⟨gr, k, none⟩ = false)) := fun W' hq => by
                  have hou := (hI.below hq).ou
                  rw [e0] at hou
                  have h2 := csE_at (A ++ [x]) A.length (by simp)
                  simp only [List.getElem_concat_length] at h2
                  refine ⟨(hou.cellAt (A.length * 4 + 1) (by omega)).trans (by rw [Nat.mul_comm]; exact h2.2.1), (hou.cellAt (A.length * 4 + 2) (by omega)).trans (by rw [Nat.mul_comm]; exact h2.2.2.1), (hou.cellAt (A.length * 4 + 3) (by omega)).trans (by rw [Nat.mul_comm]; exact h2.2.2.2), hou.frozenAt⟩
                have HAP : Hid (∀ W', Below wc.heap.size wc W' → ∃ v' w6, (∀ ty, (Builtin.append_ #[25, 25] ty #[.slice (some ⟨gr, 0, none⟩) (A.length + 1) c5, .slice (some ⟨W'.heap.size, 0, none⟩) 1 1]).run Try.prog (W'.alloc (.cells #[.int .i64 xt, .int .i64 b, .int .u8 xk, .int .i64 xi] 49)) = .ok v' w6) ∧ OwnE X w6 v' (A ++ [x] ++ [⟨xt, b, ⟨xk, xi⟩⟩])) := fun W' hq => by
                  obtain ⟨v', w6, hrun, hO2, _⟩ := appEB ((hI.below hq).below (below_new (Below.refl _ W') (.cells #[.int .i64 xt, .int .i64 b, .int .u8 xk, .int .i64 xi] 49))) (litE W' ⟨xt, b, ⟨xk, xi⟩⟩ 49) (by have := HLA.out; simp; omega)
                  exact ⟨v', w6, hrun, hO2⟩
                have heq := fun W => vd_eql x.v ⟨xk, xi⟩ W
                have hvg := vd_guard
                haveI := bl_ne wc
                have q2 := fun p : Bl wc => (HCL.out _ p.h).2.1
                have q3 := fun p : Bl wc => (HCL.out _ p.h).2.2.1
                have y1 := fun p : Bl wc => (rx.below p.h).cell 1
                have y2 := fun p : Bl wc => (rx.below p.h).cell 2
                simp only [List.getElem?_cons_succ, List.getElem?_cons_zero] at y1 y2
                simp only at heq
                obtain ⟨n2, hn2⟩ : ∃ n2, n2 = A.length := ⟨_, rfl⟩
                have hgr : gr < wc.heap.size := hg6
                have hn3 : n2 ≤ k := by rw [hn2]; exact HLA.out
                rw [← hn2] at HST HCL HAP q2 q3 hc5 ⊢
                clear hn2 e0 hI hg6 HLK HLA
                have hni2 : (n2 : Int) ≤ 1099511627777 := by omega
                have e1 : (n2 : Int) + 1 - 1 = (n2 : Int) := by omega
                have e2 : IntKind.i64.wrap (n2 : Int) = (n2 : Int) := by rw [IntKind.wrap_i64]; omega
                have e4 : (n2 : Int) < (n2 : Int) + 1 := by omega
                have e6 : decide ((0 : Int) < (n2 : Int) + 1) = true := decide_eq_true (by omega)
                have HEQ : Hid (∀ e, eqV x.v ⟨xk, xi⟩ = e → doneE wb ms (k + 1) = (if e = true then A ++ [⟨x.a, b, x.v⟩] else A ++ [x] ++ [⟨xt, b, ⟨xk, xi⟩⟩])) := fun e h => by rw [← h]; exact HS2.out.symm
                clear HS2
                generalize x.v.kind = vk at *
                generalize x.v.at' = vi at *
                generalize eqV x.v ⟨xk, xi⟩ = E at *
                go_upto_region 17 with fail
                cases E
                · have HV2 : Hid (doneE wb ms (k + 1) = A ++ [x] ++ [⟨xt, b, ⟨xk, xi⟩⟩]) := HEQ.out false rfl
                  clear HEQ
                  refine wp_region_bl (by kernel_rfl) (by kernel_rfl) ?_
                  repeat (go_big_quiet_step (first | fail))
                  refine wpQuiet_nil ?_
                  intro wq hw'
                  obtain ⟨⟨wz, hq⟩, hw2⟩ := hw'
                  subst hw2
                  obtain ⟨v', w6, hrun, hO2⟩ := HAP.out _ hq
                  have HI2 : Hid (OwnE X w6 v' (doneE wb ms (k + 1))) := by show OwnE _ _ _ _; rw [HV2.out]; exact hO2
                  clear HAP hO2 HV2 HST HCL q2 q3 y1 y2 heq
                  obtain ⟨x0, x1, x2, _⟩ := cells3 (rx.below hq)
                  go_wp2_with fail
                  go_roundw
                  case rel => exact ⟨k + 1, by omega, by go_num, HI2⟩
                  case measure => simp [Go.RowKit.intOf]; omega
                · have HV2 : Hid (doneE wb ms (k + 1) = A ++ [⟨x.a, b, x.v⟩]) := HEQ.out true rfl
                  clear HEQ
                  refine wp_region_bl (by kernel_rfl) (by kernel_rfl) ?_
                  repeat (go_big_quiet_step (first | fail))
                  refine wpQuiet_nil ?_
                  intro wq hw'
                  obtain ⟨⟨wz, hq⟩, hw2⟩ := hw'
                  subst hw2
                  have HI2 : Hid (OwnE X (wq.setCell ⟨gr, n2 * 4 + 1, none⟩ (.int .i64 b)) (.slice (some ⟨gr, 0, none⟩) (n2 + 1) c5) (doneE wb ms (k + 1))) := by show OwnE _ _ _ _; rw [HV2.out]; exact HST.out _ hq
                  obtain ⟨s1, _, _, sf⟩ := HCL.out _ hq
                  clear HAP HST HCL HV2 q2 q3 y1 y2 heq
                  go_wp2_with fail
                  go_roundw
                  case rel => exact ⟨k + 1, by omega, by go_num, HI2⟩
                  case measure => simp [Go.RowKit.intOf]; omega
            · have hkn : decide ((k : Int) < (n : Int)) = false := decide_eq_false (by omega)
              obtain rfl : k = n := by omega
              generalize doneE wb ms k = D at *
              obtain ⟨o5, c5, rfl, hd1, hd2⟩ := HasRow.slice hI.has
              obtain ⟨d, hd⟩ : ∃ d, d = D.length := ⟨_, rfl⟩
              have HO := hI.to hB0
              have hbl := below2 hB0 hI.bl
              rw [← hd] at hd1 HV HO ⊢
              have HO2 : Hid (OwnE w wr (.slice o5 d c5) D) := HO
              clear HI hI hh rw0 HO hd
              by_cases hbig : d ≤ 1024
              · have HV2 : Hid ((D, (0 : Int)) = R) := by show _ = _; rw [HV.out, if_pos hbig]
                have hbg : decide ((1024 : Int) < (d : Int)) = false := decide_eq_false (by omega)
                clear HV
                go_wp2_with fail
                go_ret2
                exact ⟨_, D, _, rfl, HO2.out, HV2.out⟩
              · have HV2 : Hid ((([] : List Er), (11 : Int)) = R) := by show _ = _; rw [HV.out, if_neg hbig]
                have hbg : decide ((1024 : Int) < (d : Int)) = true := decide_eq_true (by omega)
                clear HV
                go_wp2_with fail
                go_ret2
                exact ⟨_, [], _, rfl, (OwnE.nil w).below hbl, HV2.out⟩
end Go.Proofs.Ytmkbijnndbgjgaa.Ln
namespace Go.Proofs.Ytmkbijnndbgjgaa.Ln
open Go.RowKit
open Go.Proofs.Ytmkbijnndbgjgaa.Iv (Iv okI okI_iff toS ofS okS_to map_of_to zs zs_len)
open Go.Proofs.Ytmkbijnndbgjgaa.Sp (Sp Row inB inB_iff okS row_ext)
open Go.Proofs.Ytmkbijnndbgjgaa.Ct (sortN up_sortN mem_sortN Up)
theorem di_uniq {D : Int → Bool} {n c : Int} {U V : List Eb} (h : DI D n c U) (g : DI D n c V) (h0 : 0 ≤ n) (h1 : c ≤ 1099511627777) : whenB U = whenB V := by
  obtain ⟨a1, a2, a3⟩ := di_row h h0 h1
  obtain ⟨b1, b2, b3⟩ := di_row g h0 h1
  have e : (whenB U).map toS = (whenB V).map toS := row_ext a2 b2 (fun x => Bool.eq_iff_iff.2 ((a3 x).trans (b3 x).symm))
  rw [← map_of_to a1, ← map_of_to b1, e]
/-- the row so far, its last interval open up to e or not -/
def OpIs (e : Int) (U : List Eb) (op : Bool) (O : List Iv) : Prop := (op = false ∧ O = whenB U ∧ ∀ A x, U = A ++ [x] → x.h = false) ∨ (op = true ∧ ∃ A x, U = A ++ [x] ∧ x.h = true ∧ O = whenB A ++ [(x.a, e)])
theorem op_start (e : Int) : OpIs e [] false [] := .inl ⟨rfl, rfl, fun A x h => by simp at h⟩
theorem op_close {D : Int → Bool} {n c e z : Int} {U : List Eb} {O : List Iv} (hD : DI D n c U) (h : OpIs e U true O) : ∃ B q, O = B ++ [(q, e)] ∧ OpIs e (putB U c z false) false (B ++ [(q, c - 1)]) := by
  rcases h with ⟨h, _⟩ | ⟨_, A, x, hU, hx, hO⟩
  · cases h
  · refine ⟨whenB A, x.a, hO, .inl ⟨rfl, ?_, ?_⟩⟩
    · subst hU
      have hl := hD.last A x rfl
      rw [putB_snoc, if_neg (by rw [hx]; decide), whenB_snoc, if_neg Bool.false_ne_true, whenB_snoc, if_pos hx]
      show _ = whenB A ++ [(x.a, x.b)]
      rw [show c - 1 = x.b by omega]
    · subst hU
      rw [putB_snoc, if_neg (by rw [hx]; decide)]
      intro B y hB
      rw [← (snoc_inj hB).2]
theorem op_stay {D : Int → Bool} {n c e z : Int} {U : List Eb} {O : List Iv} (hD : DI D n c U) (h : OpIs e U true O) : OpIs e (putB U c z true) true O := by
  rcases h with ⟨h, _⟩ | ⟨_, A, x, hU, hx, hO⟩
  · cases h
  · subst hU
    rw [putB_snoc, if_pos (by rw [hx]; rfl)]
    exact .inr ⟨rfl, A, ⟨x.a, z, x.h⟩, rfl, hx, hO⟩
theorem op_open {D : Int → Bool} {n c e z : Int} {U : List Eb} {O : List Iv} (hD : DI D n c U) (h : OpIs e U false O) : OpIs e (putB U c z true) true (O ++ [(c, e)]) := by
  rcases h with ⟨_, hO, hl⟩ | ⟨h, _⟩
  · rcases List.eq_nil_or_concat U with rfl | ⟨A, x, rfl⟩
    · subst hO
      exact .inr ⟨rfl, [], ⟨c, z, true⟩, rfl, rfl, rfl⟩
    · rw [List.concat_eq_append] at hO hl ⊢
      have hx := hl A x rfl
      rw [putB_snoc, if_neg (by rw [hx]; decide)]
      exact .inr ⟨rfl, A ++ [x], ⟨c, z, true⟩, rfl, rfl, by rw [hO]⟩
  · cases h
theorem op_off {D : Int → Bool} {n c e z : Int} {U : List Eb} {O : List Iv} (hD : DI D n c U) (h : OpIs e U false O) : OpIs e (putB U c z false) false O := by
  rcases h with ⟨_, hO, hl⟩ | ⟨h, _⟩
  · rcases List.eq_nil_or_concat U with rfl | ⟨A, x, rfl⟩
    · subst hO
      refine .inl ⟨rfl, rfl, fun A x h => ?_⟩
      rw [← (snoc_inj (A := []) h).2]
    · rw [List.concat_eq_append] at hO hl ⊢
      have hx := hl A x rfl
      rw [putB_snoc, if_pos (by rw [hx]; rfl)]
      refine .inl ⟨rfl, ?_, fun B y hB => ?_⟩
      · rw [hO, whenB_snoc, whenB_snoc, if_neg (by rw [hx]; decide), if_neg (by show ¬ x.h = true; rw [hx]; decide)]
      · rw [← (snoc_inj hB).2]; exact hx
  · cases h
theorem op_end {D : Int → Bool} {n e : Int} {U : List Eb} {op : Bool} {O : List Iv} (hD : DI D n (e + 1) U) (h : OpIs e U op O) : O = whenB U := by
  rcases h with ⟨_, hO, _⟩ | ⟨_, A, x, hU, hx, hO⟩
  · exact hO
  · subst hU
    have hl := hD.last A x rfl
    rw [whenB_snoc, if_pos hx, hO]
    show _ = whenB A ++ [(x.a, x.b)]
    rw [show x.b = e by omega]
/-- eras' bounds -/
theorem goE_bounds {b : Int} : ∀ (l : List Er) (p : Option Vd) (n m : Int), goE b p n l = some m → ∀ x ∈ l, n ≤ x.a ∧ x.a ≤ x.b ∧ x.b ≤ b := by
  intro l
  induction l with
  | nil => intro p n m h x hx; simp at hx
  | cons y l ih =>
    intro p n m h x hx
    simp only [goE] at h
    split at h
    · rename_i hs
      simp only [stepB, Bool.and_eq_true, decide_eq_true_eq] at hs
      rcases List.mem_cons.1 hx with rfl | hx
      · exact ⟨by omega, hs.2.1, hs.2.2.1⟩
      · have := ih _ _ _ h x hx
        exact ⟨by omega, this.2.1, this.2.2⟩
    · cases h
theorem goE_hold {b : Int} : ∀ (l : List Er) (p : Option Vd) (n m t : Int), goE b p n l = some m → ∀ x ∈ l, x.a ≤ t → t ≤ x.b → holdL l t = x.v := by
  intro l
  induction l with
  | nil => intro p n m t h x hx; simp at hx
  | cons y l ih =>
    intro p n m t h x hx h1 h2
    simp only [goE] at h
    split at h
    · rcases List.mem_cons.1 hx with rfl | hx
      · exact hold_in ⟨h1, h2⟩
      · have hb := goE_bounds l _ _ _ h x hx
        rw [hold_off (by omega)]
        exact ih _ _ _ t h x hx h1 h2
    · cases h
theorem hold_const {w : Iv} {l : List Er} (h : okL w l = true) {s t : Int} (h1 : w.1 ≤ s) (h2 : s ≤ t) (h3 : t ≤ w.2) (hno : ∀ x ∈ l, ¬ (s < x.a ∧ x.a ≤ t)) : holdL l t = holdL l s := by
  have hg := (okL_go h).2.2.2
  obtain ⟨x, hx, hi⟩ := (goE_cover l none w.1 (w.2 + 1) t hg).2.2 ⟨by omega, by omega⟩
  have hi2 := inT_iff.1 hi
  have := hno x hx
  rw [goE_hold l none w.1 _ t hg x hx hi2.1 hi2.2, goE_hold l none w.1 _ s hg x hx (by omega) (by omega)]
def startsN (a b : List Er) : List Nat := (a ++ b).map (fun x => x.a.toNat)
def timesN (a b : List Er) : List Nat := sortN (startsN a b)
/-- the time behind the k-th -/
def nxtT (w : Iv) (T : List Nat) (k : Nat) : Int := match T[k]? with | some t => (t : Int) | none => w.2 + 1
theorem nxtT_at {w : Iv} {T : List Nat} {k : Nat} (h : k < T.length) : nxtT w T k = (T[k] : Int) := by unfold nxtT; rw [List.getElem?_eq_getElem h]
theorem nxtT_end {w : Iv} {T : List Nat} {k : Nat} (h : T.length ≤ k) : nxtT w T k = w.2 + 1 := by unfold nxtT; rw [List.getElem?_eq_none h]
theorem starts_zs {w : Iv} {a b : List Er} (ha : okL w a = true) (hb : okL w b = true) : zs (startsN a b) = (a ++ b).map (fun x => x.a) := by
  unfold zs startsN
  rw [List.map_map]
  refine List.map_congr_left fun x hx => ?_
  have h0 := okI_iff.1 (okL_go ha).1
  have : w.1 ≤ x.a := by
    rcases List.mem_append.1 hx with hx | hx
    · exact (goE_bounds a _ _ _ (okL_go ha).2.2.2 x hx).1
    · exact (goE_bounds b _ _ _ (okL_go hb).2.2.2 x hx).1
  show ((x.a.toNat : Nat) : Int) = x.a
  omega
theorem times_mem {w : Iv} {a b : List Er} (ha : okL w a = true) (hb : okL w b = true) {t : Nat} : t ∈ timesN a b ↔ ∃ x, (x ∈ a ∨ x ∈ b) ∧ x.a = (t : Int) := by
  have h0 := okI_iff.1 (okL_go ha).1
  have hlow : ∀ x, (x ∈ a ∨ x ∈ b) → w.1 ≤ x.a := fun x hx => by
    rcases hx with hx | hx
    · exact (goE_bounds a _ _ _ (okL_go ha).2.2.2 x hx).1
    · exact (goE_bounds b _ _ _ (okL_go hb).2.2.2 x hx).1
  unfold timesN startsN
  rw [mem_sortN, List.mem_map]
  constructor
  · rintro ⟨x, hx, rfl⟩
    have hx2 := List.mem_append.1 hx
    have := hlow x hx2
    exact ⟨x, hx2, by show x.a = ((x.a.toNat : Nat) : Int); omega⟩
  · rintro ⟨x, hx, hxt⟩
    exact ⟨x, List.mem_append.2 hx, by omega⟩
theorem times_bd {w : Iv} {a b : List Er} (ha : okL w a = true) (hb : okL w b = true) {k : Nat} (hk : k < (timesN a b).length) : w.1 ≤ ((timesN a b)[k] : Int) ∧ ((timesN a b)[k] : Int) ≤ w.2 := by
  obtain ⟨x, hx, hxt⟩ := (times_mem ha hb).1 (List.getElem_mem hk)
  rcases hx with hx | hx
  · have := goE_bounds a _ _ _ (okL_go ha).2.2.2 x hx; omega
  · have := goE_bounds b _ _ _ (okL_go hb).2.2.2 x hx; omega
theorem times_lt {a b : List Er} {i j : Nat} (hj : j < (timesN a b).length) (hij : i < j) : (timesN a b)[i] < (timesN a b)[j] := by
  have hu : Up (timesN a b) := up_sortN _
  exact List.pairwise_iff_getElem.1 hu i j (by omega) hj hij
theorem times_first {w : Iv} {a b : List Er} (ha : okL w a = true) (hb : okL w b = true) : nxtT w (timesN a b) 0 = w.1 := by
  have hc := cov_start ha
  have h0 := okI_iff.1 (okL_go ha).1
  cases ha2 : a with
  | nil =>
    subst ha2
    have : w.1 = w.2 + 1 := hc
    omega
  | cons x l =>
    have hg := (okL_go ha).2.2.2
    rw [ha2] at hg
    simp only [goE] at hg
    split at hg
    · rename_i hs
      simp only [stepB, Bool.and_eq_true, decide_eq_true_eq] at hs
      have hm : w.1.toNat ∈ timesN a b := (times_mem ha hb).2 ⟨x, .inl (by rw [ha2]; simp), by omega⟩
      obtain ⟨j, hj, hjt⟩ := List.mem_iff_getElem.1 hm
      rw [← ha2]
      have hp : 0 < (timesN a b).length := by omega
      rw [nxtT_at hp]
      have h1 := (times_bd ha hb hp).1
      rcases Nat.eq_zero_or_pos j with rfl | hjp
      · omega
      · have := times_lt hj hjp
        omega
    · cases hg
theorem times_step {w : Iv} {a b : List Er} (ha : okL w a = true) (hb : okL w b = true) {k : Nat} (hk : k < (timesN a b).length) : ((timesN a b)[k] : Int) + 1 ≤ nxtT w (timesN a b) (k + 1) ∧ nxtT w (timesN a b) (k + 1) ≤ w.2 + 1 ∧ ∀ t, ((timesN a b)[k] : Int) ≤ t → t ≤ nxtT w (timesN a b) (k + 1) - 1 → difD a b t = difD a b ((timesN a b)[k] : Int) := by
  have hbd := times_bd ha hb hk
  have hnx : ((timesN a b)[k] : Int) + 1 ≤ nxtT w (timesN a b) (k + 1) ∧ nxtT w (timesN a b) (k + 1) ≤ w.2 + 1 := by
    by_cases h : k + 1 < (timesN a b).length
    · rw [nxtT_at h]
      have := times_lt h (show k < k + 1 by omega)
      have := times_bd ha hb h
      omega
    · rw [nxtT_end (by omega)]; omega
  refine ⟨hnx.1, hnx.2, fun t h1 h2 => ?_⟩
  have hno : ∀ x, (x ∈ a ∨ x ∈ b) → ¬ (((timesN a b)[k] : Int) < x.a ∧ x.a ≤ t) := fun x hx ⟨c1, c2⟩ => by
    have h0 := okI_iff.1 (okL_go ha).1
    have hm : x.a.toNat ∈ timesN a b := (times_mem ha hb).2 ⟨x, hx, by omega⟩
    obtain ⟨j, hj, hjt⟩ := List.mem_iff_getElem.1 hm
    have hkj : k < j := by
      rcases Nat.lt_trichotomy k j with h | h | h
      · exact h
      · subst h; omega
      · have := times_lt hk h; omega
    have hk1 : k + 1 < (timesN a b).length := by omega
    rw [nxtT_at hk1] at h2
    rcases Nat.lt_or_ge (k + 1) j with h | h
    · have := times_lt hj h; omega
    · obtain rfl : j = k + 1 := by omega
      omega
  unfold difD
  rw [hold_const ha hbd.1 h1 (by omega) (fun x hx => hno x (.inl hx)), hold_const hb hbd.1 h1 (by omega) (fun x hx => hno x (.inr hx))]
/-- between two rounds of the document's loop -/
def RD (w : Iv) (a b : List Er) (k : Nat) (op : Bool) (O : List Iv) : Prop := O.length ≤ k ∧ ∃ U, DI (difD a b) w.1 (nxtT w (timesN a b) k) U ∧ OpIs w.2 U op O
theorem rd_start {w : Iv} {a b : List Er} (ha : okL w a = true) (hb : okL w b = true) : RD w a b 0 false [] := ⟨Nat.le_refl _, [], by rw [times_first ha hb]; exact di_start _ _, op_start _⟩
theorem rd_next {w : Iv} {a b : List Er} (ha : okL w a = true) (hb : okL w b = true) {k : Nat} (hk : k < (timesN a b).length) {U : List Eb} (hD : DI (difD a b) w.1 (nxtT w (timesN a b) k) U) : DI (difD a b) w.1 (nxtT w (timesN a b) (k + 1)) (putB U ((timesN a b)[k] : Int) (nxtT w (timesN a b) (k + 1) - 1) (difD a b ((timesN a b)[k] : Int))) := by
  have hs := times_step ha hb hk
  rw [nxtT_at hk] at hD
  have := di_step hD (e := nxtT w (timesN a b) (k + 1) - 1) (h := difD a b ((timesN a b)[k] : Int)) (by omega) hs.2.2
  rwa [show nxtT w (timesN a b) (k + 1) - 1 + 1 = nxtT w (timesN a b) (k + 1) by omega] at this
theorem rd_tt {w : Iv} {a b : List Er} (ha : okL w a = true) (hb : okL w b = true) {k : Nat} (hk : k < (timesN a b).length) {O : List Iv} (h : RD w a b k true O) (hd : difD a b ((timesN a b)[k] : Int) = true) : RD w a b (k + 1) true O := by
  obtain ⟨hl, U, hD, hO⟩ := h
  have h2 := rd_next ha hb hk hD
  rw [hd] at h2
  rw [nxtT_at hk] at hD
  exact ⟨by omega, _, h2, op_stay hD hO⟩
theorem rd_tf {w : Iv} {a b : List Er} (ha : okL w a = true) (hb : okL w b = true) {k : Nat} (hk : k < (timesN a b).length) {O : List Iv} (h : RD w a b k true O) (hd : difD a b ((timesN a b)[k] : Int) = false) : ∃ B q, O = B ++ [(q, w.2)] ∧ RD w a b (k + 1) false (B ++ [(q, ((timesN a b)[k] : Int) - 1)]) := by
  obtain ⟨hl, U, hD, hO⟩ := h
  have h2 := rd_next ha hb hk hD
  rw [hd] at h2
  rw [nxtT_at hk] at hD
  obtain ⟨B, q, e, h3⟩ := op_close (z := nxtT w (timesN a b) (k + 1) - 1) hD hO
  subst e
  refine ⟨B, q, rfl, ?_, _, h2, h3⟩
  simp at hl ⊢
  omega
theorem rd_ft {w : Iv} {a b : List Er} (ha : okL w a = true) (hb : okL w b = true) {k : Nat} (hk : k < (timesN a b).length) {O : List Iv} (h : RD w a b k false O) (hd : difD a b ((timesN a b)[k] : Int) = true) : RD w a b (k + 1) true (O ++ [(((timesN a b)[k] : Int), w.2)]) := by
  obtain ⟨hl, U, hD, hO⟩ := h
  have h2 := rd_next ha hb hk hD
  rw [hd] at h2
  rw [nxtT_at hk] at hD
  exact ⟨by simp; omega, _, h2, op_open hD hO⟩
theorem rd_ff {w : Iv} {a b : List Er} (ha : okL w a = true) (hb : okL w b = true) {k : Nat} (hk : k < (timesN a b).length) {O : List Iv} (h : RD w a b k false O) (hd : difD a b ((timesN a b)[k] : Int) = false) : RD w a b (k + 1) false O := by
  obtain ⟨hl, U, hD, hO⟩ := h
  have h2 := rd_next ha hb hk hD
  rw [hd] at h2
  rw [nxtT_at hk] at hD
  exact ⟨by omega, _, h2, op_off hD hO⟩
theorem rd_end {w : Iv} {a b : List Er} (ha : okL w a = true) (hb : okL w b = true) {op : Bool} {O : List Iv} (h : RD w a b (timesN a b).length op O) : O = difL a b := by
  obtain ⟨_, U, hD, hO⟩ := h
  rw [nxtT_end (Nat.le_refl _)] at hD
  have h0 := okI_iff.1 (okL_go ha).1
  rw [op_end hD hO]
  exact di_uniq hD (tog_all ha hb) h0.1 (by omega)
end Go.Proofs.Ytmkbijnndbgjgaa.Ln
namespace Go.Proofs.Ytmkbijnndbgjgaa.Ln
open Go.RowKit Go.Shelf
open Go.Proofs.Ytmkbijnndbgjgaa.Iv (Iv FitT FitI okI okI_iff OwnI HasI OwnT HasT toS ofS map_of_to zs zs_len rsorted_any own_shapeI own_putI)
open Go.Proofs.Ytmkbijnndbgjgaa.Lk (HasRow hasRow_own addr_add)
open Go.Proofs.Ytmkbijnndbgjgaa.Sp (chk)
open Go.Proofs.Ytmkbijnndbgjgaa.Addr (RowAt below2 below_drew below_new bset RowAt.lt RowAt.cell RowAt.frozen RowAt.below RowAt.drew RowAt.new RowAt.alloc cells2 cells4)
attribute [-go_sem] Builtin.append_
theorem ownE_empty (w : World) : OwnE w (w.alloc (.cells #[] 49)) (.slice (some ⟨w.heap.size, 0, none⟩) 0 0) [] := ⟨Lk.empty_own w 49 4, below_new (Below.refl _ _) _⟩
set_option maxHeartbeats 16000000 in
set_option maxRecDepth 20000 in
theorem rdif_any (wi : Iv) (a b : List Er) (va vb : Value) (w : World) (ha : HasE w va a) (hb : HasE w vb b) :
    Calls Try.prog 22 #[.agg #[.int .i64 wi.1, .int .i64 wi.2], va, vb] w fun e w' => ∃ u R why, e = .returned (.tuple #[u, .int .i64 why]) ∧ HasI w' u R ∧ Below w.heap.size w w' ∧ (R, why) = difE wi a b := by
  have c1 := fun (W : World) (h : HasE W va a) => rcheck_any wi a va W h
  have c2 := fun (W : World) (h : HasE W vb b) => rcheck_any wi b vb W h
  have HC1 : Hid (okL wi a = false → difE wi a b = ([], 2)) := fun h => by unfold difE; rw [h]; rfl
  have HC2 : Hid (okL wi b = false → difE wi a b = ([], 2)) := fun h => by unfold difE; rw [h, Bool.and_false]; rfl
  have HC3 : Hid (okL wi a = true → okL wi b = true → difE wi a b = (if (difL a b).length ≤ 1024 then (difL a b, 0) else ([], 11))) := fun h1 h2 => by unfold difE; rw [h1, h2]; rfl
  have HLE : Hid (okL wi a = true → okL wi b = true → a.length ≤ 1024 ∧ b.length ≤ 1024) := fun h1 h2 => ⟨(okL_go h1).2.1, (okL_go h2).2.1⟩
  have HWI : Hid (okL wi a = true → wi.2 ≤ 1099511627776) := fun h => (okI_iff.1 (okL_go h).1).2.2
  have HWJ : Hid (okL wi a = true → 0 ≤ wi.1) := fun h => (okI_iff.1 (okL_go h).1).1
  generalize difE wi a b = R at *
  obtain ⟨wa, wb⟩ := wi
  simp only at c1 c2 HWI HWJ ⊢
  obtain ⟨X, hX⟩ : ∃ X, X = w.alloc (.cells #[.int .i64 wa, .int .i64 wb] 23) := ⟨_, rfl⟩
  have hB0 : Below w.heap.size w X := by rw [hX]; exact below_new (Below.refl _ _) _
  have r0 : RowAt X w.heap.size [.int .i64 wa, .int .i64 wb] 23 := by rw [hX]; exact RowAt.new _ _ _
  have haX := ha.keep hB0
  have hbX := hb.keep hB0
  obtain ⟨g0, hg0⟩ : ∃ g, g = w.heap.size := ⟨_, rfl⟩
  rw [← hg0] at r0
  have HA : Hid (∀ W, Below X.heap.size X W → HasE W va a ∧ HasE W vb b ∧ RowAt W g0 [.int .i64 wa, .int .i64 wb] 23 ∧ Below w.heap.size w W) := fun W hq => ⟨haX.keep hq, hbX.keep hq, r0.below hq, below2 hB0 hq⟩
  obtain ⟨oa, ca, rfl, hca1, hca2⟩ := HasRow.slice ha
  obtain ⟨ob, cb, rfl, hcb1, hcb2⟩ := HasRow.slice hb
  obtain ⟨q0, q1, _⟩ := cells2 r0
  clear ha hb r0 haX hbX
  have hxx := HA.out X (Below.refl _ _)
  have cc := c1 X hxx.1
  clear c1 hxx
  obtain ⟨na, hna⟩ : ∃ n, n = a.length := ⟨_, rfl⟩
  obtain ⟨nb, hnb⟩ : ∃ n, n = b.length := ⟨_, rfl⟩
  have HNA : Hid (na = a.length ∧ nb = b.length) := ⟨hna, hnb⟩
  rw [← hna] at cc HA hca1 ⊢
  rw [← hnb] at c2 HA hcb1 ⊢
  clear hna hnb
  go_enter Try.func22, Try.ntmps22
  go_upto_region 1 with fail
  rw [← hX, ← hg0]
  clear hX hg0
  go_wp2_with fail
  go_at_call 14; refine cc.mono ?_; rintro e w3 ⟨rfl, hb3⟩
  obtain ⟨_, hbv, r0, hBZ⟩ := HA.out _ hb3
  have cc2 := c2 _ hbv
  clear cc q0 q1 c2 hbv
  cases hA : okL (wa, wb) a
  · have HV : Hid ((([] : List Iv), (2 : Int)) = R) := (HC1.out hA).symm
    have hck : chk false = 2 := rfl
    rw [hck]
    clear HC1 HC2 HC3 HLE hA HA HWI HWJ r0 cc2
    go_wp2_with fail
    go_ret2
    exact ⟨_, [], _, rfl, Lk.hasRow_nil _ 2, hBZ, HV.out⟩
  have hck : chk true = 0 := rfl
  rw [hck]
  obtain ⟨q0, q1, _⟩ := cells2 r0
  clear r0 hBZ
  cases hB : okL (wa, wb) b
  · have HV : Hid ((([] : List Iv), (2 : Int)) = R) := (HC2.out hB).symm
    rw [hB] at cc2
    have hck2 : chk false = 2 := rfl
    rw [hck2] at cc2
    clear HC1 HC2 HC3 HLE hA hB hck hck2 HWI HWJ
    go_wp2_with fail
    go_at_call 14; refine cc2.mono ?_; rintro e w4 ⟨rfl, hb4⟩
    have hBZ := (HA.out _ (below2 hb3 hb4)).2.2.2
    clear cc2 q0 q1 HA
    go_wp2_with fail
    go_ret2
    exact ⟨_, [], _, rfl, Lk.hasRow_nil _ 2, hBZ, HV.out⟩
  rw [hB, hck] at cc2
  obtain ⟨hla, hlb⟩ := HLE.out hA hB
  have HV0 : Hid (R = (if (difL a b).length ≤ 1024 then (difL a b, 0) else ([], 11))) := HC3.out hA hB
  have hwi := HWI.out hA
  have HOK : Hid (okL (wa, wb) a = true ∧ okL (wa, wb) b = true) := ⟨hA, hB⟩
  have HST : Hid ((a ++ b).map (fun x => x.a) = zs (startsN a b)) := (starts_zs hA hB).symm
  have hw0 := HWJ.out hA
  clear HC1 HC2 HC3 HLE hA hB hck HWI HWJ
  go_wp2_with fail
  go_at_call 14; refine cc2.mono ?_; rintro e X2 ⟨rfl, hb4⟩
  clear cc2 q0 q1
  have hb04 := below2 hb3 hb4
  have HA2 : Hid (∀ W, Below X2.heap.size X2 W → HasE W (.slice oa na ca) a ∧ HasE W (.slice ob nb cb) b ∧ RowAt W g0 [.int .i64 wa, .int .i64 wb] 23 ∧ Below w.heap.size w W) := fun W hq => HA.out W (below2 hb04 hq)
  clear HA hb3 hb4 hb04
  have hE := ownE_empty X2
  obtain ⟨v1, w1, hrun1, hO1, _⟩ := appE hE (HA2.out _ hE.bl).1 (by simp; omega)
  simp only [List.nil_append] at hO1
  obtain ⟨v2, w2, hrun2, hO2, _⟩ := appE hO1 (HA2.out _ hO1.bl).2.1 (by have := HNA.out; omega)
  have hcl : (a ++ b).length ≤ 2048 := by rw [List.length_append]; omega
  have HOA : Hid (OwnE X2 w2 v2 (a ++ b)) := hO2
  obtain ⟨o2, c22, rfl, hc1, hc2⟩ := HasRow.slice hO2.has
  obtain ⟨n, hn⟩ : ∃ n, n = (a ++ b).length := ⟨_, rfl⟩
  have HN : Hid (n = (a ++ b).length) := hn
  obtain ⟨L, hL⟩ : ∃ L, L = a ++ b := ⟨_, rfl⟩
  rw [← hn] at hc1 hcl hrun2
  rw [← hL] at HN HOA HST
  have HLL : Hid (L = a ++ b) := hL
  clear hE hO1 hO2 hn hL
  rw [HN.out] at hrun2
  have hlen2 : L.length = n := HN.out.symm
  rw [hlen2] at hrun2
  clear hlen2
  have hni : (n : Int) ≤ 2048 := by omega
  have HRW : Hid (∀ wr, Below w2.heap.size w2 wr → HasE wr (.slice o2 n c22) L) := fun wr hq => by have h := (HOA.out.below hq).has; rwa [← HN.out] at h
  have H0 : Hid (OwnT w2 w2 (.slice none 0 0) ((L.map (fun x => x.a)).take 0)) := OwnT.nil w2
  go_wp2_with fail
  clear hrun1 hrun2
  go_loopw [8, 32] (fun u q wr => ∃ k : Nat, k ≤ n ∧ q = .int .i64 k ∧ Hid (OwnT w2 wr u ((L.map (fun x => x.a)).take k))) (fun _ q _ => n - (Go.RowKit.intOf q).toNat)
  case atStart => exact ⟨0, by omega, rfl, H0⟩
  case round =>
    clear H0
    obtain ⟨k, hk, rfl, HI⟩ := hrel
    have hI := HI.out
    have hh := HRW.out _ hI.bl
    by_cases hlt : k < n
    · have hkz : k < L.length := by rw [← HN.out]; exact hlt
      obtain ⟨g1, i1, rfl, hg1, a0, a1, a2, a3⟩ := HasE.cell hh k hkz
      have hki : (k : Int) < (n : Int) := by omega
      have hkm : k < (L.map (fun x => x.a)).length := by rw [List.length_map]; exact hkz
      have HTK : Hid ((L.map (fun x => x.a)).take (k + 1) = (L.map (fun x => x.a)).take k ++ [L[k].a]) := by
        show _ = _
        rw [List.take_succ_eq_append_getElem hkm, List.getElem_map]
      have HLN : Hid (((L.map (fun x => x.a)).take k).length + 1 ≤ 1000000) := by show _ ≤ _; rw [List.length_take]; omega
      obtain ⟨s, hs⟩ : ∃ s : Er, s = L[k] := ⟨_, rfl⟩
      rw [← hs] at HTK a0 a1 a2 a3
      generalize (L.map (fun x => x.a)).take k = D at *
      clear hs HI hg1 hh hkm
      go_upto_region 7 with fail
      obtain ⟨Y, hY⟩ : ∃ X, X = wr.alloc (.cells #[.int .i64 s.a, .int .i64 s.b, .int .u8 s.v.kind, .int .i64 s.v.at'] 49) := ⟨_, rfl⟩
      have hbY : Below wr.heap.size wr Y := by rw [hY]; exact below_new (Below.refl _ _) _
      have rx : RowAt Y wr.heap.size [.int .i64 s.a, .int .i64 s.b, .int .u8 s.v.kind, .int .i64 s.v.at'] 49 := by rw [hY]; exact RowAt.new _ _ _
      rw [← hY]
      replace hI := hI.below hbY
      obtain ⟨gs, hgs⟩ : ∃ g, g = wr.heap.size := ⟨_, rfl⟩
      rw [← hgs] at rx ⊢
      clear hY hbY a0 a1 a2 a3 hgs
      obtain ⟨x0, x1, x2, x3, xf⟩ := cells4 rx
      obtain ⟨v', w6, hrun, hO2, _⟩ := Iv.appT (hI.below (below_new (Below.refl _ Y) (.cells #[.int .i64 s.a] 2))) (Iv.litT Y s.a 2) (by have := HLN.out; simp; omega)
      have HV : Hid (OwnT w2 w6 v' ((L.map (fun x => x.a)).take (k + 1))) := by show OwnT _ _ _ _; rw [HTK.out]; exact hO2
      clear HTK HLN hO2 hI rx
      go_wp2_with fail
      go_roundw
      case rel => exact ⟨k + 1, by omega, by go_num, HV⟩
      case measure => simp [Go.RowKit.intOf]; omega
    · have hkn : decide ((k : Int) < (n : Int)) = false := decide_eq_false (by omega)
      have hte : (L.map (fun x => x.a)).take k = zs (startsN a b) := by rw [List.take_of_length_le (by rw [List.length_map, ← HN.out]; omega)]; exact HST.out
      rw [hte] at hI
      have hTs : (startsN a b).length ≤ 2048 := by unfold startsN; rw [List.length_map, ← HLL.out, ← HN.out]; exact hcl
      have cs := rsorted_any (startsN a b) u8 wr hI.has (by omega)
      have hb2r := below2 HOA.out.bl hI.bl
      clear HI hte hh HRW HST
      go_wp2_with fail
      clear hlt hk hkn
      go_at_call 50; refine cs.mono ?_; rintro e w5 ⟨u5, rfl, hT5, hb5⟩
      have hb25 := below2 hb2r hb5
      have hTm : (timesN a b).length ≤ 2048 := Nat.le_trans (Ct.sortN_len _) hTs
      have hT6 : HasT w5 u5 (zs (timesN a b)) := hT5
      obtain ⟨o5, c5, rfl, hd1, hd2⟩ := HasRow.slice hT6
      rw [zs_len] at hd1 hT6 ⊢
      obtain ⟨m, hm⟩ : ∃ m, m = (timesN a b).length := ⟨_, rfl⟩
      have HM : Hid (m = (timesN a b).length) := hm
      rw [← hm] at hd1 hT6 hTm ⊢
      have HR : Hid (∀ wr : World, Below w5.heap.size w5 wr → HasT wr (.slice o5 m c5) (zs (timesN a b)) ∧ HasE wr (.slice oa na ca) a ∧ HasE wr (.slice ob nb cb) b ∧ RowAt wr g0 [.int .i64 wa, .int .i64 wb] 23 ∧ Below w.heap.size w wr) := fun wr hq => ⟨hT6.keep hq, HA2.out wr (below2 hb25 hq)⟩
      have hmi : (m : Int) ≤ 2048 := by omega
      have H0 : Hid (OwnI w5 w5 (.slice none 0 0) [] ∧ RD (wa, wb) a b 0 false []) := ⟨OwnI.nil w5, rd_start HOK.out.1 HOK.out.2⟩
      clear cs hb2r hb5 hT5 hT6 HA2 HOA hI hm hb25
      go_wp2_with fail
      go_loopw [11, 12, 46] (fun u t q wr => ∃ (k : Nat) (op : Bool) (O : List Iv), k ≤ m ∧ q = .int .i64 k ∧ t = .bool op ∧ Hid (OwnI w5 wr u O ∧ RD (wa, wb) a b k op O)) (fun _ _ q _ => m - (Go.RowKit.intOf q).toNat)
      case atStart => exact ⟨0, false, [], by omega, rfl, rfl, H0⟩
      case round =>
        clear H0
        obtain ⟨k, op, O, hk, rfl, rfl, HI⟩ := hrel
        obtain ⟨hI, hRD⟩ := HI.out
        obtain ⟨hT, hae, hbe, r0, hBW⟩ := HR.out _ hI.bl
        by_cases hlt : k < m
        · have hkz : k < (timesN a b).length := by rw [← HM.out]; exact hlt
          obtain ⟨g1, i1, rfl, hg1, a0⟩ := HasT.cell hT k (by rw [zs_len]; exact hkz)
          have hzk : (zs (timesN a b))[k]'(by rw [zs_len]; exact hkz) = ((timesN a b)[k] : Int) := by unfold zs; rw [List.getElem_map]
          rw [hzk] at a0
          have hki : (k : Int) < (m : Int) := by omega
          have hbd := times_bd HOK.out.1 HOK.out.2 hkz
          simp only at hbd
          have hTT := fun (h : op = true) (hd : difD a b ((timesN a b)[k] : Int) = true) => rd_tt HOK.out.1 HOK.out.2 hkz (O := O) (by rw [← h]; exact hRD) hd
          have hTF := fun (h : op = true) (hd : difD a b ((timesN a b)[k] : Int) = false) => rd_tf HOK.out.1 HOK.out.2 hkz (O := O) (by rw [← h]; exact hRD) hd
          have hFT := fun (h : op = false) (hd : difD a b ((timesN a b)[k] : Int) = true) => rd_ft HOK.out.1 HOK.out.2 hkz (O := O) (by rw [← h]; exact hRD) hd
          have hFF := fun (h : op = false) (hd : difD a b ((timesN a b)[k] : Int) = false) => rd_ff HOK.out.1 HOK.out.2 hkz (O := O) (by rw [← h]; exact hRD) hd
          simp only at hTF hFT
          have HTT : Hid _ := hTT
          have HTF : Hid _ := hTF
          have HFT : Hid _ := hFT
          have HFF : Hid _ := hFF
          have HOl : Hid (O.length ≤ k) := hRD.1
          clear hTT hTF hFT hFF hzk hRD HI hg1 hT
          have hneq := fun W => vd_neq (holdL a ((timesN a b)[k] : Int)) (holdL b ((timesN a b)[k] : Int)) W
          have hvg := vd_guard
          have ch1 := hold_any a ((timesN a b)[k] : Int) (.slice oa na ca) wr hae
          have HH2 : Hid (∀ W, Below wr.heap.size wr W → Calls Try.prog 42 #[.slice ob nb cb, .int .i64 ((timesN a b)[k] : Int)] W fun e w' => e = .returned (.agg #[.int .u8 (holdL b ((timesN a b)[k] : Int)).kind, .int .i64 (holdL b ((timesN a b)[k] : Int)).at']) ∧ Below W.heap.size W w') := fun W hq => hold_any b ((timesN a b)[k] : Int) (.slice ob nb cb) W (hbe.keep hq)
          have hdif : (!eqV (holdL a ((timesN a b)[k] : Int)) (holdL b ((timesN a b)[k] : Int))) = difD a b ((timesN a b)[k] : Int) := rfl
          rw [hdif] at hneq
          generalize difD a b ((timesN a b)[k] : Int) = E at *
          generalize ((timesN a b)[k] : Int) = tk at *
          generalize (holdL a tk).kind = ak at *
          generalize (holdL a tk).at' = ai at *
          generalize (holdL b tk).kind = bk at *
          generalize (holdL b tk).at' = bi at *
          clear hdif hae hbe r0 hBW
          go_wp2_with fail
          go_at_call 42; refine ch1.mono ?_; rintro e w7 ⟨rfl, hb7⟩
          have ch2 := HH2.out w7 hb7
          clear ch1 a0
          go_wp2_with fail
          go_at_call 42; refine ch2.mono ?_; rintro e w8 ⟨rfl, hb8⟩
          have hb78 := below2 hb7 hb8
          replace hI := hI.below hb78
          obtain ⟨_, _, _, r0, _⟩ := HR.out _ hI.bl
          obtain ⟨q0, q1, _⟩ := cells2 r0
          clear ch2 HH2 hb7 hb8 hb78 r0
          have hw1 : IntKind.i64.wrap (tk - 1) = tk - 1 := by rw [IntKind.wrap_i64]; omega
          cases op
          · cases E
            · have HV : Hid (OwnI w5 w8 u11 O ∧ RD (wa, wb) a b (k + 1) false O) := ⟨hI, HFF.out rfl rfl⟩
              clear HTT HTF HFT HFF hI HOl
              go_wp2_with fail
              go_roundw
              case rel => exact ⟨k + 1, _, _, by omega, by go_num, rfl, HV⟩
              case measure => simp [Go.RowKit.intOf]; omega
            · obtain ⟨v', w9, hrun, hO9, _⟩ := Iv.appI (hI.below (below_new (Below.refl _ w8) (.cells #[.int .i64 tk, .int .i64 wb] 23))) (Iv.litI w8 (tk, wb) 23) (by have := HOl.out; simp; omega)
              have HV : Hid (OwnI w5 w9 v' (O ++ [(tk, wb)]) ∧ RD (wa, wb) a b (k + 1) true (O ++ [(tk, wb)])) := ⟨hO9, HFT.out rfl rfl⟩
              clear HTT HTF HFT HFF hI hO9 HOl
              go_wp2_with fail
              go_roundw
              case rel => exact ⟨k + 1, _, _, by omega, by go_num, rfl, HV⟩
              case measure => simp [Go.RowKit.intOf]; omega
          · cases E
            · obtain ⟨B, q, hOB, hR9⟩ := HTF.out rfl rfl
              subst hOB
              have e0 : (B ++ [(q, wb)]).length = B.length + 1 := by simp
              obtain ⟨gr, cr, rfl, hcr, hcr2, hgr, hgr2⟩ := own_shapeI hI (by simp)
              rw [e0] at hI hcr ⊢
              have hOB : B.length ≤ k := by have := HOl.out; rw [e0] at this; omega
              have HV : Hid (OwnI w5 (w8.setCell ⟨gr, B.length * 2 + 1, none⟩ (.int .i64 (tk - 1))) (.slice (some ⟨gr, 0, none⟩) (B.length + 1) cr) (B ++ [(q, tk - 1)]) ∧ RD (wa, wb) a b (k + 1) false (B ++ [(q, tk - 1)])) := ⟨own_putI (tk - 1) hI hgr, hR9⟩
              have hou := hI.ou
              rw [e0] at hou
              have s1 : w8.cell? ⟨gr, B.length * 2 + 1, none⟩ = some (.int .i64 wb) := by
                have h2 := Iv.csI_at (B ++ [(q, wb)]) B.length (by simp)
                simp only [List.getElem_concat_length] at h2
                exact (hou.cellAt (B.length * 2 + 1) (by omega)).trans (by rw [Nat.mul_comm]; exact h2.2)
              have sf := hou.frozenAt
              obtain ⟨n2, hn2⟩ : ∃ n2, n2 = B.length := ⟨_, rfl⟩
              rw [← hn2] at HV s1 hcr hOB ⊢
              clear HTT HTF HFT HFF hI hR9 hou e0 hn2 HOl
              have e1 : (n2 : Int) + 1 - 1 = (n2 : Int) := by omega
              have e2 : IntKind.i64.wrap (n2 : Int) = (n2 : Int) := by rw [IntKind.wrap_i64]; omega
              have e4 : (n2 : Int) < (n2 : Int) + 1 := by omega
              go_wp2_with fail
              go_roundw
              case rel => exact ⟨k + 1, _, _, by omega, by go_num, rfl, HV⟩
              case measure => simp [Go.RowKit.intOf]; omega
            · have HV : Hid (OwnI w5 w8 u11 O ∧ RD (wa, wb) a b (k + 1) true O) := ⟨hI, HTT.out rfl rfl⟩
              clear HTT HTF HFT HFF hI HOl
              go_wp2_with fail
              go_roundw
              case rel => exact ⟨k + 1, _, _, by omega, by go_num, rfl, HV⟩
              case measure => simp [Go.RowKit.intOf]; omega
        · have hkn : decide ((k : Int) < (m : Int)) = false := decide_eq_false (by omega)
          obtain rfl : k = m := by omega
          have hOD : O = difL a b := rd_end HOK.out.1 HOK.out.2 (by rw [← HM.out]; exact hRD)
          subst hOD
          obtain ⟨od, cd, rfl, hx1, hx2⟩ := HasRow.slice hI.has
          have HO2 : Hid (HasI wr (.slice od (difL a b).length cd) (difL a b)) := hI.has
          have hbl := hBW
          clear HI hI hRD hT hae hbe r0 hBW
          generalize difL a b = G at *
          obtain ⟨d, hd⟩ : ∃ d, d = G.length := ⟨_, rfl⟩
          rw [← hd] at HV0 HO2 hx1 ⊢
          clear hd
          by_cases hbig : d ≤ 1024
          · have HV2 : Hid ((G, (0 : Int)) = R) := by show _ = _; rw [HV0.out, if_pos hbig]
            have hbg : decide ((1024 : Int) < (d : Int)) = false := decide_eq_false (by omega)
            clear HV0
            go_wp2_with fail
            go_ret2
            exact ⟨_, G, _, rfl, HO2.out, hbl, HV2.out⟩
          · have HV2 : Hid ((([] : List Iv), (11 : Int)) = R) := by show _ = _; rw [HV0.out, if_neg hbig]
            have hbg : decide ((1024 : Int) < (d : Int)) = true := decide_eq_true (by omega)
            clear HV0
            go_wp2_with fail
            go_ret2
            exact ⟨_, [], _, rfl, Lk.hasRow_nil _ 2, hbl, HV2.out⟩
end Go.Proofs.Ytmkbijnndbgjgaa.Ln
