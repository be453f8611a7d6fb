/- The fixed answers of layer 14. -/
import Derived.Test.YtckaajadajjijabOrdAll
import Derived.Test.YtckaajadajjijabOrdSame
import Derived.Test.YtckaajadajjijabMsgEv
set_option linter.unusedVariables false
namespace Go.Proofs.Ytckaajadajjijab.Ord
open Go.RowKit Go.Shelf
open Go.Proofs.Ytckaajadajjijab.Msg (Ev okE checkE evV evC FitE echeck_any cells12' gkeep gsetO set1 results_cell_tmp1 zeroPf zeroA zeroE evV_zero evV_z)
open Go.Proofs.Ytckaajadajjijab.Addr (hiN loN RowAt below2 below_drew below_new bset RowAt.lt RowAt.cell RowAt.frozen RowAt.below RowAt.drew RowAt.new RowAt.alloc gdrew gset gbelow galloc grefl gfinal cells2 cells4 results_cell Bl bl_ne wp_region_bl bl_call bl_same)
attribute [-go_sem] Builtin.append_

def upE : Ev := ⟨1, 2, 1, 5, zeroPf, zeroA, 0, 0⟩
def linkE : Ev := ⟨6, 2, 2, 5, zeroPf, zeroA, 0, 0⟩
def up3 : Ev := ⟨1, 2, 3, 5, zeroPf, zeroA, 0, 0⟩
theorem fit_up : FitE upE := ⟨by decide, by decide, by decide, by decide, by decide, by decide, ⟨by decide, by decide, by decide⟩, by decide, by decide⟩
theorem fit_lk : FitE linkE := ⟨by decide, by decide, by decide, by decide, by decide, by decide, ⟨by decide, by decide, by decide⟩, by decide, by decide⟩
theorem fit_u3 : FitE up3 := ⟨by decide, by decide, by decide, by decide, by decide, by decide, ⟨by decide, by decide, by decide⟩, by decide, by decide⟩
theorem fit_ze : FitE zeroE := ⟨by decide, by decide, by decide, by decide, by decide, by decide, ⟨by decide, by decide, by decide⟩, by decide, by decide⟩
theorem v_up : evV upE = .agg #[.int .u8 1, .int .i64 2, .int .u64 1, .int .i64 5, .bool false, .int .u64 0, .int .u64 0, .int .i64 0, .int .u8 0, .int .i64 0, .int .i64 0, .int .i64 0] := by unfold upE; rw [evV_zero]; rfl
theorem v_lk : evV linkE = .agg #[.int .u8 6, .int .i64 2, .int .u64 2, .int .i64 5, .bool false, .int .u64 0, .int .u64 0, .int .i64 0, .int .u8 0, .int .i64 0, .int .i64 0, .int .i64 0] := by unfold linkE; rw [evV_zero]; rfl
theorem v_u3 : evV up3 = .agg #[.int .u8 1, .int .i64 2, .int .u64 3, .int .i64 5, .bool false, .int .u64 0, .int .u64 0, .int .i64 0, .int .u8 0, .int .i64 0, .int .i64 0, .int .i64 0] := by unfold up3; rw [evV_zero]; rfl
theorem l1 : nextL [] upE (-1) = ([⟨2, 1, 5, true⟩], 0) := by kernel_rfl
theorem l2 : mayL [] linkE (-1) = 14 := by kernel_rfl
theorem l3 : mayL [⟨2, 1, 5, true⟩] upE (-1) = 12 := by kernel_rfl
theorem l4 : mayL [] upE 5 = 13 := by kernel_rfl
theorem l5 : allL 0 [] [upE, linkE, linkE] 0 = ([⟨2, 2, 5, true⟩], 2, 12) := by kernel_rfl
theorem l6 : seatOf [⟨2, 2, 5, true⟩] 2 = ⟨2, 2, 5, true⟩ ∧ isIn [⟨2, 2, 5, true⟩] 2 = true := ⟨by kernel_rfl, by kernel_rfl⟩
theorem l7 : mayL [⟨2, 2, 5, true⟩] up3 (-1) = 10 := by kernel_rfl
theorem l8 : (nextL [⟨2, 1, 5, true⟩] zeroE (-1)).2 = 2 := by kernel_rfl
theorem l9 : checkL [⟨2, 2, 5, true⟩] = 0 := by kernel_rfl
theorem HasSts.grown {W W' : World} {v : Value} {ps : List St} {B : Nat} (h : HasSts W v ps) (hg : W.grownBy W' (some B)) (hB : ∀ a n c, v = .slice (some a) n c → a.block ≠ B) : HasSts W' v ps := by
  refine ⟨h.1, ?_⟩
  rcases h.2 with h0 | ⟨a, cap, e, h1, h2, h3, h4⟩
  · exact .inl h0
  · refine .inr ⟨a, cap, e, h1, h2, fun h => ⟨(h3 h).1, Nat.lt_of_lt_of_le (h3 h).2 hg.size⟩, fun j hj => ?_⟩
    have hn : 0 < ps.length := by rcases Nat.eq_zero_or_pos ps.length with h0 | h0; rw [h0] at hj; omega; exact h0
    have hne := hB a _ _ e
    obtain ⟨b, i, s⟩ := a
    obtain ⟨hs, hlt⟩ := h3 hn
    simp only at hs hlt hne
    subst hs
    have h5 := h4 j hj
    rw [addr_add] at h5 ⊢
    rw [← h5]
    exact World.cell?_of_block (w := W) (hg.block b hlt (by simp; exact hne))
theorem evs_lit (W : World) (es : List Ev) (n : Nat) (hn : n = es.length) (hm : n ≤ 1000) (cs : Array Value) (hc : cs = (evCs es).toArray) : HasEvs (W.alloc (.cells cs 39)) (.slice (some ⟨W.heap.size, 0, none⟩) n n) es := by
  subst hn hc
  refine ⟨evCs_len es, .inr ⟨⟨W.heap.size, 0, none⟩, es.length, rfl, Nat.le_refl _, by omega, fun _ => ⟨rfl, by simp⟩, fun j hj => ?_⟩⟩
  rw [addr_add, Nat.zero_add]
  exact (RowAt.new W (evCs es) 39).cell j
theorem evs3 : (#[.int .u8 1, .int .i64 2, .int .u64 1, .int .i64 5, .bool false, .int .u64 0, .int .u64 0, .int .i64 0, .int .u8 0, .int .i64 0, .int .i64 0, .int .i64 0, .int .u8 6, .int .i64 2, .int .u64 2, .int .i64 5, .bool false, .int .u64 0, .int .u64 0, .int .i64 0, .int .u8 0, .int .i64 0, .int .i64 0, .int .i64 0, .int .u8 6, .int .i64 2, .int .u64 2, .int .i64 5, .bool false, .int .u64 0, .int .u64 0, .int .i64 0, .int .u8 0, .int .i64 0, .int .i64 0, .int .i64 0] : Array Value) = (evCs [upE, linkE, linkE]).toArray := by
  have h1 : evC upE = [.int .u8 1, .int .i64 2, .int .u64 1, .int .i64 5, .bool false, .int .u64 0, .int .u64 0, .int .i64 0, .int .u8 0, .int .i64 0, .int .i64 0, .int .i64 0] := by have := v_up; unfold evV at this; injection this with this; exact List.toArray_inj this
  have h2 : evC linkE = [.int .u8 6, .int .i64 2, .int .u64 2, .int .i64 5, .bool false, .int .u64 0, .int .u64 0, .int .i64 0, .int .u8 0, .int .i64 0, .int .i64 0, .int .i64 0] := by have := v_lk; unfold evV at this; injection this with this; exact List.toArray_inj this
  show _ = (evC upE ++ (evC linkE ++ (evC linkE ++ []))).toArray
  rw [h1, h2]
  rfl
set_option maxHeartbeats 8000000 in
set_option maxRecDepth 20000 in
theorem lives_any (w : World) : Calls Try.prog 16 #[] w fun e w' => e = .returned (.bool true) ∧ Below w.heap.size w w' := by
  have k1 : ∀ W : World, Calls Try.prog 12 #[.slice none 0 0, .agg #[.int .u8 1, .int .i64 2, .int .u64 1, .int .i64 5, .bool false, .int .u64 0, .int .u64 0, .int .i64 0, .int .u8 0, .int .i64 0, .int .i64 0, .int .i64 0], .int .i64 (-1)] W fun r w' => ∃ u, r = .returned (.tuple #[u, .int .i64 0]) ∧ (HasSts w' u [⟨2, 1, 5, true⟩] ∧ NewIn W u) ∧ Below W.heap.size W w' := fun W => by
    have := next_any [] (.slice none 0 0) upE (-1) W (hasRow_nil W 4) fit_up
    rw [l1, v_up] at this
    exact this
  have k2 : ∀ W : World, Calls Try.prog 19 #[.slice none 0 0, .agg #[.int .u8 6, .int .i64 2, .int .u64 2, .int .i64 5, .bool false, .int .u64 0, .int .u64 0, .int .i64 0, .int .u8 0, .int .i64 0, .int .i64 0, .int .i64 0], .int .i64 (-1)] W fun r w' => r = .returned (.int .i64 14) ∧ Below W.heap.size W w' := fun W => by
    have := may_any [] (.slice none 0 0) linkE (-1) W (hasRow_nil W 4) fit_lk
    rw [l2, v_lk] at this
    exact this
  have k3 : ∀ (W : World) (u : Value), HasSts W u [⟨2, 1, 5, true⟩] → Calls Try.prog 19 #[u, .agg #[.int .u8 1, .int .i64 2, .int .u64 1, .int .i64 5, .bool false, .int .u64 0, .int .u64 0, .int .i64 0, .int .u8 0, .int .i64 0, .int .i64 0, .int .i64 0], .int .i64 (-1)] W fun r w' => r = .returned (.int .i64 12) ∧ Below W.heap.size W w' := fun W u hu => by
    have := may_any _ u upE (-1) W hu fit_up
    rw [l3, v_up] at this
    exact this
  have k4 : ∀ W : World, Calls Try.prog 19 #[.slice none 0 0, .agg #[.int .u8 1, .int .i64 2, .int .u64 1, .int .i64 5, .bool false, .int .u64 0, .int .u64 0, .int .i64 0, .int .u8 0, .int .i64 0, .int .i64 0, .int .i64 0], .int .i64 5] W fun r w' => r = .returned (.int .i64 13) ∧ Below W.heap.size W w' := fun W => by
    have := may_any [] (.slice none 0 0) upE 5 W (hasRow_nil W 4) fit_up
    rw [l4, v_up] at this
    exact this
  have k5 : ∀ (W : World) (ve : Value), HasEvs W ve [upE, linkE, linkE] → Calls Try.prog 22 #[.slice none 0 0, ve, .int .i64 0] W fun r w' => ∃ u, r = .returned (.tuple #[u, .int .i64 2, .int .i64 12]) ∧ (HasSts w' u [⟨2, 2, 5, true⟩] ∧ NewIn W u) ∧ Below W.heap.size W w' := fun W ve hv => by
    have := all_any [] (.slice none 0 0) [upE, linkE, linkE] ve 0 W (hasRow_nil W 4) hv (fun e he => by
      simp only [List.mem_cons, List.not_mem_nil, or_false] at he
      rcases he with rfl | rfl | rfl
      · exact fit_up
      · exact fit_lk
      · exact fit_lk) (by decide)
    rw [l5] at this
    exact this
  have k6 : ∀ (W : World) (u : Value), HasSts W u [⟨2, 2, 5, true⟩] → Calls Try.prog 14 #[u, .int .i64 2] W fun r w' => r = .returned (.tuple #[.agg #[.int .i64 2, .int .u64 2, .int .i64 5, .bool true], .bool true]) ∧ Below W.heap.size W w' := fun W u hu => by
    have := find_any _ u 2 W hu
    rw [l6.1, l6.2] at this
    exact this
  have k7 : ∀ (W : World) (u : Value), HasSts W u [⟨2, 2, 5, true⟩] → Calls Try.prog 19 #[u, .agg #[.int .u8 1, .int .i64 2, .int .u64 3, .int .i64 5, .bool false, .int .u64 0, .int .u64 0, .int .i64 0, .int .u8 0, .int .i64 0, .int .i64 0, .int .i64 0], .int .i64 (-1)] W fun r w' => r = .returned (.int .i64 10) ∧ Below W.heap.size W w' := fun W u hu => by
    have := may_any _ u up3 (-1) W hu fit_u3
    rw [l7, v_u3] at this
    exact this
  have k8 : ∀ (W : World) (u : Value), HasSts W u [⟨2, 1, 5, true⟩] → Calls Try.prog 12 #[u, .agg #[.int .u8 0, .int .i64 0, .int .u64 0, .int .i64 0, .bool false, .int .u64 0, .int .u64 0, .int .i64 0, .int .u8 0, .int .i64 0, .int .i64 0, .int .i64 0], .int .i64 (-1)] W fun r w' => ∃ u', r = .returned (.tuple #[u', .int .i64 2]) ∧ Below W.heap.size W w' := fun W u hu => by
    have := next_any _ u zeroE (-1) W hu fit_ze
    rw [l8, evV_z] at this
    refine this.mono ?_
    rintro r w' ⟨u', h1, _, h2⟩
    exact ⟨u', h1, h2⟩
  have k9 : ∀ (W : World) (u v : Value), HasSts W u [⟨2, 1, 5, true⟩] → HasSts W v [⟨2, 1, 5, true⟩] → Calls Try.prog 21 #[u, v] W fun r w' => r = .returned (.bool true) ∧ Below W.heap.size W w' := fun W u v h1 h2 => same_any _ u v W h1 h2
  have k10 : ∀ (W : World) (u : Value), HasSts W u [⟨2, 2, 5, true⟩] → Calls Try.prog 17 #[u] W fun r w' => r = .returned (.int .i64 0) ∧ Below W.heap.size W w' := fun W u hu => by
    have := check_any _ u W hu
    rw [l9] at this
    exact this
  have HLIT : Hid (∀ W : World, HasEvs (W.alloc (.cells #[.int .u8 1, .int .i64 2, .int .u64 1, .int .i64 5, .bool false, .int .u64 0, .int .u64 0, .int .i64 0, .int .u8 0, .int .i64 0, .int .i64 0, .int .i64 0, .int .u8 6, .int .i64 2, .int .u64 2, .int .i64 5, .bool false, .int .u64 0, .int .u64 0, .int .i64 0, .int .u8 0, .int .i64 0, .int .i64 0, .int .i64 0, .int .u8 6, .int .i64 2, .int .u64 2, .int .i64 5, .bool false, .int .u64 0, .int .u64 0, .int .i64 0, .int .u8 0, .int .i64 0, .int .i64 0, .int .i64 0] 39)) (.slice (some ⟨W.heap.size, 0, none⟩) 3 3) [upE, linkE, linkE]) := fun W => evs_lit W _ 3 rfl (by decide) _ evs3
  have HONE : Hid (∀ W : World, HasSts (W.alloc (.cells #[.int .i64 2, .int .u64 1, .int .i64 5, .bool true] 48)) (.slice (some ⟨W.heap.size, 0, none⟩) 1 1) [⟨2, 1, 5, true⟩]) := fun W => one_has W ⟨2, 1, 5, true⟩
  obtain ⟨X, hX⟩ : ∃ X, X = (w.alloc (.cells #[.int .u8 1, .int .i64 2, .int .u64 1, .int .i64 5, .bool false, .int .u64 0, .int .u64 0, .int .i64 0, .int .u8 0, .int .i64 0, .int .i64 0, .int .i64 0] 39)).alloc (.cells #[.int .u8 6, .int .i64 2, .int .u64 2, .int .i64 5, .bool false, .int .u64 0, .int .u64 0, .int .i64 0, .int .u8 0, .int .i64 0, .int .i64 0, .int .i64 0] 39) := ⟨_, rfl⟩
  have hB : Below w.heap.size w X := by rw [hX]; exact below_new (below_new (Below.refl _ _) _) _
  have r1 : RowAt X w.heap.size [.int .u8 1, .int .i64 2, .int .u64 1, .int .i64 5, .bool false, .int .u64 0, .int .u64 0, .int .i64 0, .int .u8 0, .int .i64 0, .int .i64 0, .int .i64 0] 39 := by rw [hX]; exact (RowAt.new w [.int .u8 1, .int .i64 2, .int .u64 1, .int .i64 5, .bool false, .int .u64 0, .int .u64 0, .int .i64 0, .int .u8 0, .int .i64 0, .int .i64 0, .int .i64 0] 39).alloc _
  have r2 : RowAt X (w.heap.size + 1) [.int .u8 6, .int .i64 2, .int .u64 2, .int .i64 5, .bool false, .int .u64 0, .int .u64 0, .int .i64 0, .int .u8 0, .int .i64 0, .int .i64 0, .int .i64 0] 39 := by
    have h := RowAt.new (w.alloc (.cells #[.int .u8 1, .int .i64 2, .int .u64 1, .int .i64 5, .bool false, .int .u64 0, .int .u64 0, .int .i64 0, .int .u8 0, .int .i64 0, .int .i64 0, .int .i64 0] 39)) [.int .u8 6, .int .i64 2, .int .u64 2, .int .i64 5, .bool false, .int .u64 0, .int .u64 0, .int .i64 0, .int .u8 0, .int .i64 0, .int .i64 0, .int .i64 0] 39
    rw [World.size_alloc] at h
    rw [hX]; exact h
  go_enter Try.func16, Try.ntmps16
  go_upto_region 3 with fail
  rw [← hX]
  clear hX
  obtain ⟨g1, hg1⟩ : ∃ g, g = w.heap.size := ⟨_, rfl⟩
  obtain ⟨g2, hg2⟩ : ∃ g, g = w.heap.size + 1 := ⟨_, rfl⟩
  have hgw : w.heap.size ≤ g1 := by omega
  have hg12 : g1 ≠ g2 := by omega
  rw [← hg1] at r1
  rw [← hg2] at r2
  rw [← hg2, ← hg1]
  clear hg1 hg2
  obtain ⟨⟨y0, y1, y2, y3, y4, y5⟩, ⟨y6, y7, y8, y9, y10, y11⟩, yf, hly⟩ := cells12' r1
  obtain ⟨⟨z0, z1, z2, z3, z4, z5⟩, ⟨z6, z7, z8, z9, z10, z11⟩, zf, hlz⟩ := cells12' r2
  go_wp2_with fail
  go_at_call 12; refine (k1 _).mono ?_; rintro e w1 ⟨u1, rfl, ⟨hs, hnw⟩, hb⟩
  have hlr := RowAt.lt r1
  replace r1 := RowAt.below r1 hb
  replace r2 := RowAt.below r2 hb
  replace hB := below2 hB hb
  have S1 : Hid (HasSts w1 u1 [⟨2, 1, 5, true⟩]) := hs
  have N1 : Hid (∀ a n c, u1 = .slice (some a) n c → a.block ≠ g1) := fun a n c e => by have := hnw a n c e; omega
  clear hs hb k1 hnw
  clear y0 y1 y2 y3 y4 y5 y6 y7 y8 y9 y10 y11 yf hly z0 z1 z2 z3 z4 z5 z6 z7 z8 z9 z10 z11 zf hlz
  obtain ⟨⟨y0, y1, y2, y3, y4, y5⟩, ⟨y6, y7, y8, y9, y10, y11⟩, yf, hly⟩ := cells12' r1
  obtain ⟨⟨z0, z1, z2, z3, z4, z5⟩, ⟨z6, z7, z8, z9, z10, z11⟩, zf, hlz⟩ := cells12' r2
  go_wp2_with fail
  go_at_call 19; refine (k2 _).mono ?_; rintro e w2 ⟨rfl, hb⟩
  replace r1 := RowAt.below r1 hb
  replace r2 := RowAt.below r2 hb
  replace hB := below2 hB hb
  replace S1 : Hid (HasSts _ _ [⟨2, 1, 5, true⟩]) := S1.out.keep hb
  clear hb k2
  clear y0 y1 y2 y3 y4 y5 y6 y7 y8 y9 y10 y11 yf hly z0 z1 z2 z3 z4 z5 z6 z7 z8 z9 z10 z11 zf hlz
  obtain ⟨⟨y0, y1, y2, y3, y4, y5⟩, ⟨y6, y7, y8, y9, y10, y11⟩, yf, hly⟩ := cells12' r1
  obtain ⟨⟨z0, z1, z2, z3, z4, z5⟩, ⟨z6, z7, z8, z9, z10, z11⟩, zf, hlz⟩ := cells12' r2
  go_wp2_with fail
  go_at_call 19; refine (k3 _ _ S1.out).mono ?_; rintro e w3 ⟨rfl, hb⟩
  replace r1 := RowAt.below r1 hb
  replace r2 := RowAt.below r2 hb
  replace hB := below2 hB hb
  replace S1 : Hid (HasSts _ _ [⟨2, 1, 5, true⟩]) := S1.out.keep hb
  clear hb k3
  clear y0 y1 y2 y3 y4 y5 y6 y7 y8 y9 y10 y11 yf hly z0 z1 z2 z3 z4 z5 z6 z7 z8 z9 z10 z11 zf hlz
  obtain ⟨⟨y0, y1, y2, y3, y4, y5⟩, ⟨y6, y7, y8, y9, y10, y11⟩, yf, hly⟩ := cells12' r1
  obtain ⟨⟨z0, z1, z2, z3, z4, z5⟩, ⟨z6, z7, z8, z9, z10, z11⟩, zf, hlz⟩ := cells12' r2
  go_wp2_with fail
  go_at_call 19; refine (k4 _).mono ?_; rintro e w4 ⟨rfl, hb⟩
  replace r1 := RowAt.below r1 hb
  replace r2 := RowAt.below r2 hb
  replace hB := below2 hB hb
  replace S1 : Hid (HasSts _ _ [⟨2, 1, 5, true⟩]) := S1.out.keep hb
  clear hb k4
  clear y0 y1 y2 y3 y4 y5 y6 y7 y8 y9 y10 y11 yf hly z0 z1 z2 z3 z4 z5 z6 z7 z8 z9 z10 z11 zf hlz
  obtain ⟨⟨y0, y1, y2, y3, y4, y5⟩, ⟨y6, y7, y8, y9, y10, y11⟩, yf, hly⟩ := cells12' r1
  obtain ⟨⟨z0, z1, z2, z3, z4, z5⟩, ⟨z6, z7, z8, z9, z10, z11⟩, zf, hlz⟩ := cells12' r2
  go_wp2_with fail
  go_at_call 22; refine (k5 _ _ (HLIT.out _)).mono ?_; rintro e w5 ⟨u2, rfl, ⟨hs, hnw⟩, hb0⟩
  have hb := below2 (below_new (Below.refl _ w4) _) hb0
  clear hlr
  have hlr := RowAt.lt r1
  replace r1 := RowAt.below r1 hb
  replace r2 := RowAt.below r2 hb
  replace hB := below2 hB hb
  replace S1 : Hid (HasSts _ _ [⟨2, 1, 5, true⟩]) := S1.out.keep hb
  have S2 : Hid (HasSts w5 u2 [⟨2, 2, 5, true⟩]) := hs
  have N2 : Hid (∀ a n c, u2 = .slice (some a) n c → a.block ≠ g1) := fun a n c e => by have := hnw a n c e; rw [World.size_alloc] at this; omega
  clear hs hb hb0 k5 HLIT hnw hlr
  clear y0 y1 y2 y3 y4 y5 y6 y7 y8 y9 y10 y11 yf hly z0 z1 z2 z3 z4 z5 z6 z7 z8 z9 z10 z11 zf hlz
  obtain ⟨⟨y0, y1, y2, y3, y4, y5⟩, ⟨y6, y7, y8, y9, y10, y11⟩, yf, hly⟩ := cells12' r1
  obtain ⟨⟨z0, z1, z2, z3, z4, z5⟩, ⟨z6, z7, z8, z9, z10, z11⟩, zf, hlz⟩ := cells12' r2
  go_wp2_with fail
  go_at_call 14; refine (k6 _ _ S2.out).mono ?_; rintro e w6 ⟨rfl, hb⟩
  replace r1 := RowAt.below r1 hb
  replace r2 := RowAt.below r2 hb
  replace hB := below2 hB hb
  replace S1 : Hid (HasSts _ _ [⟨2, 1, 5, true⟩]) := S1.out.keep hb
  replace S2 : Hid (HasSts _ _ [⟨2, 2, 5, true⟩]) := S2.out.keep hb
  clear hb k6
  clear y0 y1 y2 y3 y4 y5 y6 y7 y8 y9 y10 y11 yf hly z0 z1 z2 z3 z4 z5 z6 z7 z8 z9 z10 z11 zf hlz
  obtain ⟨⟨y0, y1, y2, y3, y4, y5⟩, ⟨y6, y7, y8, y9, y10, y11⟩, yf, hly⟩ := cells12' r1
  obtain ⟨⟨z0, z1, z2, z3, z4, z5⟩, ⟨z6, z7, z8, z9, z10, z11⟩, zf, hlz⟩ := cells12' r2
  go_upto_region 9 with fail
  obtain ⟨Y, hY⟩ : ∃ Y, Y = w6.alloc (.cells #[.int .i64 2, .int .u64 2, .int .i64 5, .bool true] 48) := ⟨_, rfl⟩
  have hb : Below w6.heap.size w6 Y := by rw [hY]; exact below_new (Below.refl _ _) _
  have r3 : RowAt Y w6.heap.size [.int .i64 2, .int .u64 2, .int .i64 5, .bool true] 48 := by rw [hY]; exact RowAt.new _ _ _
  rw [← hY]
  have hl1 := RowAt.lt r1
  replace r1 := RowAt.below r1 hb
  replace r2 := RowAt.below r2 hb
  replace hB := below2 hB hb
  replace S1 : Hid (HasSts _ _ [⟨2, 1, 5, true⟩]) := S1.out.keep hb
  replace S2 : Hid (HasSts _ _ [⟨2, 2, 5, true⟩]) := S2.out.keep hb
  obtain ⟨g3, hg3⟩ : ∃ g, g = w6.heap.size := ⟨_, rfl⟩
  rw [← hg3] at r3 hl1 ⊢
  have hg13 : g3 ≠ g1 := by omega
  clear hY hb hg3 hl1
  clear y0 y1 y2 y3 y4 y5 y6 y7 y8 y9 y10 y11 yf hly z0 z1 z2 z3 z4 z5 z6 z7 z8 z9 z10 z11 zf hlz
  obtain ⟨⟨y0, y1, y2, y3, y4, y5⟩, ⟨y6, y7, y8, y9, y10, y11⟩, yf, hly⟩ := cells12' r1
  obtain ⟨⟨z0, z1, z2, z3, z4, z5⟩, ⟨z6, z7, z8, z9, z10, z11⟩, zf, hlz⟩ := cells12' r2
  go_upto_region 10 with fail
  have hgr := gsetO Y g1 2 (.int .u64 3)
  have r1' := set1 r1 2 (.int .u64 3)
  replace r2 := gkeep r2 hgr (by omega)
  replace r3 := gkeep r3 hgr hg13
  replace hB := bset hB (by omega) (v := .int .u64 3) (k := 2) (b := g1)
  replace S1 : Hid (HasSts _ _ [⟨2, 1, 5, true⟩]) := HasSts.grown S1.out hgr N1.out
  replace S2 : Hid (HasSts _ _ [⟨2, 2, 5, true⟩]) := HasSts.grown S2.out hgr N2.out
  generalize Y.setCell ⟨g1, 2, none⟩ (.int .u64 3) = Z at *
  clear r1 hgr
  have r1 : RowAt Z g1 [.int .u8 1, .int .i64 2, .int .u64 3, .int .i64 5, .bool false, .int .u64 0, .int .u64 0, .int .i64 0, .int .u8 0, .int .i64 0, .int .i64 0, .int .i64 0] 39 := r1'
  clear r1'
  clear y0 y1 y2 y3 y4 y5 y6 y7 y8 y9 y10 y11 yf hly z0 z1 z2 z3 z4 z5 z6 z7 z8 z9 z10 z11 zf hlz
  obtain ⟨⟨y0, y1, y2, y3, y4, y5⟩, ⟨y6, y7, y8, y9, y10, y11⟩, yf, hly⟩ := cells12' r1
  obtain ⟨⟨z0, z1, z2, z3, z4, z5⟩, ⟨z6, z7, z8, z9, z10, z11⟩, zf, hlz⟩ := cells12' r2
  go_wp2_with fail
  go_at_call 19; refine (k7 _ _ S2.out).mono ?_; rintro e w7 ⟨rfl, hb⟩
  replace r1 := RowAt.below r1 hb
  replace r2 := RowAt.below r2 hb
  replace hB := below2 hB hb
  replace S1 : Hid (HasSts _ _ [⟨2, 1, 5, true⟩]) := S1.out.keep hb
  replace S2 : Hid (HasSts _ _ [⟨2, 2, 5, true⟩]) := S2.out.keep hb
  replace r3 := RowAt.below r3 hb
  clear hb k7
  clear y0 y1 y2 y3 y4 y5 y6 y7 y8 y9 y10 y11 yf hly z0 z1 z2 z3 z4 z5 z6 z7 z8 z9 z10 z11 zf hlz
  obtain ⟨⟨y0, y1, y2, y3, y4, y5⟩, ⟨y6, y7, y8, y9, y10, y11⟩, yf, hly⟩ := cells12' r1
  obtain ⟨⟨z0, z1, z2, z3, z4, z5⟩, ⟨z6, z7, z8, z9, z10, z11⟩, zf, hlz⟩ := cells12' r2
  go_wp2_with fail
  go_at_call 12; refine (k8 _ _ S1.out).mono ?_; rintro e w8 ⟨u8, rfl, hb⟩
  replace r1 := RowAt.below r1 hb
  replace r2 := RowAt.below r2 hb
  replace hB := below2 hB hb
  replace S1 : Hid (HasSts _ _ [⟨2, 1, 5, true⟩]) := S1.out.keep hb
  replace S2 : Hid (HasSts _ _ [⟨2, 2, 5, true⟩]) := S2.out.keep hb
  replace r3 := RowAt.below r3 hb
  clear hb k8
  clear y0 y1 y2 y3 y4 y5 y6 y7 y8 y9 y10 y11 yf hly z0 z1 z2 z3 z4 z5 z6 z7 z8 z9 z10 z11 zf hlz
  obtain ⟨⟨y0, y1, y2, y3, y4, y5⟩, ⟨y6, y7, y8, y9, y10, y11⟩, yf, hly⟩ := cells12' r1
  obtain ⟨⟨z0, z1, z2, z3, z4, z5⟩, ⟨z6, z7, z8, z9, z10, z11⟩, zf, hlz⟩ := cells12' r2
  go_wp2_with fail
  go_at_call 21; refine (k9 _ _ _ (S1.out.keep (below_new (Below.refl _ _) _)) (HONE.out _)).mono ?_; rintro e w9 ⟨rfl, hb0⟩
  have hb := below2 (below_new (Below.refl _ w8) _) hb0
  replace r3 := RowAt.below r3 hb
  replace hB := below2 hB hb
  replace S2 : Hid (HasSts _ _ [⟨2, 2, 5, true⟩]) := S2.out.keep hb
  clear hb hb0 k9 HONE S1 r1 r2
  clear y0 y1 y2 y3 y4 y5 y6 y7 y8 y9 y10 y11 yf hly z0 z1 z2 z3 z4 z5 z6 z7 z8 z9 z10 z11 zf hlz
  obtain ⟨x0, x1, x2, x3, xf⟩ := cells4 r3
  go_wp2_with fail
  go_at_call 17; refine (k10 _ _ S2.out).mono ?_; rintro e w10 ⟨rfl, hb⟩
  replace hB := below2 hB hb
  go_wp2_with fail
  go_ret
  exact ⟨rfl, hB⟩
end Go.Proofs.Ytckaajadajjijab.Ord
