/- What order.Next answers. -/
import Derived.Test.YtckaajadajjijabOrdMay
import Derived.Test.YtckaajadajjijabOrdSeat
set_option linter.unusedVariables false
namespace Go.Proofs.Ytckaajadajjijab.Ord
open Go.RowKit Go.Shelf
open Go.Proofs.Ytckaajadajjijab.Msg (Ev okE checkE evV evC FitE echeck_any cells12' gkeep gsetO results_cell_tmp1)
open Go.Proofs.Ytckaajadajjijab.Addr (hiN loN RowAt below2 below_drew below_new bset RowAt.lt RowAt.cell RowAt.frozen RowAt.below RowAt.drew RowAt.new RowAt.alloc gdrew gset gbelow galloc grefl gfinal cells2 cells4 results_cell Bl bl_ne wp_region_bl bl_call bl_same)
attribute [-go_sem] Builtin.append_

set_option maxHeartbeats 8000000 in
set_option maxRecDepth 20000 in
theorem next_walk (v : Value) (c0 c1 c2 c3 c5 c6 c7 c8 c9 c10 c11 : Int) (cs : Bool) (h : Int) (w : World) (E1 E2 R : Int) (L : List St) (P : World → Value → Prop) (Q : World → Value → Prop)
    (k1 : ∀ W : World, Below w.heap.size w W → Calls Try.prog 31 #[v, .agg #[.int .u8 c0, .int .i64 c1, .int .u64 c2, .int .i64 c3, .bool cs, .int .u64 c5, .int .u64 c6, .int .i64 c7, .int .u8 c8, .int .i64 c9, .int .i64 c10, .int .i64 c11], .int .i64 h] W fun e w' => e = .returned (.int .i64 E1) ∧ Below W.heap.size W w')
    (k2 : E1 = 0 → ∀ W : World, Below w.heap.size w W → Calls Try.prog 32 #[v, .agg #[.int .u8 c0, .int .i64 c1, .int .u64 c2, .int .i64 c3, .bool cs, .int .u64 c5, .int .u64 c6, .int .i64 c7, .int .u8 c8, .int .i64 c9, .int .i64 c10, .int .i64 c11], .int .i64 h] W fun e w' => e = .returned (.int .i64 E2) ∧ Below W.heap.size W w')
    (k3 : E1 = 0 → E2 ≠ 0 → ∀ W : World, Below w.heap.size w W → Calls Try.prog 33 #[v] W fun e w' => ∃ u, e = .returned u ∧ P w' u ∧ Below W.heap.size W w')
    (k4 : E1 = 0 → E2 = 0 → ∀ W : World, Below w.heap.size w W → Calls Try.prog 34 #[v, .agg #[.int .i64 c1, .int .u64 c2, .int .i64 c3, .bool (c0 != 2)]] W fun e w' => ∃ u, e = .returned u ∧ Q w' u ∧ Below W.heap.size W w')
    (G : World → Value → Prop) (H1 : E1 ≠ 0 → Hid (R = E1 ∧ ∀ W : World, G W (.slice none 0 0))) (H2 : E1 = 0 → E2 ≠ 0 → Hid (R = E2 ∧ ∀ (W : World) (u : Value), P W u → G W u)) (H3 : E1 = 0 → E2 = 0 → Hid (R = 0 ∧ ∀ (W : World) (u : Value), Q W u → G W u)) :
    Calls Try.prog 12 #[v, .agg #[.int .u8 c0, .int .i64 c1, .int .u64 c2, .int .i64 c3, .bool cs, .int .u64 c5, .int .u64 c6, .int .i64 c7, .int .u8 c8, .int .i64 c9, .int .i64 c10, .int .i64 c11], .int .i64 h] w fun e w' => ∃ u, e = .returned (.tuple #[u, .int .i64 R]) ∧ G w' u ∧ Below w.heap.size w w' := by
  obtain ⟨X, hX⟩ : ∃ X, X = w.alloc (.cells #[.int .u8 c0, .int .i64 c1, .int .u64 c2, .int .i64 c3, .bool cs, .int .u64 c5, .int .u64 c6, .int .i64 c7, .int .u8 c8, .int .i64 c9, .int .i64 c10, .int .i64 c11] 39) := ⟨_, rfl⟩
  have hB : Below w.heap.size w X := by rw [hX]; exact below_new (Below.refl _ _) _
  have r0 : RowAt X w.heap.size [.int .u8 c0, .int .i64 c1, .int .u64 c2, .int .i64 c3, .bool cs, .int .u64 c5, .int .u64 c6, .int .i64 c7, .int .u8 c8, .int .i64 c9, .int .i64 c10, .int .i64 c11] 39 := by rw [hX]; exact RowAt.new _ _ _
  go_enter Try.func12, Try.ntmps12
  go_upto_region 1 with fail
  rw [← hX]
  clear hX
  obtain ⟨⟨y0, y1, y2, y3, y4, y5⟩, ⟨y6, y7, y8, y9, y10, y11⟩, yf, hly⟩ := cells12' r0
  by_cases h1 : E1 = 0
  · have k2' := k2 h1
    by_cases h2 : E2 = 0
    · have k4' := k4 h1 h2
      have HV := H3 h1 h2
      have HR : Hid (R = 0) := HV.out.1
      subst h1 h2
      clear H1 H2 H3 k2 k3 k4
      go_wp2_with fail
      go_at_call 31; refine (k1 _ hB).mono ?_; rintro e w1 ⟨rfl, hb⟩
      replace hB := below2 hB hb
      replace r0 := RowAt.below r0 hb
      clear hb k1 y0 y1 y2 y3 y4 y5 y6 y7 y8 y9 y10 y11 yf hly
      obtain ⟨⟨y0, y1, y2, y3, y4, y5⟩, ⟨y6, y7, y8, y9, y10, y11⟩, yf, hly⟩ := cells12' r0
      go_wp2_with fail
      go_at_call 32; refine (k2' _ hB).mono ?_; rintro e w2 ⟨rfl, hb⟩
      replace hB := below2 hB hb
      replace r0 := RowAt.below r0 hb
      clear hb k2' y0 y1 y2 y3 y4 y5 y6 y7 y8 y9 y10 y11 yf hly
      obtain ⟨⟨y0, y1, y2, y3, y4, y5⟩, ⟨y6, y7, y8, y9, y10, y11⟩, yf, hly⟩ := cells12' r0
      go_wp2_with fail
      go_at_call 34; refine (k4' _ hB).mono ?_; rintro e w3 ⟨u, rfl, hQ, hb⟩
      have hG := HV.out.2 _ _ hQ
      replace hB := below2 hB hb
      clear hb y0 y1 y2 y3 y4 y5 y6 y7 y8 y9 y10 y11 yf hly hQ HV
      have HG : Hid (G w3 u) := hG
      clear hG
      go_wp2_with fail
      go_ret2
      exact ⟨u, by rw [HR.out]; rfl, HG.out, hB⟩
    · have k3' := k3 h1 h2
      have HV := H2 h1 h2
      have HR : Hid (R = E2) := HV.out.1
      have q1 : (E2 == 0) = false := beq_eq_false_iff_ne.2 h2
      have q2 : (E2 != 0) = true := bne_iff_ne.2 h2
      subst h1
      clear H1 H2 H3 k2 k3 k4 h2
      go_wp2_with fail
      go_at_call 31; refine (k1 _ hB).mono ?_; rintro e w1 ⟨rfl, hb⟩
      replace hB := below2 hB hb
      replace r0 := RowAt.below r0 hb
      clear hb k1 y0 y1 y2 y3 y4 y5 y6 y7 y8 y9 y10 y11 yf hly
      obtain ⟨⟨y0, y1, y2, y3, y4, y5⟩, ⟨y6, y7, y8, y9, y10, y11⟩, yf, hly⟩ := cells12' r0
      go_wp2_with fail
      go_at_call 32; refine (k2' _ hB).mono ?_; rintro e w2 ⟨rfl, hb⟩
      replace hB := below2 hB hb
      replace r0 := RowAt.below r0 hb
      clear hb k2' y0 y1 y2 y3 y4 y5 y6 y7 y8 y9 y10 y11 yf hly
      obtain ⟨⟨y0, y1, y2, y3, y4, y5⟩, ⟨y6, y7, y8, y9, y10, y11⟩, yf, hly⟩ := cells12' r0
      go_wp2_with fail
      go_at_call 33; refine (k3' _ hB).mono ?_; rintro e w3 ⟨u, rfl, hQ, hb⟩
      have hG := HV.out.2 _ _ hQ
      replace hB := below2 hB hb
      clear hb y0 y1 y2 y3 y4 y5 y6 y7 y8 y9 y10 y11 yf hly hQ HV
      have HG : Hid (G w3 u) := hG
      clear hG
      go_wp2_with fail
      go_ret2
      exact ⟨u, by rw [HR.out]; rfl, HG.out, hB⟩
  · have HV := H1 h1
    have HR : Hid (R = E1) := HV.out.1
    have q1 : (E1 == 0) = false := beq_eq_false_iff_ne.2 h1
    have q2 : (E1 != 0) = true := bne_iff_ne.2 h1
    clear H1 H2 H3 k2 k3 k4 h1
    go_wp2_with fail
    go_at_call 31; refine (k1 _ hB).mono ?_; rintro e w1 ⟨rfl, hb⟩
    replace hB := below2 hB hb
    replace r0 := RowAt.below r0 hb
    clear hb k1 y0 y1 y2 y3 y4 y5 y6 y7 y8 y9 y10 y11 yf hly
    obtain ⟨⟨y0, y1, y2, y3, y4, y5⟩, ⟨y6, y7, y8, y9, y10, y11⟩, yf, hly⟩ := cells12' r0
    have HG : Hid (G w1 (.slice none 0 0)) := HV.out.2 _
    clear HV y0 y1 y2 y3 y4 y5 y6 y7 y8 y9 y10 y11 yf hly
    go_wp2_with fail
    go_ret2
    exact ⟨.slice none 0 0, by rw [HR.out]; rfl, HG.out, hB⟩
theorem newIn_own {w W : World} {m e size k : Nat} {v : Value} {xs : List Value} (h : W.ownsRow m e size v k xs) (hm : w.heap.size ≤ m) : NewIn w v := by
  intro a n c e
  subst e
  have := (h.lt a.block rfl).1
  omega
theorem newIn_nil (w : World) : NewIn w (.slice none 0 0) := fun a n c e => by injection e with e; cases e
theorem newIn_le {w W : World} {v : Value} (h : NewIn W v) (hb : w.heap.size ≤ W.heap.size) : NewIn w v := fun a n c e => Nat.le_trans hb (h a n c e)
theorem next_any (l : List St) (v : Value) (e : Ev) (h : Int) (w : World) (hl : HasSts w v l) (hf : FitE e) :
    Calls Try.prog 12 #[v, evV e, .int .i64 h] w fun r w' => ∃ u, r = .returned (.tuple #[u, .int .i64 (nextL l e h).2]) ∧ (HasSts w' u (nextL l e h).1 ∧ NewIn w u) ∧ Below w.heap.size w w' := by
  have hkind : ((e.kind : Int) != 2) = decide (e.kind ≠ 2) := by
    rw [Bool.eq_iff_iff, bne_iff_ne, decide_eq_true_eq]; omega
  refine next_walk v _ _ _ _ _ _ _ _ _ _ _ _ h w (askL l e h) (misL l e h) _ l (fun W u => HasSts W u l ∧ NewIn w u) (fun W u => HasSts W u (seatedL l ⟨e.router, e.seq, e.time, decide (e.kind ≠ 2)⟩) ∧ NewIn w u) (fun W hb => ask_any l v e h W (hl.keep hb) hf) (fun h1 W hb => mis_any l v e h W (hl.keep hb) (ask_ok h1).1) ?_ ?_ (fun W u => HasSts W u (nextL l e h).1 ∧ NewIn w u) ?_ ?_ ?_
  · intro h1 h2 W hb
    have := (okL_all (ask_ok h1).1).1
    refine (clone_any l v W (hl.keep hb) (by omega)).mono ?_
    rintro e w' ⟨u, rfl, ho, hb'⟩
    exact ⟨u, rfl, ⟨hasRow_own ho, newIn_own ho hb.size⟩, hb'⟩
  · intro h1 h2 W hb
    have := (okL_all (ask_ok h1).1).1
    rw [hkind]
    refine (seated_any l v ⟨e.router, e.seq, e.time, decide (e.kind ≠ 2)⟩ W (hl.keep hb) (by omega)).mono ?_
    rintro e w' ⟨u, rfl, ⟨B, hBB, ho⟩, hb'⟩
    exact ⟨u, rfl, ⟨hasRow_own ho, newIn_own ho (Nat.le_trans hb.size hBB)⟩, hb'⟩
  · intro h1
    show _ ∧ _
    unfold nextL
    rw [if_neg h1]
    exact ⟨rfl, fun W => ⟨hasRow_nil W 4, newIn_nil w⟩⟩
  · intro h1 h2
    show _ ∧ _
    unfold nextL
    rw [if_pos h1, if_neg h2]
    exact ⟨rfl, fun W u hu => hu⟩
  · intro h1 h2
    show _ ∧ _
    unfold nextL
    rw [if_pos h1, if_pos h2]
    exact ⟨rfl, fun W u hu => hu⟩
end Go.Proofs.Ytckaajadajjijab.Ord
