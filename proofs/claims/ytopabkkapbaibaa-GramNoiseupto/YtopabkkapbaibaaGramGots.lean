/- What gram.Gots answers. -/
import Derived.Test.YtopabkkapbaibaaGramGot
set_option linter.unusedVariables false
namespace Go.Proofs.Ytopabkkapbaibaa.Gram
open Go.RowKit Go.Shelf
open Go.Proofs.Ytopabkkapbaibaa.Addr (hiN loN RowAt below2 below_drew below_new bset RowAt.lt RowAt.cell RowAt.frozen RowAt.below RowAt.drew RowAt.new RowAt.alloc cells2 cells4)
open Go.Proofs.Ytopabkkapbaibaa.Msg (Ev evV evC getE eget_any zeroE zeroC cells12)
attribute [local go_sem] Oper.semAt_some
attribute [-go_sem] Builtin.append_
def gtCs (gs : List GtT) : List Value := gs.flatMap gtC
theorem gtCs_app (a b : List GtT) : gtCs (a ++ b) = gtCs a ++ gtCs b := by simp [gtCs]
theorem info_gt : (Try.prog.info? 52).map (fun i => (i.zero, i.size, i.bytes)) = some (some (.agg #[.int .u8 0, .int .i64 0, .int .u64 0, .int .i64 0, .bool false, .int .u64 0, .int .u64 0, .int .i64 0, .int .u8 0, .int .i64 0, .int .i64 0, .int .i64 0, .int .i64 0]), 13, 104) := by kernel_rfl
theorem append_gt {W : World} {n₀ k : Nat} {v : Value} {xs : List Value} (p : GtT) (hown : W.ownsRow n₀ 52 13 v k xs) (hk : k ≤ 1000000000000) (hn : n₀ ≤ W.heap.size) :
    ∃ g cap w3, (∀ ty, (Builtin.append_ #[37, 37] ty #[v, .slice (some ⟨W.heap.size, 0, none⟩) 1 1]).run Try.prog (W.alloc (.cells (gtC p).toArray 52)) = .ok (.slice (some ⟨g, 0, none⟩) (k + 1) cap) w3) ∧
      w3.ownsRow n₀ 52 13 (.slice (some ⟨g, 0, none⟩) (k + 1) cap) (k + 1) (xs ++ gtC p) ∧ (W.alloc (.cells (gtC p).toArray 52)).grownBy w3 v.ownBlock := by
  obtain ⟨i0, hi, hz0, hz1, hz2⟩ := info_parts info_gt
  have hrow := RowAt.new W (gtC p) 52
  have h := fun ty => run_append_own (P := Try.prog) (W.alloc (.cells (gtC p).toArray 52)) n₀ 37 ty 52 i0 _ 13 104 Try.underlying37 hi hz0 hz1 hz2 rfl (by decide) v k xs (hown.alloc _) ⟨W.heap.size, 0, none⟩ 1 1 (gtC p) rfl
    (by intro j u hj; rw [addr_add, Nat.zero_add]; exact (hrow.cell j).trans hj) (by intro u hu; simp only [gtC, evC, List.cons_append, List.nil_append, List.mem_cons, List.not_mem_nil, or_false] at hu; rcases hu with rfl | rfl | rfl | rfl | rfl | rfl | rfl | rfl | rfl | rfl | rfl | rfl | rfl <;> rfl) (by unfold maxLen; omega) (by omega) (by simp; omega)
  obtain ⟨v', w3, hrun, h1, h2, h3⟩ := h 0
  obtain ⟨g, cap, rfl⟩ : ∃ g cap, v' = .slice (some ⟨g, 0, none⟩) (k + 1) cap := by
    rcases h1.2 with ⟨_, h0⟩ | ⟨g, cap, cur, e, _⟩
    · omega
    · exact ⟨g, cap, e⟩
  exact ⟨g, cap, w3, fun ty => hrun, h1, h2⟩
def gots (pre : List Told) : List GtT := pre.map (fun x => gotG x.1)
/-- between two rounds of a loop that gathers what comes of pieces -/
def GathG (n₀ m b0 : Nat) (w : World) (pre : List Told) (W : World) : Prop :=
  (∃ v, Boxed W b0 37 v ∧ W.ownsRow m 52 13 v pre.length (gtCs (gots pre)) ∧ True) ∧ Below n₀ w W ∧ m ≤ W.heap.size
theorem gathG_own (n₀ m b0 B : Nat) (w : World) (hn : n₀ ≤ w.heap.size) (hB : n₀ ≤ B) : OwnFrom B (GathG n₀ m b0 w) :=
  OwnFrom.and (Own.from (holdsRow_own m b0 37 52 13 (fun pre : List Told => pre.length) (fun pre => gtCs (gots pre)) (fun _ _ => True)) B)
    (OwnFrom.and (ownFrom_below hn hB) (fun _ _ _ _ hs hg _ => Nat.le_trans hs hg.size))
set_option maxHeartbeats 4000000 in
set_option maxRecDepth 20000 in
theorem gots_any (l : List UInt8) (w : World) (hl : l.length ≤ 281474976710656) (hm : (piecesL l).length ≤ 1000000000000) :
    Calls Try.prog 13 #[.string ⟨l.toArray⟩] w fun e w' => ∃ v, e = .returned v ∧ w'.ownsRow w.heap.size 52 13 v (piecesL l).length (gtCs ((piecesL l).map gotG)) ∧ Below w.heap.size w w' := by
  refine (callsIn_wide (n := 5)).1 ?_
  refine callsIn_of_wp_marks Try.func13 rfl trivial ?_ rfl
  simp only [Try.ntmps13, List.size_toArray, List.length_cons, List.length_nil, Nat.reduceAdd, Nat.reduceSub, Array.replicate_succ, Array.replicate_zero, List.push_toArray, List.append_toArray, List.nil_append, List.cons_append]
  gi_wp2_with fail
  refine ⟨trivial, ?_⟩
  gi_at_call 24; refine (callsIn_wide.2 (each_any _ _)).mono ?_; rintro e w1 ⟨rfl, rfl⟩
  gi_wp2_with fail
  obtain ⟨W0, hW0⟩ : ∃ W0, (w.alloc (.cells #[.slice none 0 0] 37)).alloc (.cells #[.string ⟨l.toArray⟩] 9) = W0 := ⟨_, rfl⟩
  have hs0 : W0.heap.size = w.heap.size + 1 + 1 := by rw [← hW0]; simp
  have g0 : GathG w.heap.size (w.heap.size + 1 + 1) w.heap.size w [] W0 := by
    rw [← hW0]
    exact ⟨⟨_, (Boxed.new w _ _).alloc _, World.ownsRow_nil _ _ _ _, trivial⟩, ((Below.refl _ w).alloc (Nat.le_refl _) _).alloc (by simp) _, by simp⟩
  have hcs : W0.cell? ⟨w.heap.size + 1, 0, none⟩ = some (.string ⟨l.toArray⟩) := by
    have := (Boxed.new (w.alloc (.cells #[.slice none 0 0] 37)) 9 (.string ⟨l.toArray⟩)).cell
    rw [World.size_alloc, hW0] at this
    exact this
  rw [hW0]
  clear hW0
  refine wpIn_rangeFunc_ownH (α := Told) rfl (by omega) (gf := 39) (lb := #[.pointer (some ⟨w.heap.size + 1, 0, none⟩)]) rfl trivial (enters_of Try.func39 (by kernel_rfl) rfl)
    (each1_stops l hl (5 - 1) (w.heap.size + 1) W0 (by omega) hcs) (fun h k => trivial) (fun W l o o' _ h hc _ => trivial) (Below.refl _ _) (fun _ => rfl)
    (GathG w.heap.size (w.heap.size + 1 + 1) w.heap.size w)
    (fun c pre W => False)
    (gathG_own _ _ _ _ w (Nat.le_refl _) (by omega))
    (fun c s A B row hs hg hr => hs)
    g0
    (fun x a' W => ∃ Bx, FBox W0.heap.size x W Bx ∧ a' = { tmps := #[.string ⟨l.toArray⟩, undef, .slice none 0 0, .pointer (some ⟨w.heap.size, 0, none⟩), .pointer (some ⟨Bx, 0, none⟩), .string ⟨l.toArray⟩, .func (.func 39) #[] #[.pointer (some ⟨w.heap.size + 1, 0, none⟩)], .agg #[.int .u8 (x.1.1 : Int), .string ⟨x.1.2.toArray⟩], undef, undef, undef, undef, undef, undef], defers := [] })
    (fun x a' s A B row hs hg hr => by
      obtain ⟨Bx, h, e⟩ := hs
      exact ⟨Bx, Own.from (fbox_own _ x Bx) _ () A B row h hg hr, e⟩)
    ?assign ?body ?done ?stop
  case assign =>
    rintro lp pre x W K hG hK
    have hBs := hG.2.2
    have hA := hK _ _ ((KeepsOthers.alloc W (.cells #[.int .u8 (x.1.1 : Int), .string ⟨x.1.2.toArray⟩] 70)).from _) trivial (gathG_own _ _ _ W0.heap.size w (Nat.le_refl _) (by omega) pre W _ none hG (World.grownBy_alloc W _ none) (fun r e => by cases e)) ⟨W.heap.size, ⟨?_, RowAt.new W [.int .u8 (x.1.1 : Int), .string ⟨x.1.2.toArray⟩] 70⟩, rfl⟩
    · unfold encs
      gi_wp2
      exact hA
    · rw [hs0]; exact hBs
  case body =>
    rintro lp pre x a' W hlp ⟨rr, hrr⟩ hG ⟨Bx, hF, rfl⟩ hlt
    obtain ⟨⟨v, hv, hown, -⟩, hB, hm3⟩ := hG
    obtain ⟨q0, q1, qf⟩ := cells2 hF.2
    have hc0 := hv.cell
    have hf0 := hv.frozen
    have hk : pre.length ≤ 1000000000000 := by omega
    have hxl := x.2
    have cp := fun W => got_any x.1.1 x.1.2 W hxl.1 (by omega)
    have hFr := hF.2
    obtain ⟨y, hy⟩ : ∃ y, gotG (x.1.1, x.1.2) = y := ⟨_, rfl⟩
    have HY : Hid (gotG x.1 = y) := hy
    rw [hy] at cp
    clear hxl hy
    unfold pcV gtV gtC evC at cp
    simp only [List.cons_append, List.nil_append] at cp
    have mixed : Try.prog.follows .mixedOrders = true := by kernel_rfl
    gi_wp2_with fail
    gi_region_with_o (
      refine ⟨trivial, ?_⟩
      gi_at_call 25
      refine (CallsIn.inRound lp (callsIn_wide.2 (cp _))).mono ?_
      rintro e w2 ⟨rfl, hb2⟩
      have hbW : Below W.heap.size W w2 := below2 (by (repeat' (first | exact Below.refl _ _ | refine Below.drew ?_))) hb2
      have hv2 : Boxed w2 w.heap.size 37 v := (hbW.block _ hv.lt).trans hv
      have hown2 := own_keep hown hbW
      have hw2 := hbW.size
      obtain ⟨g, cap, w3, hrun, hown3, hgrow⟩ := append_gt y hown2 hk (Nat.le_trans hm3 hbW.size)
      have hv3 := hv2.cell
      have hf3 := hv2.frozen
      have hv4 : Boxed w3 w.heap.size 37 v := (hv2.alloc _).kept hgrow (row_ne hown2 (by omega))
      have hv5 := hv4.cell
      have hf5 := hv4.frozen
      have hv6 := (hv2.alloc (.cells (gtC y).toArray 52)).cell
      simp only [gtC, evC, List.cons_append, List.nil_append] at hrun hv6)
    all_goals (try gi_wp2)
    all_goals refine ⟨?_, trivial, ⟨⟨_, hv4.set _, ?_, trivial⟩, ?_, ?_⟩⟩
    all_goals first
      | exact ((((KeepsOthers.of_grownBy (grown_of hbW) (fun _ _ e => by cases e)).trans (KeepsOthers.alloc _ _)).trans (ko_row (hown2.alloc _) hgrow)).trans (KeepsOthers.setCell _ _ _)).from _
      | (have this := own_set hown3 (b := w.heap.size) (by omega) (.slice (some ⟨g, 0, none⟩) (pre.length + 1) cap)
         rw [List.length_append, gots, List.map_append, gtCs_app]
         simp only [List.map_cons, List.map_nil, HY.out]
         rw [show gtCs [y] = gtC y by simp [gtCs]]
         exact this)
      | exact (below_row ((hB.trans (hbW.mono hB.size)).alloc (Nat.le_trans hB.size hbW.size) _) (by have := hbW.size; have := hB.size; simp; omega) (by omega) (hown2.alloc _) hgrow).setCell (p := ⟨w.heap.size, 0, none⟩) (Nat.le_refl _) _
      | (have h1 := hgrow.size; rw [World.size_alloc] at h1; simp; omega)
      | skip
  case done =>
    rintro D xs W hD hS ⟨⟨v, hv, hown, -⟩, hB, hm3⟩ hK
    have hc0 := hv.cell
    have mixed : Try.prog.follows .mixedOrders = true := by kernel_rfl
    gi_wp2
    refine ⟨by simp, .inl ⟨_, _, rfl, run_takeDeferred (w := W) hK, ?_⟩⟩
    refine ⟨_, results_tmp rfl _ _ _, ?_⟩
    have hS' : xs.map (·.1) = piecesL l := hS
    refine ⟨v, rfl, ?_, ?_⟩
    · rw [← hS', List.length_map, List.map_map]
      exact own_down (ownsRow_putObj hown _ hK rfl) (by omega)
    · exact hB.trans (belowK_b (w := w) (Nat.le_refl _) W D _ _ (by omega) hK rfl rfl)
  case stop =>
    rintro D c pre W hD _ h
    exact h.elim
end Go.Proofs.Ytopabkkapbaibaa.Gram
