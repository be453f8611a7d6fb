/- slices.AppendSeq and Collect of runs: what slices.Values tells, in a row of the call's own. -/
import Derived.Test.YtmkbijnndbgjgaaSpSeq
set_option linter.unusedVariables false
namespace Go.Proofs.Ytmkbijnndbgjgaa.Sp
open Go.RowKit Go.Shelf
open Go.Proofs.Ytmkbijnndbgjgaa.Lk (HasRow hasRow_own addr_add)
open Go.Proofs.Ytmkbijnndbgjgaa.Addr (wideN rightB hiN loN adV RowAt below2 below_drew below_new bset RowAt.lt RowAt.cell RowAt.frozen RowAt.below RowAt.drew RowAt.new RowAt.alloc cells2 cells4)
attribute [local go_sem] Oper.semAt_some
attribute [-go_sem] Builtin.append_
theorem row_ne {W : World} {m e size k : Nat} {v : Value} {xs : List Value} (h : W.ownsRow m e size v k xs) {b : Nat} (hb : b < m) : some b ≠ v.ownBlock := by
  rcases h.2 with ⟨rfl, _⟩ | ⟨g, cap, cur, rfl, hg, _⟩
  · simp [Value.ownBlock]
  · intro e
    obtain rfl : b = g := by simpa [Value.ownBlock] using e
    omega
theorem own_down {W : World} {m n e size k : Nat} {v : Value} {xs : List Value} (h : W.ownsRow m e size v k xs) (hb : n ≤ m) : W.ownsRow n e size v k xs := by
  refine ⟨h.1, ?_⟩
  rcases h.2 with h | ⟨g, cap, cur, e1, hg, rest⟩
  · exact .inl h
  · exact .inr ⟨g, cap, cur, e1, Nat.le_trans hb hg, rest⟩
theorem ko_row {W W' : World} {m e size k : Nat} {v : Value} {xs : List Value} (hr : W.ownsRow m e size v k xs) (hg : W.grownBy W' v.ownBlock) : KeepsOthers W W' :=
  KeepsOthers.of_grownBy hg fun j o ej hj => by
    rcases hr.2 with ⟨rfl, _⟩ | ⟨g, cap, cur, rfl, _, hgb, _⟩
    · simp [Value.ownBlock] at ej
    · obtain rfl : g = j := by simpa [Value.ownBlock] using ej
      rw [hgb] at hj; cases hj; rfl
theorem own_set {W : World} {m e size k : Nat} {v : Value} {xs : List Value} (hr : W.ownsRow m e size v k xs) {b : Nat} (hb : b < m) (u : Value) : (W.setCell ⟨b, 0, none⟩ u).ownsRow m e size v k xs :=
  hr.kept (grownBy_setCell' W b u) (.inr (row_ne hr hb).symm)
theorem below_row {n : Nat} {w W W' : World} {m e size k : Nat} {v : Value} {xs : List Value} (h : Below n w W) (hn : n ≤ W.heap.size) (hnm : n ≤ m) (hr : W.ownsRow m e size v k xs) (hg : W.grownBy W' v.ownBlock) : Below n w W' :=
  h.grown hg hn (fun j ej => by
    rcases hr.2 with ⟨rfl, _⟩ | ⟨g, cap, cur, rfl, hb, _⟩
    · simp [Value.ownBlock] at ej
    · obtain rfl : g = j := by simpa [Value.ownBlock] using ej
      omega)
/-- between two rounds of a loop that gathers runs -/
def Gath (n₀ m b0 : Nat) (w : World) (pre : List Sp) (W : World) : Prop :=
  (∃ v, Boxed W b0 118 v ∧ W.ownsRow m 130 4 v pre.length (spCs pre) ∧ True) ∧ Below n₀ w W ∧ m ≤ W.heap.size
theorem gath_own (n₀ m b0 B : Nat) (w : World) (hn : n₀ ≤ w.heap.size) (hB : n₀ ≤ B) : OwnFrom B (Gath n₀ m b0 w) :=
  OwnFrom.and (Own.from (holdsRow_own m b0 118 130 4 (fun pre : List Sp => pre.length) (fun pre => spCs pre) (fun _ _ => True)) B)
    (OwnFrom.and (ownFrom_below hn hB) (fun _ _ _ _ hs hg _ => Nat.le_trans hs hg.size))
/-- the loop's variable -/
def FBox (B : Nat) (x : Sp) (W : World) (Bx : Nat) : Prop := B ≤ Bx ∧ RowAt W Bx [.int .u64 (hiN x.1 : Int), .int .u64 (loN x.1 : Int), .int .u64 (hiN x.2 : Int), .int .u64 (loN x.2 : Int)] 130
theorem fbox_own (B : Nat) (x : Sp) (Bx : Nat) : Own (fun (_ : Unit) W => FBox B x W Bx) := by
  rintro s X Y row ⟨h1, h2⟩ hg hrow
  refine ⟨h1, (hg.block Bx h2.lt (fun e => ?_)).trans h2⟩
  obtain ⟨o, ho, hc⟩ := hrow Bx e.symm
  rw [show X.heap[Bx]? = _ from h2] at ho; cases ho; cases hc
theorem app_in {W : World} {m : Nat} {u : Value} {a : List Sp} (h : W.ownsRow m 130 4 u a.length (spCs a)) (x : Sp) (hb : a.length ≤ 1000000) (hm : m ≤ W.heap.size) :
    ∃ g cap w3, (∀ ty, (Builtin.append_ #[118, 118] ty #[u, .slice (some ⟨W.heap.size, 0, none⟩) 1 1]).run Try.prog (W.alloc (.cells #[.int .u64 (hiN x.1 : Int), .int .u64 (loN x.1 : Int), .int .u64 (hiN x.2 : Int), .int .u64 (loN x.2 : Int)] 130)) = .ok (.slice (some ⟨g, 0, none⟩) (a.length + 1) cap) w3) ∧ w3.ownsRow m 130 4 (.slice (some ⟨g, 0, none⟩) (a.length + 1) cap) (a ++ [x]).length (spCs (a ++ [x])) ∧ (W.alloc (.cells #[.int .u64 (hiN x.1 : Int), .int .u64 (loN x.1 : Int), .int .u64 (hiN x.2 : Int), .int .u64 (loN x.2 : Int)] 130)).grownBy w3 u.ownBlock := by
  obtain ⟨i0, hi0, hz0, hz1, hz2⟩ := info_parts info_R
  have hx := lit_sp W 130 x
  have hk := own_below h (below_new (Below.refl _ W) (.cells #[.int .u64 (hiN x.1 : Int), .int .u64 (loN x.1 : Int), .int .u64 (hiN x.2 : Int), .int .u64 (loN x.2 : Int)] 130))
  have hsz : m ≤ (W.alloc (.cells #[.int .u64 (hiN x.1 : Int), .int .u64 (loN x.1 : Int), .int .u64 (hiN x.2 : Int), .int .u64 (loN x.2 : Int)] 130)).heap.size := by simp; omega
  obtain ⟨V, hV⟩ : ∃ V, V = W.alloc (.cells #[.int .u64 (hiN x.1 : Int), .int .u64 (loN x.1 : Int), .int .u64 (hiN x.2 : Int), .int .u64 (loN x.2 : Int)] 130) := ⟨_, rfl⟩
  rw [← hV] at hx hk hsz ⊢
  generalize W.heap.size = b at *
  rcases hx.2 with ⟨h0, _⟩ | ⟨a0, cap, e0, g1, g2, g3, g4⟩
  · cases h0
  · injection e0 with e1 e2 e3
    injection e1 with e1
    subst e1 e3
    have hh := fun ty => run_append_lies (P := Try.prog) (w := V) 118 ty m 130 i0 (.agg #[.int .u64 0, .int .u64 0, .int .u64 0, .int .u64 0]) 4 32 Try.underlying118 hi0 hz0 hz1 hz2 rfl (by decide) u a.length (spCs a) hk ⟨b, 0, none⟩ 1 1 (spCs [x]) hx.1
      (fun j y hj => by rw [g4 j (by have := hx.1; rw [← this]; exact (List.getElem?_eq_some_iff.1 hj).1)]; exact hj) (one_sps [x]) (by decide) (by unfold maxLen; omega) (by omega) hsz V.heap.size rfl
    obtain ⟨g, c2, w3, hrun, k1, k2, k3, k4⟩ := hh 0
    rw [← spCs_app] at k1
    exact ⟨g, c2, w3, fun ty => hrun, by rw [List.length_append]; exact k1, k2⟩
set_option maxHeartbeats 4000000 in
set_option maxRecDepth 20000 in
theorem appendSeq_any (l : List Sp) (v : Value) (Bn : Nat) (w : World) (hv : HasSps w v l) (hb : w.cell? ⟨Bn, 0, none⟩ = some v) (hBl : Bn < w.heap.size) (hl : l.length ≤ 1000000) :
    Calls Try.prog 114 #[.slice none 0 0, .func (.func 112) #[] #[.pointer (some ⟨Bn, 0, none⟩)]] w fun e w' => ∃ u, e = .returned u ∧ Own1 w w' 130 u l := by
  obtain ⟨o, c, rfl, hc1, hc2⟩ := HasRow.slice hv
  refine (callsIn_wide (n := 5)).1 ?_
  refine callsIn_of_wp_marks Try.func114 rfl trivial ?_ rfl
  simp only [Try.ntmps114, List.size_toArray, List.length_cons, List.length_nil, Nat.reduceAdd, Nat.reduceSub, Array.replicate_succ, Array.replicate_zero, List.push_toArray, List.append_toArray, List.nil_append, List.cons_append]
  obtain ⟨W0, hW0⟩ : ∃ W0, w.alloc (.cells #[.slice none 0 0] 118) = W0 := ⟨_, rfl⟩
  have hs0 : W0.heap.size = w.heap.size + 1 := by rw [← hW0]; simp
  have g0 : Gath w.heap.size (w.heap.size + 1) w.heap.size w [] W0 := by
    rw [← hW0]
    exact ⟨⟨_, (Boxed.new w _ _), World.ownsRow_nil _ _ _ _, trivial⟩, (Below.refl _ w).alloc (Nat.le_refl _) _, by simp⟩
  have hB0 : Below w.heap.size w W0 := g0.2.1
  have hst := values1_stops l o c (5 - 1) Bn w hBl hb hv hl
  clear hv hb
  gi_wp2_with fail
  clear hW0
  refine wpIn_rangeFunc_ownH (α := Sp) rfl (by omega) (gf := 112) (lb := #[.pointer (some ⟨Bn, 0, none⟩)]) rfl trivial (enters_of Try.func112 (by kernel_rfl) rfl)
    hst belowK_t (belowK_b hB0.size) hB0 (fun _ => rfl)
    (Gath w.heap.size (w.heap.size + 1) w.heap.size w)
    (fun c pre W => False)
    (gath_own _ _ _ _ w (Nat.le_refl _) (by omega))
    (fun c s A B row hs hg hr => hs)
    g0
    (fun x a' W => ∃ Bx, FBox W0.heap.size x W Bx ∧ a' = { tmps := #[.slice none 0 0, .func (.func 112) #[] #[.pointer (some ⟨Bn, 0, none⟩)], .pointer (some ⟨w.heap.size, 0, none⟩), undef, .slice none 0 0, .pointer (some ⟨Bx, 0, none⟩), .func (.func 112) #[] #[.pointer (some ⟨Bn, 0, none⟩)], .agg #[.int .u64 (hiN x.1 : Int), .int .u64 (loN x.1 : Int), .int .u64 (hiN x.2 : Int), .int .u64 (loN x.2 : Int)], undef, undef, undef, undef, undef], defers := [] })
    (fun x a' s A B row hs hg hr => by
      obtain ⟨Bx, h, e⟩ := hs
      exact ⟨Bx, Own.from (fbox_own _ x Bx) _ () A B row h hg hr, e⟩)
    ?assign ?body ?done ?stop
  case assign =>
    rintro lp pre x W K hG hK
    have hBs := hG.2.2
    have hA := hK _ _ ((KeepsOthers.alloc W (.cells #[.int .u64 (hiN x.1 : Int), .int .u64 (loN x.1 : Int), .int .u64 (hiN x.2 : Int), .int .u64 (loN x.2 : Int)] 130)).from _) ((Below.refl _ W).alloc (by omega) _) (gath_own _ _ _ W0.heap.size w (Nat.le_refl _) (by omega) pre W _ none hG (World.grownBy_alloc W _ none) (fun r e => by cases e)) ⟨W.heap.size, ⟨?_, RowAt.new W [.int .u64 (hiN x.1 : Int), .int .u64 (loN x.1 : Int), .int .u64 (hiN x.2 : Int), .int .u64 (loN x.2 : Int)] 130⟩, rfl⟩
    · unfold encsR
      gi_wp2
      exact hA
    · rw [hs0]; exact hBs
  case body =>
    rintro lp pre x a' W hlp ⟨rr, hrr⟩ hG ⟨Bx, hF, rfl⟩ hlt
    obtain ⟨⟨v, hv, hown, -⟩, hB, hm3⟩ := hG
    obtain ⟨q0, q1, q2, q3, qf⟩ := cells4 hF.2
    have hc0 := hv.cell
    have hf0 := hv.frozen
    have hk : pre.length ≤ 1000000 := by omega
    obtain ⟨g, cap, w3, hrun, hown3, hgrow⟩ := app_in hown x hk hm3
    have hv4 : Boxed w3 w.heap.size 118 v := (hv.alloc _).kept hgrow (row_ne hown (by omega))
    have hv5 := hv4.cell
    have hf5 := hv4.frozen
    have mixed : Try.prog.follows .mixedOrders = true := by kernel_rfl
    gi_wp2
    refine ⟨?_, ?_, ⟨⟨_, hv4.set _, ?_, trivial⟩, ?_, ?_⟩⟩
    · exact (((KeepsOthers.alloc _ _).trans (ko_row (hown.alloc _) hgrow)).trans (KeepsOthers.setCell _ _ _)).from _
    · exact (below_row (n := w.heap.size) ((Below.refl w.heap.size W).alloc (by omega) _) (by simp; omega) (by omega) (hown.alloc _) hgrow).setCell (p := ⟨w.heap.size, 0, none⟩) (Nat.le_refl _) _
    · exact own_set hown3 (b := w.heap.size) (by omega) _
    · exact (below_row (hB.alloc hB.size _) (by have := hB.size; simp; omega) (by omega) (hown.alloc _) hgrow).setCell (p := ⟨w.heap.size, 0, none⟩) (Nat.le_refl _) _
    · have h1 := hgrow.size
      rw [World.size_alloc] at h1
      simp
      omega
  case done =>
    rintro D xs W hD hS ⟨⟨v, hv, hown, -⟩, hB, hm3⟩ hK
    have hc0 := hv.cell
    have mixed : Try.prog.follows .mixedOrders = true := by kernel_rfl
    gi_wp2
    refine ⟨by simp, .inl ⟨_, _, rfl, run_takeDeferred (w := W) hK, ?_⟩⟩
    refine ⟨_, results_tmp rfl _ _ _, ?_⟩
    have hS' : xs = l := hS
    subst hS'
    refine ⟨v, rfl, own_down (ownsRow_putObj hown _ hK rfl) (by omega), ?_⟩
    exact hB.trans (belowK_b (w := w) (Nat.le_refl _) W D _ _ (by omega) hK rfl rfl)
  case stop =>
    rintro D c pre W hD _ h
    exact h.elim
theorem collect_any (l : List Sp) (v : Value) (Bn : Nat) (w : World) (hv : HasSps w v l) (hb : w.cell? ⟨Bn, 0, none⟩ = some v) (hBl : Bn < w.heap.size) (hl : l.length ≤ 1000000) :
    Calls Try.prog 110 #[.func (.func 112) #[] #[.pointer (some ⟨Bn, 0, none⟩)]] w fun e w' => ∃ u, e = .returned u ∧ Own1 w w' 130 u l := by
  have ca := appendSeq_any l v Bn w hv hb hBl hl
  clear hv hb hBl hl
  go_enter Try.func110, Try.ntmps110
  go_wp2_with fail
  go_at_call 114; refine ca.mono ?_; rintro e w2 ⟨u, rfl, h⟩
  have H : Hid _ := h
  clear h
  go_wp2_with fail
  go_ret
  exact ⟨u, rfl, H.out⟩
end Go.Proofs.Ytmkbijnndbgjgaa.Sp
