/- What frame.All and frame.Take return, for every text. -/
import Derived.Test.YtoigogjklhahkaaWalkEach
set_option linter.unusedVariables false
namespace Go.Proofs.Ytoigogjklhahkaa.Frame
open Go.RowKit Go.Shelf
attribute [local go_sem] Oper.semAt_some
attribute [-go_sem] Builtin.append_

theorem info_str : (Try.prog.info? 9).map (fun i => (i.zero, i.size, i.bytes)) = some (some (.string ⟨#[]⟩), 1, 16) := by kernel_rfl
def strV (p : List UInt8) : Value := .string ⟨p.toArray⟩
def restOf (l : List UInt8) (pre : List Told) : List UInt8 := (pre.getLast?.map (fun x => x.1.2.1)).getD l
theorem restOf_snoc (l : List UInt8) (pre : List Told) (x : Told) : restOf l (pre ++ [x]) = x.1.2.1 := by simp [restOf]
theorem TOk.last {ps : List T3} : ∀ {l cur : List UInt8}, TOk l ps cur → (ps.getLast?.map (fun x => x.2.1)).getD l = cur := by
  induction ps with
  | nil => intro l cur h; have e : cur = l := h; subst e; rfl
  | cons x ps ih =>
    intro l cur h
    have h2 := ih h.2.2
    rw [List.getLast?_cons]
    cases hl : ps.getLast? with
    | none => rw [hl] at h2; exact h2
    | some y => rw [hl] at h2; exact h2
theorem restOf_ok {l : List UInt8} {ps : List T3} {cur : List UInt8} (h : TOk l ps cur) : ∀ pre : List Told, pre.map (·.1) = ps → restOf l pre = cur := by
  intro pre hp
  have h2 := h.last
  rw [← hp, List.getLast?_map, Option.map_map] at h2
  exact h2
theorem own_keep {w w' : World} {B e size n : Nat} {v : Value} {xs : List Value} (h : w.ownsRow B e size v n xs) (hb : Below w.heap.size w w') : w'.ownsRow B e size v n xs := by
  refine h.kept (grown_of hb) ?_
  rcases h.2 with ⟨rfl, _⟩ | ⟨g, cap, cur, rfl, _⟩
  · exact .inl rfl
  · exact .inr (fun e => by simp [Value.ownBlock] at e)
theorem row_ne {W : World} {m e size k : Nat} {v : Value} {xs : List Value} (h : W.ownsRow m e size v k xs) {b : Nat} (hb : b < m) : some b ≠ v.ownBlock := by
  rcases h.2 with ⟨rfl, _⟩ | ⟨g, cap, cur, rfl, hg, _⟩
  · simp [Value.ownBlock]
  · intro e
    obtain rfl : b = g := by simpa [Value.ownBlock] using e
    omega
theorem own_down {W : World} {m n e size k : Nat} {v : Value} {xs : List Value} (h : W.ownsRow m e size v k xs) (hb : n ≤ m) : W.ownsRow n e size v k xs := by
  refine ⟨h.1, ?_⟩
  rcases h.2 with h | ⟨g, cap, cur, e1, hg, rest⟩
  · exact .inl h
  · exact .inr ⟨g, cap, cur, e1, Nat.le_trans hb hg, rest⟩
theorem append_str {W : World} {n₀ k : Nat} {v : Value} {xs : List Value} (p : List UInt8) (hown : W.ownsRow n₀ 9 1 v k xs) (hk : k ≤ 1000000) (hn : n₀ ≤ W.heap.size) :
    ∃ g cap w3, (∀ ty, (Builtin.append_ #[22, 22] ty #[v, .slice (some ⟨W.heap.size, 0, none⟩) 1 1]).run Try.prog (W.alloc (.cells #[.string ⟨p.toArray⟩] 9)) = .ok (.slice (some ⟨g, 0, none⟩) (k + 1) cap) w3) ∧
      w3.ownsRow n₀ 9 1 (.slice (some ⟨g, 0, none⟩) (k + 1) cap) (k + 1) (xs ++ [strV p]) ∧ (W.alloc (.cells #[.string ⟨p.toArray⟩] 9)).grownBy w3 v.ownBlock := by
  obtain ⟨i0, hi, hz0, hz1, hz2⟩ := info_parts info_str
  have h := fun ty => run_append_own (P := Try.prog) (W.alloc (.cells #[.string ⟨p.toArray⟩] 9)) n₀ 22 ty 9 i0 (.string ⟨#[]⟩) 1 16 Try.underlying22 hi hz0 hz1 hz2 rfl (by decide) v k xs (hown.alloc _) ⟨W.heap.size, 0, none⟩ 1 1 [.string ⟨p.toArray⟩] rfl
    (by intro j u hj; match j, hj with | 0, hj => simp at hj; subst hj; simp [Addr.add]) (by intro u hu; simp at hu; subst hu; rfl) (by unfold maxLen; omega) (by omega) (by simp; omega)
  obtain ⟨v', w3, hrun, h1, h2, h3⟩ := h 0
  obtain ⟨g, cap, rfl⟩ := ownsRow_succ h1
  exact ⟨g, cap, w3, fun ty => hrun, h1, h2⟩
theorem each_any (s : ByteArray) (w : World) :
    Calls Try.prog 29 #[.string s] w fun e w' => e = .returned (.func (.func 45) #[] #[.pointer (some ⟨w.heap.size, 0, none⟩)]) ∧ w' = w.alloc (.cells #[.string s] 9) := by
  go_enter Try.func29, Try.ntmps29
  go_wp2
  go_ret
  exact ⟨rfl, rfl⟩

theorem ko_row {W W' : World} {m e size k : Nat} {v : Value} {xs : List Value} (hr : W.ownsRow m e size v k xs) (hg : W.grownBy W' v.ownBlock) : KeepsOthers W W' :=
  KeepsOthers.of_grownBy hg fun j o ej hj => by
    rcases hr.2 with ⟨rfl, _⟩ | ⟨g, cap, cur, rfl, _, hgb, _⟩
    · simp [Value.ownBlock] at ej
    · obtain rfl : g = j := by simpa [Value.ownBlock] using ej
      rw [hgb] at hj; cases hj; rfl
theorem own_set {W : World} {m e size k : Nat} {v : Value} {xs : List Value} (hr : W.ownsRow m e size v k xs) {b : Nat} (hb : b < m) (u : Value) : (W.setCell ⟨b, 0, none⟩ u).ownsRow m e size v k xs :=
  hr.kept (grownBy_setCell' W b u) (.inr (row_ne hr hb).symm)
theorem boxed_set {W : World} {b c : Nat} {t : TypeId} {v : Value} (h : Boxed W c t v) (hne : c ≠ b) (u : Value) : Boxed (W.setCell ⟨b, 0, none⟩ u) c t v :=
  h.kept (grownBy_setCell' W b u) (fun e => hne (by cases e; rfl))
theorem below_row {n : Nat} {w W W' : World} {m e size k : Nat} {v : Value} {xs : List Value} (h : Below n w W) (hn : n ≤ W.heap.size) (hnm : n ≤ m) (hr : W.ownsRow m e size v k xs) (hg : W.grownBy W' v.ownBlock) : Below n w W' :=
  h.grown hg hn (fun j ej => by
    rcases hr.2 with ⟨rfl, _⟩ | ⟨g, cap, cur, rfl, hb, _⟩
    · simp [Value.ownBlock] at ej
    · obtain rfl : g = j := by simpa [Value.ownBlock] using ej
      omega)

/-- between two rounds of a loop that gathers: the boxes, and what they hold -/
def Gath (l : List UInt8) (n₀ m b0 b1 : Nat) (w : World) (pre : List Told) (W : World) : Prop :=
  (∃ v, Boxed W b0 22 v ∧ W.ownsRow m 9 1 v pre.length (pre.map (fun x => strV x.1.1)) ∧ (∀ x ∈ pre, x.1.2.2 = 0)) ∧ Boxed W b1 9 (strV (restOf l pre)) ∧ Below n₀ w W ∧ m ≤ W.heap.size
theorem gath_own (l : List UInt8) (n₀ m b0 b1 B : Nat) (w : World) (hn : n₀ ≤ w.heap.size) (hB : n₀ ≤ B) : OwnFrom B (Gath l n₀ m b0 b1 w) :=
  OwnFrom.and (Own.from (holdsRow_own m b0 22 9 1 (fun pre : List Told => pre.length) (fun pre => pre.map (fun x => strV x.1.1)) (fun pre _ => ∀ x ∈ pre, x.1.2.2 = 0)) B)
    (OwnFrom.and (Own.from (boxed_own b1 9 (fun pre => strV (restOf l pre))) B) (OwnFrom.and (ownFrom_below hn hB) (fun _ _ _ _ hs hg _ => Nat.le_trans hs hg.size)))
/-- the loop's variable -/
def FBox (B : Nat) (x : Told) (W : World) (Bx : Nat) : Prop := B ≤ Bx ∧ W.heap[Bx]? = some (.cells #[strV x.1.1, strV x.1.2.1] 66 (0, 0))
theorem fbox_own (B : Nat) (x : Told) (Bx : Nat) : Own (fun (_ : Unit) W => FBox B x W Bx) := by
  rintro s X Y row ⟨h1, h2⟩ hg hrow
  refine ⟨h1, (hg.block Bx (Array.getElem?_eq_some_iff.1 h2).1 (fun e => ?_)).trans h2⟩
  obtain ⟨o, ho, hc⟩ := hrow Bx e.symm
  rw [h2] at ho; cases ho; cases hc
theorem FBox.cells {B : Nat} {x : Told} {W : World} {Bx : Nat} (h : FBox B x W Bx) : W.cell? ⟨Bx, 0, none⟩ = some (strV x.1.1) ∧ W.cell? ⟨Bx, 1, none⟩ = some (strV x.1.2.1) := by
  have := h.2
  exact ⟨by simp [World.cell?, this], by simp [World.cell?, this]⟩

set_option maxHeartbeats 2000000 in
set_option maxRecDepth 20000 in
theorem all_any (l : List UInt8) (w : World) (hl : l.length ≤ 281474976710656) (hm : (allL l).1.length ≤ 1000000) :
    Calls Try.prog 11 #[.string ⟨l.toArray⟩] w fun e w' => ∃ v, e = .returned (.tuple #[v, .int .i64 ((l.length : Int) - (allL l).2.length)]) ∧
      w'.ownsRow w.heap.size 9 1 v (allL l).1.length ((allL l).1.map strV) ∧ Below w.heap.size w w' := by
  obtain ⟨i0, hi, hz0, hz1, hz2⟩ := info_parts info_str
  refine (callsIn_wide (n := 5)).1 ?_
  refine callsIn_of_wp_marks Try.func11 rfl trivial ?_ rfl
  simp only [Try.ntmps11, List.size_toArray, List.length_cons, List.length_nil, Nat.reduceAdd, Nat.reduceSub, Array.replicate_succ, Array.replicate_zero, List.push_toArray, List.append_toArray, List.nil_append, List.cons_append]
  gi_wp2_with fail
  refine ⟨trivial, ?_⟩
  gi_at_call 29; refine (callsIn_wide.2 (each_any _ _)).mono ?_; rintro e w1 ⟨rfl, rfl⟩
  gi_wp2_with fail
  obtain ⟨W0, hW0⟩ : ∃ W0, ((w.alloc (.cells #[.slice none 0 0] 22)).alloc (.cells #[.string ⟨l.toArray⟩] 9)).alloc (.cells #[.string ⟨l.toArray⟩] 9) = W0 := ⟨_, rfl⟩
  have hs0 : W0.heap.size = w.heap.size + 1 + 1 + 1 := by rw [← hW0]; simp
  have g0 : Gath l w.heap.size (w.heap.size + 1 + 1 + 1) w.heap.size (w.heap.size + 1) w [] W0 := by
    rw [← hW0]
    refine ⟨⟨_, ((Boxed.new w _ _).alloc _).alloc _, World.ownsRow_nil _ _ _ _, by simp⟩, ?_, (((Below.refl _ w).alloc (Nat.le_refl _) _).alloc (by simp) _).alloc (by simp; omega) _, by simp⟩
    have := (Boxed.new (w.alloc (.cells #[.slice none 0 0] 22)) 9 (.string ⟨l.toArray⟩)).alloc (.cells #[.string ⟨l.toArray⟩] 9)
    rw [World.size_alloc] at this
    exact this
  have hcs : W0.cell? ⟨w.heap.size + 1 + 1, 0, none⟩ = some (.string ⟨l.toArray⟩) := by
    have := (Boxed.new ((w.alloc (.cells #[.slice none 0 0] 22)).alloc (.cells #[.string ⟨l.toArray⟩] 9)) 9 (.string ⟨l.toArray⟩)).cell
    rw [World.size_alloc, World.size_alloc, hW0] at this
    exact this
  rw [hW0]
  clear hW0
  refine wpIn_rangeFunc_ownH (α := Told) rfl (by omega) (gf := 45) (lb := #[.pointer (some ⟨w.heap.size + 1 + 1, 0, none⟩)]) rfl trivial (enters_of Try.func45 (by kernel_rfl) rfl)
    (each1_stops l hl (5 - 1) (w.heap.size + 1 + 1) W0 (by omega) hcs) (fun h k => h.trans k) (fun W l o o' _ h hc _ => Kc.put W l o o' h hc) (Below.refl _ _) (fun _ => rfl)
    (Gath l w.heap.size (w.heap.size + 1 + 1 + 1) w.heap.size (w.heap.size + 1) w)
    (fun c pre W => ∃ pre' x, pre = pre' ++ [x] ∧ x.1.2.2 ≠ 0 ∧ c = .exit 0 ∧ Gath l w.heap.size (w.heap.size + 1 + 1 + 1) w.heap.size (w.heap.size + 1) w pre' W)
    (gath_own l _ _ _ _ _ w (Nat.le_refl _) (by omega))
    (fun c s A B row hs hg hr => by
      obtain ⟨pre', x, e1, e2, e3, h⟩ := hs
      exact ⟨pre', x, e1, e2, e3, gath_own l _ _ _ _ _ w (Nat.le_refl _) (by omega) pre' A B row h hg hr⟩)
    g0
    (fun x a' W => ∃ Bx, FBox W0.heap.size x W Bx ∧ a' = { tmps := #[.string ⟨l.toArray⟩, undef, .slice none 0 0, .int .i64 0, .pointer (some ⟨w.heap.size, 0, none⟩), .pointer (some ⟨w.heap.size + 1, 0, none⟩), .pointer (some ⟨Bx, 0, none⟩), .int .i64 x.1.2.2, .string ⟨l.toArray⟩, .string ⟨l.toArray⟩, .func (.func 45) #[] #[.pointer (some ⟨w.heap.size + 1 + 1, 0, none⟩)], .agg #[strV x.1.1, strV x.1.2.1], .int .i64 x.1.2.2, undef, undef, undef, undef, undef, undef, undef, undef, undef, undef, undef, undef, undef, undef, undef, undef], defers := [] })
    (fun x a' s A B row hs hg hr => by
      obtain ⟨Bx, h, e⟩ := hs
      exact ⟨Bx, Own.from (fbox_own _ x Bx) _ () A B row h hg hr, e⟩)
    ?assign ?body ?done ?stop
  case assign =>
    rintro lp pre x W K hG hK
    have hBs := hG.2.2.2
    have hA := hK _ _ ((KeepsOthers.alloc W (.cells #[strV x.1.1, strV x.1.2.1] 66)).from _) (Kc.below ((Below.refl _ W).alloc (Nat.le_refl _) _)) (gath_own l _ _ _ _ W0.heap.size w (Nat.le_refl _) (by omega) pre W _ none hG (World.grownBy_alloc W _ none) (fun r e => by cases e)) ⟨W.heap.size, ⟨?_, World.alloc_heap_new W _⟩, rfl⟩
    · unfold strV at hA
      unfold encs
      gi_wp2
      exact hA
    · rw [hs0]; exact hBs
  case body =>
    rintro lp pre x a' W hlp ⟨rr, hrr⟩ hG ⟨Bx, hF, rfl⟩ hlt
    have HG : Hid (Gath l w.heap.size (w.heap.size + 1 + 1 + 1) w.heap.size (w.heap.size + 1) w pre W) := hG
    obtain ⟨⟨v, hv, hown, hgood⟩, hrest, hB, hm3⟩ := hG
    have hcx := hF.cells
    unfold strV at hrest hcx ⊢
    obtain ⟨hcx0, hcx1⟩ := hcx
    have hc0 := hv.cell
    have hf0 := hv.frozen
    have hc1 := hrest.cell
    have hf1 := hrest.frozen
    obtain ⟨p, r, y, hx⟩ : ∃ p r y, x.1 = (p, r, y) := ⟨_, _, _, rfl⟩
    have hxl := x.2
    rw [hx] at hcx0 hcx1 hxl ⊢
    simp only at hcx0 hcx1 hxl ⊢
    have HX : Hid (x.1 = (p, r, y)) := hx
    clear hx
    have mixed : Try.prog.follows .mixedOrders = true := by kernel_rfl
    by_cases hy : y = 0
    · subst hy
      have cp := cloneL p hxl.1
      gi_wp2_with fail
      have hk : pre.length ≤ 1000000 := by omega
      gi_region_with_o (
        refine ⟨trivial, ?_⟩
        gi_at_call 30
        refine (CallsIn.inRound lp (callsIn_wide.2 (cp _))).mono ?_
        rintro e w2 ⟨rfl, hb2⟩
        have hbW : Below W.heap.size W w2 := below2 (by (repeat' (first | exact Below.refl _ _ | refine Below.drew ?_))) hb2
        have qc0 := (bcell hbW).1 w.heap.size 0 hv.lt
        have qc1 := (bcell hbW).1 (w.heap.size + 1) 0 hrest.lt
        have hv2 : Boxed w2 w.heap.size 22 v := (hbW.block _ hv.lt).trans hv
        have hr2 : Boxed w2 (w.heap.size + 1) 9 (.string ⟨(restOf l pre).toArray⟩) := (hbW.block _ hrest.lt).trans hrest
        have hown2 := own_keep hown hbW
        have hF2 : FBox W0.heap.size x w2 Bx := ⟨hF.1, (hbW.block _ (Array.getElem?_eq_some_iff.1 hF.2).1).trans hF.2⟩
        obtain ⟨g, cap, w3, hrun, hown3, hgrow⟩ := append_str p hown2 hk (Nat.le_trans hm3 hbW.size)
        have hv3 := hv2.cell
        have hf3 := hv2.frozen
        have hv4 : Boxed w3 w.heap.size 22 v := (hv2.alloc _).kept hgrow (row_ne hown2 (by omega))
        have hv5 := hv4.cell
        have hf5 := hv4.frozen
        have hv6 := (hv2.alloc (.cells #[.string ⟨p.toArray⟩] 9)).cell)
      all_goals have hk1 : Kc W0.heap.size w2 w3 := (Kc.below ((Below.refl _ w2).alloc (Nat.le_refl _) _)).trans (Kc.row (hown2.alloc _) (by decide) hgrow)
      all_goals have hF3 : FBox W0.heap.size x w3 Bx := ⟨hF.1, hk1.2 _ _ _ hF.1 hF2.2⟩
      all_goals have hF4 : FBox W0.heap.size x (w3.setCell ⟨w.heap.size, 0, none⟩ (.slice (some ⟨g, 0, none⟩) (pre.length + 1) cap)) Bx := ⟨hF.1, (Kc.set w3 w.heap.size _ (by omega)).2 _ _ _ hF.1 hF3.2⟩
      all_goals have hr3 : Boxed w3 (w.heap.size + 1) 9 (.string ⟨(restOf l pre).toArray⟩) := (hr2.alloc _).kept hgrow (row_ne hown2 (by omega))
      all_goals have hr4 := boxed_set hr3 (b := w.heap.size) (by omega) (.slice (some ⟨g, 0, none⟩) (pre.length + 1) cap)
      all_goals have hc4 := hr4.cell
      all_goals have hf4 := hr4.frozen
      all_goals have hx4 := hF4.cells.2
      all_goals rw [HX.out] at hx4
      all_goals unfold strV at hx4
      all_goals simp only at hx4
      all_goals gi_wp2
      all_goals refine ⟨?_, ?_, ?_⟩
      all_goals first
        | exact ((((KeepsOthers.of_grownBy (grown_of hbW) (fun _ _ e => by cases e)).trans (KeepsOthers.alloc _ _)).trans (ko_row (hown2.alloc _) hgrow)).trans ((KeepsOthers.setCell _ _ _).trans (KeepsOthers.setCell _ _ _))).from _
        | exact ((Kc.below hbW).trans hk1).trans ((Kc.set _ _ _ (by omega)).trans (Kc.set _ _ _ (by omega)))
        | skip
      all_goals refine ⟨⟨_, boxed_set (hv4.set _) (by omega) _, ?_, ?_⟩, ?_, ?_, ?_⟩
      all_goals first
        | (intro z hz; rcases List.mem_append.1 hz with hz | hz
           · exact hgood z hz
           · simp at hz; rw [hz, HX.out])
        | (rw [List.length_append, List.map_append]; have := own_set (own_set hown3 (b := w.heap.size) (by omega) (.slice (some ⟨g, 0, none⟩) (pre.length + 1) cap)) (b := w.heap.size + 1) (by omega) (.string ⟨r.toArray⟩); simp only [List.map_cons, List.map_nil, HX.out]; exact this)
        | (rw [restOf_snoc, HX.out]; exact hr4.set _)
        | exact ((below_row ((hB.trans (hbW.mono hB.size)).alloc (Nat.le_trans hB.size hbW.size) _) (by have := hbW.size; have := hB.size; simp; omega) (by omega) (hown2.alloc _) hgrow).setCell (p := ⟨w.heap.size, 0, none⟩) (Nat.le_refl _) _).setCell (p := ⟨w.heap.size + 1, 0, none⟩) (by simp) _
        | (have h1 := hk1.1; have h2 := hbW.size; simp; omega)
        | skip
    · have hne : (y != 0) = true := by simpa using hy
      gi_wp2
      exact ⟨KeepsFrom.refl _ _, pre, x, rfl, by rw [HX.out]; exact hy, rfl, HG.out⟩
  case done =>
    rintro D xs W hD ⟨ps, cur, hT, hbad, hxs⟩ ⟨⟨v, hv, hown, hgood⟩, _⟩ hK
    exfalso
    have : nextL cur ∈ xs.map (·.1) := by rw [hxs]; simp
    obtain ⟨z, hz, e⟩ := List.mem_map.1 this
    exact hbad (by rw [← e]; exact hgood z hz)
  case stop =>
    rintro D c pre W hD ⟨ps, cur, hT, hxs⟩ ⟨pre', x, rfl, hx, rfl, ⟨⟨v, hv, hown, hgood⟩, hrest, hB, hm3⟩⟩ hK
    rw [List.map_append, List.map_singleton] at hxs
    obtain ⟨hp1, hp2⟩ := List.append_inj' hxs rfl
    have hr0 := restOf_ok hT pre' hp1
    have hp3 : x.1 = nextL cur := by simpa using hp2
    have hall : allL l = (ps.map (·.1), cur) := by rw [hT.all, allL_bad (l := cur) (p := (nextL cur).1) (r := (nextL cur).2.1) (y := (nextL cur).2.2) rfl (by rw [← hp3]; exact hx)]; simp
    have hcl := hT.le
    have hc0 := hv.cell
    have hc1 := hrest.cell
    rw [hr0] at hc1
    unfold strV at hc1
    have mixed : Try.prog.follows .mixedOrders = true := by kernel_rfl
    have HA : Hid (allL l = (pre'.map (fun x => x.1.1), cur)) := by show _ = _; rw [hall, ← hp1, List.map_map]; rfl
    clear hall hr0 hxs hp1 hp2 hp3 hT
    obtain ⟨S, hS⟩ : ∃ S : ByteArray, S = ⟨l.toArray⟩ := ⟨_, rfl⟩
    obtain ⟨C, hC⟩ : ∃ C : ByteArray, C = ⟨cur.toArray⟩ := ⟨_, rfl⟩
    have HS : Hid (S.size = l.length ∧ C.size = cur.length) := by rw [hS, hC]; exact ⟨size_list _, size_list _⟩
    have hCS : C.size ≤ S.size := by rw [HS.out.1, HS.out.2]; exact hcl
    have hSs : S.size ≤ 281474976710656 := by rw [HS.out.1]; exact hl
    rw [← hS]
    rw [← hC] at hc1
    clear hS hC
    have e1 : IntKind.i64.wrap ((S.size : Int) - (C.size : Int)) = (S.size : Int) - (C.size : Int) := by rw [IntKind.wrap_i64]; omega
    gi_wp2_with fail
    gi_region_o
    all_goals gi_wp2
    all_goals refine ⟨by simp, .inl ⟨_, _, rfl, run_takeDeferred (w := W.drew) hK, ?_⟩⟩
    all_goals refine ⟨_, results_tmp2 rfl _ _ _, ?_⟩
    all_goals refine ⟨v, ?_, ?_, ?_⟩
    all_goals first
      | (rw [HA.out, ← HS.out.1, ← HS.out.2]; rfl)
      | (rw [HA.out]; simp only [List.length_map, List.map_map]; exact own_down (ownsRow_putObj hown.drew _ hK rfl) (by omega))
      | exact (hB.drew).trans (belowK_b (w := w) (Nat.le_refl _) W.drew D _ _ (by omega) hK rfl rfl)
      | skip
end Go.Proofs.Ytoigogjklhahkaa.Frame
