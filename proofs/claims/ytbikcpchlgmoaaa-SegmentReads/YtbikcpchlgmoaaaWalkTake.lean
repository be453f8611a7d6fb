/- What frame.Take returns, for every text and every number. -/
import Derived.Test.YtbikcpchlgmoaaaWalkAll
set_option linter.unusedVariables false
namespace Go.Proofs.Ytbikcpchlgmoaaa.Frame
open Go.RowKit Go.Shelf
attribute [local go_sem] Oper.semAt_some
attribute [-go_sem] Builtin.append_

theorem TOk.take {ps : List T3} : ∀ {s cur : List UInt8}, TOk s ps cur → ∀ j, takeL (ps.length + j) s = (if (takeL j cur).2.2 = 0 then (ps.map (·.1) ++ (takeL j cur).1, (takeL j cur).2.1, 0) else ([], [], (takeL j cur).2.2)) := by
  induction ps with
  | nil =>
    intro s cur hh j
    have e : cur = s := hh
    subst e
    simp only [List.length_nil, Nat.zero_add, List.map_nil, List.nil_append]
    split
    · rename_i h; rw [← h]
    · rename_i h
      cases j with
      | zero => exact absurd rfl h
      | succ j =>
        rw [takeL] at h ⊢
        split
        · rename_i h1
          rw [if_pos h1] at h
          split
          · rename_i h2; rw [if_pos h2] at h; exact absurd rfl h
          · rfl
        · rfl
  | cons x ps ih =>
    intro s cur hh j
    rw [List.length_cons, Nat.add_right_comm, takeL, hh.1]
    simp only [if_true]
    rw [ih hh.2.2 j]
    by_cases h0 : (takeL j cur).2.2 = 0
    · simp only [if_pos h0, if_true, List.map_cons, List.cons_append]
    · simp only [if_neg h0]
theorem TOk.taken {s : List UInt8} {ps : List T3} {cur : List UInt8} (h : TOk s ps cur) : takeL ps.length s = (ps.map (·.1), cur, 0) := by
  have := h.take 0
  simpa [takeL] using this
theorem TOk.fails {s : List UInt8} {ps : List T3} {cur : List UInt8} (h : TOk s ps cur) (hb : (nextL cur).2.2 ≠ 0) {n : Nat} (hn : ps.length < n) : takeL n s = ([], [], (nextL cur).2.2) := by
  obtain ⟨j, rfl⟩ : ∃ j, n = ps.length + (j + 1) := ⟨n - ps.length - 1, by omega⟩
  have e : takeL (j + 1) cur = ([], [], (nextL cur).2.2) := by rw [takeL, if_neg hb]
  rw [h.take (j + 1), e]
  exact if_neg hb
theorem own_form {W : World} {m e size k : Nat} {v : Value} {xs : List Value} (h : W.ownsRow m e size v k xs) : ∃ o cap, v = .slice o k cap := by
  rcases h.2 with ⟨rfl, rfl⟩ | ⟨g, cap, cur, rfl, _⟩
  · exact ⟨none, 0, rfl⟩
  · exact ⟨_, cap, rfl⟩

theorem boxed_at (W : World) (t : TypeId) (v : Value) {k : Nat} (h : W.heap.size = k) : Boxed (W.alloc (.cells #[v] t)) k t v := by subst h; exact Boxed.new W t v
def TakeIs (w : World) (r : List (List UInt8) × List UInt8 × Int) (e : Ending) (w' : World) : Prop :=
  ∃ v, e = .returned (.tuple #[v, .string ⟨r.2.1.toArray⟩, .int .i64 r.2.2]) ∧ w'.ownsRow w.heap.size 9 1 v r.1.length (r.1.map strV) ∧ Below w.heap.size w w'
theorem results_cells3 {fn : Func} {a b c : Tmp} {t u s : TypeId} (h : fn.results = #[.cell a t, .cell b u, .cell c s]) {tmps : Array Value} {P : Program} {w : World} {A B C : Addr} {x y z : Value}
    (ha : tmps.getD a undef = .pointer (some A)) (hb : tmps.getD b undef = .pointer (some B)) (hc : tmps.getD c undef = .pointer (some C))
    (hx : (loadVar t A).run P w = .ok x w) (hy : (loadVar u B).run P w = .ok y w) (hz : (loadVar s C).run P w = .ok z w) :
    (results fn tmps).run P w = .ok (.tuple #[x, y, z]) w := by
  simp only [results, h]
  simp only [Array.getD_eq_getD_getElem?] at ha hb hc
  simp [Sem.run_bind, Result.andThen, ha, hb, hc, asAddr, hx, hy, hz]
theorem take_neg (l : List UInt8) (many : Int) (w : World) (h : many < 0) (hm : -9223372036854775808 ≤ many) :
    Calls Try.prog 43 #[.string ⟨l.toArray⟩, .int .i64 many] w (TakeIs w ([], [], 1)) := by
  go_enter Try.func43, Try.ntmps43
  go_wp2
  (try simp only [Exit.inBlock, Exit.then])
  refine bodyPost_ret (v := .tuple #[.slice none 0 0, .string ⟨#[]⟩, .int .i64 1]) ?_ rfl ⟨_, rfl, World.ownsRow_nil _ _ _ _, ?_⟩
  · refine results_cells3 rfl rfl rfl rfl ?_ ?_ ?_
    all_goals go_simp
  · exact (((((Below.refl _ w).alloc (Nat.le_refl _) _).alloc (by simp) _).alloc (by simp; omega) _).alloc (by simp; omega) _)

/-- the other boxes of Take -/
def Rest4 (b : Nat) (many : Int) (l : List UInt8) (w : World) (pre : List Told) (W : World) : Prop :=
  Gath l b (b + 1 + 1 + 1 + 1 + 1 + 1 + 1) (b + 1 + 1 + 1 + 1) (b + 1 + 1 + 1 + 1 + 1) w pre W ∧ Boxed W b 3 (.int .i64 many) ∧ Boxed W (b + 1) 22 (.slice none 0 0) ∧ Boxed W (b + 1 + 1) 9 (.string ⟨#[]⟩) ∧ Boxed W (b + 1 + 1 + 1) 28 (.int .i64 0) ∧ (pre.length : Int) ≤ many
theorem rest4_own (b : Nat) (many : Int) (l : List UInt8) (w : World) (B : Nat) (hn : b ≤ w.heap.size) (hB : b ≤ B) : OwnFrom B (Rest4 b many l w) :=
  OwnFrom.and (gath_own l _ _ _ _ B w hn hB) (OwnFrom.and (Own.from (boxed_own b 3 (fun _ => .int .i64 many)) B) (OwnFrom.and (Own.from (boxed_own _ 22 (fun _ => .slice none 0 0)) B) (OwnFrom.and (Own.from (boxed_own _ 9 (fun _ => .string ⟨#[]⟩)) B) (OwnFrom.and (Own.from (boxed_own _ 28 (fun _ => .int .i64 0)) B) (ownFrom_pure B (fun pre : List Told => (pre.length : Int) ≤ many))))))
/-- how Take leaves its loop -/
def Left4 (b : Nat) (many : Int) (l : List UInt8) (w : World) (c : Code) (pre : List Told) (W : World) : Prop :=
  ∃ pre' x, pre = pre' ++ [x] ∧ ((c = .exit 0 ∧ (pre'.length : Int) = many ∧ Rest4 b many l w pre' W) ∨
    (c = .ret ∧ (pre'.length : Int) < many ∧ x.1.2.2 ≠ 0 ∧ (∀ z ∈ pre', z.1.2.2 = 0) ∧ Boxed W (b + 1) 22 (.slice none 0 0) ∧ Boxed W (b + 1 + 1) 9 (.string ⟨#[]⟩) ∧ Boxed W (b + 1 + 1 + 1) 28 (.int .i64 x.1.2.2) ∧ Below b w W))
theorem left4_own (b : Nat) (many : Int) (l : List UInt8) (w : World) (B : Nat) (hn : b ≤ w.heap.size) (hB : b ≤ B) (c : Code) : OwnFrom B (Left4 b many l w c) := by
  rintro s A A' row ⟨pre', x, e, h⟩ hg hr
  refine ⟨pre', x, e, ?_⟩
  rcases h with ⟨h1, h2, h3⟩ | ⟨h1, h2, h3, h4, h5, h6, h7, h8⟩
  · exact .inl ⟨h1, h2, rest4_own b many l w B hn hB pre' A A' row h3 hg hr⟩
  · refine .inr ⟨h1, h2, h3, h4, ?_, ?_, ?_, ?_⟩
    · exact Own.from (boxed_own (β := Unit) _ _ (fun _ => .slice none 0 0)) B () A A' row h5 hg hr
    · exact Own.from (boxed_own (β := Unit) _ _ (fun _ => .string ⟨#[]⟩)) B () A A' row h6 hg hr
    · exact Own.from (boxed_own (β := Unit) _ _ (fun _ => .int .i64 x.1.2.2)) B () A A' row h7 hg hr
    · exact ownFrom_below (β := Unit) hn hB () A A' row h8 hg hr

set_option maxHeartbeats 2000000 in
set_option maxRecDepth 20000 in
theorem take_any (l : List UInt8) (n : Nat) (w : World) (hl : l.length ≤ 281474976710656) (hn : n ≤ 9223372036854775807) (hm : n ≤ 1000000 ∨ (allL l).1.length ≤ 1000000) :
    Calls Try.prog 43 #[.string ⟨l.toArray⟩, .int .i64 n] w (TakeIs w (takeL n l)) := by
  refine (callsIn_wide (n := 5)).1 ?_
  refine callsIn_of_wp_marks Try.func43 rfl trivial ?_ rfl
  simp only [Try.ntmps43, List.size_toArray, List.length_cons, List.length_nil, Nat.reduceAdd, Nat.reduceSub, Array.replicate_succ, Array.replicate_zero, List.push_toArray, List.append_toArray, List.nil_append, List.cons_append]
  have hn0 : ¬ ((n : Int) < 0) := by omega
  gi_wp2_with fail
  refine ⟨trivial, ?_⟩
  gi_at_call 73; refine (callsIn_wide.2 (each_any _ _)).mono ?_; rintro e w1 ⟨rfl, rfl⟩
  gi_wp2_with fail
  obtain ⟨W0, hW0⟩ : ∃ W0, ((((((w.alloc (.cells #[.int .i64 n] 3)).alloc (.cells #[.slice none 0 0] 22)).alloc (.cells #[.string ⟨#[]⟩] 9)).alloc (.cells #[.int .i64 0] 28)).alloc (.cells #[.slice none 0 0] 22)).alloc (.cells #[.string ⟨l.toArray⟩] 9)).alloc (.cells #[.string ⟨l.toArray⟩] 9) = W0 := ⟨_, rfl⟩
  have hs0 : W0.heap.size = w.heap.size + 1 + 1 + 1 + 1 + 1 + 1 + 1 := by rw [← hW0]; simp
  have g0 : Rest4 w.heap.size n l w [] W0 := by
    rw [← hW0]
    refine ⟨⟨⟨_, (((boxed_at _ _ _ (by simp)).alloc _).alloc _), World.ownsRow_nil _ _ _ _, by simp⟩, ((boxed_at _ _ _ (by simp)).alloc _), ?_, by simp⟩, (((((((boxed_at _ _ _ (by simp)).alloc _).alloc _).alloc _).alloc _).alloc _).alloc _), ((((((boxed_at _ _ _ (by simp)).alloc _).alloc _).alloc _).alloc _).alloc _), (((((boxed_at _ _ _ (by simp)).alloc _).alloc _).alloc _).alloc _), ((((boxed_at _ _ _ (by simp)).alloc _).alloc _).alloc _), by simp⟩
    exact (((((((Below.refl _ w).alloc (Nat.le_refl _) _).alloc (by simp) _).alloc (by simp; omega) _).alloc (by simp; omega) _).alloc (by simp; omega) _).alloc (by simp; omega) _).alloc (by simp; omega) _
  have hcs : W0.cell? ⟨w.heap.size + 1 + 1 + 1 + 1 + 1 + 1, 0, none⟩ = some (.string ⟨l.toArray⟩) := by
    rw [← hW0]; exact (boxed_at _ _ _ (by simp)).cell
  rw [hW0]
  clear hW0
  refine wpIn_rangeFunc_ownH (α := Told) rfl (by omega) (gf := 94) (lb := #[.pointer (some ⟨w.heap.size + 1 + 1 + 1 + 1 + 1 + 1, 0, none⟩)]) rfl trivial (enters_of Try.func94 (by kernel_rfl) rfl)
    (each1_stops l hl (5 - 1) (w.heap.size + 1 + 1 + 1 + 1 + 1 + 1) W0 (by omega) hcs) (fun h k => h.trans k) (fun W l o o' _ h hc _ => Kc.put W l o o' h hc) (Below.refl _ _) (fun _ => rfl)
    (Rest4 w.heap.size n l w) (Left4 w.heap.size n l w) (rest4_own _ _ l w _ (Nat.le_refl _) (by omega)) (left4_own _ _ l w _ (Nat.le_refl _) (by omega)) g0
    (fun x a' W => ∃ Bx, FBox W0.heap.size x W Bx ∧ a' = { tmps := #[.string ⟨l.toArray⟩, .int .i64 n, undef, .pointer (some ⟨w.heap.size, 0, none⟩), .pointer (some ⟨w.heap.size + 1, 0, none⟩), .pointer (some ⟨w.heap.size + 1 + 1, 0, none⟩), .pointer (some ⟨w.heap.size + 1 + 1 + 1, 0, none⟩), .pointer (some ⟨w.heap.size + 1 + 1 + 1 + 1, 0, none⟩), .pointer (some ⟨w.heap.size + 1 + 1 + 1 + 1 + 1, 0, none⟩), .pointer (some ⟨Bx, 0, none⟩), .int .i64 x.1.2.2, .int .i64 n, .bool false, .string ⟨l.toArray⟩, .string ⟨l.toArray⟩, .func (.func 94) #[] #[.pointer (some ⟨w.heap.size + 1 + 1 + 1 + 1 + 1 + 1, 0, none⟩)], .agg #[strV x.1.1, strV x.1.2.1], .int .i64 x.1.2.2, undef, undef, undef, undef, undef, undef, undef, undef, undef, undef, undef, undef, undef, undef, undef, undef, undef, undef], defers := [] })
    (fun x a' s A B row hs hg hr => by
      obtain ⟨Bx, h, e⟩ := hs
      exact ⟨Bx, Own.from (fbox_own _ x Bx) _ () A B row h hg hr, e⟩)
    ?assign ?body ?done ?stop
  case assign =>
    rintro lp pre x W K hG hK
    have hBs := hG.1.2.2.2
    have hA := hK _ _ ((KeepsOthers.alloc W (.cells #[strV x.1.1, strV x.1.2.1] 102)).from _) (Kc.below ((Below.refl _ W).alloc (Nat.le_refl _) _)) (rest4_own _ _ l w W0.heap.size (Nat.le_refl _) (by omega) pre W _ none hG (World.grownBy_alloc W _ none) (fun r e => by cases e)) ⟨W.heap.size, ⟨?_, World.alloc_heap_new W _⟩, rfl⟩
    · unfold strV at hA
      unfold encs
      gi_wp2
      exact hA
    · rw [hs0]; exact hBs
  case body =>
    rintro lp pre x a' W hlp ⟨rr, hrr⟩ hG ⟨Bx, hF, rfl⟩ hlt
    have HG : Hid (Rest4 w.heap.size n l w pre W) := hG
    obtain ⟨⟨⟨v, hv, hown, hgood⟩, hrest, hB, hm3⟩, hbn, hb1, hb2, hb3, hple⟩ := hG
    obtain ⟨o, vcap, rfl⟩ := own_form hown
    have hcx := hF.cells
    unfold strV at hrest hcx ⊢
    obtain ⟨hcx0, hcx1⟩ := hcx
    have hc0 := hv.cell
    have hf0 := hv.frozen
    have hc1 := hrest.cell
    have hf1 := hrest.frozen
    have hcn := hbn.cell
    have hcb1 := hb1.cell
    have hcb2 := hb2.cell
    have hcb3 := hb3.cell
    have hfb1 := hb1.frozen
    have hfb2 := hb2.frozen
    have hfb3 := hb3.frozen
    obtain ⟨p, r, y, hx⟩ : ∃ p r y, x.1 = (p, r, y) := ⟨_, _, _, rfl⟩
    have hxl := x.2
    rw [hx] at hcx0 hcx1 hxl ⊢
    simp only at hcx0 hcx1 hxl ⊢
    have HX : Hid (x.1 = (p, r, y)) := hx
    clear hx
    have mixed : Try.prog.follows .mixedOrders = true := by kernel_rfl
    by_cases hpn : pre.length = n
    · subst hpn
      gi_wp2
      exact ⟨KeepsFrom.refl _ _, pre, x, rfl, .inl ⟨rfl, rfl, HG.out⟩⟩
    · have hpn' : ((pre.length : Int) == (n : Int)) = false := by simp; omega
      have hpn2 : pre.length + 1 ≤ n := by omega
      by_cases hy : y = 0
      · subst hy
        have cp := cloneL p hxl.1
        have hk : pre.length ≤ 1000000 := by omega
        gi_wp2_with fail
        gi_region_with_o (
          refine ⟨trivial, ?_⟩
          gi_at_call 56
          refine (CallsIn.inRound lp (callsIn_wide.2 (cp _))).mono ?_
          rintro e w2 ⟨rfl, hb2x⟩
          have hbW : Below W.heap.size W w2 := below2 (by (repeat' (first | exact Below.refl _ _ | refine Below.drew ?_))) hb2x
          have hv2 : Boxed w2 (w.heap.size + 1 + 1 + 1 + 1) 22 (.slice o pre.length vcap) := (hbW.block _ hv.lt).trans hv
          have hr2 : Boxed w2 (w.heap.size + 1 + 1 + 1 + 1 + 1) 9 (.string ⟨(restOf l pre).toArray⟩) := (hbW.block _ hrest.lt).trans hrest
          have hown2 := own_keep hown hbW
          have hF2 : FBox W0.heap.size x w2 Bx := ⟨hF.1, (hbW.block _ (Array.getElem?_eq_some_iff.1 hF.2).1).trans hF.2⟩
          obtain ⟨g, cap, w3, hrun, hown3, hgrow⟩ := append_str p hown2 hk (Nat.le_trans hm3 hbW.size)
          have hv3 := hv2.cell
          have hf3 := hv2.frozen
          have hv4 : Boxed w3 (w.heap.size + 1 + 1 + 1 + 1) 22 (.slice o pre.length vcap) := (hv2.alloc _).kept hgrow (row_ne hown2 (by omega))
          have hv5 := hv4.cell
          have hf5 := hv4.frozen
          have hv6 := (hv2.alloc (.cells #[.string ⟨p.toArray⟩] 9)).cell)
        all_goals have hk1 : Kc W0.heap.size w2 w3 := (Kc.below ((Below.refl _ w2).alloc (Nat.le_refl _) _)).trans (Kc.row (hown2.alloc _) (by decide) hgrow)
        all_goals have hF3 : FBox W0.heap.size x w3 Bx := ⟨hF.1, hk1.2 _ _ _ hF.1 hF2.2⟩
        all_goals have hF4 : FBox W0.heap.size x (w3.setCell ⟨w.heap.size + 1 + 1 + 1 + 1, 0, none⟩ (.slice (some ⟨g, 0, none⟩) (pre.length + 1) cap)) Bx := ⟨hF.1, (Kc.set w3 (w.heap.size + 1 + 1 + 1 + 1) _ (by omega)).2 _ _ _ hF.1 hF3.2⟩
        all_goals have hr3 : Boxed w3 (w.heap.size + 1 + 1 + 1 + 1 + 1) 9 (.string ⟨(restOf l pre).toArray⟩) := (hr2.alloc _).kept hgrow (row_ne hown2 (by omega))
        all_goals have hr4 := boxed_set hr3 (b := w.heap.size + 1 + 1 + 1 + 1) (by omega) (.slice (some ⟨g, 0, none⟩) (pre.length + 1) cap)
        all_goals have hc4 := hr4.cell
        all_goals have hf4 := hr4.frozen
        all_goals have hx4 := hF4.cells.2
        all_goals rw [HX.out] at hx4
        all_goals unfold strV at hx4
        all_goals simp only at hx4
        all_goals have pass : ∀ (c : Nat) (t : TypeId) (u : Value), c < w.heap.size + 1 + 1 + 1 + 1 → Boxed W c t u → Boxed ((w3.setCell ⟨w.heap.size + 1 + 1 + 1 + 1, 0, none⟩ (.slice (some ⟨g, 0, none⟩) (pre.length + 1) cap)).setCell ⟨w.heap.size + 1 + 1 + 1 + 1 + 1, 0, none⟩ (.string ⟨r.toArray⟩)) c t u := fun c t u hc hu => boxed_set (boxed_set ((Boxed.alloc ((hbW.block _ hu.lt).trans hu) _).kept hgrow (row_ne hown2 (by omega))) (by omega) _) (by omega) _
        all_goals gi_wp2
        all_goals refine ⟨?_, ?_, ?_⟩
        all_goals first
          | exact ((((KeepsOthers.of_grownBy (grown_of hbW) (fun _ _ e => by cases e)).trans (KeepsOthers.alloc _ _)).trans (ko_row (hown2.alloc _) hgrow)).trans ((KeepsOthers.setCell _ _ _).trans (KeepsOthers.setCell _ _ _))).from _
          | exact ((Kc.below hbW).trans hk1).trans ((Kc.set _ _ _ (by omega)).trans (Kc.set _ _ _ (by omega)))
          | skip
        all_goals refine ⟨⟨⟨_, boxed_set (hv4.set _) (by omega) _, ?_, ?_⟩, ?_, ?_, ?_⟩, pass _ _ _ (by omega) hbn, pass _ _ _ (by omega) hb1, pass _ _ _ (by omega) hb2, pass _ _ _ (by omega) hb3, by simp; omega⟩
        all_goals first
          | (intro z hz; rcases List.mem_append.1 hz with hz | hz
             · exact hgood z hz
             · simp at hz; rw [hz, HX.out])
          | (rw [List.length_append, List.map_append]; have := own_set (own_set hown3 (b := w.heap.size + 1 + 1 + 1 + 1) (by omega) (.slice (some ⟨g, 0, none⟩) (pre.length + 1) cap)) (b := w.heap.size + 1 + 1 + 1 + 1 + 1) (by omega) (.string ⟨r.toArray⟩); simp only [List.map_cons, List.map_nil, HX.out]; exact this)
          | (rw [restOf_snoc, HX.out]; exact hr4.set _)
          | exact ((below_row ((hB.trans (hbW.mono hB.size)).alloc (Nat.le_trans hB.size hbW.size) _) (by have := hbW.size; have := hB.size; simp; omega) (by omega) (hown2.alloc _) hgrow).setCell (p := ⟨w.heap.size + 1 + 1 + 1 + 1, 0, none⟩) (by simp; omega) _).setCell (p := ⟨w.heap.size + 1 + 1 + 1 + 1 + 1, 0, none⟩) (by simp; omega) _
          | (have h1 := hk1.1; have h2 := hbW.size; simp; omega)
          | skip
      · have hne : (y != 0) = true := by simpa using hy
        gi_wp2
        refine ⟨((KeepsOthers.setCell _ _ _).trans ((KeepsOthers.setCell _ _ _).trans (KeepsOthers.setCell _ _ _))).from _, pre, x, rfl, .inr ⟨rfl, by omega, by rw [HX.out]; exact hy, hgood, ?_, ?_, ?_, ?_⟩⟩
        · exact boxed_set (boxed_set (hb1.set _) (by omega) _) (by omega) _
        · exact boxed_set ((boxed_set hb2 (by omega) _).set _) (by omega) _
        · rw [HX.out]; exact (boxed_set (boxed_set hb3 (by omega) _) (by omega) _).set _
        · exact ((hB.setCell (p := ⟨w.heap.size + 1, 0, none⟩) (by simp) _).setCell (p := ⟨w.heap.size + 1 + 1, 0, none⟩) (by simp; omega) _).setCell (p := ⟨w.heap.size + 1 + 1 + 1, 0, none⟩) (by simp; omega) _
  case done =>
    rintro D xs W hD ⟨ps, cur, hT, hbad, hxs⟩ ⟨⟨⟨v, hv, hown, hgood⟩, _⟩, _⟩ hK
    exfalso
    have : nextL cur ∈ xs.map (·.1) := by rw [hxs]; simp
    obtain ⟨z, hz, e⟩ := List.mem_map.1 this
    exact hbad (by rw [← e]; exact hgood z hz)
  case stop =>
    rintro D c pre W hD ⟨ps, cur, hT, hxs⟩ ⟨pre', x, rfl, h⟩ hK
    rw [List.map_append, List.map_singleton] at hxs
    obtain ⟨hp1, hp2⟩ := List.append_inj' hxs rfl
    have hr0 := restOf_ok hT pre' hp1
    have hp3 : x.1 = nextL cur := by simpa using hp2
    have hpl : pre'.length = ps.length := by rw [← hp1, List.length_map]
    rcases h with ⟨rfl, hpn, ⟨⟨v, hv, hown, hgood⟩, hrest, hB, hm3⟩, hbn, hb1, hb2, hb3, hple⟩ | ⟨rfl, hpn, hx, hgood, hb1, hb2, hb3, hB⟩
    · have hcl : cur.length ≤ 281474976710656 := Nat.le_trans hT.le hl
      have htk : takeL n l = (pre'.map (fun x => x.1.1), cur, 0) := by
        have := hT.taken
        rw [← hpl, show pre'.length = n by omega] at this
        rw [this, ← hp1, List.map_map]; rfl
      obtain ⟨o, vcap, rfl⟩ := own_form hown
      rw [hr0] at hrest
      unfold strV at hrest
      have HT : Hid (takeL n l = (pre'.map (fun x => x.1.1), cur, 0)) := htk
      have HL : Hid (pre'.length = n) := by show _ = _; omega
      clear htk hr0 hxs hp1 hp2 hp3 hT hpl hpn hple
      have hc0 := hv.cell
      have hc1 := hrest.cell
      have mixed : Try.prog.follows .mixedOrders = true := by kernel_rfl
      have cp := cloneL cur hcl
      have hDl : D < W.heap.size := (Array.getElem?_eq_some_iff.1 hK).1
      gi_wp2_with fail
      gi_region_with_o (
        refine ⟨trivial, ?_⟩
        gi_at_call 56
        refine (callsIn_wide.2 (cp _)).mono ?_
        rintro e w2 ⟨rfl, hb2x⟩
        have hbW : Below W.heap.size W w2 := below2 (by (repeat' (first | exact Below.refl _ _ | refine Below.drew ?_))) hb2x
        have hv2 : Boxed w2 (w.heap.size + 1 + 1 + 1 + 1) 22 (.slice o pre'.length vcap) := (hbW.block _ hv.lt).trans hv
        have h21 : Boxed w2 (w.heap.size + 1) 22 (.slice none 0 0) := (hbW.block _ hb1.lt).trans hb1
        have h22 : Boxed w2 (w.heap.size + 1 + 1) 9 (.string ⟨#[]⟩) := (hbW.block _ hb2.lt).trans hb2
        have h23 : Boxed w2 (w.heap.size + 1 + 1 + 1) 28 (.int .i64 0) := (hbW.block _ hb3.lt).trans hb3
        have j1 := h21.cell
        have j2 := h22.cell
        have j3 := h23.cell
        have j4 := hv2.cell
        have f1 := h21.frozen
        have f2 := h22.frozen
        have f3 := h23.frozen)
      all_goals gi_wp2
      all_goals obtain ⟨X, hX⟩ : ∃ X, ((w2.setCell ⟨w.heap.size + 1, 0, none⟩ (.slice o pre'.length vcap)).setCell ⟨w.heap.size + 1 + 1, 0, none⟩ (.string ⟨cur.toArray⟩)).setCell ⟨w.heap.size + 1 + 1 + 1, 0, none⟩ (.int .i64 0) = X := ⟨_, rfl⟩
      all_goals have x1 : Boxed X (w.heap.size + 1) 22 (.slice o pre'.length vcap) := by rw [← hX]; exact boxed_set (boxed_set (h21.set _) (by omega) _) (by omega) _
      all_goals have x2 : Boxed X (w.heap.size + 1 + 1) 9 (.string ⟨cur.toArray⟩) := by rw [← hX]; exact boxed_set ((boxed_set h22 (by omega) _).set _) (by omega) _
      all_goals have x3 : Boxed X (w.heap.size + 1 + 1 + 1) 28 (.int .i64 0) := by rw [← hX]; exact (boxed_set (boxed_set h23 (by omega) _) (by omega) _).set _
      all_goals have hKX : X.heap[D]? = some (.deferred (some [])) := by
                    rw [← hX]
                    have z0 := (hbW.block D hDl).trans hK
                    have z1 := ((grownBy_setCell' w2 (w.heap.size + 1) (.slice o pre'.length vcap)).block D (Array.getElem?_eq_some_iff.1 z0).1 (by simp; omega)).trans z0
                    have z2 := ((grownBy_setCell' _ (w.heap.size + 1 + 1) (.string ⟨cur.toArray⟩)).block D (Array.getElem?_eq_some_iff.1 z1).1 (by simp; omega)).trans z1
                    exact ((grownBy_setCell' _ (w.heap.size + 1 + 1 + 1) (.int .i64 0)).block D (Array.getElem?_eq_some_iff.1 z2).1 (by simp; omega)).trans z2
      all_goals have ownX := own_set (own_set (own_set (own_keep hown hbW) (b := w.heap.size + 1) (by omega) (.slice o pre'.length vcap)) (b := w.heap.size + 1 + 1) (by omega) (.string ⟨cur.toArray⟩)) (b := w.heap.size + 1 + 1 + 1) (by omega) (.int .i64 0)
      all_goals have belX : Below w.heap.size w X := by
                    rw [← hX]
                    exact (((hB.trans (hbW.mono hB.size)).setCell (p := ⟨w.heap.size + 1, 0, none⟩) (by simp) _).setCell (p := ⟨w.heap.size + 1 + 1, 0, none⟩) (by simp; omega) _).setCell (p := ⟨w.heap.size + 1 + 1 + 1, 0, none⟩) (by simp; omega) _
      all_goals rw [hX] at ownX ⊢
      all_goals clear hX
      all_goals have k1 := (x1.kept (grownBy_putObj' X D (.deferred none)) (by simp; omega)).cell
      all_goals have k2 := (x2.kept (grownBy_putObj' X D (.deferred none)) (by simp; omega)).cell
      all_goals have k3 := (x3.kept (grownBy_putObj' X D (.deferred none)) (by simp; omega)).cell
      all_goals refine ⟨by simp, .inl ⟨_, _, rfl, run_takeDeferred (w := X) hKX, ?_⟩⟩
      all_goals refine ⟨.tuple #[.slice o pre'.length vcap, .string ⟨cur.toArray⟩, .int .i64 0], ?_, ?_⟩
      all_goals first
        | (refine results_cells3 rfl rfl rfl rfl ?_ ?_ ?_ <;> go_simp; done)
        | skip
      all_goals rw [HT.out]
      all_goals refine ⟨_, rfl, ?_, belX.trans (belowK_b (w := w) (Nat.le_refl _) X D _ _ (by omega) hKX rfl rfl)⟩
      all_goals simp only [List.length_map, List.map_map]
      all_goals exact own_down (ownsRow_putObj ownX _ hKX rfl) (by omega)
    · have hfail := hT.fails (by rw [← hp3]; exact hx) (n := n) (by omega)
      rw [← hp3] at hfail
      have k1 := (hb1.kept (grownBy_putObj' W D (.deferred none)) (by simp; omega)).cell
      have k2 := (hb2.kept (grownBy_putObj' W D (.deferred none)) (by simp; omega)).cell
      have k3 := (hb3.kept (grownBy_putObj' W D (.deferred none)) (by simp; omega)).cell
      gi_wp2
      refine ⟨by simp, .inl ⟨_, _, rfl, run_takeDeferred (w := W) hK, ?_⟩⟩
      refine ⟨.tuple #[.slice none 0 0, .string ⟨#[]⟩, .int .i64 x.1.2.2], ?_, ?_⟩
      · refine results_cells3 rfl rfl rfl rfl ?_ ?_ ?_
        all_goals go_simp
      · rw [hfail]
        exact ⟨_, rfl, World.ownsRow_nil _ _ _ _, hB.trans (belowK_b (w := w) (Nat.le_refl _) W D _ _ (by omega) hK rfl rfl)⟩
end Go.Proofs.Ytbikcpchlgmoaaa.Frame
