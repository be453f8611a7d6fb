/- What gram.Pieces answers. -/
import Derived.Test.YtopabkkapbaibaaGramSmall
import Derived.Test.YtopabkkapbaibaaMsgGet
import Derived.OwnWalk
import Derived.Laws.AppendOwn
import Derived.Sort.CutIn
set_option linter.unusedVariables false
namespace Go.Proofs.Ytopabkkapbaibaa.Gram
open Go.RowKit Go.Shelf
open Go.Proofs.Ytopabkkapbaibaa.Addr (RowAt below2 below_drew below_new bset RowAt.lt RowAt.cell RowAt.frozen RowAt.below RowAt.drew RowAt.new RowAt.alloc cells2 cells4)
attribute [local go_sem] Oper.semAt_some
attribute [-go_sem] Builtin.append_
theorem addr_add (b o j : Nat) : (⟨b, o, none⟩ : Addr).add j = ⟨b, o + j, none⟩ := by unfold Addr.add; split <;> simp_all
def strV (p : List UInt8) : Value := .string ⟨p.toArray⟩
def pcC (p : PcT) : List Value := [.int .u8 (p.1 : Int), strV p.2]
def pcCs (ps : List PcT) : List Value := ps.flatMap pcC
theorem pcCs_app (a b : List PcT) : pcCs (a ++ b) = pcCs a ++ pcCs b := by simp [pcCs]
theorem info_pc : (Try.prog.info? 70).map (fun i => (i.zero, i.size, i.bytes)) = some (some (.agg #[.int .u8 0, .string ⟨#[]⟩]), 2, 24) := by kernel_rfl
theorem info_parts {e sz by' : Nat} {z : Value} (h : (Try.prog.info? e).map (fun i => (i.zero, i.size, i.bytes)) = some (some z, sz, by')) : ∃ i, Try.prog.info? e = some i ∧ i.zero = some z ∧ i.size = sz ∧ i.bytes = by' := by
  cases hi : Try.prog.info? e with
  | none => rw [hi] at h; cases h
  | some i =>
    rw [hi] at h
    simp only [Option.map_some, Option.some.injEq, Prod.mk.injEq] at h
    exact ⟨i, rfl, h.1, h.2.1, h.2.2⟩
theorem append_pc {W : World} {n₀ k : Nat} {v : Value} {xs : List Value} (p : PcT) (hown : W.ownsRow n₀ 70 2 v k xs) (hk : k ≤ 4398046511104) (hn : n₀ ≤ W.heap.size) :
    ∃ g cap w3, (∀ ty, (Builtin.append_ #[31, 31] ty #[v, .slice (some ⟨W.heap.size, 0, none⟩) 1 1]).run Try.prog (W.alloc (.cells #[.int .u8 (p.1 : Int), .string ⟨p.2.toArray⟩] 70)) = .ok (.slice (some ⟨g, 0, none⟩) (k + 1) cap) w3) ∧
      w3.ownsRow n₀ 70 2 (.slice (some ⟨g, 0, none⟩) (k + 1) cap) (k + 1) (xs ++ pcC p) ∧ (W.alloc (.cells #[.int .u8 (p.1 : Int), .string ⟨p.2.toArray⟩] 70)).grownBy w3 v.ownBlock := by
  obtain ⟨i0, hi, hz0, hz1, hz2⟩ := info_parts info_pc
  have hrow := RowAt.new W (pcC p) 70
  have h := fun ty => run_append_own (P := Try.prog) (W.alloc (.cells #[.int .u8 (p.1 : Int), .string ⟨p.2.toArray⟩] 70)) n₀ 31 ty 70 i0 (.agg #[.int .u8 0, .string ⟨#[]⟩]) 2 24 Try.underlying31 hi hz0 hz1 hz2 rfl (by decide) v k xs (hown.alloc _) ⟨W.heap.size, 0, none⟩ 1 1 (pcC p) rfl
    (by intro j u hj; rw [addr_add, Nat.zero_add]; exact (hrow.cell j).trans hj) (by intro u hu; simp only [pcC, strV, List.mem_cons, List.not_mem_nil, or_false] at hu; rcases hu with rfl | rfl <;> rfl) (by unfold maxLen; omega) (by omega) (by simp; omega)
  obtain ⟨v', w3, hrun, h1, h2, h3⟩ := h 0
  obtain ⟨g, cap, rfl⟩ : ∃ g cap, v' = .slice (some ⟨g, 0, none⟩) (k + 1) cap := by
    rcases h1.2 with ⟨_, h0⟩ | ⟨g, cap, cur, e, _⟩
    · omega
    · exact ⟨g, cap, e⟩
  exact ⟨g, cap, w3, fun ty => hrun, h1, h2⟩
theorem own_keep {w w' : World} {B e size n : Nat} {v : Value} {xs : List Value} (h : w.ownsRow B e size v n xs) (hb : Below w.heap.size w w') : w'.ownsRow B e size v n xs := by
  refine h.kept (grown_of hb) ?_
  rcases h.2 with ⟨rfl, _⟩ | ⟨g, cap, cur, rfl, _⟩
  · exact .inl rfl
  · exact .inr (fun e => by simp [Value.ownBlock] at e)
theorem row_ne {W : World} {m e size k : Nat} {v : Value} {xs : List Value} (h : W.ownsRow m e size v k xs) {b : Nat} (hb : b < m) : some b ≠ v.ownBlock := by
  rcases h.2 with ⟨rfl, _⟩ | ⟨g, cap, cur, rfl, hg, _⟩
  · simp [Value.ownBlock]
  · intro e
    obtain rfl : b = g := by simpa [Value.ownBlock] using e
    omega
theorem own_down {W : World} {m n e size k : Nat} {v : Value} {xs : List Value} (h : W.ownsRow m e size v k xs) (hb : n ≤ m) : W.ownsRow n e size v k xs := by
  refine ⟨h.1, ?_⟩
  rcases h.2 with h | ⟨g, cap, cur, e1, hg, rest⟩
  · exact .inl h
  · exact .inr ⟨g, cap, cur, e1, Nat.le_trans hb hg, rest⟩
theorem ko_row {W W' : World} {m e size k : Nat} {v : Value} {xs : List Value} (hr : W.ownsRow m e size v k xs) (hg : W.grownBy W' v.ownBlock) : KeepsOthers W W' :=
  KeepsOthers.of_grownBy hg fun j o ej hj => by
    rcases hr.2 with ⟨rfl, _⟩ | ⟨g, cap, cur, rfl, _, hgb, _⟩
    · simp [Value.ownBlock] at ej
    · obtain rfl : g = j := by simpa [Value.ownBlock] using ej
      rw [hgb] at hj; cases hj; rfl
theorem own_set {W : World} {m e size k : Nat} {v : Value} {xs : List Value} (hr : W.ownsRow m e size v k xs) {b : Nat} (hb : b < m) (u : Value) : (W.setCell ⟨b, 0, none⟩ u).ownsRow m e size v k xs :=
  hr.kept (grownBy_setCell' W b u) (.inr (row_ne hr hb).symm)
theorem below_row {n : Nat} {w W W' : World} {m e size k : Nat} {v : Value} {xs : List Value} (h : Below n w W) (hn : n ≤ W.heap.size) (hnm : n ≤ m) (hr : W.ownsRow m e size v k xs) (hg : W.grownBy W' v.ownBlock) : Below n w W' :=
  h.grown hg hn (fun j ej => by
    rcases hr.2 with ⟨rfl, _⟩ | ⟨g, cap, cur, rfl, hb, _⟩
    · simp [Value.ownBlock] at ej
    · obtain rfl : g = j := by simpa [Value.ownBlock] using ej
      omega)
theorem set_same {W : World} {b : Nat} {x y : Value} {t : TypeId} (h : RowAt W b [x, y] t) : W.setCell ⟨b, 1, none⟩ y = W := by
  have hb : W.heap[b]? = some (.cells #[x, y] t (0, 0)) := h
  have key : ∀ f : Obj → Obj, f (.cells #[x, y] t (0, 0)) = .cells #[x, y] t (0, 0) → W.heap.modify b f = W.heap := by
    intro f hf
    apply Array.ext_getElem?
    intro i
    rw [Array.getElem?_modify]
    split
    · rename_i e
      subst e
      rw [hb, Option.map_some, hf]
    · rfl
  unfold World.setCell
  rw [key _ (by simp)]
/-- between two rounds of a loop that gathers pieces -/
def Gath (n₀ m b0 : Nat) (w : World) (pre : List Told) (W : World) : Prop :=
  (∃ v, Boxed W b0 31 v ∧ W.ownsRow m 70 2 v pre.length (pcCs (pre.map (·.1))) ∧ True) ∧ Below n₀ w W ∧ m ≤ W.heap.size
theorem gath_own (n₀ m b0 B : Nat) (w : World) (hn : n₀ ≤ w.heap.size) (hB : n₀ ≤ B) : OwnFrom B (Gath n₀ m b0 w) :=
  OwnFrom.and (Own.from (holdsRow_own m b0 31 70 2 (fun pre : List Told => pre.length) (fun pre => pcCs (pre.map (·.1))) (fun _ _ => True)) B)
    (OwnFrom.and (ownFrom_below hn hB) (fun _ _ _ _ hs hg _ => Nat.le_trans hs hg.size))
/-- the loop's variable -/
def FBox (B : Nat) (x : Told) (W : World) (Bx : Nat) : Prop := B ≤ Bx ∧ RowAt W Bx [.int .u8 (x.1.1 : Int), .string ⟨x.1.2.toArray⟩] 70
theorem fbox_own (B : Nat) (x : Told) (Bx : Nat) : Own (fun (_ : Unit) W => FBox B x W Bx) := by
  rintro s X Y row ⟨h1, h2⟩ hg hrow
  refine ⟨h1, (hg.block Bx h2.lt (fun e => ?_)).trans h2⟩
  obtain ⟨o, ho, hc⟩ := hrow Bx e.symm
  rw [show X.heap[Bx]? = _ from h2] at ho; cases ho; cases hc

set_option maxHeartbeats 4000000 in
set_option maxRecDepth 20000 in
theorem pieces_any (l : List UInt8) (w : World) (hl : l.length ≤ 281474976710656) (hm : (piecesL l).length ≤ 4398046511104) :
    Calls Try.prog 12 #[.string ⟨l.toArray⟩] w fun e w' => ∃ v, e = .returned v ∧ w'.ownsRow w.heap.size 70 2 v (piecesL l).length (pcCs (piecesL l)) ∧ Below w.heap.size w w' := by
  refine (callsIn_wide (n := 5)).1 ?_
  refine callsIn_of_wp_marks Try.func12 rfl trivial ?_ rfl
  simp only [Try.ntmps12, List.size_toArray, List.length_cons, List.length_nil, Nat.reduceAdd, Nat.reduceSub, Array.replicate_succ, Array.replicate_zero, List.push_toArray, List.append_toArray, List.nil_append, List.cons_append]
  gi_wp2_with fail
  refine ⟨trivial, ?_⟩
  gi_at_call 24; refine (callsIn_wide.2 (each_any _ _)).mono ?_; rintro e w1 ⟨rfl, rfl⟩
  gi_wp2_with fail
  obtain ⟨W0, hW0⟩ : ∃ W0, (w.alloc (.cells #[.slice none 0 0] 31)).alloc (.cells #[.string ⟨l.toArray⟩] 9) = W0 := ⟨_, rfl⟩
  have hs0 : W0.heap.size = w.heap.size + 1 + 1 := by rw [← hW0]; simp
  have g0 : Gath w.heap.size (w.heap.size + 1 + 1) w.heap.size w [] W0 := by
    rw [← hW0]
    exact ⟨⟨_, (Boxed.new w _ _).alloc _, World.ownsRow_nil _ _ _ _, trivial⟩, ((Below.refl _ w).alloc (Nat.le_refl _) _).alloc (by simp) _, by simp⟩
  have hcs : W0.cell? ⟨w.heap.size + 1, 0, none⟩ = some (.string ⟨l.toArray⟩) := by
    have := (Boxed.new (w.alloc (.cells #[.slice none 0 0] 31)) 9 (.string ⟨l.toArray⟩)).cell
    rw [World.size_alloc, hW0] at this
    exact this
  rw [hW0]
  clear hW0
  refine wpIn_rangeFunc_ownH (α := Told) rfl (by omega) (gf := 39) (lb := #[.pointer (some ⟨w.heap.size + 1, 0, none⟩)]) rfl trivial (enters_of Try.func39 (by kernel_rfl) rfl)
    (each1_stops l hl (5 - 1) (w.heap.size + 1) W0 (by omega) hcs) (fun h k => trivial) (fun W l o o' _ h hc _ => trivial) (Below.refl _ _) (fun _ => rfl)
    (Gath w.heap.size (w.heap.size + 1 + 1) w.heap.size w)
    (fun c pre W => False)
    (gath_own _ _ _ _ w (Nat.le_refl _) (by omega))
    (fun c s A B row hs hg hr => hs)
    g0
    (fun x a' W => ∃ Bx, FBox W0.heap.size x W Bx ∧ a' = { tmps := #[.string ⟨l.toArray⟩, undef, .slice none 0 0, .pointer (some ⟨w.heap.size, 0, none⟩), .pointer (some ⟨Bx, 0, none⟩), .string ⟨l.toArray⟩, .func (.func 39) #[] #[.pointer (some ⟨w.heap.size + 1, 0, none⟩)], .agg #[.int .u8 (x.1.1 : Int), .string ⟨x.1.2.toArray⟩], undef, undef, undef, undef, undef, undef, undef, undef, undef], defers := [] })
    (fun x a' s A B row hs hg hr => by
      obtain ⟨Bx, h, e⟩ := hs
      exact ⟨Bx, Own.from (fbox_own _ x Bx) _ () A B row h hg hr, e⟩)
    ?assign ?body ?done ?stop
  case assign =>
    rintro lp pre x W K hG hK
    have hBs := hG.2.2
    have hA := hK _ _ ((KeepsOthers.alloc W (.cells #[.int .u8 (x.1.1 : Int), .string ⟨x.1.2.toArray⟩] 70)).from _) trivial (gath_own _ _ _ W0.heap.size w (Nat.le_refl _) (by omega) pre W _ none hG (World.grownBy_alloc W _ none) (fun r e => by cases e)) ⟨W.heap.size, ⟨?_, RowAt.new W [.int .u8 (x.1.1 : Int), .string ⟨x.1.2.toArray⟩] 70⟩, rfl⟩
    · unfold encs
      gi_wp2
      exact hA
    · rw [hs0]; exact hBs
  case body =>
    rintro lp pre x a' W hlp ⟨rr, hrr⟩ hG ⟨Bx, hF, rfl⟩ hlt
    obtain ⟨⟨v, hv, hown, -⟩, hB, hm3⟩ := hG
    obtain ⟨q0, q1, qf⟩ := cells2 hF.2
    have hc0 := hv.cell
    have hf0 := hv.frozen
    have hk : pre.length ≤ 4398046511104 := by omega
    have hxl := x.2
    have cp := fun W => Msg.clone_any ⟨x.1.2.toArray⟩ W (by rw [size_list]; omega)
    have hFr := hF.2
    clear hxl
    gi_wp2_with fail
    refine ⟨trivial, ?_⟩
    gi_at_call 23
    refine (CallsIn.inRound lp (callsIn_wide.2 (cp _))).mono ?_
    rintro e w2 ⟨rfl, hb2⟩
    have hF2 := hFr.below hb2
    obtain ⟨p0, p1, pf⟩ := cells2 hF2
    gi_upto_region 5 with fail
    rw [set_same hF2]
    have hbW : Below W.heap.size W w2 := hb2
    have hv2 : Boxed w2 w.heap.size 31 v := (hbW.block _ hv.lt).trans hv
    have hown2 := own_keep hown hbW
    have hw2 := hbW.size
    obtain ⟨g, cap, w3, hrun, hown3, hgrow⟩ := append_pc x.1 hown2 hk (Nat.le_trans hm3 hbW.size)
    have hv3 := hv2.cell
    have hf3 := hv2.frozen
    have hv4 : Boxed w3 w.heap.size 31 v := (hv2.alloc _).kept hgrow (row_ne hown2 (by omega))
    have hv5 := hv4.cell
    have hf5 := hv4.frozen
    have hv6 := (hv2.alloc (.cells #[.int .u8 (x.1.1 : Int), .string ⟨x.1.2.toArray⟩] 70)).cell
    have mixed : Try.prog.follows .mixedOrders = true := by kernel_rfl
    gi_wp2
    refine ⟨?_, trivial, ⟨⟨_, hv4.set _, ?_, trivial⟩, ?_, ?_⟩⟩
    · exact ((((KeepsOthers.of_grownBy (grown_of hbW) (fun _ _ e => by cases e)).trans (KeepsOthers.alloc _ _)).trans (ko_row (hown2.alloc _) hgrow)).trans (KeepsOthers.setCell _ _ _)).from _
    · rw [List.length_append, List.map_append, pcCs_app]
      have := own_set hown3 (b := w.heap.size) (by omega) (.slice (some ⟨g, 0, none⟩) (pre.length + 1) cap)
      simp only [List.map_cons, List.map_nil, pcCs, List.flatMap_cons, List.flatMap_nil, List.append_nil]
      exact this
    · exact (below_row ((hB.trans (hbW.mono hB.size)).alloc (Nat.le_trans hB.size hbW.size) _) (by have := hbW.size; have := hB.size; simp; omega) (by omega) (hown2.alloc _) hgrow).setCell (p := ⟨w.heap.size, 0, none⟩) (Nat.le_refl _) _
    · have h1 := hgrow.size
      rw [World.size_alloc] at h1
      simp
      omega
  case done =>
    rintro D xs W hD hS ⟨⟨v, hv, hown, -⟩, hB, hm3⟩ hK
    have hc0 := hv.cell
    have mixed : Try.prog.follows .mixedOrders = true := by kernel_rfl
    gi_wp2
    refine ⟨by simp, .inl ⟨_, _, rfl, run_takeDeferred (w := W) hK, ?_⟩⟩
    refine ⟨_, results_tmp rfl _ _ _, ?_⟩
    have hS' : xs.map (·.1) = piecesL l := hS
    refine ⟨v, rfl, ?_, ?_⟩
    · rw [← hS', List.length_map]
      exact own_down (ownsRow_putObj hown _ hK rfl) (by omega)
    · exact hB.trans (belowK_b (w := w) (Nat.le_refl _) W D _ _ (by omega) hK rfl rfl)
  case stop =>
    rintro D c pre W hD _ h
    exact h.elim
end Go.Proofs.Ytopabkkapbaibaa.Gram
