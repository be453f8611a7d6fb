/- The way to an address: what the iterator tells. -/
import Derived.Test.YteoihmoclndihabTrGrown
import Derived.Test.YteoihmoclndihabTrOver2
import Derived.RangeFuncNested
import Derived.RangeFuncBound
import Derived.RangeFuncCalls
import Derived.RangeFuncLeaves
import Derived.RangeFuncBox
import Derived.Shelf.Abstract
import Derived.Shelf.RegionOpen
import Derived.OwnWalkIn
import Derived.TacticsInMore
import Derived.LoopNIn
import Derived.LoopIn
set_option linter.unusedVariables false
namespace Go.Proofs.Yteoihmoclndihab.Tr
open Go.RowKit Go.Shelf
open Go.Proofs.Yteoihmoclndihab.Lk (HasRow)
open Go.Proofs.Yteoihmoclndihab.Addr (Pf okP wideN kP hasB coversB rightB hiN loN RowAt below2 below_drew below_new bset RowAt.lt RowAt.cell RowAt.frozen RowAt.below RowAt.drew RowAt.new RowAt.alloc RowAt.set1 cells2)
attribute [local go_sem] Oper.semAt_some
theorem row_keepC {W W' : World} {Q : Nat → Prop} {v : Value} {sz n : Nat} {cs : List Value} (h : HasRow W v sz n cs) (hsz : 0 < sz) (hq : InQ Q v) (hb : ∀ b o, Q b → W.heap[b]? = some o → o.isCells = true → W'.heap[b]? = some o) (hs : W.heap.size ≤ W'.heap.size) : HasRow W' v sz n cs := by
  refine ⟨h.1, ?_⟩
  rcases h.2 with h0 | ⟨a, cap, e, h1, h2, h3, h4⟩
  · exact .inl h0
  · refine .inr ⟨a, cap, e, h1, h2, fun h => ⟨(h3 h).1, Nat.lt_of_lt_of_le (h3 h).2 hs⟩, fun j hj => ?_⟩
    have hc := h4 j hj
    rw [List.getElem?_eq_getElem (by rw [h.1]; exact hj)] at hc
    have hbk : (a.add j).block = a.block := by unfold Addr.add; split <;> rfl
    obtain ⟨o, ho, hoc⟩ : ∃ o, W.heap[(a.add j).block]? = some o ∧ o.isCells = true := by
      unfold World.cell? at hc
      cases hh : W.heap[(a.add j).block]? with
      | none => simp [hh] at hc
      | some o =>
        cases o with
        | cells cur t fr => exact ⟨_, rfl, rfl⟩
        | _ => simp [hh] at hc
    rw [← h4 j hj]
    refine World.cell?_of_block ?_
    rw [hb _ o (by rw [hbk]; exact hq a _ _ e) ho hoc, ho]
theorem HasTrie.keepC : ∀ (f : Nat) {W W' : World} {Q : Nat → Prop} {six : Bool} {v : Value} {L : List Rt}, HasTrie f W Q six v L → (∀ b o, Q b → W.heap[b]? = some o → o.isCells = true → W'.heap[b]? = some o) → W.heap.size ≤ W'.heap.size → HasTrie f W' Q six v L
  | 0, _, _, _, _, _, _, h, _, _ => h
  | f + 1, W, W', Q, six, v, L, h, hb, hs => by
    obtain ⟨s, us, h1, h2, h3, h4, h5, h6⟩ := h
    exact ⟨s, us, h1, h2, h3, row_keepC h4 (by decide) h5 hb hs, h5, fun i a b => HasTrie.keepC f (h6 i a b) hb hs⟩
/-- what a round may change: two variables, and what is no cells -/
def Kw (bL bW : Nat) (W W' : World) : Prop := W.heap.size ≤ W'.heap.size ∧ ∀ b o, b ≠ bL → b ≠ bW → W.heap[b]? = some o → o.isCells = true → W'.heap[b]? = some o
theorem kw_t {bL bW : Nat} {A B C : World} (h : Kw bL bW A B) (k : Kw bL bW B C) : Kw bL bW A C := ⟨Nat.le_trans h.1 k.1, fun b o h1 h2 h3 h4 => k.2 b o h1 h2 (h.2 b o h1 h2 h3 h4) h4⟩
def encW (r : Rt) : Array Value := #[.agg #[.bool r.pf.six, .int .u64 (hiN r.pf.n : Int), .int .u64 (loN r.pf.n : Int), .int .i64 r.pf.len, .int .u8 (r.act.k : Int), .int .i64 r.act.i]]
/-- the iterator between two rounds: the node that has the address, and the row under it -/
structure WayI (B : Nat) (W : World) (six : Bool) (a g5 b2 b3 : Nat) (f : Nat) (r : Rt) (u : Value) (S : List Rt) : Prop where
  node : RowAt W g5 (nodeC r u) 102
  tr : HasTrie f W (fun b => B ≤ b ∧ b < W.heap.size ∧ b ≠ g5) six u S
  s6 : RowAt W b2 [.bool six] 4
  ad : RowAt W b3 [.int .u64 (hiN a : Int), .int .u64 (loN a : Int)] 26
  g5B : B ≤ g5
theorem rowAt_kw {bL bW : Nat} {W W' : World} {g : Nat} {cs : List Value} {t : TypeId} (h : RowAt W g cs t) (k : Kw bL bW W W') (h1 : g ≠ bL) (h2 : g ≠ bW) : RowAt W' g cs t := k.2 g _ h1 h2 h rfl
end Go.Proofs.Yteoihmoclndihab.Tr
