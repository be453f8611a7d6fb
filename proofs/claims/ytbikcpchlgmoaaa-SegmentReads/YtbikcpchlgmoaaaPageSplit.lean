/- The iterator page.pieces, and what page.Split returns, for every tag and data. -/
import Derived.Test.YtbikcpchlgmoaaaPageTag
import Derived.RangeFuncNested
import Derived.RangeFuncBound
import Derived.RangeFuncCalls
import Derived.RangeFuncLeaves
import Derived.RangeFuncBox
import Derived.Shelf.Abstract
import Derived.Shelf.RegionOpen
import Derived.OwnWalkIn
import Derived.OwnWalk
import Derived.TacticsInMore
import Derived.LoopNIn
import Derived.LoopIn
import Derived.Maps.AppendAt
set_option linter.unusedVariables false
namespace Go.Proofs.Ytbikcpchlgmoaaa.Page
open Go.RowKit Go.Shelf
attribute [local go_sem] Oper.semAt_some
attribute [-go_sem] Builtin.append_

def strV (p : List UInt8) : Value := .string ⟨p.toArray⟩
/-- a piece of data, and how many there are -/
def pieceL (l : List UInt8) (k : Nat) : List UInt8 := (l.drop (111 * k)).take 111
def cntL (l : List UInt8) : Nat := (l.length + 110) / 111
theorem pieceL_len (l : List UInt8) (k : Nat) : (pieceL l k).length ≤ 111 := by rw [pieceL, List.length_take]; omega
def encP (l : List UInt8) (k : Nat) : Array Value := #[strV (pieceL l k)]
/-- the pages of data -/
def pagesL (l : List UInt8) (t : Nat) (ks : List Nat) : List (List UInt8) := ks.mapIdx fun i k => pageL (t + i) (pieceL l k)
theorem pagesL_len (l : List UInt8) (t : Nat) (ks : List Nat) : (pagesL l t ks).length = ks.length := by simp [pagesL]
theorem pagesL_snoc (l : List UInt8) (t : Nat) (ks : List Nat) (k : Nat) : pagesL l t (ks ++ [k]) = pagesL l t ks ++ [pageL (t + ks.length) (pieceL l k)] := by
  rw [pagesL, List.mapIdx_concat]; rfl
def splitL (t : Nat) (l : List UInt8) : List (List UInt8) := pagesL l t (List.range (cntL l))
/-- a box that is kept -/
def Kb (B : Nat) (W W' : World) : Prop := W.heap.size ≤ W'.heap.size ∧ ∀ v, Boxed W B 9 v → Boxed W' B 9 v
theorem Kb.trans {B : Nat} {X Y Z : World} (h : Kb B X Y) (k : Kb B Y Z) : Kb B X Z := ⟨Nat.le_trans h.1 k.1, fun v hv => k.2 v (h.2 v hv)⟩
theorem Kb.put {B : Nat} (W : World) (l : Nat) (o o' : Obj) (h : W.heap[l]? = some o) (hc : o.isCells = false) : Kb B W (W.putObj l o') :=
  ⟨(grownBy_putObj' W l o').size, fun v hv => hv.kept (grownBy_putObj' W l o') (fun e => by
    cases e; rw [show W.heap[B]? = _ from hv] at h; cases h; cases hc)⟩
theorem Kb.grown {B : Nat} {W W' : World} {row : Option Nat} (hg : W.grownBy W' row) (hne : some B ≠ row) : Kb B W W' := ⟨hg.size, fun v hv => hv.kept hg hne⟩
theorem Kb.below {B : Nat} {W W' : World} (h : Below W.heap.size W W') : Kb B W W' := ⟨h.size, fun v hv => (h.block _ hv.lt).trans hv⟩
theorem Kb.set {B : Nat} (W : World) (b : Nat) (v : Value) (hb : B ≠ b) : Kb B W (W.setCell ⟨b, 0, none⟩ v) := Kb.grown (grownBy_setCell' W b v) (fun e => hb (by cases e; rfl))
theorem grown_of {w w' : World} (h : Below w.heap.size w w') : w.grownBy w' none := ⟨h.os, h.tape, h.output, h.size, fun k hk _ => h.block k hk⟩
theorem extract_piece (l : List UInt8) (k : Nat) : (⟨l.toArray⟩ : ByteArray).extract (111 * k) (min (111 * k + 111) l.length) = ⟨(pieceL l k).toArray⟩ := by
  apply ByteArray.ext
  rw [ByteArray.data_extract]
  apply Array.toList_inj.1
  rw [pieceL]
  rw [Array.toList_extract, List.extract_eq_take_drop]
  show (l.drop (111 * k)).take _ = _
  rw [List.take_eq_take_iff, List.length_drop]
  omega
/-- what Split answers -/
def splitR (t : Nat) (l : List UInt8) : List (List UInt8) × Int := if t = 0 ∨ 4611686018427387904 < t then ([], 1) else if l.length ≤ 14208 then (splitL t l, 0) else ([], 11)
def RowsIs (r : List (List UInt8) × Int) (w : World) (e : Ending) (w' : World) : Prop :=
  ∃ v, e = .returned (.tuple #[v, .int .i64 r.2]) ∧ w'.ownsRow w.heap.size 9 1 v r.1.length (r.1.map strV) ∧ Below w.heap.size w w'
/-- between two rounds -/
def GathP (l : List UInt8) (t n₀ m b0 b1 : Nat) (w : World) (pre : List Nat) (W : World) : Prop :=
  (∃ v, Boxed W b1 22 v ∧ W.ownsRow m 9 1 v pre.length ((pagesL l t pre).map strV) ∧ True) ∧ Boxed W b0 26 (.int .u64 ((t + pre.length : Nat) : Int)) ∧ Below n₀ w W ∧ m ≤ W.heap.size
theorem gathP_own (l : List UInt8) (t n₀ m b0 b1 B : Nat) (w : World) (hn : n₀ ≤ w.heap.size) (hB : n₀ ≤ B) : OwnFrom B (GathP l t n₀ m b0 b1 w) :=
  OwnFrom.and (Own.from (holdsRow_own m b1 22 9 1 (fun pre : List Nat => pre.length) (fun pre => (pagesL l t pre).map strV) (fun _ _ => True)) B)
    (OwnFrom.and (Own.from (boxed_own b0 26 (fun pre : List Nat => .int .u64 ((t + pre.length : Nat) : Int))) B) (OwnFrom.and (ownFrom_below hn hB) (fun _ _ _ _ hs hg _ => Nat.le_trans hs hg.size)))
theorem info_str : (Try.prog.info? 9).map (fun i => (i.zero, i.size, i.bytes)) = some (some (.string ⟨#[]⟩), 1, 16) := by kernel_rfl
theorem own_keep {w w' : World} {B e size n : Nat} {v : Value} {xs : List Value} (h : w.ownsRow B e size v n xs) (hb : Below w.heap.size w w') : w'.ownsRow B e size v n xs := by
  refine h.kept (grown_of hb) ?_
  rcases h.2 with ⟨rfl, _⟩ | ⟨g, cap, cur, rfl, _⟩
  · exact .inl rfl
  · exact .inr (fun e => by simp [Value.ownBlock] at e)
theorem row_ne {W : World} {m e size k : Nat} {v : Value} {xs : List Value} (h : W.ownsRow m e size v k xs) {b : Nat} (hb : b < m) : some b ≠ v.ownBlock := by
  rcases h.2 with ⟨rfl, _⟩ | ⟨g, cap, cur, rfl, hg, _⟩
  · simp [Value.ownBlock]
  · intro e
    obtain rfl : b = g := by simpa [Value.ownBlock] using e
    omega
theorem own_down {W : World} {m n e size k : Nat} {v : Value} {xs : List Value} (h : W.ownsRow m e size v k xs) (hb : n ≤ m) : W.ownsRow n e size v k xs := by
  refine ⟨h.1, ?_⟩
  rcases h.2 with h | ⟨g, cap, cur, e1, hg, rest⟩
  · exact .inl h
  · exact .inr ⟨g, cap, cur, e1, Nat.le_trans hb hg, rest⟩
theorem append_str {W : World} {n₀ k : Nat} {v : Value} {xs : List Value} (p : List UInt8) (hown : W.ownsRow n₀ 9 1 v k xs) (hk : k ≤ 1000000) (hn : n₀ ≤ W.heap.size) :
    ∃ g cap w3, (∀ ty, (Builtin.append_ #[22, 22] ty #[v, .slice (some ⟨W.heap.size, 0, none⟩) 1 1]).run Try.prog (W.alloc (.cells #[.string ⟨p.toArray⟩] 9)) = .ok (.slice (some ⟨g, 0, none⟩) (k + 1) cap) w3) ∧
      w3.ownsRow n₀ 9 1 (.slice (some ⟨g, 0, none⟩) (k + 1) cap) (k + 1) (xs ++ [strV p]) ∧ (W.alloc (.cells #[.string ⟨p.toArray⟩] 9)).grownBy w3 v.ownBlock := by
  obtain ⟨i0, hi, hz0, hz1, hz2⟩ := info_parts info_str
  have h := fun ty => run_append_own (P := Try.prog) (W.alloc (.cells #[.string ⟨p.toArray⟩] 9)) n₀ 22 ty 9 i0 (.string ⟨#[]⟩) 1 16 Try.underlying22 hi hz0 hz1 hz2 rfl (by decide) v k xs (hown.alloc _) ⟨W.heap.size, 0, none⟩ 1 1 [.string ⟨p.toArray⟩] rfl
    (by intro j u hj; match j, hj with | 0, hj => simp at hj; subst hj; simp [Addr.add]) (by intro u hu; simp at hu; subst hu; rfl) (by unfold maxLen; omega) (by omega) (by simp; omega)
  obtain ⟨v', w3, hrun, h1, h2, h3⟩ := h 0
  obtain ⟨g, cap, rfl⟩ := ownsRow_succ h1
  exact ⟨g, cap, w3, fun ty => hrun, h1, h2⟩
theorem ko_row {W W' : World} {m e size k : Nat} {v : Value} {xs : List Value} (hr : W.ownsRow m e size v k xs) (hg : W.grownBy W' v.ownBlock) : KeepsOthers W W' :=
  KeepsOthers.of_grownBy hg fun j o ej hj => by
    rcases hr.2 with ⟨rfl, _⟩ | ⟨g, cap, cur, rfl, _, hgb, _⟩
    · simp [Value.ownBlock] at ej
    · obtain rfl : g = j := by simpa [Value.ownBlock] using ej
      rw [hgb] at hj; cases hj; rfl
theorem own_set {W : World} {m e size k : Nat} {v : Value} {xs : List Value} (hr : W.ownsRow m e size v k xs) {b : Nat} (hb : b < m) (u : Value) : (W.setCell ⟨b, 0, none⟩ u).ownsRow m e size v k xs :=
  hr.kept (grownBy_setCell' W b u) (.inr (row_ne hr hb).symm)
theorem boxed_set {W : World} {b c : Nat} {t : TypeId} {v : Value} (h : Boxed W c t v) (hne : c ≠ b) (u : Value) : Boxed (W.setCell ⟨b, 0, none⟩ u) c t v :=
  h.kept (grownBy_setCell' W b u) (fun e => hne (by cases e; rfl))
theorem below_row {n : Nat} {w W W' : World} {m e size k : Nat} {v : Value} {xs : List Value} (h : Below n w W) (hn : n ≤ W.heap.size) (hnm : n ≤ m) (hr : W.ownsRow m e size v k xs) (hg : W.grownBy W' v.ownBlock) : Below n w W' :=
  h.grown hg hn (fun j ej => by
    rcases hr.2 with ⟨rfl, _⟩ | ⟨g, cap, cur, rfl, hb, _⟩
    · simp [Value.ownBlock] at ej
    · obtain rfl : g = j := by simpa [Value.ownBlock] using ej
      omega)
end Go.Proofs.Ytbikcpchlgmoaaa.Page
