/- What (*drive).holds and disk.Read return. -/
import Derived.Test.YtoigogjklhahkaaDiskCrash
import Derived.RangeFuncNested
import Derived.RangeFuncBound
import Derived.RangeFuncCalls
import Derived.RangeFuncLeaves
import Derived.RangeFuncBox
import Derived.Shelf.Abstract
import Derived.Shelf.RegionOpen
import Derived.OwnWalkIn
import Derived.TacticsInMore
import Derived.LoopNIn
import Derived.LoopIn
set_option linter.unusedVariables false
namespace Go.Proofs.Ytoigogjklhahkaa.Disk
open Go.RowKit Go.Shelf
attribute [local go_sem] Oper.semAt_some

abbrev BackT : Type := Nat × PutT
def encsP (x : BackT) : Array Value := #[.int .i64 (x.1 : Int), .agg #[.int .i64 x.2.1, .string ⟨x.2.2.toArray⟩]]
def backAt (ps : List PutT) (t : Nat) : BackT := (ps.length - 1 - t, ps.getD (ps.length - 1 - t) (0, []))
def upto (ps : List PutT) (j : Nat) : List BackT := (List.range j).map (backAt ps)
theorem upto_succ (ps : List PutT) (j : Nat) : upto ps (j + 1) = upto ps j ++ [backAt ps j] := by simp [upto, List.range_succ]
theorem upto_len (ps : List PutT) (j : Nat) : (upto ps j).length = j := by simp [upto]
/-- the loop's variable -/
def PBox (B : Nat) (x : BackT) (W : World) (Bx : Nat) : Prop := B ≤ Bx ∧ W.heap[Bx]? = some (.cells #[.int .i64 x.2.1, .string ⟨x.2.2.toArray⟩] 76)
theorem pbox_own (B : Nat) (x : BackT) (Bx : Nat) : Own (fun (_ : Unit) W => PBox B x W Bx) := by
  rintro s X Y row ⟨h1, h2⟩ hg hrow
  refine ⟨h1, (hg.block Bx (Array.getElem?_eq_some_iff.1 h2).1 (fun e => ?_)).trans h2⟩
  obtain ⟨o, ho, hc⟩ := hrow Bx e.symm
  rw [h2] at ho; cases ho; cases hc
theorem PBox.cells {B : Nat} {x : BackT} {W : World} {Bx : Nat} (h : PBox B x W Bx) : W.cell? ⟨Bx, 0, none⟩ = some (.int .i64 x.2.1) ∧ W.cell? ⟨Bx, 1, none⟩ = some (.string ⟨x.2.2.toArray⟩) := by
  have := h.2
  exact ⟨by simp [World.cell?, this], by simp [World.cell?, this]⟩
/-- what a sector holds -/
def holdsL (secs : List (List UInt8)) (ps : List PutT) (at' : Int) : List UInt8 := ((ps.reverse.find? (fun p => p.1 == at')).map (·.2)).getD (secs.getD at'.toNat [])
theorem upto_rev (ps : List PutT) (j : Nat) (hj : j ≤ ps.length) : (upto ps j).map (·.2) = ps.reverse.take j := by
  apply List.ext_getElem
  · simp [upto]; omega
  · intro i h1 h2
    simp only [upto, List.length_map, List.length_range] at h1
    simp only [upto, List.map_map, List.getElem_map, List.getElem_range, Function.comp, backAt, List.getElem_take, List.getElem_reverse]
    rw [List.getD_eq_getElem?_getD, List.getElem?_eq_getElem (by omega)]
    rfl
theorem holds_none (secs : List (List UInt8)) (ps : List PutT) (at' : Nat) (h : ∀ x ∈ upto ps ps.length, (x.2.1 == (at' : Int)) = false) : holdsL secs ps (at' : Int) = secs.getD at' [] := by
  have h1 : ps.reverse.find? (fun p => p.1 == (at' : Int)) = none := by
    rw [List.find?_eq_none]
    intro p hp
    have h2 : p ∈ (upto ps ps.length).map (·.2) := by rw [upto_rev ps _ (Nat.le_refl _), List.take_of_length_le (by simp)]; exact hp
    obtain ⟨x, hx, rfl⟩ := List.mem_map.1 h2
    rw [h x hx]; decide
  rw [holdsL, h1, Int.toNat_natCast]; rfl
theorem holds_some (secs : List (List UInt8)) (ps : List PutT) (at' j : Nat) (hj : j ≤ ps.length) {pre : List BackT} {x : BackT} (e : upto ps j = pre ++ [x]) (h : ∀ y ∈ pre, (y.2.1 == (at' : Int)) = false) (hx : (x.2.1 == (at' : Int)) = true) : holdsL secs ps (at' : Int) = x.2.2 := by
  have h1 := upto_rev ps j hj
  rw [e, List.map_append, List.map_singleton] at h1
  have h2 : ps.reverse = pre.map (·.2) ++ (x.2 :: ps.reverse.drop j) := by
    conv => lhs; rw [← List.take_append_drop j ps.reverse, ← h1]
    simp
  have h3 : (pre.map (·.2)).find? (fun p => p.1 == (at' : Int)) = none := by
    rw [List.find?_eq_none]
    intro p hp
    obtain ⟨y, hy, rfl⟩ := List.mem_map.1 hp
    rw [h y hy]; decide
  rw [holdsL, h2, List.find?_append, h3, Option.none_or, List.find?_cons, hx]
  rfl
def readD (d : Dk) (at' : Int) : List UInt8 × Int := if okB d = true then (if d.off = true then ([], 9) else if inB d.secs.length at' = true then (holdsL d.secs d.cache at', 0) else ([], 1)) else ([], 2)
def TextIs (r : List UInt8 × Int) (w : World) (e : Ending) (w' : World) : Prop := e = .returned (.tuple #[strV r.1, .int .i64 r.2]) ∧ Below w.heap.size w w'
theorem textIs_of {r : List UInt8 × Int} {w w' : World} {l : List UInt8} {n : Int} (h : r = (l, n)) (hb : Below w.heap.size w w') : TextIs r w (.returned (.tuple #[.string ⟨l.toArray⟩, .int .i64 n])) w' := by rw [h]; exact ⟨rfl, hb⟩
theorem holdsL_len (d : Dk) (h : Ok d) (k : Nat) (hk : k < d.secs.length) : (holdsL d.secs d.cache (k : Int)).length = 128 := by
  unfold holdsL
  cases hf : d.cache.reverse.find? (fun p => p.1 == (k : Int)) with
  | none => rw [Int.toNat_natCast]; exact h.whole _ (getD_mem hk)
  | some p => exact (h.puts p (by have := List.mem_of_find?_eq_some hf; simpa using this)).2
end Go.Proofs.Ytoigogjklhahkaa.Disk
