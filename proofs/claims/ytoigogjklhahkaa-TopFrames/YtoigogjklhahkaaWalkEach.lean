/- The iterator frame.each: what it tells, for whatever loop ranges over it. -/
import Derived.Test.YtoigogjklhahkaaWalkFirst
import Derived.RangeFuncNested
import Derived.RangeFuncBound
import Derived.RangeFuncCalls
import Derived.RangeFuncLeaves
import Derived.RangeFuncBox
import Derived.Shelf.Abstract
import Derived.Shelf.RegionOpen
import Derived.OwnWalkIn
import Derived.TacticsInMore
import Derived.LoopNIn
import Derived.LoopIn
import Derived.Maps.AppendAt
set_option linter.unusedVariables false
namespace Go.Proofs.Ytoigogjklhahkaa.Frame
open Go.RowKit Go.Shelf
attribute [local go_sem] Oper.semAt_some

abbrev T3 : Type := List UInt8 × List UInt8 × Int
abbrev Told : Type := { x : T3 // x.1.length ≤ 281474976710656 ∧ x.2.1.length ≤ 281474976710656 }
def encs (x : Told) : Array Value := #[.agg #[.string ⟨x.1.1.toArray⟩, .string ⟨x.1.2.1.toArray⟩], .int .i64 x.1.2.2]

/-- what has been told, all of it well: what is left -/
def TOk : List UInt8 → List T3 → List UInt8 → Prop
  | s, [], cur => cur = s
  | s, x :: pre, cur => nextL s = (x.1, x.2.1, 0) ∧ x.2.2 = 0 ∧ TOk x.2.1 pre cur
theorem TOk.nil {s : List UInt8} : TOk s [] s := rfl
theorem TOk.snoc {pre : List T3} : ∀ {s cur p r : List UInt8}, TOk s pre cur → nextL cur = (p, r, 0) → TOk s (pre ++ [(p, r, 0)]) r := by
  induction pre with
  | nil => intro s cur p r h hn; have e : cur = s := h; subst e; exact ⟨hn, rfl, rfl⟩
  | cons x pre ih => intro s cur p r h hn; exact ⟨h.1, h.2.1, ih h.2.2 hn⟩
theorem TOk.le {pre : List T3} : ∀ {s cur : List UInt8}, TOk s pre cur → cur.length ≤ s.length := by
  induction pre with
  | nil => intro s cur h; have e : cur = s := h; subst e; exact Nat.le_refl _
  | cons x pre ih => intro s cur h; have := ih h.2.2; have := (nextL_lt h.1).2; omega
theorem TOk.all {pre : List T3} : ∀ {s cur : List UInt8}, TOk s pre cur → allL s = (pre.map (·.1) ++ (allL cur).1, (allL cur).2) := by
  induction pre with
  | nil => intro s cur h; have e : cur = s := h; subst e; simp
  | cons x pre ih => intro s cur h; rw [allL_ok h.1, ih h.2.2]; simp
theorem TOk.good {pre : List T3} : ∀ {s cur : List UInt8}, TOk s pre cur → ∀ x ∈ pre, x.2.2 = 0 := by
  induction pre with
  | nil => intro s cur _ x hx; simp at hx
  | cons y pre ih =>
    intro s cur h x hx
    rcases List.mem_cons.1 hx with rfl | hx
    · exact h.2.1
    · exact ih h.2.2 x hx
/-- all has been told: the last one is refused -/
def TAll (s : List UInt8) (xs : List Told) : Prop := ∃ pre cur, TOk s pre cur ∧ (nextL cur).2.2 ≠ 0 ∧ xs.map (·.1) = pre ++ [nextL cur]
def TPart (s : List UInt8) (xs : List Told) : Prop := ∃ pre cur, TOk s pre cur ∧ xs.map (·.1) = pre ++ [nextL cur]

/-- a frame's own cells that lie at B or beyond are kept -/
def Kc (B : Nat) (W W' : World) : Prop := W.heap.size ≤ W'.heap.size ∧ ∀ k cs fr, B ≤ k → W.heap[k]? = some (.cells cs 66 fr) → W'.heap[k]? = some (.cells cs 66 fr)
theorem Kc.trans {B : Nat} {X Y Z : World} (h : Kc B X Y) (k : Kc B Y Z) : Kc B X Z := ⟨Nat.le_trans h.1 k.1, fun i cs fr hB hi => k.2 i cs fr hB (h.2 i cs fr hB hi)⟩
theorem Kc.grown {B : Nat} {W W' : World} {row : Option Nat} (hg : W.grownBy W' row) (h : ∀ k cs fr, B ≤ k → row = some k → W.heap[k]? ≠ some (.cells cs 66 fr)) : Kc B W W' := by
  refine ⟨hg.size, fun k cs fr hB hk => ?_⟩
  by_cases e : row = some k
  · exact absurd hk (h k cs fr hB e)
  · exact (hg.block k (Array.getElem?_eq_some_iff.1 hk).1 (fun e' => e e'.symm)).trans hk
theorem Kc.put {B : Nat} (W : World) (l : Nat) (o o' : Obj) (h : W.heap[l]? = some o) (hc : o.isCells = false) : Kc B W (W.putObj l o') :=
  Kc.grown (grownBy_putObj' W l o') (fun k cs fr _ e hk => by cases e; rw [h] at hk; cases hk; cases hc)
theorem Kc.below {B : Nat} {W W' : World} (h : Below W.heap.size W W') : Kc B W W' := ⟨h.size, fun k cs fr _ hk => (h.block k (Array.getElem?_eq_some_iff.1 hk).1).trans hk⟩
theorem Kc.set {B : Nat} (W : World) (b : Nat) (v : Value) (hb : b < B) : Kc B W (W.setCell ⟨b, 0, none⟩ v) :=
  Kc.grown (grownBy_setCell' W b v) (fun k cs fr hB e => by cases e; omega)
theorem Kc.row {B n₀ e size k : Nat} {W W' : World} {v : Value} {xs : List Value} (hr : W.ownsRow n₀ e size v k xs) (he : e ≠ 66) (hg : W.grownBy W' v.ownBlock) : Kc B W W' := by
  refine Kc.grown hg (fun j cs fr _ ej hj => ?_)
  rcases hr.2 with ⟨rfl, _⟩ | ⟨g, cap, cur, rfl, _, hgb, _⟩
  · simp [Value.ownBlock] at ej
  · obtain rfl : g = j := by simpa [Value.ownBlock] using ej
    rw [hgb] at hj
    injection hj with hj
    injection hj with _ hj
    exact he hj
theorem grown_of {w w' : World} (h : Below w.heap.size w w') : w.grownBy w' none := ⟨h.os, h.tape, h.output, h.size, fun k hk _ => h.block k hk⟩
def strLen : Value → Nat
  | .string s => s.size
  | _ => 0

theorem told_le (l : List UInt8) (hl : l.length ≤ 281474976710656) : (nextL l).1.length ≤ 281474976710656 ∧ (nextL l).2.1.length ≤ 281474976710656 := by
  have := nextL_le l; omega
theorem TOk.many {s : List UInt8} {pre : List T3} {cur : List UInt8} (h : TOk s pre cur) : pre.length ≤ (allL s).1.length := by
  rw [h.all]; simp

set_option maxHeartbeats 1000000 in
theorem each1_stops (l : List UInt8) (hl : l.length ≤ 281474976710656) (n Bn : Nat) (w : World) (hBn : Bn < w.heap.size) (hc : w.cell? ⟨Bn, 0, none⟩ = some (.string ⟨l.toArray⟩)) :
    SeqStopsK Fence.wide n Try.prog 45 #[.pointer (some ⟨Bn, 0, none⟩)] encs (Kc w.heap.size) (TAll l) (TPart l) ((allL l).1.length + 1) w := by
  intro lp J Jx W hW hJ hJx hY h0
  have hcW : W.cell? ⟨Bn, 0, none⟩ = some (.string ⟨l.toArray⟩) := (hW.cell (p := ⟨Bn, 0, none⟩) hBn).trans hc
  have hWs := hW.size
  show CallsIn Fence.wide n Try.prog 45 #[.func (.yield lp) #[] #[], .pointer (some ⟨Bn, 0, none⟩)] W _
  refine callsIn_of_wp Try.func45 rfl trivial ?_ rfl
  simp only [Try.ntmps45, List.size_toArray, List.length_cons, List.length_nil, Nat.reduceAdd, Nat.reduceSub, Array.replicate_succ, Array.replicate_zero, List.push_toArray, List.append_toArray, List.nil_append, List.cons_append]
  gi_wp2
  gi_loopw [3] (fun p wr => ∃ (pre : List Told) (cur : List UInt8), p = .string ⟨cur.toArray⟩ ∧ TOk l (pre.map (·.1)) cur ∧ J pre wr ∧ W.heap.size ≤ wr.heap.size) (fun p _ => strLen p)
  case atStart => exact ⟨[], l, rfl, .nil, h0, Nat.le_refl _⟩
  case round =>
    obtain ⟨pre, cur, rfl, hT, hJs, hsz⟩ := hrel
    have hcl : cur.length ≤ 281474976710656 := Nat.le_trans hT.le hl
    have hmany := hT.many
    rw [List.length_map] at hmany
    obtain ⟨⟨p, r, y⟩, hn⟩ : ∃ g, nextL cur = g := ⟨_, rfl⟩
    have hle := told_le cur hcl
    have c1 := fun W => first_any cur W hcl
    unfold OneIs at c1
    rw [hn] at c1 hle
    simp only at c1 hle
    obtain ⟨x, hx⟩ : ∃ x : Told, x.1 = (p, r, y) := ⟨⟨(p, r, y), hle⟩, rfl⟩
    have hen : encs x = #[.agg #[.string ⟨p.toArray⟩, .string ⟨r.toArray⟩], .int .i64 y] := by rw [encs, hx]
    gi_wp2_with fail
    refine ⟨trivial, fun h => by simp [Fence.wide] at h, ?_⟩
    gi_at_call 46; refine (callsIn_wide.2 (c1 _)).mono ?_; rintro e w1 ⟨rfl, hb1⟩
    have hb2 : Below wr.heap.size wr (w1.alloc (.cells #[.string ⟨p.toArray⟩, .string ⟨r.toArray⟩] 66)) := hb1.alloc hb1.size _
    have hs1 := hb1.size
    have hJ1 := hJ pre wr _ none hJs (grown_of hb2) (fun r e => by cases e)
    obtain ⟨fn, tmps, assign, body, hy, hR⟩ := hY pre x _ hJ1 (by omega)
    rw [hen] at hy
    gi_wp2
    refine ⟨fun h => by simp [Fence.wide] at h, ?_⟩
    refine hR.mono ?_
    rintro e W3 (⟨rfl, hJ3, hk3⟩ | ⟨rfl, hJx3⟩)
    · have hblk := hk3.2 w1.heap.size _ _ (by omega) (World.alloc_heap_new w1 (.cells #[.string ⟨p.toArray⟩, .string ⟨r.toArray⟩] 66))
      have hq : W3.cell? ⟨w1.heap.size, 1, none⟩ = some (.string ⟨r.toArray⟩) := by simp [World.cell?, hblk]
      have hs3 := hk3.1
      rw [World.size_alloc] at hs3
      by_cases hy0 : y = 0
      · subst hy0
        have HT' : Hid (TOk l ((pre ++ [x]).map (·.1)) r) := by
          show TOk _ _ _
          rw [List.map_append, List.map_singleton, hx]
          exact .snoc hT hn
        have HL : Hid (r.length < cur.length) := (nextL_lt hn).2
        clear hn hx hT hen
        gi_wp2
        refine ⟨⟨pre ++ [x], r, rfl, HT'.out, hJ3, by omega⟩, ?_⟩
        show (⟨r.toArray⟩ : ByteArray).size < (⟨cur.toArray⟩ : ByteArray).size
        rw [size_list, size_list]
        exact HL.out
      · have hne : (y != 0) = true := by simpa using hy0
        gi_wp2
        (try simp only [Exit.inBlock, Exit.then])
        refine bodyPost_ret (results_none rfl _ _ _) rfl ?_
        refine ⟨⟨_, rfl⟩, .inl ⟨_, ⟨_, _, hT, ?_, ?_⟩, hJ3⟩⟩
        · rw [hn]; exact hy0
        · rw [List.map_append, List.map_singleton, hx, hn]
    · gi_wp2
      (try simp only [Exit.inBlock, Exit.then])
      refine bodyPost_ret (results_none rfl _ _ _) rfl ?_
      refine ⟨⟨_, rfl⟩, .inr ⟨_, ⟨_, _, hT, ?_⟩, hJx3⟩⟩
      rw [List.map_append, List.map_singleton, hx, hn]
end Go.Proofs.Ytoigogjklhahkaa.Frame
