/- The iterator gram.each: what it tells, for whatever loop ranges over it. -/
import Derived.Test.YtopabkkapbaibaaGramFirst
import Derived.RangeFuncNested
import Derived.RangeFuncBound
import Derived.RangeFuncCalls
import Derived.RangeFuncLeaves
import Derived.RangeFuncBox
import Derived.Shelf.Abstract
import Derived.Shelf.RegionOpen
import Derived.OwnWalkIn
import Derived.TacticsInMore
import Derived.LoopNIn
import Derived.LoopIn
import Derived.Maps.AppendAt
set_option linter.unusedVariables false
namespace Go.Proofs.Ytopabkkapbaibaa.Gram
open Go.RowKit Go.Shelf
open Go.Proofs.Ytopabkkapbaibaa.Addr (RowAt below2 below_drew below_new bset RowAt.lt RowAt.cell RowAt.frozen RowAt.below RowAt.drew RowAt.new RowAt.alloc cells2 cells4)
attribute [local go_sem] Oper.semAt_some

abbrev Told : Type := { x : PcT // x.1 ≤ 255 ∧ x.2.length ≤ 64 }
def encs (x : Told) : Array Value := #[.agg #[.int .u8 (x.1.1 : Int), .string ⟨x.1.2.toArray⟩]]
/-- what has been told: what is left -/
def TG (s : List UInt8) (pre : List PcT) (cur : List UInt8) : Prop := cur.length ≤ s.length ∧ piecesL s = pre ++ piecesL cur
theorem TG.nil {s : List UInt8} : TG s [] s := ⟨Nat.le_refl _, rfl⟩
theorem TG.none {s : List UInt8} {pre : List PcT} {cur : List UInt8} (h : TG s pre cur) (hc : cur ≠ []) (hk : (firstG cur).1.1 = 0) : TG s pre (firstG cur).2 :=
  ⟨by have := firstG_len _ hc; have := h.1; omega, by rw [h.2, pieces_step _ hc, if_pos hk]; rfl⟩
theorem TG.one {s : List UInt8} {pre : List PcT} {cur : List UInt8} (h : TG s pre cur) (hc : cur ≠ []) (hk : (firstG cur).1.1 ≠ 0) : TG s (pre ++ [(firstG cur).1]) (firstG cur).2 :=
  ⟨by have := firstG_len _ hc; have := h.1; omega, by rw [h.2, pieces_step _ hc, if_neg hk, List.append_assoc]⟩
theorem TG.le {s : List UInt8} {pre : List PcT} {cur : List UInt8} (h : TG s pre cur) : cur.length ≤ s.length := h.1
theorem TG.all {s : List UInt8} {pre : List PcT} {cur : List UInt8} (h : TG s pre cur) : piecesL s = pre ++ piecesL cur := h.2
def strLen : Value → Nat
  | .string s => s.size
  | _ => 0
theorem grown_of {w w' : World} (h : Below w.heap.size w w') : w.grownBy w' none := ⟨h.os, h.tape, h.output, h.size, fun k hk _ => h.block k hk⟩
theorem kind_le (s : List UInt8) : (firstG s).1.1 ≤ 255 := by
  unfold firstG
  split
  · simp
  · split
    · unfold msgG
      split
      · split
        · simp
        · split <;> simp
      · simp
    · simp
def TAll (s : List UInt8) (xs : List Told) : Prop := xs.map (·.1) = piecesL s
set_option maxHeartbeats 4000000 in
set_option maxRecDepth 20000 in
theorem each1_stops (l : List UInt8) (hl : l.length ≤ 281474976710656) (n Bn : Nat) (w : World) (hBn : Bn < w.heap.size) (hc : w.cell? ⟨Bn, 0, none⟩ = some (.string ⟨l.toArray⟩)) :
    SeqStopsK Fence.wide n Try.prog 39 #[.pointer (some ⟨Bn, 0, none⟩)] encs (fun _ _ => True) (TAll l) (fun _ => True) (piecesL l).length w := by
  intro lp J Jx W hW hJ hJx hY h0
  have hcW : W.cell? ⟨Bn, 0, none⟩ = some (.string ⟨l.toArray⟩) := (hW.cell (p := ⟨Bn, 0, none⟩) hBn).trans hc
  have hWs := hW.size
  show CallsIn Fence.wide n Try.prog 39 #[.func (.yield lp) #[] #[], .pointer (some ⟨Bn, 0, none⟩)] W _
  refine callsIn_of_wp Try.func39 rfl trivial ?_ rfl
  simp only [Try.ntmps39, List.size_toArray, List.length_cons, List.length_nil, Nat.reduceAdd, Nat.reduceSub, Array.replicate_succ, Array.replicate_zero, List.push_toArray, List.append_toArray, List.nil_append, List.cons_append]
  gi_wp2
  gi_loopw [3] (fun p wr => ∃ (pre : List Told) (cur : List UInt8), p = .string ⟨cur.toArray⟩ ∧ TG l (pre.map (·.1)) cur ∧ J pre wr) (fun p _ => strLen p)
  case atStart => exact ⟨[], l, rfl, .nil, h0⟩
  case round =>
    obtain ⟨pre, cur, rfl, hT, hJs⟩ := hrel
    have hcl : cur.length ≤ 281474976710656 := Nat.le_trans hT.le hl
    by_cases hcur : cur = []
    · subst hcur
      have hall := hT.all
      rw [pieces_nil, List.append_nil] at hall
      gi_wp2
      (try simp only [Exit.inBlock, Exit.then])
      refine bodyPost_end (results_none rfl _ _ _) rfl ?_
      exact ⟨⟨_, rfl⟩, .inl ⟨pre, hall.symm, hJs⟩⟩
    · have hne : cur.isEmpty = false := by cases cur with | nil => exact absurd rfl hcur | cons => rfl
      have hlt := firstG_len cur hcur
      have hbd := firstG_body cur
      have hkl := kind_le cur
      have hstep := pieces_step cur hcur
      have c1 := fun W => first_any cur W hcl hcur
      have T0 : Hid ((firstG cur).1.1 = 0 → TG l (pre.map (·.1)) (firstG cur).2) := fun h => .none hT hcur h
      have T1 : Hid ((firstG cur).1.1 ≠ 0 → TG l (pre.map (·.1) ++ [(firstG cur).1]) (firstG cur).2) := fun h => .one hT hcur h
      have hall := hT.all
      have HM : Hid ((firstG cur).1.1 ≠ 0 → pre.length < (piecesL l).length) := fun h => by
        rw [hall, hstep, if_neg h, List.length_append, List.length_append, List.length_map]
        simp only [List.length_cons, List.length_nil]
        omega
      unfold pcV at c1
      generalize firstG cur = G at *
      obtain ⟨⟨k, bd⟩, r⟩ := G
      simp only at *
      clear hstep hall hT
      have HLt : Hid ((⟨r.toArray⟩ : ByteArray).size < (⟨cur.toArray⟩ : ByteArray).size) := by show _ < _; rw [size_list, size_list]; exact hlt
      gi_wp2_with fail
      refine ⟨trivial, fun h => by simp [Fence.wide] at h, ?_⟩
      gi_at_call 40; refine (callsIn_wide.2 (c1 _)).mono ?_; rintro e w1 ⟨rfl, hb1⟩
      have hR0 := (RowAt.new wr [.int .u8 0, .string ⟨#[]⟩] 70).below hb1
      obtain ⟨q0, q1, qf⟩ := cells2 hR0
      have hsz2 := hR0.lt
      have hBw : Below wr.heap.size wr w1 := below2 (below_new (Below.refl _ _) _) hb1
      clear hR0 hb1 c1
      by_cases hk : k = 0
      · subst hk
        have HE : Hid (TG l (pre.map (·.1)) r) := T0.out rfl
        clear T0 T1 HM
        gi_wp2
        refine ⟨fun _ e => (by cases e), ?_⟩
        have hb3 : Below wr.heap.size wr ((w1.setCell ⟨wr.heap.size, 0, none⟩ (.int .u8 0)).setCell ⟨wr.heap.size, 1, none⟩ (.string ⟨bd.toArray⟩)) := bset (bset hBw (Nat.le_refl _)) (Nat.le_refl _)
        have hJ1 := hJ pre wr _ none hJs (grown_of hb3) (fun r e => by cases e)
        have hs3 := hb3.size
        gi_wp2
        exact ⟨⟨pre, r, rfl, HE.out, hJ1⟩, HLt.out⟩
      · have hkn : ((k : Int) == 0) = false := by simpa using hk
        have hkn2 : ((k : Int) != 0) = true := by simpa using hk
        have HE := T1.out hk
        have hM := HM.out hk
        clear T0 T1 HM
        have hb3 : Below wr.heap.size wr ((w1.setCell ⟨wr.heap.size, 0, none⟩ (.int .u8 (k : Int))).setCell ⟨wr.heap.size, 1, none⟩ (.string ⟨bd.toArray⟩)) := bset (bset hBw (Nat.le_refl _)) (Nat.le_refl _)
        have hJ1 := hJ pre wr _ none hJs (grown_of hb3) (fun r e => by cases e)
        have hs3 := hb3.size
        obtain ⟨x, hx⟩ : ∃ x : Told, x.1 = (k, bd) := ⟨⟨(k, bd), hkl, hbd⟩, rfl⟩
        have hen : encs x = #[.agg #[.int .u8 (k : Int), .string ⟨bd.toArray⟩]] := by rw [encs, hx]
        have HE2 : Hid (TG l ((pre ++ [x]).map (·.1)) r) := by
          show TG _ _ _
          rw [List.map_append, List.map_singleton, hx]
          exact HE
        clear HE
        obtain ⟨fn, tmps, assign, body, hy, hR⟩ := hY pre x _ hJ1 hM
        rw [hen] at hy
        clear hx hen
        gi_wp2
        refine ⟨fun h => by simp [Fence.wide] at h, ?_⟩
        refine hR.mono ?_
        rintro e W3 (⟨rfl, hJ3, hk3⟩ | ⟨rfl, hJx3⟩)
        · gi_wp2
          exact ⟨⟨pre ++ [x], r, rfl, HE2.out, hJ3⟩, HLt.out⟩
        · gi_wp2
          (try simp only [Exit.inBlock, Exit.then])
          refine bodyPost_ret (results_none rfl _ _ _) rfl ?_
          exact ⟨⟨_, rfl⟩, .inr ⟨_, trivial, hJx3⟩⟩
end Go.Proofs.Ytopabkkapbaibaa.Gram
