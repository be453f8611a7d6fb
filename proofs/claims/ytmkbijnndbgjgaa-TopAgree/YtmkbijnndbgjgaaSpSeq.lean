/- slices.Values, AppendSeq and Collect at runs. -/
import Derived.Test.YtmkbijnndbgjgaaSpGath
import Derived.RangeFuncNested
import Derived.RangeFuncBound
import Derived.RangeFuncCalls
import Derived.RangeFuncLeaves
import Derived.RangeFuncBox
import Derived.Shelf.Abstract
import Derived.Shelf.RegionOpen
import Derived.OwnWalkIn
import Derived.OwnWalk
import Derived.Laws.AppendOwn
import Derived.TacticsInMore
import Derived.LoopNIn
import Derived.LoopIn
import Derived.Sort.CutIn
import Derived.Maps.AppendAt
set_option linter.unusedVariables false
namespace Go.Proofs.Ytmkbijnndbgjgaa.Sp
open Go.RowKit Go.Shelf
open Go.Proofs.Ytmkbijnndbgjgaa.Lk (HasRow hasRow_own addr_add)
open Go.Proofs.Ytmkbijnndbgjgaa.Addr (wideN rightB hiN loN adV RowAt below2 below_drew below_new bset RowAt.lt RowAt.cell RowAt.frozen RowAt.below RowAt.drew RowAt.new RowAt.alloc cells2 cells4)
attribute [local go_sem] Oper.semAt_some
attribute [-go_sem] Builtin.append_
def encsR (x : Sp) : Array Value := #[.agg #[.int .u64 (hiN x.1 : Int), .int .u64 (loN x.1 : Int), .int .u64 (hiN x.2 : Int), .int .u64 (loN x.2 : Int)]]
theorem grown_of {w w' : World} (h : Below w.heap.size w w') : w.grownBy w' none := ⟨h.os, h.tape, h.output, h.size, fun k hk _ => h.block k hk⟩
theorem values_any (v : Value) (w : World) (hv : ∃ o n c, v = .slice o n c) :
    Calls Try.prog 95 #[v] w fun e w' => e = .returned (.func (.func 112) #[] #[.pointer (some ⟨w.heap.size, 0, none⟩)]) ∧ w' = w.alloc (.cells #[v] 118) := by
  obtain ⟨o, n, c, rfl⟩ := hv
  go_enter Try.func95, Try.ntmps95
  go_wp2
  go_ret
  exact ⟨rfl, rfl⟩
set_option maxHeartbeats 4000000 in
set_option maxRecDepth 20000 in
theorem values1_stops (l : List Sp) (o : Option Addr) (cap n Bn : Nat) (w : World) (hBn : Bn < w.heap.size) (hc : w.cell? ⟨Bn, 0, none⟩ = some (.slice o l.length cap)) (hp : HasSps w (.slice o l.length cap) l) (hl : l.length ≤ 1000000) :
    SeqStopsK Fence.wide n Try.prog 112 #[.pointer (some ⟨Bn, 0, none⟩)] encsR (Below w.heap.size) (fun xs => xs = l) (fun pre => ∃ j, j ≤ l.length ∧ pre = l.take j) l.length w := by
  intro lp J Jx W hW hJ hJx hY h0
  have hcW : W.cell? ⟨Bn, 0, none⟩ = some (.slice o l.length cap) := (hW.cell (p := ⟨Bn, 0, none⟩) hBn).trans hc
  have HC : Hid (∀ j (hj : j < l.length), ∃ b i, o = some ⟨b, i, none⟩ ∧ b < w.heap.size ∧ w.cell? ⟨b, i + j * 4, none⟩ = some (.int .u64 (hiN l[j].1 : Int)) ∧ w.cell? ⟨b, i + j * 4 + 1, none⟩ = some (.int .u64 (loN l[j].1 : Int)) ∧ w.cell? ⟨b, i + j * 4 + 2, none⟩ = some (.int .u64 (hiN l[j].2 : Int)) ∧ w.cell? ⟨b, i + j * 4 + 3, none⟩ = some (.int .u64 (loN l[j].2 : Int))) := fun j hj => HasSps.cell hp j hj
  have hWs := hW.size
  have HY : Hid _ := hY
  obtain ⟨m, hm⟩ : ∃ m, m = l.length := ⟨_, rfl⟩
  have HM : Hid (m = l.length) := hm
  have hm5 : m ≤ 1000000 := by omega
  rw [← hm] at hcW
  have h00 : J (l.take 0) W := h0
  clear hm hp hc hl hY h0
  show CallsIn Fence.wide n Try.prog 112 #[.func (.yield lp) #[] #[], .pointer (some ⟨Bn, 0, none⟩)] W _
  refine callsIn_of_wp Try.func112 rfl trivial ?_ rfl
  simp only [Try.ntmps112, List.size_toArray, List.length_cons, List.length_nil, Nat.reduceAdd, Nat.reduceSub, Array.replicate_succ, Array.replicate_zero, List.push_toArray, List.append_toArray, List.nil_append, List.cons_append]
  gi_wp2
  gi_loopw [7] (fun p wr => ∃ j : Nat, j ≤ m ∧ p = .int .i64 (j : Int) ∧ J (l.take j) wr ∧ Below w.heap.size w wr) (fun p _ => m - (intOf p).toNat)
  case atStart => exact ⟨0, by omega, by go_num, h00, hW⟩
  case round =>
    obtain ⟨j, hj, rfl, hJs, hB⟩ := hrel
    by_cases hlt : j < m
    · have hjz : j < l.length := by rw [← HM.out]; omega
      obtain ⟨b, i, rfl, hb, e1, e2, e3, e4⟩ := HC.out j hjz
      have hBs := hB.size
      have hbA : Below wr.heap.size wr (wr.alloc (.cells #[.int .u64 (hiN l[j].1 : Int), .int .u64 (loN l[j].1 : Int), .int .u64 (hiN l[j].2 : Int), .int .u64 (loN l[j].2 : Int)] 130)) := below_new (Below.refl _ _) _
      have hJ1 := hJ (l.take j) wr _ none hJs (grown_of hbA) (fun r e => by cases e)
      have hB1 : Below w.heap.size w (wr.alloc (.cells #[.int .u64 (hiN l[j].1 : Int), .int .u64 (loN l[j].1 : Int), .int .u64 (hiN l[j].2 : Int), .int .u64 (loN l[j].2 : Int)] 130)) := hB.trans (hbA.mono hBs)
      have d1 := (hB.cell (p := ⟨b, i + j * 4, none⟩) hb).trans e1
      have d2 := (hB.cell (p := ⟨b, i + j * 4 + 1, none⟩) hb).trans e2
      have d3 := (hB.cell (p := ⟨b, i + j * 4 + 2, none⟩) hb).trans e3
      have d4 := (hB.cell (p := ⟨b, i + j * 4 + 3, none⟩) hb).trans e4
      have hjm : (j : Int) < (m : Int) := by omega
      obtain ⟨fn, tmps, assign, body, hy, hR⟩ := HY.out (l.take j) l[j] _ hJ1 (by rw [List.length_take]; omega)
      have HT : Hid (l.take (j + 1) = l.take j ++ [l[j]]) := List.take_succ_eq_append_getElem hjz
      unfold encsR at hy
      generalize l[j] = x at *
      obtain ⟨x1, x2⟩ := x
      simp only at d1 d2 d3 d4 hy hB1
      obtain ⟨X, hX⟩ : ∃ X, X = wr.alloc (.cells #[.int .u64 (hiN x1 : Int), .int .u64 (loN x1 : Int), .int .u64 (hiN x2 : Int), .int .u64 (loN x2 : Int)] 130) := ⟨_, rfl⟩
      have r0 : RowAt X wr.heap.size [.int .u64 (hiN x1 : Int), .int .u64 (loN x1 : Int), .int .u64 (hiN x2 : Int), .int .u64 (loN x2 : Int)] 130 := by rw [hX]; exact RowAt.new _ _ _
      rw [← hX] at hy hR hB1
      generalize (hiN x1 : Int) = a1 at *
      generalize (loN x1 : Int) = a2 at *
      generalize (hiN x2 : Int) = a3 at *
      generalize (loN x2 : Int) = a4 at *
      clear e1 e2 e3 e4 hbA hJ1
      gi_upto_region 3 with fail
      rw [← hX]
      clear hX
      obtain ⟨y0, y1, y2, y3, yf⟩ := cells4 r0
      gi_wp2
      refine ⟨fun h => by simp [Fence.wide] at h, ?_⟩
      refine hR.mono ?_
      rintro e W3 (⟨rfl, hJ3, hk3⟩ | ⟨rfl, hJx3⟩)
      · gi_wp2
        refine ⟨⟨j + 1, by omega, by go_num, by rw [HT.out]; exact hJ3, hB1.trans hk3⟩, ?_⟩
        simp [intOf]
        try omega
      · gi_wp2
        (try simp only [Exit.inBlock, Exit.then])
        refine bodyPost_ret (results_none rfl _ _ _) rfl ?_
        exact ⟨⟨_, rfl⟩, .inr ⟨_, ⟨j + 1, by omega, HT.out.symm⟩, hJx3⟩⟩
    · have hjm : decide ((j : Int) < (m : Int)) = false := decide_eq_false (by omega)
      have hte : l.take j = l := List.take_of_length_le (by have := HM.out; omega)
      rw [hte] at hJs
      gi_wp2
      go_end0
      exact ⟨⟨_, rfl⟩, .inl ⟨_, rfl, hJs⟩⟩
end Go.Proofs.Ytmkbijnndbgjgaa.Sp
