/- Routes that rise: one row of each set of members, and what a put and a deletion leave, plain. -/
import Derived.Test.YtjgieaijdkmadaaTqD
import Derived.Test.YtjgieaijdkmadaaTqE
import Derived.Test.YtjgieaijdkmadaaTrBase
import Derived.Test.YtjgieaijdkmadaaMsgPfEq
import Derived.Test.YtjgieaijdkmadaaTqC
import Derived.Deep.RegionHeld3
import Derived.Test.YtjgieaijdkmadaaRows
import Derived.Test.YtjgieaijdkmadaaLkBase
import Derived.Deep.Matrix
import Derived.Deep.Strs
import Derived.Deep.SlicePairs
import Derived.ProofKit
import Derived.OpenShut
import Derived.SizedLaws
import Derived.Test.YtjgieaijdkmadaaAddrBase
import Derived.Test.YtjgieaijdkmadaaMsgChk
import Derived.Test.YtjgieaijdkmadaaTrInsM
set_option linter.unusedVariables false
namespace Go.Proofs.Ytjgieaijdkmadaa.Tl
open Go.RowKit
open Go.Proofs.Ytjgieaijdkmadaa.Addr (Pf okP hiN loN RowAt below2 below_drew below_new bset RowAt.lt RowAt.cell RowAt.frozen RowAt.below RowAt.drew RowAt.new RowAt.alloc cells4 results_cell)
open Go.Proofs.Ytjgieaijdkmadaa.Tr (Rt HasRts HasRts.keep FitR FitP longT rtA putT delT findE checkT okT zeroR)
open Go.Proofs.Ytjgieaijdkmadaa.Ct (HasAds HasAds.keep cutsT)
set_option maxHeartbeats 2000000 in
set_option maxRecDepth 20000 in
theorem v4_any (n : Int) (w : World) : Calls Try.prog 39 #[.int .u64 10, .int .i64 n] w fun e w' => e = .returned (.agg #[.bool false, .int .u64 0, .int .u64 167772160, .int .i64 n]) ∧ Below w.heap.size w w' := by
  obtain ⟨X, hX⟩ : ∃ X, X = w.alloc (.cells #[.bool false, .int .u64 0, .int .u64 0, .int .i64 0] 27) := ⟨_, rfl⟩
  have hB : Below w.heap.size w X := by rw [hX]; exact below_new (Below.refl _ _) _
  obtain ⟨g, hg⟩ : ∃ g, g = w.heap.size := ⟨_, rfl⟩
  have r0 : RowAt X g [.bool false, .int .u64 0, .int .u64 0, .int .i64 0] 27 := by rw [hX, hg]; exact RowAt.new _ _ _
  have hgw : w.heap.size ≤ g := by omega
  go_enter Try.func39, Try.ntmps39
  go_upto_region 1 with fail
  rw [← hX, ← hg]
  clear hX hg
  obtain ⟨y0, y1, y2, y3, yf⟩ := cells4 r0
  have yl := RowAt.lt r0
  clear r0
  go_wp2_with fail
  (try simp only [Exit.inBlock, Exit.then])
  refine bodyPost_ret (v := .agg #[.bool false, .int .u64 0, .int .u64 167772160, .int .i64 n]) ?_ rfl ⟨rfl, bset (bset (bset (bset hB hgw) hgw) hgw) hgw⟩
  rw [results_cell rfl]
  go_simp
def nine : Pf := ⟨false, 176160768, 9⟩
def ten : Pf := ⟨false, 167772160, 8⟩
def L1 : List Rt := [⟨nine, ⟨1, 3⟩⟩]
def L2 : List Rt := [⟨ten, ⟨2, 0⟩⟩, ⟨nine, ⟨1, 3⟩⟩]
def L3 : List Rt := [⟨ten, ⟨2, 0⟩⟩]
theorem fit9 : FitR ⟨nine, ⟨1, 3⟩⟩ := ⟨⟨by decide, by decide⟩, by decide, by decide, by decide⟩
theorem fit8 : FitR ⟨ten, ⟨2, 0⟩⟩ := ⟨⟨by decide, by decide⟩, by decide, by decide, by decide⟩
theorem fitB : FitR ⟨⟨false, 167772160, 4⟩, ⟨2, 0⟩⟩ := ⟨⟨by decide, by decide⟩, by decide, by decide, by decide⟩
theorem fitL1 : ∀ x ∈ L1, FitR x := fun x h => by rcases List.mem_singleton.1 h with rfl; exact fit9
theorem fitL3 : ∀ x ∈ L3, FitR x := fun x h => by rcases List.mem_singleton.1 h with rfl; exact fit8
theorem fitL2 : ∀ x ∈ L2, FitR x := fun x h => by
  rcases List.mem_cons.1 h with rfl | h
  · exact fit8
  · exact fitL1 x h
/-- a row is answered, with an error -/
def RtsIs (l : List Rt) (n : Nat) (z : Int) (w : World) (e : Ending) (w' : World) : Prop := ∃ o c, e = .returned (.tuple #[.slice o n c, .int .i64 z]) ∧ HasRts w' (.slice o n c) l ∧ Below w.heap.size w w'
theorem rts_is {l m : List Rt} {z y : Int} {n : Nat} {w : World} {e : Ending} {w' : World} (h : ∃ u, e = .returned (.tuple #[u, .int .i64 z]) ∧ HasRts w' u l ∧ Below w.heap.size w w') (hl : l = m) (hn : m.length = n) (hz : z = y) : RtsIs m n y w e w' := by
  obtain ⟨u, rfl, hu, hb⟩ := h
  subst hl hz hn
  obtain ⟨o, c, rfl, _⟩ := Lk.HasRow.slice hu
  exact ⟨o, c, rfl, hu, hb⟩
theorem pv1 (W : World) : Calls Try.prog 9 #[.slice none 0 0, .agg #[.bool false, .int .u64 0, .int .u64 176160768, .int .i64 9, .int .u8 1, .int .i64 3]] W (RtsIs L1 1 0 W) :=
  (Tr.put_any [] (.slice none 0 0) ⟨nine, ⟨1, 3⟩⟩ W (Lk.hasRow_nil _ 6) (fun x h => by cases h) fit9).mono (fun e w' h => rts_is h (by kernel_rfl) rfl (by decide +kernel))
theorem pv2 (W : World) (o : Option Addr) (c : Nat) (h : HasRts W (.slice o 1 c) L1) : Calls Try.prog 9 #[.slice o 1 c, .agg #[.bool false, .int .u64 0, .int .u64 167772160, .int .i64 8, .int .u8 2, .int .i64 0]] W (RtsIs L2 2 0 W) :=
  (Tr.put_any L1 _ ⟨ten, ⟨2, 0⟩⟩ W h fitL1 fit8).mono (fun e w' h => rts_is h (by kernel_rfl) rfl (by decide +kernel))
theorem pv3 (W : World) (o : Option Addr) (c : Nat) (h : HasRts W (.slice o 2 c) L2) : Calls Try.prog 9 #[.slice o 2 c, .agg #[.bool false, .int .u64 0, .int .u64 167772160, .int .i64 4, .int .u8 2, .int .i64 0]] W (RtsIs [] 0 2 W) :=
  (Tr.put_any L2 _ ⟨⟨false, 167772160, 4⟩, ⟨2, 0⟩⟩ W h fitL2 fitB).mono (fun e w' h => rts_is h (by kernel_rfl) rfl (by decide +kernel))
theorem dl1 (W : World) (o : Option Addr) (c : Nat) (h : HasRts W (.slice o 2 c) L2) : Calls Try.prog 11 #[.slice o 2 c, .agg #[.bool false, .int .u64 0, .int .u64 176160768, .int .i64 9]] W (RtsIs L3 1 0 W) :=
  (Tr.del_any L2 _ nine W h fitL2 fit9.1).mono (fun e w' h => rts_is h (by kernel_rfl) rfl (by decide +kernel))
theorem dl2 (W : World) (o : Option Addr) (c : Nat) (h : HasRts W (.slice o 1 c) L3) : Calls Try.prog 11 #[.slice o 1 c, .agg #[.bool false, .int .u64 0, .int .u64 176160768, .int .i64 9]] W (RtsIs L3 1 3 W) :=
  (Tr.del_any L3 _ nine W h fitL3 fit9.1).mono (fun e w' h => rts_is h (by kernel_rfl) rfl (by decide +kernel))
theorem ck2 (W : World) (o : Option Addr) (c : Nat) (h : HasRts W (.slice o 2 c) L2) : Calls Try.prog 16 #[.slice o 2 c] W fun e w' => e = .returned (.int .i64 0) ∧ Below W.heap.size W w' := by
  have := Tr.check_any L2 _ W h fitL2
  rw [show checkT L2 = 0 by decide +kernel] at this
  exact this
theorem lg1 (W : World) (o : Option Addr) (c : Nat) (h : HasRts W (.slice o 2 c) L2) : Calls Try.prog 19 #[.slice o 2 c, .bool false, .agg #[.int .u64 0, .int .u64 180879360]] W fun e w' => e = .returned (.tuple #[.agg #[.bool false, .int .u64 0, .int .u64 176160768, .int .i64 9, .int .u8 1, .int .i64 3], .int .i64 0]) ∧ Below W.heap.size W w' := by
  have := Tr.longest_any L2 _ false 180879360 W h fitL2 (by decide)
  rw [show rtA (longT L2 false 180879360).1 = .agg #[.bool false, .int .u64 0, .int .u64 176160768, .int .i64 9, .int .u8 1, .int .i64 3] by kernel_rfl, show (longT L2 false 180879360).2 = 0 by decide +kernel] at this
  exact this
theorem lg2 (W : World) (o : Option Addr) (c : Nat) (h : HasRts W (.slice o 2 c) L2) : Calls Try.prog 19 #[.slice o 2 c, .bool false, .agg #[.int .u64 0, .int .u64 167772161]] W fun e w' => e = .returned (.tuple #[.agg #[.bool false, .int .u64 0, .int .u64 167772160, .int .i64 8, .int .u8 2, .int .i64 0], .int .i64 0]) ∧ Below W.heap.size W w' := by
  have := Tr.longest_any L2 _ false 167772161 W h fitL2 (by decide)
  rw [show rtA (longT L2 false 167772161).1 = .agg #[.bool false, .int .u64 0, .int .u64 167772160, .int .i64 8, .int .u8 2, .int .i64 0] by kernel_rfl, show (longT L2 false 167772161).2 = 0 by decide +kernel] at this
  exact this
theorem lg3 (W : World) (o : Option Addr) (c : Nat) (h : HasRts W (.slice o 2 c) L2) : Calls Try.prog 19 #[.slice o 2 c, .bool false, .agg #[.int .u64 0, .int .u64 184549376]] W fun e w' => e = .returned (.tuple #[.agg #[.bool false, .int .u64 0, .int .u64 0, .int .i64 0, .int .u8 0, .int .i64 0], .int .i64 3]) ∧ Below W.heap.size W w' := by
  have := Tr.longest_any L2 _ false 184549376 W h fitL2 (by decide)
  rw [show rtA (longT L2 false 184549376).1 = .agg #[.bool false, .int .u64 0, .int .u64 0, .int .i64 0, .int .u8 0, .int .i64 0] by kernel_rfl, show (longT L2 false 184549376).2 = 3 by decide +kernel] at this
  exact this
theorem fd (W : World) (o : Option Addr) (c : Nat) (h : HasRts W (.slice o 2 c) L2) : Calls Try.prog 13 #[.slice o 2 c, .agg #[.bool false, .int .u64 0, .int .u64 176160768, .int .i64 9]] W fun e w' => e = .returned (.tuple #[.agg #[.bool false, .int .u64 0, .int .u64 176160768, .int .i64 9, .int .u8 1, .int .i64 3], .int .i64 0]) ∧ Below W.heap.size W w' := by
  have := Tr.find_any L2 _ nine W h fitL2 fit9.1
  rw [show rtA (findE L2 nine).1 = .agg #[.bool false, .int .u64 0, .int .u64 176160768, .int .i64 9, .int .u8 1, .int .i64 3] by kernel_rfl, show (findE L2 nine).2 = 0 by decide +kernel] at this
  exact this
theorem ct (W : World) (o : Option Addr) (c : Nat) (h : HasRts W (.slice o 2 c) L2) : Calls Try.prog 21 #[.slice o 2 c, .bool false] W fun e w' => ∃ o c, e = .returned (.tuple #[.slice o 4 c, .int .i64 0]) ∧ HasAds w' (.slice o 4 c) [0, 167772160, 176160768, 184549376] ∧ Below W.heap.size W w' := by
  refine (Ct.cuts_any L2 _ false W h fitL2).mono ?_
  rintro e w' ⟨o, n, c, rfl, hh, hb⟩
  rw [show (cutsT L2 false).1 = [0, 167772160, 176160768, 184549376] by decide +kernel] at hh
  rw [show (cutsT L2 false).2 = 0 by decide +kernel]
  obtain ⟨o2, c2, e2, _⟩ := Lk.HasRow.slice hh
  injection e2 with e3 e4 e5
  subst e3 e4 e5
  exact ⟨o, c, rfl, hh, hb⟩
end Go.Proofs.Ytjgieaijdkmadaa.Tl
namespace Go.Proofs.Ytjgieaijdkmadaa.Tr
open Go.RowKit
open Go.Proofs.Ytjgieaijdkmadaa.Lk (HasRow below_drewN)
open Go.Proofs.Ytjgieaijdkmadaa.Msg (eqP eqP_iff pf_inG ac_inG Ac)
open Go.Proofs.Ytjgieaijdkmadaa.Addr (Pf hiN loN RowAt below2 below_drew below_new bset RowAt.lt RowAt.cell RowAt.frozen RowAt.below RowAt.drew RowAt.new RowAt.alloc cells2)
def eqR (r s : Rt) : Bool := eqP r.pf s.pf && (decide (r.act.k = s.act.k) && decide (r.act.i = s.act.i))
theorem eqR_iff (r s : Rt) : eqR r s = true ↔ r = s := by
  obtain ⟨p, ⟨k, i⟩⟩ := r
  obtain ⟨q, ⟨l, j⟩⟩ := s
  unfold eqR
  simp only [Bool.and_eq_true, decide_eq_true_eq, eqP_iff, Rt.mk.injEq, Ac.mk.injEq]
theorem rt_in (r s : Rt) (w : World) : (Op.equalIn 10000 32 (.agg #[.bool r.pf.six, .int .u64 (hiN r.pf.n : Int), .int .u64 (loN r.pf.n : Int), .int .i64 r.pf.len, .int .u8 (r.act.k : Int), .int .i64 r.act.i]) (.agg #[.bool s.pf.six, .int .u64 (hiN s.pf.n : Int), .int .u64 (loN s.pf.n : Int), .int .i64 s.pf.len, .int .u8 (s.act.k : Int), .int .i64 s.act.i])).run Try.prog w = .ok (eqR r s) w := by
  have a24 := Try.isAgg27
  have z24 := Try.sizeOf27
  have a25 := Try.isAgg30
  have z25 := Try.sizeOf30
  have hS : Try.prog.underlying 32 = some (.struct (Try.prog.fieldsOf 32)) := by kernel_rfl
  have hp : Try.prog.stoodInHeld 32 = false := by kernel_rfl
  have h1 := fun w => pf_inG r.pf.six s.pf.six r.pf.n s.pf.n r.pf.len s.pf.len w 9996
  have h2 := fun w => ac_inG r.act.k s.act.k r.act.i s.act.i w 9997
  have hE : eqR r s = ((decide (r.pf.six = s.pf.six) && decide (r.pf.n = s.pf.n) && decide (r.pf.len = s.pf.len)) && (decide (r.act.k = s.act.k) && decide (r.act.i = s.act.i))) := rfl
  rw [hE]
  rw [show (10000 : Nat) = 9999 + 1 from rfl, run_equalIn_agg w 9999 32 _ _ hS hp]
  simp only [Program.fieldsOf, Try.underlying32]
  generalize (decide (r.pf.six = s.pf.six) && decide (r.pf.n = s.pf.n) && decide (r.pf.len = s.pf.len)) = D1 at *
  generalize (decide (r.act.k = s.act.k) && decide (r.act.i = s.act.i)) = D2 at *
  cases D1
  · go_simp
  · cases D2
    · go_simp
    · go_simp
theorem rt_guard : Try.prog.eqGuardType Try.prog.depth 32 = false := by kernel_rfl
theorem rt_neq (r s : Rt) (w : World) : (binOp .neq 32 (.agg #[.bool r.pf.six, .int .u64 (hiN r.pf.n : Int), .int .u64 (loN r.pf.n : Int), .int .i64 r.pf.len, .int .u8 (r.act.k : Int), .int .i64 r.act.i]) (.agg #[.bool s.pf.six, .int .u64 (hiN s.pf.n : Int), .int .u64 (loN s.pf.n : Int), .int .i64 s.pf.len, .int .u8 (s.act.k : Int), .int .i64 s.act.i])).run Try.prog w = .ok (.bool (!eqR r s)) w := by
  rw [run_neq_struct, rt_in]
  rfl
theorem rt_eql (r s : Rt) (w : World) : (binOp .eql 32 (.agg #[.bool r.pf.six, .int .u64 (hiN r.pf.n : Int), .int .u64 (loN r.pf.n : Int), .int .i64 r.pf.len, .int .u8 (r.act.k : Int), .int .i64 r.act.i]) (.agg #[.bool s.pf.six, .int .u64 (hiN s.pf.n : Int), .int .u64 (loN s.pf.n : Int), .int .i64 s.pf.len, .int .u8 (s.act.k : Int), .int .i64 s.act.i])).run Try.prog w = .ok (.bool (eqR r s)) w := by
  rw [run_eql_struct, rt_in]
  rfl
theorem rt_one (r : Rt) (w : World) : (binOp .neq 32 (.agg #[.bool r.pf.six, .int .u64 (hiN r.pf.n : Int), .int .u64 (loN r.pf.n : Int), .int .i64 r.pf.len, .int .u8 (r.act.k : Int), .int .i64 r.act.i]) (.agg #[.bool r.pf.six, .int .u64 (hiN r.pf.n : Int), .int .u64 (loN r.pf.n : Int), .int .i64 r.pf.len, .int .u8 (r.act.k : Int), .int .i64 r.act.i])).run Try.prog w = .ok (.bool false) w := by
  rw [rt_neq, (eqR_iff r r).2 rfl]
  rfl
set_option maxHeartbeats 2000000 in
set_option maxRecDepth 20000 in
theorem same_any (l : List Rt) (v u : Value) (w : World) (h1 : HasRts w v l) (h2 : HasRts w u l) :
    Calls Try.prog 18 #[v, u] w fun e w' => e = .returned (.bool true) ∧ Below w.heap.size w w' := by
  obtain ⟨o1, c1, rfl, hq1, hq2⟩ := Lk.HasRow.slice h1
  obtain ⟨o2, c2, rfl, _, _⟩ := Lk.HasRow.slice h2
  have HR : Hid (∀ wr : World, Below w.heap.size w wr → HasRts wr (.slice o1 l.length c1) l ∧ HasRts wr (.slice o2 l.length c2) l) := fun wr hb => ⟨h1.keep hb, h2.keep hb⟩
  obtain ⟨n, hn⟩ : ∃ n, n = l.length := ⟨_, rfl⟩
  have HN : Hid (n = l.length) := hn
  rw [← hn] at HR hq1 ⊢
  have hni : (n : Int) ≤ 9223372036854775807 := by omega
  have hgd := rt_guard
  have hnn : ((n : Int) != (n : Int)) = false := by simp
  clear h1 h2 hn hq1 hq2
  go_enter Try.func18, Try.ntmps18
  go_wp2_with fail
  go_loopw [13] (fun i wr => ∃ k : Nat, k ≤ n ∧ i = .int .i64 k ∧ Below w.heap.size w wr) (fun i _ => n - (intOf i).toNat)
  case atStart => exact ⟨0, by omega, rfl, Below.refl _ _⟩
  case round =>
    obtain ⟨k, hk, rfl, hB⟩ := hrel
    obtain ⟨ha, hb⟩ := HR.out _ hB
    by_cases hlt : k < n
    · have hkz : k < l.length := by rw [← HN.out]; exact hlt
      obtain ⟨g1, i1, rfl, _, a1⟩ := HasRts.cell ha k hkz
      obtain ⟨g2, i2, rfl, _, b1⟩ := HasRts.cell hb k hkz
      have hneq := rt_one l[k]
      have x0 := a1 0 (by omega)
      have x1 := a1 1 (by omega)
      have x2 := a1 2 (by omega)
      have x3 := a1 3 (by omega)
      have x4 := a1 4 (by omega)
      have x5 := a1 5 (by omega)
      have y0 := b1 0 (by omega)
      have y1 := b1 1 (by omega)
      have y2 := b1 2 (by omega)
      have y3 := b1 3 (by omega)
      have y4 := b1 4 (by omega)
      have y5 := b1 5 (by omega)
      unfold rtC at x0 x1 x2 x3 x4 x5 y0 y1 y2 y3 y4 y5
      simp only [List.getElem?_cons_succ, List.getElem?_cons_zero, Nat.add_zero] at x0 x1 x2 x3 x4 x5 y0 y1 y2 y3 y4 y5
      clear a1 b1
      generalize l[k].pf.six = p0 at *
      generalize ((hiN l[k].pf.n : Nat) : Int) = p1 at *
      generalize ((loN l[k].pf.n : Nat) : Int) = p2 at *
      generalize l[k].pf.len = p3 at *
      generalize ((l[k].act.k : Nat) : Int) = p4 at *
      generalize l[k].act.i = p5 at *
      have hki : (k : Int) < (n : Int) := by omega
      clear ha hb
      go_wp2_with fail
      go_quiet (fail)
      go_wp2_with fail
      go_roundw
      case rel => exact ⟨k + 1, by omega, by go_num, by first | exact hB | exact below_drew hB | exact below_drewN hB _⟩
      case measure => simp [intOf]; omega
    · clear ha hb
      go_wp2
      go_ret
      exact ⟨rfl, hB⟩
end Go.Proofs.Ytjgieaijdkmadaa.Tr
namespace Go.Proofs.Ytjgieaijdkmadaa.Tl
open Go.RowKit
open Go.Proofs.Ytjgieaijdkmadaa.Addr (Pf okP hiN loN RowAt below2 below_drew below_new bset RowAt.lt RowAt.cell RowAt.frozen RowAt.below RowAt.drew RowAt.new RowAt.alloc RowAt.gkeep cells4 cells2 results_cell)
open Go.Proofs.Ytjgieaijdkmadaa.Tr (Rt HasRts HasRts.keep FitR FitP longT rtA putT delT findE checkT okT zeroR)
open Go.Proofs.Ytjgieaijdkmadaa.Ct (HasAds HasAds.keep cutsT)
/-- what lies there behind the second put -/
structure Lv (w W : World) (ga gb gc : Nat) (o : Option Addr) (c : Nat) : Prop where
  ra : RowAt W ga [.int .u8 2, .int .i64 0] 30
  rb : RowAt W gb [.int .u8 1, .int .i64 3] 30
  rc : RowAt W gc [.bool false, .int .u64 0, .int .u64 176160768, .int .i64 9] 27
  hr : HasRts W (.slice o 2 c) L2
  bl : Below w.heap.size w W
theorem lv_at {w W : World} {ga gb gc : Nat} {o : Option Addr} {c : Nat} (h : Lv w W ga gb gc o c) : ∃ V, V = W := ⟨_, rfl⟩
theorem bl_at {n : Nat} {w W : World} (h : Below n w W) : ∃ V, V = W := ⟨_, rfl⟩
theorem first_len {W : World} {o : Option Addr} {c : Nat} (h : HasRts W (.slice o 2 c) L2) : ∃ b i, o = some ⟨b, i, none⟩ ∧ W.cell? ⟨b, i + 3, none⟩ = some (.int .i64 8) := by
  obtain ⟨b, i, e, _, ax⟩ := Tr.HasRts.cell h 0 (by decide)
  have := ax 3 (by decide)
  rw [Nat.zero_mul, Nat.add_zero] at this
  exact ⟨b, i, e, this⟩
theorem last_cut {W : World} {o : Option Addr} {c : Nat} (h : HasAds W (.slice o 4 c) [0, 167772160, 176160768, 184549376]) : ∃ b i, o = some ⟨b, i, none⟩ ∧ W.cell? ⟨b, i + 6 + 1, none⟩ = some (.int .u64 184549376) ∧ W.cell? ⟨b, i + 7, none⟩ = some (.int .u64 184549376) := by
  obtain ⟨b, i, e, _, _, a1⟩ := Ct.HasAds.cell h 3 (by decide)
  exact ⟨b, i, e, a1, a1⟩
theorem ac_gd : Try.prog.eqGuardType Try.prog.depth 30 = false := by kernel_rfl
theorem ac_same (k : Nat) (i : Int) (w : World) : (binOp .eql 30 (.agg #[.int .u8 (k : Int), .int .i64 i]) (.agg #[.int .u8 (k : Int), .int .i64 i])).run Try.prog w = .ok (.bool true) w := by
  have h := Msg.ac_inG k k i i w 9998
  rw [decide_eq_true rfl, decide_eq_true rfl] at h
  rw [run_eql_struct, h]
  rfl
theorem ac_one (W : World) : (binOp .eql 30 (.agg #[.int .u8 1, .int .i64 3]) (.agg #[.int .u8 1, .int .i64 3])).run Try.prog W = .ok (.bool true) W := ac_same 1 3 W
theorem ac_two (W : World) : (binOp .eql 30 (.agg #[.int .u8 2, .int .i64 0]) (.agg #[.int .u8 2, .int .i64 0])).run Try.prog W = .ok (.bool true) W := ac_same 2 0 W
def BoolIs (b : Bool) (w : World) (e : Ending) (w' : World) : Prop := e = .returned (.bool b) ∧ Below w.heap.size w w'
set_option maxHeartbeats 16000000 in
set_option maxRecDepth 20000 in
theorem lives_any (w : World) : Calls Try.prog 15 #[] w (BoolIs true w) := by
  have hB := Below.refl w.heap.size w
  go_enter Try.func15, Try.ntmps15
  obtain ⟨Y1, hY⟩ : ∃ Y, Y = (((w.alloc (.cells #[.int .u8 2, .int .i64 0] 30)).alloc (.cells #[.int .u8 1, .int .i64 3] 30)).alloc (.cells #[.bool false, .int .u64 0, .int .u64 176160768, .int .i64 9] 27)) := ⟨_, rfl⟩
  have hbY : Below w.heap.size w Y1 := by rw [hY]; exact below_new (below_new (below_new (Below.refl _ _) _) _) _
  have hle : w.heap.size ≤ w.heap.size := hB.size
  obtain ⟨ga, hga⟩ : ∃ g, g = w.heap.size := ⟨_, rfl⟩
  have ra : RowAt Y1 ga [.int .u8 2, .int .i64 0] 30 := by
    have h := ((RowAt.new w [.int .u8 2, .int .i64 0] 30).alloc (.cells #[.int .u8 1, .int .i64 3] 30)).alloc (.cells #[.bool false, .int .u64 0, .int .u64 176160768, .int .i64 9] 27)
    rw [hga, hY]; exact h
  have lea : w.heap.size ≤ ga := by omega
  obtain ⟨gb, hgb⟩ : ∃ g, g = w.heap.size + 1 := ⟨_, rfl⟩
  have rb : RowAt Y1 gb [.int .u8 1, .int .i64 3] 30 := by
    have h := (RowAt.new (w.alloc (.cells #[.int .u8 2, .int .i64 0] 30)) [.int .u8 1, .int .i64 3] 30).alloc (.cells #[.bool false, .int .u64 0, .int .u64 176160768, .int .i64 9] 27)
    simp only [World.size_alloc] at h
    rw [hgb, hY]; exact h
  have leb : w.heap.size ≤ gb := by omega
  have neab : ga ≠ gb := by omega
  obtain ⟨gc, hgc⟩ : ∃ g, g = w.heap.size + 1 + 1 := ⟨_, rfl⟩
  have rc : RowAt Y1 gc [.bool false, .int .u64 0, .int .u64 176160768, .int .i64 9] 27 := by
    have h := RowAt.new ((w.alloc (.cells #[.int .u8 2, .int .i64 0] 30)).alloc (.cells #[.int .u8 1, .int .i64 3] 30)) [.bool false, .int .u64 0, .int .u64 176160768, .int .i64 9] 27
    simp only [World.size_alloc] at h
    rw [hgc, hY]; exact h
  have lec : w.heap.size ≤ gc := by omega
  have neac : ga ≠ gc := by omega
  have nebc : gb ≠ gc := by omega
  replace hB := below2 hB hbY
  go_upto_region 3 with fail
  rw [← hY, ← hgc, ← hgb, ← hga]
  clear hY hbY hle hga hgb hgc
  obtain ⟨b0, b1, bf⟩ := cells2 rb
  obtain ⟨c0, c1, c2, c3, cf⟩ := cells4 rc
  go_wp2_with fail
  clear b0 b1 bf c0 c1 c2 c3 cf
  go_at_call 9; refine (pv1 _).mono ?_; rintro e w2 ⟨o1, c1, rfl, hr1, hb⟩
  replace ra := RowAt.below ra hb
  replace rb := RowAt.below rb hb
  replace rc := RowAt.below rc hb
  replace hB := below2 hB hb
  clear hb
  go_upto_region 4 with fail
  obtain ⟨a0, a1, af⟩ := cells2 ra
  have al := RowAt.lt ra
  have HSK : Hid (∀ W' : World, Below w2.heap.size w2 W' → W'.cell? ⟨ga, 0, none⟩ = some (.int .u8 2) ∧ W'.cell? ⟨ga, 1, none⟩ = some (.int .i64 0)) := fun W' hb => by
    obtain ⟨x0, x1, _⟩ := cells2 (RowAt.below ra hb)
    exact ⟨x0, x1⟩
  have HH : Hid (∀ W' : World, Below w2.heap.size w2 W' → HasRts W' (.slice o1 1 c1) L1) := fun W' hb => hr1.keep hb
  have HK : Hid (∀ (W' : World) (o : Option Addr) (c : Nat), Below w2.heap.size w2 W' → HasRts W' (.slice o 2 c) L2 → Lv w W' ga gb gc o c) := fun W' o c hb hr => ⟨RowAt.below ra hb, RowAt.below rb hb, RowAt.below rc hb, hr, below2 hB hb⟩
  clear ra rb rc hr1 hB
  have hbA := Below.refl w2.heap.size w2
  go_cut [4, 6] (fun a b wc => ∃ o c, a = .slice o 2 c ∧ b = .int .i64 0 ∧ Hid (Lv w wc ga gb gc o c))
  case first =>
    go_region_held3 (fun w' => w'.cell? ⟨ga, 0, none⟩ = some (.int .u8 2) ∧ w'.cell? ⟨ga, 1, none⟩ = some (.int .i64 0))
      (first
        | (refine HSK.out _ ?_
           repeat' (first | with_reducible exact hbA | with_reducible apply Below.drew))
        | go_keep)
      (first
        | (go_at_call 39
           refine (v4_any 8 _).mono ?_
           rintro e w5 ⟨rfl, hb5⟩
           have hbN : Below w2.heap.size w2 w5 := below2 (by repeat' (first | with_reducible exact hbA | with_reducible apply Below.drew)) hb5
           clear hbA
           have hbA := hbN
           clear hbN)
        | (go_at_call 9
           refine (pv2 _ _ _ (HH.out _ ?_)).mono ?_
           · repeat' (first | with_reducible exact hbA | with_reducible apply Below.drew)
           rintro e w6 ⟨o2, c2, rfl, hr2, hb6⟩
           have hbN : Below w2.heap.size w2 w6 := below2 (by repeat' (first | with_reducible exact hbA | with_reducible apply Below.drew)) hb6
           clear hbA
           have hbA := hbN
           clear hbN))
    all_goals go_wp2_with fail
    all_goals go_meet
    all_goals exact ⟨_, _, rfl, rfl, HK.out _ _ _ hbA hr2⟩
  case rest =>
    obtain ⟨o2, c2, rfl, rfl, HLV⟩ := hcut
    obtain ⟨V, hV⟩ := lv_at HLV.out
    subst hV
    obtain ⟨ra, rb, rc, hr, hB⟩ := HLV.out
    clear HLV HSK HH HK hbA a0 a1 af al
    go_wp2_with fail
    go_at_call 19; refine (lg1 _ _ _ hr).mono ?_; rintro e w21 ⟨rfl, hb⟩
    replace ra := RowAt.below ra hb
    replace rb := RowAt.below rb hb
    replace rc := RowAt.below rc hb
    replace hr := hr.keep hb
    replace hB := below2 hB hb
    clear hb
    obtain ⟨Y22, hY⟩ : ∃ Y, Y = (w21.alloc (.cells #[.bool false, .int .u64 0, .int .u64 176160768, .int .i64 9, .int .u8 1, .int .i64 3] 32)) := ⟨_, rfl⟩
    have hbY : Below w21.heap.size w21 Y22 := by rw [hY]; exact below_new (Below.refl _ _) _
    have hle : w.heap.size ≤ w21.heap.size := hB.size
    obtain ⟨gx, hgx⟩ : ∃ g, g = w21.heap.size := ⟨_, rfl⟩
    have rx : RowAt Y22 gx [.bool false, .int .u64 0, .int .u64 176160768, .int .i64 9, .int .u8 1, .int .i64 3] 32 := by
      have h := RowAt.new w21 [.bool false, .int .u64 0, .int .u64 176160768, .int .i64 9, .int .u8 1, .int .i64 3] 32
      rw [hgx, hY]; exact h
    have lex : w.heap.size ≤ gx := by omega
    have neax : ga ≠ gx := by have := RowAt.lt ra; omega
    have nebx : gb ≠ gx := by have := RowAt.lt rb; omega
    have necx : gc ≠ gx := by have := RowAt.lt rc; omega
    replace ra := RowAt.below ra hbY
    replace rb := RowAt.below rb hbY
    replace rc := RowAt.below rc hbY
    replace hr := hr.keep hbY
    replace hB := below2 hB hbY
    go_upto_region 6 with fail
    rw [← hY, ← hgx]
    clear hY hbY hle hgx
    go_wp2_with fail
    go_at_call 19; refine (lg2 _ _ _ hr).mono ?_; rintro e w23 ⟨rfl, hb⟩
    replace ra := RowAt.below ra hb
    replace rb := RowAt.below rb hb
    replace rc := RowAt.below rc hb
    replace rx := RowAt.below rx hb
    replace hr := hr.keep hb
    replace hB := below2 hB hb
    clear hb
    obtain ⟨Y24, hY⟩ : ∃ Y, Y = (w23.alloc (.cells #[.bool false, .int .u64 0, .int .u64 167772160, .int .i64 8, .int .u8 2, .int .i64 0] 32)) := ⟨_, rfl⟩
    have hbY : Below w23.heap.size w23 Y24 := by rw [hY]; exact below_new (Below.refl _ _) _
    have hle : w.heap.size ≤ w23.heap.size := hB.size
    obtain ⟨gy, hgy⟩ : ∃ g, g = w23.heap.size := ⟨_, rfl⟩
    have ry : RowAt Y24 gy [.bool false, .int .u64 0, .int .u64 167772160, .int .i64 8, .int .u8 2, .int .i64 0] 32 := by
      have h := RowAt.new w23 [.bool false, .int .u64 0, .int .u64 167772160, .int .i64 8, .int .u8 2, .int .i64 0] 32
      rw [hgy, hY]; exact h
    have ley : w.heap.size ≤ gy := by omega
    have neay : ga ≠ gy := by have := RowAt.lt ra; omega
    have neby : gb ≠ gy := by have := RowAt.lt rb; omega
    have necy : gc ≠ gy := by have := RowAt.lt rc; omega
    have nexy : gx ≠ gy := by have := RowAt.lt rx; omega
    replace ra := RowAt.below ra hbY
    replace rb := RowAt.below rb hbY
    replace rc := RowAt.below rc hbY
    replace rx := RowAt.below rx hbY
    replace hr := hr.keep hbY
    replace hB := below2 hB hbY
    go_upto_region 7 with fail
    rw [← hY, ← hgy]
    clear hY hbY hle hgy
    go_wp2_with fail
    go_at_call 19; refine (lg3 _ _ _ hr).mono ?_; rintro e w25 ⟨rfl, hb⟩
    replace ra := RowAt.below ra hb
    replace rb := RowAt.below rb hb
    replace rc := RowAt.below rc hb
    replace rx := RowAt.below rx hb
    replace ry := RowAt.below ry hb
    replace hr := hr.keep hb
    replace hB := below2 hB hb
    clear hb
    obtain ⟨Y26, hY⟩ : ∃ Y, Y = (w25.alloc (.cells #[.bool false, .int .u64 0, .int .u64 0, .int .i64 0, .int .u8 0, .int .i64 0] 32)) := ⟨_, rfl⟩
    have hbY : Below w25.heap.size w25 Y26 := by rw [hY]; exact below_new (Below.refl _ _) _
    have hle : w.heap.size ≤ w25.heap.size := hB.size
    obtain ⟨gz, hgz⟩ : ∃ g, g = w25.heap.size := ⟨_, rfl⟩
    have rz : RowAt Y26 gz [.bool false, .int .u64 0, .int .u64 0, .int .i64 0, .int .u8 0, .int .i64 0] 32 := by
      have h := RowAt.new w25 [.bool false, .int .u64 0, .int .u64 0, .int .i64 0, .int .u8 0, .int .i64 0] 32
      rw [hgz, hY]; exact h
    have lez : w.heap.size ≤ gz := by omega
    have neaz : ga ≠ gz := by have := RowAt.lt ra; omega
    have nebz : gb ≠ gz := by have := RowAt.lt rb; omega
    have necz : gc ≠ gz := by have := RowAt.lt rc; omega
    have nexz : gx ≠ gz := by have := RowAt.lt rx; omega
    have neyz : gy ≠ gz := by have := RowAt.lt ry; omega
    replace ra := RowAt.below ra hbY
    replace rb := RowAt.below rb hbY
    replace rc := RowAt.below rc hbY
    replace rx := RowAt.below rx hbY
    replace ry := RowAt.below ry hbY
    replace hr := hr.keep hbY
    replace hB := below2 hB hbY
    go_upto_region 8 with fail
    rw [← hY, ← hgz]
    clear hY hbY hle hgz
    clear rz
    obtain ⟨c0, c1, c2, c3, cf⟩ := cells4 rc
    go_wp2_with fail
    clear c0 c1 c2 c3 cf
    go_at_call 13; refine (fd _ _ _ hr).mono ?_; rintro e w27 ⟨rfl, hb⟩
    replace ra := RowAt.below ra hb
    replace rb := RowAt.below rb hb
    replace rc := RowAt.below rc hb
    replace rx := RowAt.below rx hb
    replace ry := RowAt.below ry hb
    replace hr := hr.keep hb
    replace hB := below2 hB hb
    clear hb
    obtain ⟨Y28, hY⟩ : ∃ Y, Y = (w27.alloc (.cells #[.bool false, .int .u64 0, .int .u64 176160768, .int .i64 9, .int .u8 1, .int .i64 3] 32)) := ⟨_, rfl⟩
    have hbY : Below w27.heap.size w27 Y28 := by rw [hY]; exact below_new (Below.refl _ _) _
    have hle : w.heap.size ≤ w27.heap.size := hB.size
    obtain ⟨gf, hgf⟩ : ∃ g, g = w27.heap.size := ⟨_, rfl⟩
    have rf : RowAt Y28 gf [.bool false, .int .u64 0, .int .u64 176160768, .int .i64 9, .int .u8 1, .int .i64 3] 32 := by
      have h := RowAt.new w27 [.bool false, .int .u64 0, .int .u64 176160768, .int .i64 9, .int .u8 1, .int .i64 3] 32
      rw [hgf, hY]; exact h
    have lef : w.heap.size ≤ gf := by omega
    have neaf : ga ≠ gf := by have := RowAt.lt ra; omega
    have nebf : gb ≠ gf := by have := RowAt.lt rb; omega
    have necf : gc ≠ gf := by have := RowAt.lt rc; omega
    have nexf : gx ≠ gf := by have := RowAt.lt rx; omega
    have neyf : gy ≠ gf := by have := RowAt.lt ry; omega
    replace ra := RowAt.below ra hbY
    replace rb := RowAt.below rb hbY
    replace rc := RowAt.below rc hbY
    replace rx := RowAt.below rx hbY
    replace ry := RowAt.below ry hbY
    replace hr := hr.keep hbY
    replace hB := below2 hB hbY
    go_upto_region 9 with fail
    rw [← hY, ← hgf]
    clear hY hbY hle hgf
    obtain ⟨c0, c1, c2, c3, cf⟩ := cells4 rc
    go_wp2_with fail
    clear c0 c1 c2 c3 cf
    go_at_call 11; refine (dl1 _ _ _ hr).mono ?_; rintro e w29 ⟨o3, c3, rfl, hm, hb⟩
    replace ra := RowAt.below ra hb
    replace rb := RowAt.below rb hb
    replace rc := RowAt.below rc hb
    replace rx := RowAt.below rx hb
    replace ry := RowAt.below ry hb
    replace rf := RowAt.below rf hb
    replace hr := hr.keep hb
    replace hB := below2 hB hb
    clear hb
    obtain ⟨c0, c1, c2, c3, cf⟩ := cells4 rc
    go_wp2_with fail
    clear c0 c1 c2 c3 cf
    go_at_call 11; refine (dl2 _ _ _ hm).mono ?_; rintro e w30 ⟨o4, c4, rfl, hm2, hb⟩
    replace ra := RowAt.below ra hb
    replace rb := RowAt.below rb hb
    replace rc := RowAt.below rc hb
    replace rx := RowAt.below rx hb
    replace ry := RowAt.below ry hb
    replace rf := RowAt.below rf hb
    replace hr := hr.keep hb
    replace hm := hm.keep hb
    replace hB := below2 hB hb
    clear hb
    clear rc hm
    go_wp2_with fail
    go_at_call 21; refine (ct _ _ _ hr).mono ?_; rintro e w31 ⟨o5, c5, rfl, hc, hb⟩
    replace ra := RowAt.below ra hb
    replace rb := RowAt.below rb hb
    replace rx := RowAt.below rx hb
    replace ry := RowAt.below ry hb
    replace rf := RowAt.below rf hb
    replace hr := hr.keep hb
    replace hB := below2 hB hb
    clear hb
    go_upto_region 12 with fail
    obtain ⟨a0, a1, af⟩ := cells2 ra
    have al := RowAt.lt ra
    have HSK : Hid (∀ W' : World, Below w31.heap.size w31 W' → W'.cell? ⟨ga, 0, none⟩ = some (.int .u8 2) ∧ W'.cell? ⟨ga, 1, none⟩ = some (.int .i64 0)) := fun W' hb => by
      obtain ⟨x0, x1, _⟩ := cells2 (RowAt.below ra hb)
      exact ⟨x0, x1⟩
    have HH : Hid (∀ W' : World, Below w31.heap.size w31 W' → HasRts W' (.slice o2 2 c2) L2) := fun W' hb => hr.keep hb
    have hbA := Below.refl w31.heap.size w31
    go_cut [21, 22] (fun a b wc => b = .int .i64 2 ∧ Hid (Below w31.heap.size w31 wc))
    case first =>
      clear ra rb rx ry rf hr hc hB
      go_region_held3 (fun w' => w'.cell? ⟨ga, 0, none⟩ = some (.int .u8 2) ∧ w'.cell? ⟨ga, 1, none⟩ = some (.int .i64 0))
        (first
          | (refine HSK.out _ ?_
             repeat' (first | with_reducible exact hbA | with_reducible apply Below.drew))
          | go_keep)
        (first
          | (go_at_call 39
             refine (v4_any 4 _).mono ?_
             rintro e w5 ⟨rfl, hb5⟩
             have hbN : Below w31.heap.size w31 w5 := below2 (by repeat' (first | with_reducible exact hbA | with_reducible apply Below.drew)) hb5
             clear hbA
             have hbA := hbN
             clear hbN)
          | (go_at_call 9
             refine (pv3 _ _ _ (HH.out _ ?_)).mono ?_
             · repeat' (first | with_reducible exact hbA | with_reducible apply Below.drew)
             rintro e w6 ⟨o6, c6, rfl, hr6, hb6⟩
             have hbN : Below w31.heap.size w31 w6 := below2 (by repeat' (first | with_reducible exact hbA | with_reducible apply Below.drew)) hb6
             clear hbA
             have hbA := hbN
             clear hbN))
      all_goals go_wp2_with fail
      all_goals go_meet
      all_goals exact ⟨rfl, hbA⟩
    case rest =>
      obtain ⟨rfl, HBW⟩ := hcut
      obtain ⟨V2, hV2⟩ := bl_at HBW.out
      subst hV2
      have hb := HBW.out
      clear HSK HH hbA a0 a1 af al
      replace ra := RowAt.below ra hb
      replace rb := RowAt.below rb hb
      replace rx := RowAt.below rx hb
      replace ry := RowAt.below ry hb
      replace rf := RowAt.below rf hb
      replace hr := hr.keep hb
      replace hc := hc.keep hb
      replace hB := below2 hB hb
      clear hb HBW
      have he1 := ac_one
      have he2 := ac_two
      have hgd := ac_gd
      obtain ⟨a0, a1, af⟩ := cells2 ra
      obtain ⟨b0, b1, bf⟩ := cells2 rb
      have x0 := RowAt.cell rx 0
      have x1 := RowAt.cell rx 1
      have x2 := RowAt.cell rx 2
      have x3 := RowAt.cell rx 3
      have x4 := RowAt.cell rx 4
      have x5 := RowAt.cell rx 5
      have xf := RowAt.frozen rx
      simp only [List.getElem?_cons_succ, List.getElem?_cons_zero] at x0 x1 x2 x3 x4 x5
      have y0 := RowAt.cell ry 0
      have y1 := RowAt.cell ry 1
      have y2 := RowAt.cell ry 2
      have y3 := RowAt.cell ry 3
      have y4 := RowAt.cell ry 4
      have y5 := RowAt.cell ry 5
      have yf := RowAt.frozen ry
      simp only [List.getElem?_cons_succ, List.getElem?_cons_zero] at y0 y1 y2 y3 y4 y5
      have f0 := RowAt.cell rf 0
      have f1 := RowAt.cell rf 1
      have f2 := RowAt.cell rf 2
      have f3 := RowAt.cell rf 3
      have f4 := RowAt.cell rf 4
      have f5 := RowAt.cell rf 5
      have ff := RowAt.frozen rf
      simp only [List.getElem?_cons_succ, List.getElem?_cons_zero] at f0 f1 f2 f3 f4 f5
      obtain ⟨b1, i1, rfl, q8⟩ := first_len hr
      obtain ⟨b2, i2, rfl, q61, q7⟩ := last_cut hc
      have ck := fun W h => ck2 W (some ⟨b1, i1, none⟩) c2 h
      go_wp2_with fail
      go_at_call 16; refine (ck _ hr).mono ?_; rintro e w99 ⟨rfl, hb⟩
      go_wp2_with fail
      go_ret
      exact ⟨rfl, below2 hB hb⟩
end Go.Proofs.Ytjgieaijdkmadaa.Tl
namespace Go.Proofs.Ytjgieaijdkmadaa.Lk
open Go.ChangeShapes Go.WideShapes Go.ChangeAt Go.RowKit
section
variable {H : Type} {enc : TypeId × Value → H} {W : World} {base : Nat} {spare : Nat → Bool} {held : Bool}
theorem wfi {n : Int} (h : Lit.wf (.int .i64 n)) : -9223372036854775808 ≤ n ∧ n ≤ 9223372036854775807 := by simpa [Lit.wf, IntKind.min, IntKind.max, IntKind.signed, IntKind.bits] using h
theorem spot_of {W : World} {a : Addr} {v : Value} (h : W.cell? a = some v) : a.spot = none ∧ a.block < W.heap.size := by
  refine ⟨World.cell?_spot h, ?_⟩
  rcases Nat.lt_or_ge a.block W.heap.size with h' | h'
  · exact h'
  · simp [World.cell?, Array.getElem?_eq_none h'] at h
theorem row_of {a : Addr} {len cap sz : Nat} {cs : List Value} (hsz : 0 < sz) (hl : len ≤ cap) (hm : cap ≤ maxLen) (hlen : cs.length = len * sz) (h : ∀ j, j < len * sz → W.cell? (a.add j) = cs[j]?) : HasRow W (.slice (some a) len cap) sz len cs := by
  refine ⟨hlen, .inr ⟨a, cap, rfl, hl, by unfold maxLen at hm; exact hm, fun hn => ?_, h⟩⟩
  have h0 := h 0 (Nat.mul_pos hn hsz)
  rw [List.getElem?_eq_getElem (by rw [hlen]; exact Nat.mul_pos hn hsz)] at h0
  have := spot_of h0
  simpa [Addr.add] using this
/-- cells of a list of rows of m cells each -/
theorem flat_get {α : Type} (f : α → List Value) (m : Nat) (hm : 0 < m) (hf : ∀ x, (f x).length = m) : ∀ (l : List α) (j : Nat) (hj : j < l.length * m), (l.flatMap f)[j]? = (f (l[j / m]'(Nat.div_lt_of_lt_mul (by rw [Nat.mul_comm]; exact hj))))[j % m]? := by
  intro l
  induction l with
  | nil => intro j hj; simp at hj
  | cons x t ih =>
    intro j hj
    rw [List.flatMap_cons]
    by_cases h : j < m
    · rw [List.getElem?_append_left (by rw [hf]; exact h)]
      have e1 : j / m = 0 := Nat.div_eq_of_lt h
      have e2 : j % m = j := Nat.mod_eq_of_lt h
      simp only [e1, e2, List.getElem_cons_zero]
    · have h' : m ≤ j := by omega
      rw [List.getElem?_append_right (by rw [hf]; exact h'), hf]
      have hj2 : j - m < t.length * m := by rw [List.length_cons, Nat.add_mul, Nat.one_mul] at hj; omega
      rw [ih (j - m) hj2]
      have e1 : j / m = (j - m) / m + 1 := by rw [Nat.div_eq_sub_div hm h']
      have e2 : j % m = (j - m) % m := Nat.mod_eq_sub_mod h'
      simp only [e1, e2, List.getElem_cons_succ]
end
end Go.Proofs.Ytjgieaijdkmadaa.Lk
namespace Go.Proofs.Ytjgieaijdkmadaa.Addr
open Go.ChangeShapes Go.WideShapes Go.ChangeAt Go.RowKit
section
variable {H : Type} {enc : TypeId × Value → H} {W : World} {base : Nat} {spare : Nat → Bool} {held : Bool}
theorem wfi64 {n : Int} (h : Lit.wf (.int .i64 n)) : -9223372036854775808 ≤ n ∧ n ≤ 9223372036854775807 := by simpa [Lit.wf, IntKind.min, IntKind.max, IntKind.signed, IntKind.bits] using h
theorem wfu64 {n : Int} (h : Lit.wf (.int .u64 n)) : 0 ≤ n ∧ n ≤ 18446744073709551615 := by simpa [Lit.wf, IntKind.min, IntKind.max, IntKind.signed, IntKind.bits] using h
theorem num_of (h l : Int) (h1 : 0 ≤ h ∧ h ≤ 18446744073709551615) (h2 : 0 ≤ l ∧ l ≤ 18446744073709551615) : ∃ n : Nat, n < 2 ^ 128 ∧ h = (hiN n : Int) ∧ l = (loN n : Int) := by
  obtain ⟨a, rfl⟩ := Int.eq_ofNat_of_zero_le h1.1
  obtain ⟨b, rfl⟩ := Int.eq_ofNat_of_zero_le h2.1
  have := of_hilo a b (by omega)
  exact ⟨18446744073709551616 * a + b, by omega, by rw [this.1], by rw [this.2]⟩
set_option maxRecDepth 100000 in
theorem open_ad {x y : Value} {fuel : Nat} {d : DataW H × List MemPlace} (h : DataW.trod enc Try.prog W base spare held fuel 25 [x, y] = some d) : ∃ n : Nat, n < 2 ^ 128 ∧ x = .int .u64 (hiN n : Int) ∧ y = .int .u64 (loN n : Int) := by
  obtain ⟨xs, n, _, _, hlen, hxl, hfs⟩ := DataW.trod_struct Try.underlying25 h
  have g0 : DataW.trod enc Try.prog W base spare held n 23 ((([x, y] : List Value).drop 0).take (Try.prog.cellsOf 23)) = xs[0]? := hfs 0 _ rfl
  have g1 : DataW.trod enc Try.prog W base spare held n 23 ((([x, y] : List Value).drop 1).take (Try.prog.cellsOf 23)) = xs[1]? := hfs 1 _ rfl
  have hx2 : xs.length = 2 := hxl
  rw [List.getElem?_eq_getElem (by omega)] at g0 g1
  rw [show Try.prog.cellsOf 23 = 1 from by kernel_rfl] at g0 g1
  obtain ⟨a, e2, _, hw⟩ := DataW.trod_int Try.underlying23 g0
  obtain ⟨b, e3, _, hw2⟩ := DataW.trod_int Try.underlying23 g1
  obtain ⟨m, hm, r1, r2⟩ := num_of a b (wfu64 hw) (wfu64 hw2)
  have e2' : x = .int .u64 a := by injection e2
  have e3' : y = .int .u64 b := by injection e3
  exact ⟨m, hm, by rw [e2', r1], by rw [e3', r2]⟩
set_option maxRecDepth 100000 in
theorem open_addr {v : Value} {d : DataW H} {ps : List MemPlace} {r : Reach} {b0 : Nat} (hval : Value.okWide Try.prog W r b0 25 v) (h : DataW.Trod enc Try.prog W base spare held 25 v d ps) : ∃ n : Nat, v = adV n ∧ n < 2 ^ 128 := by
  obtain ⟨cs, rfl, hsz⟩ := okWide_struct Try.underlying25 hval
  obtain ⟨fuel, hf⟩ := h
  rw [show Try.prog.cellsOf 25 = 2 from by kernel_rfl] at hsz
  obtain ⟨x, y, rfl⟩ : ∃ x y, cs = #[x, y] := by
    obtain ⟨l⟩ := cs
    match l, hsz with
    | [x, y], _ => exact ⟨x, y, rfl⟩
  obtain ⟨n, hn, rfl, rfl⟩ := open_ad hf
  exact ⟨n, rfl, hn⟩
set_option maxRecDepth 100000 in
theorem open_prefix {v : Value} {d : DataW H} {ps : List MemPlace} {r : Reach} {b0 : Nat} (hval : Value.okWide Try.prog W r b0 27 v) (h : DataW.Trod enc Try.prog W base spare held 27 v d ps) : ∃ p : Pf, v = pfV p ∧ (-9223372036854775808 ≤ p.len ∧ p.len ≤ 9223372036854775807) ∧ p.n < 2 ^ 128 := by
  obtain ⟨cs, rfl, hsz⟩ := okWide_struct Try.underlying27 hval
  obtain ⟨fuel, hf⟩ := h
  obtain ⟨xs, n, _, _, hlen, hxl, hfs⟩ := DataW.trod_struct Try.underlying27 hf
  rw [show Try.prog.cellsOf 27 = 4 from by kernel_rfl] at hsz
  obtain ⟨s, c, f, o, rfl⟩ : ∃ s c f o, cs = #[s, c, f, o] := by
    obtain ⟨l⟩ := cs
    match l, hsz with
    | [s, c, f, o], _ => exact ⟨s, c, f, o, rfl⟩
  have g0 : DataW.trod enc Try.prog W base spare held n 4 ((([s, c, f, o] : List Value).drop 0).take (Try.prog.cellsOf 4)) = xs[0]? := hfs 0 _ rfl
  have g1 : DataW.trod enc Try.prog W base spare held n 25 ((([s, c, f, o] : List Value).drop 1).take (Try.prog.cellsOf 25)) = xs[1]? := hfs 1 _ rfl
  have g2 : DataW.trod enc Try.prog W base spare held n 3 ((([s, c, f, o] : List Value).drop 3).take (Try.prog.cellsOf 3)) = xs[2]? := hfs 2 _ rfl
  have hx3 : xs.length = 3 := hxl
  rw [List.getElem?_eq_getElem (by omega)] at g0 g1 g2
  rw [show Try.prog.cellsOf 4 = 1 from by kernel_rfl] at g0
  rw [show Try.prog.cellsOf 25 = 2 from by kernel_rfl] at g1
  rw [show Try.prog.cellsOf 3 = 1 from by kernel_rfl] at g2
  obtain ⟨ob, e3, _⟩ := DataW.trod_bool Try.underlying4 g0
  obtain ⟨m, hm, rfl, rfl⟩ := open_ad (x := c) (y := f) g1
  obtain ⟨fu, e2, _, hw⟩ := DataW.trod_int Try.underlying3 g2
  have e2' : o = .int .i64 fu := by injection e2
  have e3' : s = .bool ob := by injection e3
  subst e2' e3'
  exact ⟨⟨ob, m, fu⟩, rfl, wfi64 hw, hm⟩
end
end Go.Proofs.Ytjgieaijdkmadaa.Addr
namespace Go.Proofs.Ytjgieaijdkmadaa.Msg
open Go.ChangeShapes Go.WideShapes Go.ChangeAt Go.RowKit
open Go.Proofs.Ytjgieaijdkmadaa.Addr (Pf okP checkP wideN firstN kP hiN loN wfi64 wfu64 open_ad)
section
variable {H : Type} {enc : TypeId × Value → H} {W : World} {base : Nat} {spare : Nat → Bool} {held : Bool}
theorem wfu8 {n : Int} (h : Lit.wf (.int .u8 n)) : 0 ≤ n ∧ n ≤ 255 := by simpa [Lit.wf, IntKind.min, IntKind.max, IntKind.signed, IntKind.bits] using h
set_option maxRecDepth 100000 in
theorem open_ac2 {x y : Value} {fuel : Nat} {d : DataW H × List MemPlace} (h : DataW.trod enc Try.prog W base spare held fuel 30 [x, y] = some d) : ∃ a : Ac, x = .int .u8 (a.k : Int) ∧ y = .int .i64 a.i ∧ FitA a := by
  obtain ⟨xs, n, _, _, hlen, hxl, hfs⟩ := DataW.trod_struct Try.underlying30 h
  have g0 : DataW.trod enc Try.prog W base spare held n 28 ((([x, y] : List Value).drop 0).take (Try.prog.cellsOf 28)) = xs[0]? := hfs 0 _ rfl
  have g1 : DataW.trod enc Try.prog W base spare held n 3 ((([x, y] : List Value).drop 1).take (Try.prog.cellsOf 3)) = xs[1]? := hfs 1 _ rfl
  have hx2 : xs.length = 2 := hxl
  rw [List.getElem?_eq_getElem (by omega)] at g0 g1
  rw [show Try.prog.cellsOf 28 = 1 from by kernel_rfl] at g0
  rw [show Try.prog.cellsOf 3 = 1 from by kernel_rfl] at g1
  obtain ⟨a, e2, _, hw⟩ := DataW.trod_int Try.underlying28 g0
  obtain ⟨b, e3, _, hw2⟩ := DataW.trod_int Try.underlying3 g1
  have e2' : x = .int .u8 a := by injection e2
  have e3' : y = .int .i64 b := by injection e3
  have q := wfu8 hw
  obtain ⟨k, rfl⟩ := Int.eq_ofNat_of_zero_le q.1
  exact ⟨⟨k, b⟩, e2', e3', q.2, wfi64 hw2⟩
set_option maxRecDepth 100000 in
theorem open_pf4 {s c f o : Value} {fuel : Nat} {d : DataW H × List MemPlace} (h : DataW.trod enc Try.prog W base spare held fuel 27 [s, c, f, o] = some d) : ∃ p : Pf, s = .bool p.six ∧ c = .int .u64 (hiN p.n : Int) ∧ f = .int .u64 (loN p.n : Int) ∧ o = .int .i64 p.len ∧ (-9223372036854775808 ≤ p.len ∧ p.len ≤ 9223372036854775807) ∧ p.n < 2 ^ 128 := by
  obtain ⟨xs, n, _, _, hlen, hxl, hfs⟩ := DataW.trod_struct Try.underlying27 h
  have g0 : DataW.trod enc Try.prog W base spare held n 4 ((([s, c, f, o] : List Value).drop 0).take (Try.prog.cellsOf 4)) = xs[0]? := hfs 0 _ rfl
  have g1 : DataW.trod enc Try.prog W base spare held n 25 ((([s, c, f, o] : List Value).drop 1).take (Try.prog.cellsOf 25)) = xs[1]? := hfs 1 _ rfl
  have g2 : DataW.trod enc Try.prog W base spare held n 3 ((([s, c, f, o] : List Value).drop 3).take (Try.prog.cellsOf 3)) = xs[2]? := hfs 2 _ rfl
  have hx3 : xs.length = 3 := hxl
  rw [List.getElem?_eq_getElem (by omega)] at g0 g1 g2
  rw [show Try.prog.cellsOf 4 = 1 from by kernel_rfl] at g0
  rw [show Try.prog.cellsOf 25 = 2 from by kernel_rfl] at g1
  rw [show Try.prog.cellsOf 3 = 1 from by kernel_rfl] at g2
  obtain ⟨ob, e3, _⟩ := DataW.trod_bool Try.underlying4 g0
  obtain ⟨m, hm, rfl, rfl⟩ := open_ad (x := c) (y := f) g1
  obtain ⟨fu, e2, _, hw⟩ := DataW.trod_int Try.underlying3 g2
  have e2' : o = .int .i64 fu := by injection e2
  have e3' : s = .bool ob := by injection e3
  exact ⟨⟨ob, m, fu⟩, e3', rfl, rfl, e2', wfi64 hw, hm⟩
set_option maxRecDepth 100000 in
theorem open_action {v : Value} {d : DataW H} {ps : List MemPlace} {r : Reach} {b0 : Nat} (hval : Value.okWide Try.prog W r b0 30 v) (h : DataW.Trod enc Try.prog W base spare held 30 v d ps) : ∃ a : Ac, v = acV a ∧ FitA a := by
  obtain ⟨cs, rfl, hsz⟩ := okWide_struct Try.underlying30 hval
  obtain ⟨fuel, hf⟩ := h
  rw [show Try.prog.cellsOf 30 = 2 from by kernel_rfl] at hsz
  obtain ⟨x, y, rfl⟩ : ∃ x y, cs = #[x, y] := by
    obtain ⟨l⟩ := cs
    match l, hsz with
    | [x, y], _ => exact ⟨x, y, rfl⟩
  obtain ⟨a, rfl, rfl, fa⟩ := open_ac2 hf
  exact ⟨a, rfl, fa⟩
set_option maxRecDepth 100000 in
theorem open_event {v : Value} {d : DataW H} {ps : List MemPlace} {r : Reach} {b0 : Nat} (hval : Value.okWide Try.prog W r b0 87 v) (h : DataW.Trod enc Try.prog W base spare held 87 v d ps) : ∃ e : Ev, v = evV e ∧ FitE e := by
  obtain ⟨cs, rfl, hsz⟩ := okWide_struct Try.underlying87 hval
  obtain ⟨fuel, hf⟩ := h
  obtain ⟨xs, n, _, _, hlen, hxl, hfs⟩ := DataW.trod_struct Try.underlying87 hf
  rw [show Try.prog.cellsOf 87 = 12 from by kernel_rfl] at hsz
  obtain ⟨c0, c1, c2, c3, c4, c5, c6, c7, c8, c9, c10, c11, rfl⟩ : ∃ c0 c1 c2 c3 c4 c5 c6 c7 c8 c9 c10 c11, cs = #[c0, c1, c2, c3, c4, c5, c6, c7, c8, c9, c10, c11] := by
    obtain ⟨l⟩ := cs
    match l, hsz with
    | [c0, c1, c2, c3, c4, c5, c6, c7, c8, c9, c10, c11], _ => exact ⟨c0, c1, c2, c3, c4, c5, c6, c7, c8, c9, c10, c11, rfl⟩
  have g0 : DataW.trod enc Try.prog W base spare held n 85 ((([c0, c1, c2, c3, c4, c5, c6, c7, c8, c9, c10, c11] : List Value).drop 0).take (Try.prog.cellsOf 85)) = xs[0]? := hfs 0 _ rfl
  have g1 : DataW.trod enc Try.prog W base spare held n 3 ((([c0, c1, c2, c3, c4, c5, c6, c7, c8, c9, c10, c11] : List Value).drop 1).take (Try.prog.cellsOf 3)) = xs[1]? := hfs 1 _ rfl
  have g2 : DataW.trod enc Try.prog W base spare held n 23 ((([c0, c1, c2, c3, c4, c5, c6, c7, c8, c9, c10, c11] : List Value).drop 2).take (Try.prog.cellsOf 23)) = xs[2]? := hfs 2 _ rfl
  have g3 : DataW.trod enc Try.prog W base spare held n 2 ((([c0, c1, c2, c3, c4, c5, c6, c7, c8, c9, c10, c11] : List Value).drop 3).take (Try.prog.cellsOf 2)) = xs[3]? := hfs 3 _ rfl
  have g4 : DataW.trod enc Try.prog W base spare held n 27 ((([c0, c1, c2, c3, c4, c5, c6, c7, c8, c9, c10, c11] : List Value).drop 4).take (Try.prog.cellsOf 27)) = xs[4]? := hfs 4 _ rfl
  have g5 : DataW.trod enc Try.prog W base spare held n 30 ((([c0, c1, c2, c3, c4, c5, c6, c7, c8, c9, c10, c11] : List Value).drop 8).take (Try.prog.cellsOf 30)) = xs[5]? := hfs 5 _ rfl
  have g6 : DataW.trod enc Try.prog W base spare held n 3 ((([c0, c1, c2, c3, c4, c5, c6, c7, c8, c9, c10, c11] : List Value).drop 10).take (Try.prog.cellsOf 3)) = xs[6]? := hfs 6 _ rfl
  have g7 : DataW.trod enc Try.prog W base spare held n 3 ((([c0, c1, c2, c3, c4, c5, c6, c7, c8, c9, c10, c11] : List Value).drop 11).take (Try.prog.cellsOf 3)) = xs[7]? := hfs 7 _ rfl
  have hx8 : xs.length = 8 := hxl
  rw [List.getElem?_eq_getElem (by omega)] at g0 g1 g2 g3 g4 g5 g6 g7
  rw [show Try.prog.cellsOf 85 = 1 from by kernel_rfl] at g0
  rw [show Try.prog.cellsOf 3 = 1 from by kernel_rfl] at g1 g6 g7
  rw [show Try.prog.cellsOf 23 = 1 from by kernel_rfl] at g2
  rw [show Try.prog.cellsOf 2 = 1 from by kernel_rfl] at g3
  rw [show Try.prog.cellsOf 27 = 4 from by kernel_rfl] at g4
  rw [show Try.prog.cellsOf 30 = 2 from by kernel_rfl] at g5
  obtain ⟨k, e0, _, w0⟩ := DataW.trod_int Try.underlying85 g0
  obtain ⟨r1, e1, _, w1⟩ := DataW.trod_int Try.underlying3 g1
  obtain ⟨s2, e2, _, w2⟩ := DataW.trod_int Try.underlying23 g2
  obtain ⟨t3, e3, _, w3⟩ := DataW.trod_int Try.underlying2 g3
  obtain ⟨p, r4, r5, r6, r7, b1, b2⟩ := open_pf4 (s := c4) (c := c5) (f := c6) (o := c7) g4
  obtain ⟨a, r8, r9, fa⟩ := open_ac2 (x := c8) (y := c9) g5
  obtain ⟨i6, e6, _, w6⟩ := DataW.trod_int Try.underlying3 g6
  obtain ⟨j7, e7, _, w7⟩ := DataW.trod_int Try.underlying3 g7
  have e0' : c0 = .int .u8 k := by injection e0
  have e1' : c1 = .int .i64 r1 := by injection e1
  have e2' : c2 = .int .u64 s2 := by injection e2
  have e3' : c3 = .int .i64 t3 := by injection e3
  have e6' : c10 = .int .i64 i6 := by injection e6
  have e7' : c11 = .int .i64 j7 := by injection e7
  have q := wfu8 w0
  have q2 := wfu64 w2
  obtain ⟨kk, rfl⟩ := Int.eq_ofNat_of_zero_le q.1
  obtain ⟨ss, rfl⟩ := Int.eq_ofNat_of_zero_le q2.1
  subst e0' e1' e2' e3' e6' e7' r4 r5 r6 r7 r8 r9
  exact ⟨⟨kk, r1, ss, t3, p, a, i6, j7⟩, rfl, ⟨q.2, wfi64 w1, q2.2, wfi64 w3, b1, b2, fa, wfi64 w6, wfi64 w7⟩⟩
end
end Go.Proofs.Ytjgieaijdkmadaa.Msg
namespace Go.Proofs.Ytjgieaijdkmadaa.Tr
open Go.ChangeShapes Go.WideShapes Go.ChangeAt Go.RowKit
open Go.Proofs.Ytjgieaijdkmadaa.Msg (open_pf4 open_ac2)
open Go.Proofs.Ytjgieaijdkmadaa.Lk (HasRow row_of flat_get hasRow_nil)
section
variable {H : Type} {enc : TypeId × Value → H} {W : World} {base : Nat} {spare : Nat → Bool} {held : Bool}
set_option maxRecDepth 100000 in
theorem open_rt6 {c0 c1 c2 c3 c4 c5 : Value} {fuel : Nat} {d : DataW H × List MemPlace} (hf : DataW.trod enc Try.prog W base spare held fuel 32 [c0, c1, c2, c3, c4, c5] = some d) : ∃ r : Rt, [c0, c1, c2, c3, c4, c5] = rtC r ∧ FitR r := by
  obtain ⟨xs, n, _, _, hlen, hxl, hfs⟩ := DataW.trod_struct Try.underlying32 hf
  have g0 : DataW.trod enc Try.prog W base spare held n 27 ((([c0, c1, c2, c3, c4, c5] : List Value).drop 0).take (Try.prog.cellsOf 27)) = xs[0]? := hfs 0 _ rfl
  have g1 : DataW.trod enc Try.prog W base spare held n 30 ((([c0, c1, c2, c3, c4, c5] : List Value).drop 4).take (Try.prog.cellsOf 30)) = xs[1]? := hfs 1 _ rfl
  have hx2 : xs.length = 2 := hxl
  rw [List.getElem?_eq_getElem (by omega)] at g0 g1
  rw [show Try.prog.cellsOf 27 = 4 from by kernel_rfl] at g0
  rw [show Try.prog.cellsOf 30 = 2 from by kernel_rfl] at g1
  obtain ⟨p, r4, r5, r6, r7, b1, b2⟩ := open_pf4 (s := c0) (c := c1) (f := c2) (o := c3) g0
  obtain ⟨a, r8, r9, fa⟩ := open_ac2 (x := c4) (y := c5) g1
  subst r4 r5 r6 r7 r8 r9
  exact ⟨⟨p, a⟩, rfl, ⟨b1, b2⟩, fa⟩
set_option maxRecDepth 100000 in
theorem open_route {v : Value} {d : DataW H} {ps : List MemPlace} {r : Reach} {b0 : Nat} (hval : Value.okWide Try.prog W r b0 32 v) (h : DataW.Trod enc Try.prog W base spare held 32 v d ps) : ∃ a : Rt, v = rtV a ∧ FitR a := by
  obtain ⟨cs, rfl, hsz⟩ := okWide_struct Try.underlying32 hval
  obtain ⟨fuel, hf⟩ := h
  rw [show Try.prog.cellsOf 32 = 6 from by kernel_rfl] at hsz
  obtain ⟨c0, c1, c2, c3, c4, c5, rfl⟩ : ∃ c0 c1 c2 c3 c4 c5, cs = #[c0, c1, c2, c3, c4, c5] := by
    obtain ⟨l⟩ := cs
    match l, hsz with
    | [c0, c1, c2, c3, c4, c5], _ => exact ⟨c0, c1, c2, c3, c4, c5, rfl⟩
  obtain ⟨a, e, fa⟩ := open_rt6 hf
  exact ⟨a, by unfold rtV; rw [← e], fa⟩
set_option maxRecDepth 100000 in
theorem open_routes {v : Value} {fuel : Nat} {x : DataW H × List MemPlace} (h : DataW.trod enc Try.prog W base spare held fuel 22 [v] = some x) : ∃ l : List Rt, HasRts W v l ∧ ∀ s ∈ l, FitR s := by
  rcases Go.Deep.open_slice Try.underlying22 h with ⟨hcs, _⟩ | ⟨a, l, c, m, n, D, Pl, hcs, _, hl, hm, hmm, _, hx⟩
  · injection hcs with e; subst e
    exact ⟨[], hasRow_nil _ _, by simp⟩
  · injection hcs with e; subst e
    have hlm : l ≤ m := by rw [hmm]; split <;> omega
    have hA : ∀ i, ∃ p : Rt, i < l → (∀ j, j < 6 → W.cell? (a.add (i * 6 + j)) = (rtC p)[j]?) ∧ FitR p := fun i => by
      by_cases hi : i < l
      · obtain ⟨cs', h1, h2⟩ := hx i (by omega)
        rw [show Try.prog.cellsOf 32 = 6 from by kernel_rfl] at h1
        obtain ⟨_, hlen, hcell⟩ := World.cells?_some h1
        obtain ⟨c0, c1, c2, c3, c4, c5, rfl⟩ : ∃ c0 c1 c2 c3 c4 c5, cs' = [c0, c1, c2, c3, c4, c5] := by
          match cs', hlen with
          | [c0, c1, c2, c3, c4, c5], _ => exact ⟨c0, c1, c2, c3, c4, c5, rfl⟩
        obtain ⟨s, es, fs⟩ := open_rt6 h2
        refine ⟨s, fun _ => ⟨fun j hj => ?_, fs⟩⟩
        rw [← es]
        have := hcell j hj
        rw [Go.Deep.add_add] at this
        rw [this]
      · exact ⟨⟨⟨false, 0, 0⟩, ⟨0, 0⟩⟩, fun h => absurd h hi⟩
    obtain ⟨F, hF⟩ := Classical.axiomOfChoice hA
    refine ⟨(List.range l).map F, ?_, fun p hp => ?_⟩
    · unfold HasRts
      rw [List.length_map, List.length_range]
      refine row_of (by decide) hl hm (by rw [rtCs_len]; simp) (fun j hj => ?_)
      have hj2 : j / 6 < l := by omega
      obtain ⟨hc, _⟩ := hF (j / 6) hj2
      show _ = (((List.range l).map F).flatMap rtC)[j]?
      rw [flat_get rtC 6 (by decide) (fun x => rfl) _ j (by simp; omega)]
      simp only [List.getElem_map, List.getElem_range]
      rw [← hc (j % 6) (by omega)]
      congr 2
      omega
    · obtain ⟨i, hi, rfl⟩ := List.mem_map.1 hp
      exact (hF i (List.mem_range.1 hi)).2
end
end Go.Proofs.Ytjgieaijdkmadaa.Tr
namespace Go.Proofs.Ytjgieaijdkmadaa.Tr
open Go.Proofs.Ytjgieaijdkmadaa.Addr (Pf okP hasB coversB kP hiN loN rightB)
theorem ext_up : ∀ (a b : List Rt), Up a → Up b → (∀ z, z ∈ a ↔ z ∈ b) → a = b := by
  intro a
  induction a with
  | nil =>
    intro b _ _ h
    cases b with
    | nil => rfl
    | cons y b => exact absurd ((h y).2 List.mem_cons_self) (by simp)
  | cons x a ih =>
    intro b ha hb h
    cases b with
    | nil => exact absurd ((h x).1 List.mem_cons_self) (by simp)
    | cons y b =>
      have h1 := List.pairwise_cons.1 ha
      have h2 := List.pairwise_cons.1 hb
      have hxy : x = y := by
        rcases List.mem_cons.1 ((h x).1 List.mem_cons_self) with e | e
        · exact e
        · rcases List.mem_cons.1 ((h y).2 List.mem_cons_self) with e2 | e2
          · exact e2.symm
          · exact absurd (ltP_trans (h2.1 x e) (h1.1 y e2)) (ltP_irr _)
      subst hxy
      congr 1
      refine ih b h1.2 h2.2 (fun z => ?_)
      constructor
      · intro hz
        rcases List.mem_cons.1 ((h z).1 (List.mem_cons_of_mem _ hz)) with e | e
        · subst e; exact absurd (h1.1 z hz) (ltP_irr _)
        · exact e
      · intro hz
        rcases List.mem_cons.1 ((h z).2 (List.mem_cons_of_mem _ hz)) with e | e
        · subst e; exact absurd (h2.1 z hz) (ltP_irr _)
        · exact e
theorem up_one {l : List Rt} (h : Up l) {x y : Rt} (hx : x ∈ l) (hy : y ∈ l) (e : x.pf = y.pf) : x = y := by
  obtain ⟨j, hj, rfl⟩ := List.getElem_of_mem hx
  obtain ⟨k, hk, rfl⟩ := List.getElem_of_mem hy
  rcases Nat.lt_trichotomy j k with g | g | g
  · have := List.pairwise_iff_getElem.1 h j k hj hk g
    rw [e] at this
    exact absurd this (ltP_irr _)
  · subst g; rfl
  · have := List.pairwise_iff_getElem.1 h k j hk hj g
    rw [e] at this
    exact absurd this (ltP_irr _)
theorem mem_insT_iff {l : List Rt} {r z : Rt} : z ∈ insT l r ↔ z = r ∨ (z ∈ l ∧ z.pf ≠ r.pf) := by
  unfold insT aheadT behindT
  simp only [List.mem_append, List.mem_filter, List.mem_singleton, decide_eq_true_eq]
  have hq := ordP_eq z.pf r.pf
  constructor
  · rintro (⟨h1, h2⟩ | h | ⟨h1, h2⟩)
    · exact .inr ⟨h1, fun e => by rw [hq.2 e] at h2; omega⟩
    · exact .inl h
    · exact .inr ⟨h1, fun e => by rw [hq.2 e] at h2; omega⟩
  · rintro (h | ⟨h1, h2⟩)
    · exact .inr (.inl h)
    · have : ordP z.pf r.pf ≠ 0 := fun e => h2 (hq.1 e)
      rcases Int.lt_or_gt_of_ne this with h3 | h3
      · exact .inl ⟨h1, h3⟩
      · exact .inr (.inr ⟨h1, h3⟩)
theorem mem_others {l : List Rt} {p : Pf} {z : Rt} : z ∈ othersT l p ↔ z ∈ l ∧ z.pf ≠ p := by
  unfold othersT
  rw [List.mem_filter]
  have hq := ordP_eq z.pf p
  simp only [Bool.not_eq_true', decide_eq_false_iff_not]
  exact ⟨fun h => ⟨h.1, fun e => h.2 (hq.2 e)⟩, fun h => ⟨h.1, fun e => h.2 (hq.1 e)⟩⟩
theorem fit_okR {r : Rt} (h : okR r = true) : okP r.pf = true := by
  unfold okR at h
  exact (Bool.and_eq_true _ _ ▸ h).1
theorem fit_put {l : List Rt} {r : Rt} (hf : ∀ x ∈ l, FitR x) (hr : FitR r) : ∀ x ∈ (putT l r).1, FitR x := by
  intro x hx
  unfold putT at hx
  split at hx
  · split at hx
    · exact hf x hx
    · rcases insT_mem hx with rfl | h
      · exact hr
      · exact hf x h
  · cases hx
theorem fit_del {l : List Rt} {p : Pf} (hf : ∀ x ∈ l, FitR x) : ∀ x ∈ (delT l p).1, FitR x := by
  intro x hx
  unfold delT at hx
  split at hx
  · exact hf x (mem_others.1 hx).1
  · cases hx
theorem ok_others {l : List Rt} (p : Pf) (h : okT l = true) : okT (othersT l p) = true := by
  obtain ⟨h1, h2, h3⟩ := (okT_iff _).1 h
  have := othersT_le l p
  exact (okT_iff _).2 ⟨by omega, fun x hx => h2 x (mem_others.1 hx).1, h3.filter _⟩
theorem findT_iff {l : List Rt} {p : Pf} (hu : Up l) {x : Rt} : findT l p = some x ↔ x ∈ l ∧ x.pf = p := by
  constructor
  · intro h
    have h1 := List.mem_of_find?_eq_some h
    have h2 := List.find?_some h
    rw [decide_eq_true_eq, ordP_eq] at h2
    exact ⟨h1, h2⟩
  · rintro ⟨h1, h2⟩
    cases hf : findT l p with
    | none =>
      have := List.find?_eq_none.1 hf x h1
      simp only [decide_eq_true_eq, ordP_eq] at this
      exact absurd h2 this
    | some y =>
      have g1 := List.mem_of_find?_eq_some hf
      have g2 := List.find?_some hf
      rw [decide_eq_true_eq, ordP_eq] at g2
      rw [up_one hu h1 g1 (by rw [h2, g2])]
theorem find_ext {l m : List Rt} {p : Pf} (hl : Up l) (hm : Up m) (h : ∀ x : Rt, x.pf = p → (x ∈ l ↔ x ∈ m)) : findT l p = findT m p := by
  cases hf : findT m p with
  | some y =>
    obtain ⟨a, b⟩ := (findT_iff hm).1 hf
    exact (findT_iff hl).2 ⟨(h y b).2 a, b⟩
  | none =>
    cases hg : findT l p with
    | none => rfl
    | some y =>
      obtain ⟨a, b⟩ := (findT_iff hl).1 hg
      rw [(findT_iff hm).2 ⟨(h y b).1 a, b⟩] at hf
      cases hf
/-- what was put is found -/
theorem found_put {l : List Rt} {r : Rt} (h : (putT l r).2 = 0) : findE (putT l r).1 r.pf = (r, 0) := by
  obtain ⟨h1, h2, h3, h4⟩ := putT_ok h
  rw [h3]
  unfold findE findO
  rw [h4, fit_okR h2, (findT_iff (x := r) ((okT_iff _).1 h4).2.2).2 ⟨mem_insT _ _, rfl⟩]
  rfl
theorem found_other {l : List Rt} {r : Rt} {p : Pf} (h : (putT l r).2 = 0) (hp : p ≠ r.pf) : findE (putT l r).1 p = findE l p := by
  obtain ⟨h1, h2, h3, h4⟩ := putT_ok h
  rw [h3]
  unfold findE findO
  rw [h4, h1, find_ext (l := insT l r) (m := l) ((okT_iff _).1 h4).2.2 ((okT_iff _).1 h1).2.2 (fun x hx => by
    rw [mem_insT_iff]
    exact ⟨fun h => by
      rcases h with rfl | h
      · exact absurd hx.symm hp
      · exact h.1, fun h => .inr ⟨h, by rw [hx]; exact hp⟩⟩)]
theorem check_put {l : List Rt} {r : Rt} (h : (putT l r).2 = 0) : checkT (putT l r).1 = 0 := by
  obtain ⟨h1, h2, h3, h4⟩ := putT_ok h
  rw [h3]
  unfold checkT
  rw [h4]
  rfl
theorem del_put {l : List Rt} {r : Rt} (h : (putT l r).2 = 0) (hn : (findE l r.pf).2 = 3) : delT (putT l r).1 r.pf = (l, 0) := by
  obtain ⟨h1, h2, h3, h4⟩ := putT_ok h
  have hno : ∀ x ∈ l, x.pf ≠ r.pf := fun x hx e => by
    unfold findE findO at hn
    rw [h1, fit_okR h2, (findT_iff ((okT_iff _).1 h1).2.2).2 ⟨hx, e⟩] at hn
    cases hn
  have he : othersT (insT l r) r.pf = l := ext_up _ _ (((okT_iff _).1 h4).2.2.filter _) ((okT_iff _).1 h1).2.2 (fun z => by
    rw [mem_others, mem_insT_iff]
    constructor
    · rintro ⟨rfl | h, g⟩
      · exact absurd rfl g
      · exact h.1
    · intro hz
      exact ⟨.inr ⟨hz, hno z hz⟩, hno z hz⟩)
  have hlen : ¬ l.length = (insT l r).length := by
    rw [insT_len]
    have : othersT l r.pf = l := ext_up _ _ (((okT_iff _).1 h1).2.2.filter _) ((okT_iff _).1 h1).2.2 (fun z => by
      rw [mem_others]
      exact ⟨fun h => h.1, fun h => ⟨h, hno z h⟩⟩)
    rw [this]
    omega
  rw [h3]
  unfold delT
  rw [h4, fit_okR h2, he]
  simp only [Bool.and_self, if_true, if_neg hlen]
theorem put_swap {l : List Rt} {r s : Rt} (h1 : (putT l r).2 = 0) (h2 : (putT (putT l r).1 s).2 = 0) (h3 : (putT l s).2 = 0) (hne : s.pf ≠ r.pf) : putT (putT l s).1 r = ((putT (putT l r).1 s).1, 0) := by
  obtain ⟨a1, a2, a3, a4⟩ := putT_ok h1
  rw [a3] at h2 ⊢
  obtain ⟨b1, b2, b3, b4⟩ := putT_ok h2
  obtain ⟨c1, c2, c3, c4⟩ := putT_ok h3
  rw [c3, b3]
  have he : insT (insT l s) r = insT (insT l r) s := ext_up _ _ (insT_up ((okT_iff _).1 c4).2.2) (insT_up ((okT_iff _).1 a4).2.2) (fun z => by
    simp only [mem_insT_iff]
    constructor
    · rintro (rfl | ⟨rfl | ⟨g1, g2⟩, g3⟩)
      · exact .inr ⟨.inl rfl, fun e => hne e.symm⟩
      · exact .inl rfl
      · exact .inr ⟨.inr ⟨g1, g3⟩, g2⟩
    · rintro (rfl | ⟨rfl | ⟨g1, g2⟩, g3⟩)
      · exact .inr ⟨.inl rfl, hne⟩
      · exact .inl rfl
      · exact .inr ⟨.inr ⟨g1, g3⟩, g2⟩)
  have hl := ((okT_iff _).1 b4).1
  rw [← he, insT_len] at hl
  unfold putT
  rw [c4, a2, he]
  simp only [Bool.and_self, if_true]
  rw [if_neg (by omega)]
theorem put_not {l : List Rt} {r : Rt} (h : ¬ (putT l r).2 = 0) : (putT l r).2 = 2 ∨ ((putT l r).2 = 8 ∧ (putT l r).1 = l) := by
  unfold putT at h ⊢
  split
  · rename_i h1
    rw [if_pos h1] at h
    split
    · exact .inr ⟨rfl, rfl⟩
    · rename_i h2
      rw [if_neg h2] at h
      exact absurd rfl h
  · exact .inl rfl
/-- the longest -/
theorem long_two {l : List Rt} {six : Bool} {a : Nat} (h : (longT l six a).2 = 2) : okT l = false ∨ rightB six a = false := by
  unfold longT at h
  cases h1 : okT l with
  | false => exact .inl rfl
  | true =>
    cases h2 : rightB six a with
    | false => exact .inr rfl
    | true =>
      rw [h1, h2] at h
      unfold codeR at h
      simp only [Bool.and_self, if_true] at h
      split at h <;> cases h
theorem long_one {l : List Rt} {six : Bool} {a : Nat} (h : ¬ (longT l six a).2 = 2) : okT l = true ∧ rightB six a = true := by
  unfold longT at h
  cases h1 : okT l && rightB six a with
  | false => rw [h1] at h; exact absurd rfl h
  | true => exact (Bool.and_eq_true _ _ ▸ h1)
theorem long_none {l : List Rt} {six : Bool} {a : Nat} (h2 : ¬ (longT l six a).2 = 2) (h0 : ¬ (longT l six a).2 = 0) : (longT l six a).2 = 3 ∧ ∀ x ∈ l, hasB x.pf six a = false := by
  obtain ⟨o1, o2⟩ := long_one h2
  unfold longT codeR at h0 ⊢
  rw [o1, o2] at h0 ⊢
  simp only [Bool.and_self, if_true] at h0 ⊢
  split at h0
  · rename_i hl
    refine ⟨by rw [if_pos hl], fun x hx => ?_⟩
    rw [List.length_eq_zero_iff, List.filter_eq_nil_iff] at hl
    have := hl x hx
    unfold hasR at this
    exact Bool.eq_false_iff.2 this
  · exact absurd rfl h0
theorem long_some {l : List Rt} {six : Bool} {a : Nat} (h0 : (longT l six a).2 = 0) : okT l = true ∧ rightB six a = true ∧ (longT l six a).1 ∈ l ∧ hasB (longT l six a).1.pf six a = true ∧ ∀ x ∈ l, hasB x.pf six a = true → x = (longT l six a).1 ∨ (x.pf.len < (longT l six a).1.pf.len ∧ coversB x.pf (longT l six a).1.pf = true) := by
  obtain ⟨o1, o2⟩ := long_one (by rw [h0]; decide)
  have hne : ¬ (l.filter (hasR six a)).length = 0 := fun e => by
    unfold longT codeR at h0
    rw [o1, o2] at h0
    simp only [Bool.and_self, if_true, e] at h0
    cases h0
  have hu := ((okT_iff _).1 o1).2.2.filter (hasR six a)
  have hne2 : l.filter (hasR six a) ≠ [] := fun e => hne (by rw [e]; rfl)
  have he : (longT l six a).1 = (l.filter (hasR six a)).getLast hne2 := by
    unfold longT lastR
    rw [o1, o2, List.getLast?_eq_some_getLast hne2]
    rfl
  have hm := List.getLast_mem hne2
  rw [← he] at hm
  have hm2 := List.mem_filter.1 hm
  refine ⟨o1, o2, hm2.1, hm2.2, fun x hx hb => ?_⟩
  obtain ⟨y, y1, y2, y3⟩ := up_last hu (List.mem_filter.2 ⟨hx, hb⟩)
  rw [List.getLast?_eq_some_getLast hne2, ← he] at y1
  injection y1 with y1
  subst y1
  rcases y3 with y3 | y3
  · exact .inl y3.symm
  · exact .inr (later_long y3 hb hm2.2)
theorem del_long {l : List Rt} {six : Bool} {a : Nat} (h0 : (longT l six a).2 = 0) : delT l (longT l six a).1.pf = (othersT l (longT l six a).1.pf, 0) := by
  obtain ⟨o1, o2, o3, o4, o5⟩ := long_some h0
  generalize (longT l six a).1 = r at *
  unfold delT
  rw [o1, has_ok o4]
  simp only [Bool.and_self, if_true]
  rw [if_neg (fun e => ?_)]
  have he : othersT l r.pf = l := List.filter_sublist.eq_of_length e
  rw [← he] at o3
  exact (mem_others.1 o3).2 rfl
theorem next_long {l : List Rt} {six : Bool} {a : Nat} (h0 : (longT l six a).2 = 0) :
    (longT (othersT l (longT l six a).1.pf) six a).2 = 3 ∨ ((longT (othersT l (longT l six a).1.pf) six a).2 = 0 ∧ (longT (othersT l (longT l six a).1.pf) six a).1.pf.len < (longT l six a).1.pf.len ∧ coversB (longT (othersT l (longT l six a).1.pf) six a).1.pf (longT l six a).1.pf = true) := by
  obtain ⟨o1, o2, o3, o4, o5⟩ := long_some h0
  generalize (longT l six a).1 = r at *
  have ok := ok_others r.pf o1
  by_cases h1 : (longT (othersT l r.pf) six a).2 = 0
  · obtain ⟨p1, p2, p3, p4, p5⟩ := long_some h1
    refine .inr ⟨h1, ?_⟩
    obtain ⟨q1, q2⟩ := mem_others.1 p3
    rcases o5 _ q1 p4 with e | e
    · rw [e] at q2; exact absurd rfl q2
    · exact e
  · refine .inl (long_none (fun e => ?_) h1).1
    rcases long_two e with g | g
    · rw [ok] at g; cases g
    · rw [o2] at g; cases g
end Go.Proofs.Ytjgieaijdkmadaa.Tr
