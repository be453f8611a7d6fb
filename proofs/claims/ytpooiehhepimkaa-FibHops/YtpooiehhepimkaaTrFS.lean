/- Routes held against each other; rows of routes that are one. -/
import Derived.Test.YtpooiehhepimkaaTrBase
import Derived.Test.YtpooiehhepimkaaMsgPfEq
import Derived.Test.YtpooiehhepimkaaLkFZ
set_option linter.unusedVariables false
namespace Go.Proofs.Ytpooiehhepimkaa.Tr
open Go.RowKit
open Go.Proofs.Ytpooiehhepimkaa.Lk (HasRow below_drewN)
open Go.Proofs.Ytpooiehhepimkaa.Msg (eqP eqP_iff pf_inG ac_inG Ac)
open Go.Proofs.Ytpooiehhepimkaa.Addr (Pf hiN loN RowAt below2 below_drew below_new bset RowAt.lt RowAt.cell RowAt.frozen RowAt.below RowAt.drew RowAt.new RowAt.alloc cells2)
def eqR (r s : Rt) : Bool := eqP r.pf s.pf && (decide (r.act.k = s.act.k) && decide (r.act.i = s.act.i))
theorem eqR_iff (r s : Rt) : eqR r s = true ↔ r = s := by
  obtain ⟨p, ⟨k, i⟩⟩ := r
  obtain ⟨q, ⟨l, j⟩⟩ := s
  unfold eqR
  simp only [Bool.and_eq_true, decide_eq_true_eq, eqP_iff, Rt.mk.injEq, Ac.mk.injEq]
theorem rt_in (r s : Rt) (w : World) : (Op.equalIn 10000 55 (.agg #[.bool r.pf.six, .int .u64 (hiN r.pf.n : Int), .int .u64 (loN r.pf.n : Int), .int .i64 r.pf.len, .int .u8 (r.act.k : Int), .int .i64 r.act.i]) (.agg #[.bool s.pf.six, .int .u64 (hiN s.pf.n : Int), .int .u64 (loN s.pf.n : Int), .int .i64 s.pf.len, .int .u8 (s.act.k : Int), .int .i64 s.act.i])).run Try.prog w = .ok (eqR r s) w := by
  have a24 := Try.isAgg39
  have z24 := Try.sizeOf39
  have a25 := Try.isAgg42
  have z25 := Try.sizeOf42
  have hS : Try.prog.underlying 55 = some (.struct (Try.prog.fieldsOf 55)) := by kernel_rfl
  have hp : Try.prog.stoodInHeld 55 = false := by kernel_rfl
  have h1 := fun w => pf_inG r.pf.six s.pf.six r.pf.n s.pf.n r.pf.len s.pf.len w 9996
  have h2 := fun w => ac_inG r.act.k s.act.k r.act.i s.act.i w 9997
  have hE : eqR r s = ((decide (r.pf.six = s.pf.six) && decide (r.pf.n = s.pf.n) && decide (r.pf.len = s.pf.len)) && (decide (r.act.k = s.act.k) && decide (r.act.i = s.act.i))) := rfl
  rw [hE]
  rw [show (10000 : Nat) = 9999 + 1 from rfl, run_equalIn_agg w 9999 55 _ _ hS hp]
  simp only [Program.fieldsOf, Try.underlying55]
  generalize (decide (r.pf.six = s.pf.six) && decide (r.pf.n = s.pf.n) && decide (r.pf.len = s.pf.len)) = D1 at *
  generalize (decide (r.act.k = s.act.k) && decide (r.act.i = s.act.i)) = D2 at *
  cases D1
  · go_simp
  · cases D2
    · go_simp
    · go_simp
theorem rt_guard : Try.prog.eqGuardType Try.prog.depth 55 = false := by kernel_rfl
theorem rt_neq (r s : Rt) (w : World) : (binOp .neq 55 (.agg #[.bool r.pf.six, .int .u64 (hiN r.pf.n : Int), .int .u64 (loN r.pf.n : Int), .int .i64 r.pf.len, .int .u8 (r.act.k : Int), .int .i64 r.act.i]) (.agg #[.bool s.pf.six, .int .u64 (hiN s.pf.n : Int), .int .u64 (loN s.pf.n : Int), .int .i64 s.pf.len, .int .u8 (s.act.k : Int), .int .i64 s.act.i])).run Try.prog w = .ok (.bool (!eqR r s)) w := by
  rw [run_neq_struct, rt_in]
  rfl
theorem rt_eql (r s : Rt) (w : World) : (binOp .eql 55 (.agg #[.bool r.pf.six, .int .u64 (hiN r.pf.n : Int), .int .u64 (loN r.pf.n : Int), .int .i64 r.pf.len, .int .u8 (r.act.k : Int), .int .i64 r.act.i]) (.agg #[.bool s.pf.six, .int .u64 (hiN s.pf.n : Int), .int .u64 (loN s.pf.n : Int), .int .i64 s.pf.len, .int .u8 (s.act.k : Int), .int .i64 s.act.i])).run Try.prog w = .ok (.bool (eqR r s)) w := by
  rw [run_eql_struct, rt_in]
  rfl
theorem rt_one (r : Rt) (w : World) : (binOp .neq 55 (.agg #[.bool r.pf.six, .int .u64 (hiN r.pf.n : Int), .int .u64 (loN r.pf.n : Int), .int .i64 r.pf.len, .int .u8 (r.act.k : Int), .int .i64 r.act.i]) (.agg #[.bool r.pf.six, .int .u64 (hiN r.pf.n : Int), .int .u64 (loN r.pf.n : Int), .int .i64 r.pf.len, .int .u8 (r.act.k : Int), .int .i64 r.act.i])).run Try.prog w = .ok (.bool false) w := by
  rw [rt_neq, (eqR_iff r r).2 rfl]
  rfl
set_option maxHeartbeats 2000000 in
set_option maxRecDepth 20000 in
theorem same_any (l : List Rt) (v u : Value) (w : World) (h1 : HasRts w v l) (h2 : HasRts w u l) :
    Calls Try.prog 12 #[v, u] w fun e w' => e = .returned (.bool true) ∧ Below w.heap.size w w' := by
  obtain ⟨o1, c1, rfl, hq1, hq2⟩ := Lk.HasRow.slice h1
  obtain ⟨o2, c2, rfl, _, _⟩ := Lk.HasRow.slice h2
  have HR : Hid (∀ wr : World, Below w.heap.size w wr → HasRts wr (.slice o1 l.length c1) l ∧ HasRts wr (.slice o2 l.length c2) l) := fun wr hb => ⟨h1.keep hb, h2.keep hb⟩
  obtain ⟨n, hn⟩ : ∃ n, n = l.length := ⟨_, rfl⟩
  have HN : Hid (n = l.length) := hn
  rw [← hn] at HR hq1 ⊢
  have hni : (n : Int) ≤ 9223372036854775807 := by omega
  have hgd := rt_guard
  have hnn : ((n : Int) != (n : Int)) = false := by simp
  clear h1 h2 hn hq1 hq2
  go_enter Try.func12, Try.ntmps12
  go_wp2_with fail
  go_loopw [13] (fun i wr => ∃ k : Nat, k ≤ n ∧ i = .int .i64 k ∧ Below w.heap.size w wr) (fun i _ => n - (intOf i).toNat)
  case atStart => exact ⟨0, by omega, rfl, Below.refl _ _⟩
  case round =>
    obtain ⟨k, hk, rfl, hB⟩ := hrel
    obtain ⟨ha, hb⟩ := HR.out _ hB
    by_cases hlt : k < n
    · have hkz : k < l.length := by rw [← HN.out]; exact hlt
      obtain ⟨g1, i1, rfl, _, a1⟩ := HasRts.cell ha k hkz
      obtain ⟨g2, i2, rfl, _, b1⟩ := HasRts.cell hb k hkz
      have hneq := rt_one l[k]
      have x0 := a1 0 (by omega)
      have x1 := a1 1 (by omega)
      have x2 := a1 2 (by omega)
      have x3 := a1 3 (by omega)
      have x4 := a1 4 (by omega)
      have x5 := a1 5 (by omega)
      have y0 := b1 0 (by omega)
      have y1 := b1 1 (by omega)
      have y2 := b1 2 (by omega)
      have y3 := b1 3 (by omega)
      have y4 := b1 4 (by omega)
      have y5 := b1 5 (by omega)
      unfold rtC at x0 x1 x2 x3 x4 x5 y0 y1 y2 y3 y4 y5
      simp only [List.getElem?_cons_succ, List.getElem?_cons_zero, Nat.add_zero] at x0 x1 x2 x3 x4 x5 y0 y1 y2 y3 y4 y5
      clear a1 b1
      generalize l[k].pf.six = p0 at *
      generalize ((hiN l[k].pf.n : Nat) : Int) = p1 at *
      generalize ((loN l[k].pf.n : Nat) : Int) = p2 at *
      generalize l[k].pf.len = p3 at *
      generalize ((l[k].act.k : Nat) : Int) = p4 at *
      generalize l[k].act.i = p5 at *
      have hki : (k : Int) < (n : Int) := by omega
      clear ha hb
      go_wp2_with fail
      go_quiet (fail)
      go_wp2_with fail
      go_roundw
      case rel => exact ⟨k + 1, by omega, by go_num, by first | exact hB | exact below_drew hB | exact below_drewN hB _⟩
      case measure => simp [intOf]; omega
    · clear ha hb
      go_wp2
      go_ret
      exact ⟨rfl, hB⟩
end Go.Proofs.Ytpooiehhepimkaa.Tr
