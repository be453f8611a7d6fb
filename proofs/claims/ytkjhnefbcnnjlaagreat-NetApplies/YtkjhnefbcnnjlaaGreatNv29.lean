/- The document's Same, of one net held twice. -/
import Derived.Test.YtkjhnefbcnnjlaaGreatNv07
import Derived.BigQuiet
import Derived.Deep.QuietTactic
import Derived.Laws.StructEq
import Derived.Test.YtkjhnefbcnnjlaaGreatNv04
import Derived.Test.YtkjhnefbcnnjlaaGreatNv28
import Derived.Test.YtkjhnefbcnnjlaaGreatNv08
import Derived.Test.YtkjhnefbcnnjlaaGreatNv15
import Derived.Test.YtkjhnefbcnnjlaaGreatNv22
import Derived.Test.YtkjhnefbcnnjlaaGreatNv01
set_option linter.unusedVariables false
namespace Go.Proofs.YtkjhnefbcnnjlaaGreat.Lk
open Go.RowKit
open Go.Proofs.YtkjhnefbcnnjlaaGreat.Addr (below_drew RowAt.cell)
attribute [-go_sem] Builtin.append_
theorem lk_neq (a b : Int) (w : World) : (binOp .neq 101 (.agg #[.int .i64 a, .int .i64 b]) (.agg #[.int .i64 a, .int .i64 b])).run Tryz.prog w = .ok (.bool false) w := by
  have u3 := Tryz.underlying3
  have a3 := Tryz.isAgg3
  have z3 := Tryz.sizeOf3
  have hS : Tryz.prog.underlying 101 = some (.struct (Tryz.prog.fieldsOf 101)) := by kernel_rfl
  have hp : Tryz.prog.stoodInHeld 101 = false := by kernel_rfl
  rw [run_neq_struct, show (10000 : Nat) = 9999 + 1 from rfl, run_equalIn_agg w 9999 101 _ _ hS hp]
  simp only [Program.fieldsOf, Tryz.underlying101]
  go_simp
theorem lk_guard : Tryz.prog.eqGuardType Tryz.prog.depth 101 = false := by kernel_rfl
set_option maxHeartbeats 2000000 in
set_option maxRecDepth 20000 in
theorem same_any (l : List Lk) (v u : Value) (w : World) (h1 : HasLks w v l) (h2 : HasLks w u l) :
    Calls Tryz.prog 41 #[v, u] w fun e w' => e = .returned (.bool true) ∧ Below w.heap.size w w' := by
  obtain ⟨o1, c1, rfl, hq1, hq2⟩ := HasRow.slice h1
  obtain ⟨o2, c2, rfl, _, _⟩ := HasRow.slice h2
  have HR : Hid (∀ wr : World, Below w.heap.size w wr → HasLks wr (.slice o1 l.length c1) l ∧ HasLks wr (.slice o2 l.length c2) l) := fun wr hb => ⟨h1.keep hb, h2.keep hb⟩
  obtain ⟨n, hn⟩ : ∃ n, n = l.length := ⟨_, rfl⟩
  have HN : Hid (n = l.length) := hn
  rw [← hn] at HR hq1 ⊢
  have hni : (n : Int) ≤ 9223372036854775807 := by omega
  have hneq := lk_neq
  have hgd := lk_guard
  have hnn : ((n : Int) != (n : Int)) = false := by simp
  clear h1 h2 hn hq1 hq2
  go_enter Tryz.func41, Tryz.ntmps41
  go_wp2_with fail
  go_loopw [13] (fun i wr => ∃ k : Nat, k ≤ n ∧ i = .int .i64 k ∧ Below w.heap.size w wr) (fun i _ => n - (intOf i).toNat)
  case atStart => exact ⟨0, by omega, rfl, Below.refl _ _⟩
  case round =>
    obtain ⟨k, hk, rfl, hB⟩ := hrel
    obtain ⟨ha, hb⟩ := HR.out _ hB
    by_cases hlt : k < n
    · have hkz : k < l.length := by rw [← HN.out]; exact hlt
      obtain ⟨g1, i1, rfl, _, a1, a2⟩ := HasLks.cell ha k hkz
      obtain ⟨g2, i2, rfl, _, b1, b2⟩ := HasLks.cell hb k hkz
      generalize l[k].iface = pa at a1 b1
      generalize l[k].peer = pb at a2 b2
      have hki : (k : Int) < (n : Int) := by omega
      clear ha hb
      go_wp2_with fail
      go_quiet (fail)
      go_wp2_with fail
      go_roundw
      case rel => exact ⟨k + 1, by omega, by go_num, by first | exact hB | exact below_drew hB | exact below_drewN hB _⟩
      case measure => simp [intOf]; omega
    · clear ha hb
      go_wp2
      go_ret
      exact ⟨rfl, hB⟩
end Go.Proofs.YtkjhnefbcnnjlaaGreat.Lk
namespace Go.Proofs.YtkjhnefbcnnjlaaGreat.Tr
open Go.RowKit
open Go.Proofs.YtkjhnefbcnnjlaaGreat.Lk (HasRow below_drewN)
open Go.Proofs.YtkjhnefbcnnjlaaGreat.Msg (eqP eqP_iff pf_inG ac_inG Ac)
open Go.Proofs.YtkjhnefbcnnjlaaGreat.Addr (hiN loN below_drew RowAt.cell)
def eqR (r s : Rt) : Bool := eqP r.pf s.pf && (decide (r.act.k = s.act.k) && decide (r.act.i = s.act.i))
theorem eqR_iff (r s : Rt) : eqR r s = true ↔ r = s := by
  obtain ⟨p, ⟨k, i⟩⟩ := r
  obtain ⟨q, ⟨l, j⟩⟩ := s
  unfold eqR
  simp only [Bool.and_eq_true, decide_eq_true_eq, eqP_iff, Rt.mk.injEq, Ac.mk.injEq]
theorem rt_in (r s : Rt) (w : World) : (Op.equalIn 10000 98 (.agg #[.bool r.pf.six, .int .u64 (hiN r.pf.n : Int), .int .u64 (loN r.pf.n : Int), .int .i64 r.pf.len, .int .u8 (r.act.k : Int), .int .i64 r.act.i]) (.agg #[.bool s.pf.six, .int .u64 (hiN s.pf.n : Int), .int .u64 (loN s.pf.n : Int), .int .i64 s.pf.len, .int .u8 (s.act.k : Int), .int .i64 s.act.i])).run Tryz.prog w = .ok (eqR r s) w := by
  have a24 := Tryz.isAgg33
  have z24 := Tryz.sizeOf33
  have a25 := Tryz.isAgg36
  have z25 := Tryz.sizeOf36
  have hS : Tryz.prog.underlying 98 = some (.struct (Tryz.prog.fieldsOf 98)) := by kernel_rfl
  have hp : Tryz.prog.stoodInHeld 98 = false := by kernel_rfl
  have h1 := fun w => pf_inG r.pf.six s.pf.six r.pf.n s.pf.n r.pf.len s.pf.len w 9996
  have h2 := fun w => ac_inG r.act.k s.act.k r.act.i s.act.i w 9997
  have hE : eqR r s = ((decide (r.pf.six = s.pf.six) && decide (r.pf.n = s.pf.n) && decide (r.pf.len = s.pf.len)) && (decide (r.act.k = s.act.k) && decide (r.act.i = s.act.i))) := rfl
  rw [hE]
  rw [show (10000 : Nat) = 9999 + 1 from rfl, run_equalIn_agg w 9999 98 _ _ hS hp]
  simp only [Program.fieldsOf, Tryz.underlying98]
  generalize (decide (r.pf.six = s.pf.six) && decide (r.pf.n = s.pf.n) && decide (r.pf.len = s.pf.len)) = D1 at *
  generalize (decide (r.act.k = s.act.k) && decide (r.act.i = s.act.i)) = D2 at *
  cases D1
  · go_simp
  · cases D2
    · go_simp
    · go_simp
theorem rt_guard : Tryz.prog.eqGuardType Tryz.prog.depth 98 = false := by kernel_rfl
theorem rt_neq (r s : Rt) (w : World) : (binOp .neq 98 (.agg #[.bool r.pf.six, .int .u64 (hiN r.pf.n : Int), .int .u64 (loN r.pf.n : Int), .int .i64 r.pf.len, .int .u8 (r.act.k : Int), .int .i64 r.act.i]) (.agg #[.bool s.pf.six, .int .u64 (hiN s.pf.n : Int), .int .u64 (loN s.pf.n : Int), .int .i64 s.pf.len, .int .u8 (s.act.k : Int), .int .i64 s.act.i])).run Tryz.prog w = .ok (.bool (!eqR r s)) w := by
  rw [run_neq_struct, rt_in]
  rfl
theorem rt_one (r : Rt) (w : World) : (binOp .neq 98 (.agg #[.bool r.pf.six, .int .u64 (hiN r.pf.n : Int), .int .u64 (loN r.pf.n : Int), .int .i64 r.pf.len, .int .u8 (r.act.k : Int), .int .i64 r.act.i]) (.agg #[.bool r.pf.six, .int .u64 (hiN r.pf.n : Int), .int .u64 (loN r.pf.n : Int), .int .i64 r.pf.len, .int .u8 (r.act.k : Int), .int .i64 r.act.i])).run Tryz.prog w = .ok (.bool false) w := by
  rw [rt_neq, (eqR_iff r r).2 rfl]
  rfl
set_option maxHeartbeats 2000000 in
set_option maxRecDepth 20000 in
theorem same_any (l : List Rt) (v u : Value) (w : World) (h1 : HasRts w v l) (h2 : HasRts w u l) :
    Calls Tryz.prog 40 #[v, u] w fun e w' => e = .returned (.bool true) ∧ Below w.heap.size w w' := by
  obtain ⟨o1, c1, rfl, hq1, hq2⟩ := Lk.HasRow.slice h1
  obtain ⟨o2, c2, rfl, _, _⟩ := Lk.HasRow.slice h2
  have HR : Hid (∀ wr : World, Below w.heap.size w wr → HasRts wr (.slice o1 l.length c1) l ∧ HasRts wr (.slice o2 l.length c2) l) := fun wr hb => ⟨h1.keep hb, h2.keep hb⟩
  obtain ⟨n, hn⟩ : ∃ n, n = l.length := ⟨_, rfl⟩
  have HN : Hid (n = l.length) := hn
  rw [← hn] at HR hq1 ⊢
  have hni : (n : Int) ≤ 9223372036854775807 := by omega
  have hgd := rt_guard
  have hnn : ((n : Int) != (n : Int)) = false := by simp
  clear h1 h2 hn hq1 hq2
  go_enter Tryz.func40, Tryz.ntmps40
  go_wp2_with fail
  go_loopw [13] (fun i wr => ∃ k : Nat, k ≤ n ∧ i = .int .i64 k ∧ Below w.heap.size w wr) (fun i _ => n - (intOf i).toNat)
  case atStart => exact ⟨0, by omega, rfl, Below.refl _ _⟩
  case round =>
    obtain ⟨k, hk, rfl, hB⟩ := hrel
    obtain ⟨ha, hb⟩ := HR.out _ hB
    by_cases hlt : k < n
    · have hkz : k < l.length := by rw [← HN.out]; exact hlt
      obtain ⟨g1, i1, rfl, _, a1⟩ := HasRts.cell ha k hkz
      obtain ⟨g2, i2, rfl, _, b1⟩ := HasRts.cell hb k hkz
      have hneq := rt_one l[k]
      have x0 := a1 0 (by omega)
      have x1 := a1 1 (by omega)
      have x2 := a1 2 (by omega)
      have x3 := a1 3 (by omega)
      have x4 := a1 4 (by omega)
      have x5 := a1 5 (by omega)
      have y0 := b1 0 (by omega)
      have y1 := b1 1 (by omega)
      have y2 := b1 2 (by omega)
      have y3 := b1 3 (by omega)
      have y4 := b1 4 (by omega)
      have y5 := b1 5 (by omega)
      unfold rtC at x0 x1 x2 x3 x4 x5 y0 y1 y2 y3 y4 y5
      simp only [List.getElem?_cons_succ, List.getElem?_cons_zero, Nat.add_zero] at x0 x1 x2 x3 x4 x5 y0 y1 y2 y3 y4 y5
      clear a1 b1
      generalize l[k].pf.six = p0 at *
      generalize ((hiN l[k].pf.n : Nat) : Int) = p1 at *
      generalize ((loN l[k].pf.n : Nat) : Int) = p2 at *
      generalize l[k].pf.len = p3 at *
      generalize ((l[k].act.k : Nat) : Int) = p4 at *
      generalize l[k].act.i = p5 at *
      have hki : (k : Int) < (n : Int) := by omega
      clear ha hb
      go_wp2_with fail
      go_quiet (fail)
      go_wp2_with fail
      go_roundw
      case rel => exact ⟨k + 1, by omega, by go_num, by first | exact hB | exact below_drew hB | exact below_drewN hB _⟩
      case measure => simp [intOf]; omega
    · clear ha hb
      go_wp2
      go_ret
      exact ⟨rfl, hB⟩
end Go.Proofs.YtkjhnefbcnnjlaaGreat.Tr
namespace Go.Proofs.YtkjhnefbcnnjlaaGreat.Fib
open Go.RowKit
open Go.Proofs.YtkjhnefbcnnjlaaGreat.Lk (Lk HasLks HasLks.keep)
open Go.Proofs.YtkjhnefbcnnjlaaGreat.Tr (HasRts HasRts.keep)
open Go.Proofs.YtkjhnefbcnnjlaaGreat.Addr (RowAt below2 below_new RowAt.below RowAt.new RowAt.alloc cells4)
set_option maxHeartbeats 2000000 in
set_option maxRecDepth 20000 in
theorem same_any (R : Ro) (a b c d : Value) (w : World) (ha : HasRts w a R.rts) (hb : HasLks w b R.lks) (hc : HasRts w c R.rts) (hd : HasLks w d R.lks) :
    Calls Tryz.prog 18 #[.agg #[.int .i64 R.id, .bool R.up, a, b], .agg #[.int .i64 R.id, .bool R.up, c, d]] w fun e w' => e = .returned (.bool true) ∧ Below w.heap.size w w' := by
  obtain ⟨o1, c1, rfl, _⟩ := Lk.HasRow.slice ha
  obtain ⟨o2, c2, rfl, _⟩ := Lk.HasRow.slice hb
  obtain ⟨o3, c3, rfl, _⟩ := Lk.HasRow.slice hc
  obtain ⟨o4, c4, rfl, _⟩ := Lk.HasRow.slice hd
  have s1 := fun W h h' => Tr.same_any R.rts (.slice o1 R.rts.length c1) (.slice o3 R.rts.length c3) W h h'
  have s2 := fun W h h' => Lk.same_any R.lks (.slice o2 R.lks.length c2) (.slice o4 R.lks.length c4) W h h'
  obtain ⟨id, up, rts, lks⟩ := R
  simp only at ha hb hc hd s1 s2 ⊢
  generalize rts.length = n1 at *
  generalize lks.length = n2 at *
  obtain ⟨X, hX⟩ : ∃ X, X = (w.alloc (.cells #[.int .i64 id, .bool up, .slice o1 n1 c1, .slice o2 n2 c2] 51)).alloc (.cells #[.int .i64 id, .bool up, .slice o3 n1 c3, .slice o4 n2 c4] 51) := ⟨_, rfl⟩
  have hB : Below w.heap.size w X := by rw [hX]; exact below_new (below_new (Below.refl _ _) _) _
  have r0 : RowAt X w.heap.size [.int .i64 id, .bool up, .slice o1 n1 c1, .slice o2 n2 c2] 51 := by rw [hX]; exact (RowAt.new _ _ _).alloc _
  have r1 : RowAt X (w.heap.size + 1) [.int .i64 id, .bool up, .slice o3 n1 c3, .slice o4 n2 c4] 51 := by rw [hX, ← World.size_alloc w (.cells #[.int .i64 id, .bool up, .slice o1 n1 c1, .slice o2 n2 c2] 51)]; exact RowAt.new _ _ _
  replace ha := ha.keep hB
  replace hb := hb.keep hB
  replace hc := hc.keep hB
  replace hd := hd.keep hB
  go_enter Tryz.func18, Tryz.ntmps18
  go_upto_region 1 with fail
  rw [← hX]
  clear hX
  obtain ⟨p0, p1, p2, p3, pf0⟩ := cells4 r0
  obtain ⟨q0, q1, q2, q3, qf0⟩ := cells4 r1
  go_wp2_with fail
  go_at_call 40; refine (s1 _ ha hc).mono ?_; rintro e w1 ⟨rfl, hb1⟩
  clear p0 p1 p2 p3 pf0 q0 q1 q2 q3 qf0 s1
  replace hB := below2 hB hb1
  replace hb := hb.keep hb1
  replace hd := hd.keep hb1
  obtain ⟨p0, p1, p2, p3, pf0⟩ := cells4 (RowAt.below r0 hb1)
  obtain ⟨q0, q1, q2, q3, qf0⟩ := cells4 (RowAt.below r1 hb1)
  go_wp2_with fail
  go_at_call 41; refine (s2 _ hb hd).mono ?_; rintro e w2 ⟨rfl, hb2⟩
  go_wp2_with fail
  go_ret
  exact ⟨rfl, below2 hB hb2⟩
end Go.Proofs.YtkjhnefbcnnjlaaGreat.Fib
namespace Go.Proofs.YtkjhnefbcnnjlaaGreat.Ord
open Go.RowKit Go.Shelf
open Go.Proofs.YtkjhnefbcnnjlaaGreat.Addr (below_drew RowAt.cell)
attribute [-go_sem] Builtin.append_

theorem st_neq (a b c : Int) (d : Bool) (w : World) : (binOp .neq 70 (.agg #[.int .i64 a, .int .u64 b, .int .i64 c, .bool d]) (.agg #[.int .i64 a, .int .u64 b, .int .i64 c, .bool d])).run Tryz.prog w = .ok (.bool false) w := by
  have u3 := Tryz.underlying3
  have a3 := Tryz.isAgg3
  have z3 := Tryz.sizeOf3
  have u2 := Tryz.underlying2
  have a2 := Tryz.isAgg2
  have z2 := Tryz.sizeOf2
  have u9 := Tryz.underlying29
  have a9 := Tryz.isAgg29
  have z9 := Tryz.sizeOf29
  have u4 := Tryz.underlying4
  have a4 := Tryz.isAgg4
  have z4 := Tryz.sizeOf4
  have hS : Tryz.prog.underlying 70 = some (.struct (Tryz.prog.fieldsOf 70)) := by kernel_rfl
  have hp : Tryz.prog.stoodInHeld 70 = false := by kernel_rfl
  rw [run_neq_struct, show (10000 : Nat) = 9999 + 1 from rfl, run_equalIn_agg w 9999 70 _ _ hS hp]
  simp only [Program.fieldsOf, Tryz.underlying70]
  go_simp
theorem st_guard : Tryz.prog.eqGuardType Tryz.prog.depth 70 = false := by kernel_rfl
set_option maxHeartbeats 2000000 in
set_option maxRecDepth 20000 in
theorem same_any (l : List St) (v u : Value) (w : World) (h1 : HasSts w v l) (h2 : HasSts w u l) :
    Calls Tryz.prog 17 #[v, u] w fun e w' => e = .returned (.bool true) ∧ Below w.heap.size w w' := by
  obtain ⟨o1, c1, rfl, _, _⟩ := HasRow.slice h1
  obtain ⟨o2, c2, rfl, _, _⟩ := HasRow.slice h2
  have HR : Hid (∀ wr : World, Below w.heap.size w wr → HasSts wr (.slice o1 l.length c1) l ∧ HasSts wr (.slice o2 l.length c2) l) := fun wr hb => ⟨h1.keep hb, h2.keep hb⟩
  obtain ⟨n, hn⟩ : ∃ n, n = l.length := ⟨_, rfl⟩
  have HN : Hid (n = l.length) := hn
  rw [← hn] at HR ⊢
  have hni : (n : Int) ≤ 9223372036854775807 := by omega
  have hneq := st_neq
  have hgd := st_guard
  have hnn : ((n : Int) != (n : Int)) = false := by simp
  clear h1 h2 hn
  go_enter Tryz.func17, Tryz.ntmps17
  go_wp2_with fail
  go_loopw [13] (fun i wr => ∃ k : Nat, k ≤ n ∧ i = .int .i64 k ∧ Below w.heap.size w wr) (fun i _ => n - (intOf i).toNat)
  case atStart => exact ⟨0, by omega, rfl, Below.refl _ _⟩
  case round =>
    obtain ⟨k, hk, rfl, hB⟩ := hrel
    obtain ⟨ha, hb⟩ := HR.out _ hB
    by_cases hlt : k < n
    · have hkz : k < l.length := by rw [← HN.out]; exact hlt
      obtain ⟨g1, i1, rfl, _, a0, a1, a2, a3⟩ := HasSts.cell ha k hkz
      obtain ⟨g2, i2, rfl, _, b0, b1, b2, b3⟩ := HasSts.cell hb k hkz
      generalize l[k].router = ra at a0 b0
      generalize (l[k].seq : Int) = rb at a1 b1
      generalize l[k].time = rc at a2 b2
      generalize l[k].up = ru at a3 b3
      have hki : (k : Int) < (n : Int) := by omega
      clear ha hb
      go_wp2_with fail
      go_quiet (fail)
      go_wp2_with fail
      go_roundw
      case rel => exact ⟨k + 1, by omega, by go_num, by first | exact hB | exact below_drew hB | exact below_drewN hB _⟩
      case measure => simp [intOf]; omega
    · clear ha hb
      go_wp2
      go_ret
      exact ⟨rfl, hB⟩
end Go.Proofs.YtkjhnefbcnnjlaaGreat.Ord
namespace Go.Proofs.YtkjhnefbcnnjlaaGreat.Nt
open Go.RowKit
open Go.Proofs.YtkjhnefbcnnjlaaGreat.Lk (HasRow HasLks.keep)
open Go.Proofs.YtkjhnefbcnnjlaaGreat.Tr (HasRts.keep)
open Go.Proofs.YtkjhnefbcnnjlaaGreat.Fib
open Go.Proofs.YtkjhnefbcnnjlaaGreat.Ord (St HasSts HasSts.keep HasEvs.keep)
open Go.Proofs.YtkjhnefbcnnjlaaGreat.Addr (RowAt below2 below_new RowAt.cell RowAt.below RowAt.new RowAt.alloc cells2 Bl bl_ne wp_region_bl bl_call)
set_option maxHeartbeats 8000000 in
set_option maxRecDepth 20000 in
theorem same_walk (o1 o2 o3 o4 : Option Addr) (n1 n2 c1 c2 c3 c4 : Nat) (S : List St) (L : List Ro) (w : World) (h1 : HasSts w (.slice o1 n1 c1) S) (h2 : HasRos w (.slice o2 n2 c2) L) (h3 : HasSts w (.slice o3 n1 c3) S) (h4 : HasRos w (.slice o4 n2 c4) L) (HN : Hid (n2 = L.length)) (hni : (n2 : Int) ≤ 9223372036854775807)
    (s1 : ∀ W, HasSts W (.slice o1 n1 c1) S → HasSts W (.slice o3 n1 c3) S → Calls Tryz.prog 17 #[.slice o1 n1 c1, .slice o3 n1 c3] W fun e w' => e = .returned (.bool true) ∧ Below W.heap.size W w') :
    Calls Tryz.prog 7 #[.agg #[.slice o1 n1 c1, .slice o2 n2 c2], .agg #[.slice o3 n1 c3, .slice o4 n2 c4]] w fun e w' => e = .returned (.bool true) ∧ Below w.heap.size w w' := by
  have hB := Below.refl w.heap.size w
  have hnn : ((n2 : Int) != (n2 : Int)) = false := by simp
  go_enter Tryz.func7, Tryz.ntmps7
  obtain ⟨Y1, hY⟩ : ∃ Y, Y = ((w.alloc (.cells #[.slice o1 n1 c1, .slice o2 n2 c2] 25)).alloc (.cells #[.slice o3 n1 c3, .slice o4 n2 c4] 25)) := ⟨_, rfl⟩
  have hbY : Below w.heap.size w Y1 := by rw [hY]; exact below_new (below_new (Below.refl _ _) _) _
  have hle : w.heap.size ≤ w.heap.size := hB.size
  obtain ⟨ga, hga⟩ : ∃ g, g = w.heap.size := ⟨_, rfl⟩
  have ra : RowAt Y1 ga [.slice o1 n1 c1, .slice o2 n2 c2] 25 := by
    have h := (RowAt.new w [.slice o1 n1 c1, .slice o2 n2 c2] 25).alloc (.cells #[.slice o3 n1 c3, .slice o4 n2 c4] 25)
    rw [hga, hY]; exact h
  have lea : w.heap.size ≤ ga := by omega
  obtain ⟨gb, hgb⟩ : ∃ g, g = w.heap.size + 1 := ⟨_, rfl⟩
  have rb : RowAt Y1 gb [.slice o3 n1 c3, .slice o4 n2 c4] 25 := by
    have h := RowAt.new (w.alloc (.cells #[.slice o1 n1 c1, .slice o2 n2 c2] 25)) [.slice o3 n1 c3, .slice o4 n2 c4] 25
    simp only [World.size_alloc] at h
    rw [hgb, hY]; exact h
  have leb : w.heap.size ≤ gb := by omega
  have neab : ga ≠ gb := by omega
  replace h1 := h1.keep hbY
  replace h2 := h2.keep hbY
  replace h3 := h3.keep hbY
  replace h4 := h4.keep hbY
  replace hB := below2 hB hbY
  go_upto_region 1 with fail
  rw [← hY, ← hgb, ← hga]
  clear hY hbY hle hga hgb
  obtain ⟨a0, a1, af⟩ := cells2 ra
  obtain ⟨b0, b1, bf⟩ := cells2 rb
  go_wp2_with fail
  clear a0 a1 af b0 b1 bf
  go_at_call 17; refine (s1 _ h1 h3).mono ?_; rintro e w2 ⟨rfl, hb⟩
  replace ra := RowAt.below ra hb
  replace rb := RowAt.below rb hb
  replace h1 := h1.keep hb
  replace h2 := h2.keep hb
  replace h3 := h3.keep hb
  replace h4 := h4.keep hb
  replace hB := below2 hB hb
  clear hb
  clear h1 h3
  obtain ⟨a0, a1, af⟩ := cells2 ra
  obtain ⟨b0, b1, bf⟩ := cells2 rb
  go_wp2_with fail
  clear a0 a1 af b0 b1 bf
  go_loopw [24] (fun i wr => ∃ k : Nat, k ≤ n2 ∧ i = .int .i64 k ∧ Hid (Below w2.heap.size w2 wr)) (fun i _ => n2 - (Go.RowKit.intOf i).toNat)
  case atStart => exact ⟨0, by omega, rfl, Below.refl _ _⟩
  case round =>
    obtain ⟨k, hk, rfl, HI⟩ := hrel
    have hbl := HI.out
    by_cases hlt : k < n2
    · have hkz : k < L.length := by rw [← HN.out]; exact hlt
      obtain ⟨b1, i1, p1, q1, p2, q2, rfl, hb1, x0, x1, x2, x3, xr, xl⟩ := HasRos.cell (h2.keep hbl) k hkz
      obtain ⟨b2, i2, p3, q3, p4, q4, rfl, hb2, y0, y1, y2, y3, yr, yl⟩ := HasRos.cell (h4.keep hbl) k hkz
      have cs : ∀ p : Bl wr, Calls Tryz.prog 18 #[.agg #[.int .i64 L[k].id, .bool L[k].up, .slice p1 L[k].rts.length q1, .slice p2 L[k].lks.length q2], .agg #[.int .i64 L[k].id, .bool L[k].up, .slice p3 L[k].rts.length q3, .slice p4 L[k].lks.length q4]] p.W fun e w' => e = .returned (.bool true) ∧ Below p.W.heap.size p.W w' := fun p => Fib.same_any L[k] _ _ _ _ p.W (xr.keep p.h) (xl.keep p.h) (yr.keep p.h) (yl.keep p.h)
      have hki : (k : Int) < (n2 : Int) := by omega
      generalize L[k].id = id at *
      generalize L[k].up = up at *
      generalize L[k].rts.length = l1 at *
      generalize L[k].lks.length = l2 at *
      have ga0 := RowAt.below ra hbl
      have gb0 := RowAt.below rb hbl
      have t0 : ∀ p : Bl wr, p.W.cell? ⟨ga, 1, none⟩ = some (.slice (some ⟨b1, i1, none⟩) n2 c2) := fun p => (ga0.below p.h).cell 1
      have t1 : ∀ p : Bl wr, p.W.cell? ⟨gb, 1, none⟩ = some (.slice (some ⟨b2, i2, none⟩) n2 c4) := fun p => (gb0.below p.h).cell 1
      have u0 : ∀ p : Bl wr, p.W.cell? ⟨b1, i1 + k * 4, none⟩ = some (.int .i64 id) := fun p => (p.h.cell (p := ⟨b1, i1 + k * 4, none⟩) hb1).trans x0
      have u1 : ∀ p : Bl wr, p.W.cell? ⟨b1, i1 + k * 4 + 1, none⟩ = some (.bool up) := fun p => (p.h.cell (p := ⟨b1, i1 + k * 4 + 1, none⟩) hb1).trans x1
      have u2 : ∀ p : Bl wr, p.W.cell? ⟨b1, i1 + k * 4 + 2, none⟩ = some (.slice p1 l1 q1) := fun p => (p.h.cell (p := ⟨b1, i1 + k * 4 + 2, none⟩) hb1).trans x2
      have u3 : ∀ p : Bl wr, p.W.cell? ⟨b1, i1 + k * 4 + 3, none⟩ = some (.slice p2 l2 q2) := fun p => (p.h.cell (p := ⟨b1, i1 + k * 4 + 3, none⟩) hb1).trans x3
      have v0 : ∀ p : Bl wr, p.W.cell? ⟨b2, i2 + k * 4, none⟩ = some (.int .i64 id) := fun p => (p.h.cell (p := ⟨b2, i2 + k * 4, none⟩) hb2).trans y0
      have v1 : ∀ p : Bl wr, p.W.cell? ⟨b2, i2 + k * 4 + 1, none⟩ = some (.bool up) := fun p => (p.h.cell (p := ⟨b2, i2 + k * 4 + 1, none⟩) hb2).trans y1
      have v2 : ∀ p : Bl wr, p.W.cell? ⟨b2, i2 + k * 4 + 2, none⟩ = some (.slice p3 l1 q3) := fun p => (p.h.cell (p := ⟨b2, i2 + k * 4 + 2, none⟩) hb2).trans y2
      have v3 : ∀ p : Bl wr, p.W.cell? ⟨b2, i2 + k * 4 + 3, none⟩ = some (.slice p4 l2 q4) := fun p => (p.h.cell (p := ⟨b2, i2 + k * 4 + 3, none⟩) hb2).trans y3
      clear x0 x1 x2 x3 y0 y1 y2 y3 xr xl yr yl hb1 hb2
      haveI := bl_ne wr
      go_wp2_with fail
      refine wp_region_bl (by kernel_rfl) (by kernel_rfl) ?_
      repeat (go_big_quiet_step (first | (go_at_call 18; with_reducible exact bl_call (cs _))))
      refine wpQuiet_nil ?_
      intro wq hw'
      obtain ⟨⟨wz, hq⟩, hw2⟩ := hw'
      subst hw2
      have hW := below2 hbl hq
      clear t0 t1 u0 u1 u2 u3 v0 v1 v2 v3 cs
      go_wp2_with fail
      go_roundw
      case rel => exact ⟨k + 1, by omega, by go_num, hW⟩
      case measure => simp [Go.RowKit.intOf]; omega
    · have hkn2 : k = n2 := by omega
      subst hkn2
      have hkd : decide ((k : Int) < (k : Int)) = false := decide_eq_false (by omega)
      have hW := below2 hB hbl
      go_wp2_with fail
      go_ret
      exact ⟨rfl, hW⟩
theorem same_any (n : NetT) (a b c d : Value) (w : World) (h1 : HasSts w a n.seats) (h2 : HasRos w b n.ros) (h3 : HasSts w c n.seats) (h4 : HasRos w d n.ros) :
    Calls Tryz.prog 7 #[.agg #[a, b], .agg #[c, d]] w fun e w' => e = .returned (.bool true) ∧ Below w.heap.size w w' := by
  obtain ⟨o1, c1, rfl, _⟩ := Ord.HasRow.slice h1
  obtain ⟨o3, c3, rfl, _⟩ := Ord.HasRow.slice h3
  obtain ⟨o2, c2, rfl, q1, q2⟩ := HasRos.slice h2
  obtain ⟨o4, c4, rfl, _⟩ := HasRos.slice h4
  exact same_walk o1 o2 o3 o4 _ _ c1 c2 c3 c4 n.seats n.ros w h1 h2 h3 h4 rfl (by omega) (fun W h h' => Ord.same_any n.seats _ _ W h h')
end Go.Proofs.YtkjhnefbcnnjlaaGreat.Nt
