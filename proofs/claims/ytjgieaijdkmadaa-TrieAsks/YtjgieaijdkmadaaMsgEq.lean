/- Events held against each other. -/
import Derived.Test.YtjgieaijdkmadaaMsgChk
set_option linter.unusedVariables false
namespace Go.Proofs.Ytjgieaijdkmadaa.Msg
open Go.RowKit
open Go.Proofs.Ytjgieaijdkmadaa.Addr (Pf okP checkP wideN firstN kP hiN loN adV pfV)

theorem ev_guard : Try.prog.eqGuardType Try.prog.depth 87 = false := by kernel_rfl
theorem ad_inG (n m : Nat) (w : World) (f : Nat) : (Op.equalIn (f + 2) 25 (.agg #[.int .u64 (hiN n : Int), .int .u64 (loN n : Int)]) (.agg #[.int .u64 (hiN m : Int), .int .u64 (loN m : Int)])).run Try.prog w = .ok (decide (n = m)) w := by
  have u9 := Try.underlying23
  have a9 := Try.isAgg23
  have z9 := Try.sizeOf23
  have hS : Try.prog.underlying 25 = some (.struct (Try.prog.fieldsOf 25)) := by kernel_rfl
  have hp : Try.prog.stoodInHeld 25 = false := by kernel_rfl
  have HD : (decide (n = m)) = (decide (hiN n = hiN m) && decide (loN n = loN m)) := by
    by_cases h : n = m
    · subst h; simp
    · have : ¬ (hiN n = hiN m ∧ loN n = loN m) := fun hc => h (Addr.eq_hilo hc.1 hc.2)
      rw [decide_eq_false h, ← Bool.decide_and, decide_eq_false this]
  rw [HD]
  generalize hiN n = a
  generalize loN n = b
  generalize hiN m = c
  generalize loN m = d
  rw [show f + 2 = (f + 1) + 1 from rfl, run_equalIn_agg w (f + 1) 25 _ _ hS hp]
  simp only [Program.fieldsOf, Try.underlying25]
  by_cases h1 : a = c
  · subst h1
    by_cases h2 : b = d
    · subst h2
      go_simp
    · have : ¬ ((b : Int) = (d : Int)) := by omega
      go_simp
  · have : ¬ ((a : Int) = (c : Int)) := by omega
    go_simp
theorem ac_inG (k l : Nat) (i j : Int) (w : World) (f : Nat) : (Op.equalIn (f + 2) 30 (.agg #[.int .u8 (k : Int), .int .i64 i]) (.agg #[.int .u8 (l : Int), .int .i64 j])).run Try.prog w = .ok (decide (k = l) && decide (i = j)) w := by
  have u9 := Try.underlying28
  have a9 := Try.isAgg28
  have z9 := Try.sizeOf28
  have u3 := Try.underlying3
  have a3 := Try.isAgg3
  have z3 := Try.sizeOf3
  have hS : Try.prog.underlying 30 = some (.struct (Try.prog.fieldsOf 30)) := by kernel_rfl
  have hp : Try.prog.stoodInHeld 30 = false := by kernel_rfl
  rw [show f + 2 = (f + 1) + 1 from rfl, run_equalIn_agg w (f + 1) 30 _ _ hS hp]
  simp only [Program.fieldsOf, Try.underlying30]
  by_cases h1 : k = l
  · subst h1
    by_cases h2 : i = j
    · subst h2
      go_simp
    · go_simp
  · have : ¬ ((k : Int) = (l : Int)) := by omega
    go_simp
theorem pf_inG (s t : Bool) (n m : Nat) (i j : Int) (w : World) (f : Nat) : (Op.equalIn (f + 3) 27 (.agg #[.bool s, .int .u64 (hiN n : Int), .int .u64 (loN n : Int), .int .i64 i]) (.agg #[.bool t, .int .u64 (hiN m : Int), .int .u64 (loN m : Int), .int .i64 j])).run Try.prog w = .ok (decide (s = t) && decide (n = m) && decide (i = j)) w := by
  have u3 := Try.underlying3
  have a3 := Try.isAgg3
  have z3 := Try.sizeOf3
  have u4 := Try.underlying4
  have a4 := Try.isAgg4
  have z4 := Try.sizeOf4
  have a24 := Try.isAgg25
  have z24 := Try.sizeOf25
  have hS : Try.prog.underlying 27 = some (.struct (Try.prog.fieldsOf 27)) := by kernel_rfl
  have hp : Try.prog.stoodInHeld 27 = false := by kernel_rfl
  have hin := fun w => ad_inG n m w f
  rw [show f + 3 = (f + 2) + 1 from rfl, run_equalIn_agg w (f + 2) 27 _ _ hS hp]
  simp only [Program.fieldsOf, Try.underlying27]
  generalize decide (n = m) = D at *
  by_cases h1 : s = t
  · subst h1
    cases D
    · go_simp
    · by_cases h2 : i = j
      · subst h2
        go_simp
      · go_simp
  · have hst : (s == t) = false := by cases s <;> cases t <;> simp_all
    go_simp
/-- all parts of two events are alike -/
def eqE (e f : Ev) : Bool := decide (e.kind = f.kind) && decide (e.router = f.router) && decide (e.seq = f.seq) && decide (e.time = f.time) && (decide (e.pf.six = f.pf.six) && decide (e.pf.n = f.pf.n) && decide (e.pf.len = f.pf.len)) && (decide (e.act.k = f.act.k) && decide (e.act.i = f.act.i)) && decide (e.iface = f.iface) && decide (e.peer = f.peer)
theorem eqE_iff (e f : Ev) : eqE e f = true ↔ e = f := by
  obtain ⟨k, r, s, t, ⟨sx, n, l⟩, ⟨ak, ai⟩, i, p⟩ := e
  obtain ⟨k', r', s', t', ⟨sx', n', l'⟩, ⟨ak', ai'⟩, i', p'⟩ := f
  unfold eqE
  simp only [Bool.and_eq_true, decide_eq_true_eq, Ev.mk.injEq, Addr.Pf.mk.injEq, Ac.mk.injEq, and_assoc]
set_option maxHeartbeats 1000000 in
theorem ev_in (e f : Ev) (w : World) : (Op.equalIn 10000 87 (evV e) (evV f)).run Try.prog w = .ok (eqE e f) w := by
  have u3 := Try.underlying3
  have a3 := Try.isAgg3
  have z3 := Try.sizeOf3
  have u2 := Try.underlying2
  have a2 := Try.isAgg2
  have z2 := Try.sizeOf2
  have u9 := Try.underlying23
  have a9 := Try.isAgg23
  have z9 := Try.sizeOf23
  have u7 := Try.underlying85
  have a7 := Try.isAgg85
  have z7 := Try.sizeOf85
  have a24 := Try.isAgg27
  have z24 := Try.sizeOf27
  have a25 := Try.isAgg30
  have z25 := Try.sizeOf30
  have hS : Try.prog.underlying 87 = some (.struct (Try.prog.fieldsOf 87)) := by kernel_rfl
  have hp : Try.prog.stoodInHeld 87 = false := by kernel_rfl
  obtain ⟨k, r, s, t, ⟨sx, n, l⟩, ⟨ak, ai⟩, i, p⟩ := e
  obtain ⟨k', r', s', t', ⟨sx', n', l'⟩, ⟨ak', ai'⟩, i', p'⟩ := f
  have h1 := fun w => pf_inG sx sx' n n' l l' w 9996
  have h2 := fun w => ac_inG ak ak' ai ai' w 9997
  unfold evV evC eqE
  simp only
  rw [show (10000 : Nat) = 9999 + 1 from rfl, run_equalIn_agg w 9999 87 _ _ hS hp]
  simp only [Program.fieldsOf, Try.underlying87]
  generalize (decide (sx = sx') && decide (n = n') && decide (l = l')) = D1 at *
  generalize (decide (ak = ak') && decide (ai = ai')) = D2 at *
  by_cases g1 : k = k'
  · subst g1
    by_cases g2 : r = r'
    · subst g2
      by_cases g3 : s = s'
      · subst g3
        by_cases g4 : t = t'
        · subst g4
          cases D1
          · go_simp
          · cases D2
            · go_simp
            · by_cases g5 : i = i'
              · subst g5
                by_cases g6 : p = p'
                · subst g6
                  go_simp
                · go_simp
              · go_simp
        · go_simp
      · have : ¬ ((s : Int) = (s' : Int)) := by omega
        go_simp
    · go_simp
  · have : ¬ ((k : Int) = (k' : Int)) := by omega
    go_simp
theorem ev_eql (e f : Ev) (w : World) : (binOp .eql 87 (evV e) (evV f)).run Try.prog w = .ok (.bool (eqE e f)) w := by
  have h := ev_in e f w
  unfold evV at *
  rw [run_eql_struct, h]
  rfl
theorem ev_neq (e f : Ev) (w : World) : (binOp .neq 87 (evV e) (evV f)).run Try.prog w = .ok (.bool (!eqE e f)) w := by
  have h := ev_in e f w
  unfold evV at *
  rw [run_neq_struct, h]
  rfl
end Go.Proofs.Ytjgieaijdkmadaa.Msg
