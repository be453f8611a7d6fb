/- Prefixes and actions held against each other, alike or not. -/
import Derived.Test.YtjgieaijdkmadaaMsgEq
set_option linter.unusedVariables false
namespace Go.Proofs.Ytjgieaijdkmadaa.Msg
open Go.RowKit
open Go.Proofs.Ytjgieaijdkmadaa.Addr (Pf hiN loN pfV)
def eqP (p q : Pf) : Bool := decide (p.six = q.six) && decide (p.n = q.n) && decide (p.len = q.len)
theorem eqP_iff (p q : Pf) : eqP p q = true ↔ p = q := by
  obtain ⟨a, b, c⟩ := p
  obtain ⟨d, e, f⟩ := q
  unfold eqP
  simp only [Bool.and_eq_true, decide_eq_true_eq, Addr.Pf.mk.injEq, and_assoc]
theorem eqP_not (p q : Pf) : eqP p q = false ↔ p ≠ q := by
  rw [← Bool.not_eq_true, eqP_iff]
theorem pf_neq (p q : Pf) (w : World) : (binOp .neq 27 (.agg #[.bool p.six, .int .u64 (hiN p.n : Int), .int .u64 (loN p.n : Int), .int .i64 p.len]) (.agg #[.bool q.six, .int .u64 (hiN q.n : Int), .int .u64 (loN q.n : Int), .int .i64 q.len])).run Try.prog w = .ok (.bool (!eqP p q)) w := by
  have h := pf_inG p.six q.six p.n q.n p.len q.len w 9997
  rw [run_neq_struct, h]
  rfl
theorem pf_eqb (p q : Pf) (w : World) : (binOp .eql 27 (.agg #[.bool p.six, .int .u64 (hiN p.n : Int), .int .u64 (loN p.n : Int), .int .i64 p.len]) (.agg #[.bool q.six, .int .u64 (hiN q.n : Int), .int .u64 (loN q.n : Int), .int .i64 q.len])).run Try.prog w = .ok (.bool (eqP p q)) w := by
  have h := pf_inG p.six q.six p.n q.n p.len q.len w 9997
  rw [run_eql_struct, h]
  rfl
end Go.Proofs.Ytjgieaijdkmadaa.Msg
