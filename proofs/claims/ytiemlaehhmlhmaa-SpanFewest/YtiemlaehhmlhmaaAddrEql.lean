/- Prefixes are held against each other. -/
import Derived.Test.YtiemlaehhmlhmaaAddrCheck
set_option linter.unusedVariables false
namespace Go.Proofs.Ytiemlaehhmlhmaa.Addr
open Go.RowKit

theorem pf_guard : Try.prog.eqGuardType Try.prog.depth 27 = false := by kernel_rfl
theorem ad_inF (n : Nat) (w : World) (f : Nat) : (Op.equalIn (f + 2) 25 (.agg #[.int .u64 (hiN n : Int), .int .u64 (loN n : Int)]) (.agg #[.int .u64 (hiN n : Int), .int .u64 (loN n : Int)])).run Try.prog w = .ok true w := by
  have u9 := Try.underlying23
  have a9 := Try.isAgg23
  have z9 := Try.sizeOf23
  have hS : Try.prog.underlying 25 = some (.struct (Try.prog.fieldsOf 25)) := by kernel_rfl
  have hp : Try.prog.stoodInHeld 25 = false := by kernel_rfl
  rw [show f + 2 = (f + 1) + 1 from rfl, run_equalIn_agg w (f + 1) 25 _ _ hS hp]
  simp only [Program.fieldsOf, Try.underlying25]
  go_simp
theorem pf_eql (p : Pf) (w : World) : (binOp .eql 27 (pfV p) (pfV p)).run Try.prog w = .ok (.bool true) w := by
  have u9 := Try.underlying23
  have a9 := Try.isAgg23
  have z9 := Try.sizeOf23
  have u3 := Try.underlying3
  have a3 := Try.isAgg3
  have z3 := Try.sizeOf3
  have u4 := Try.underlying4
  have a4 := Try.isAgg4
  have z4 := Try.sizeOf4
  have a24 := Try.isAgg25
  have z24 := Try.sizeOf25
  have hS : Try.prog.underlying 27 = some (.struct (Try.prog.fieldsOf 27)) := by kernel_rfl
  have hp : Try.prog.stoodInHeld 27 = false := by kernel_rfl
  have hin := fun w => ad_inF p.n w 9997
  unfold pfV
  rw [run_eql_struct, show (10000 : Nat) = 9999 + 1 from rfl, run_equalIn_agg w 9999 27 _ _ hS hp]
  simp only [Program.fieldsOf, Try.underlying27]
  go_simp
end Go.Proofs.Ytiemlaehhmlhmaa.Addr
