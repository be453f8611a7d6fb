/- Prefixes are held against each other. -/
import Derived.Test.YtklbnnnkogghpaaAddrCheck
set_option linter.unusedVariables false
namespace Go.Proofs.Ytklbnnnkogghpaa.Addr
open Go.RowKit

theorem pf_guard : Try.prog.eqGuardType Try.prog.depth 38 = false := by kernel_rfl
theorem ad_inF (n : Nat) (w : World) (f : Nat) : (Op.equalIn (f + 2) 36 (.agg #[.int .u64 (hiN n : Int), .int .u64 (loN n : Int)]) (.agg #[.int .u64 (hiN n : Int), .int .u64 (loN n : Int)])).run Try.prog w = .ok true w := by
  have u9 := Try.underlying34
  have a9 := Try.isAgg34
  have z9 := Try.sizeOf34
  have hS : Try.prog.underlying 36 = some (.struct (Try.prog.fieldsOf 36)) := by kernel_rfl
  have hp : Try.prog.stoodInHeld 36 = false := by kernel_rfl
  rw [show f + 2 = (f + 1) + 1 from rfl, run_equalIn_agg w (f + 1) 36 _ _ hS hp]
  simp only [Program.fieldsOf, Try.underlying36]
  go_simp
theorem pf_eql (p : Pf) (w : World) : (binOp .eql 38 (pfV p) (pfV p)).run Try.prog w = .ok (.bool true) w := by
  have u9 := Try.underlying34
  have a9 := Try.isAgg34
  have z9 := Try.sizeOf34
  have u3 := Try.underlying3
  have a3 := Try.isAgg3
  have z3 := Try.sizeOf3
  have u4 := Try.underlying4
  have a4 := Try.isAgg4
  have z4 := Try.sizeOf4
  have a24 := Try.isAgg36
  have z24 := Try.sizeOf36
  have hS : Try.prog.underlying 38 = some (.struct (Try.prog.fieldsOf 38)) := by kernel_rfl
  have hp : Try.prog.stoodInHeld 38 = false := by kernel_rfl
  have hin := fun w => ad_inF p.n w 9997
  unfold pfV
  rw [run_eql_struct, show (10000 : Nat) = 9999 + 1 from rfl, run_equalIn_agg w 9999 38 _ _ hS hp]
  simp only [Program.fieldsOf, Try.underlying38]
  go_simp
end Go.Proofs.Ytklbnnnkogghpaa.Addr
