/- Prefixes are held against each other. -/
import Derived.Test.YtpooiehhepimkaaGreatAddrCheck
set_option linter.unusedVariables false
namespace Go.Proofs.YtpooiehhepimkaaGreat.Addr
open Go.RowKit

theorem pf_guard : Tryz.prog.eqGuardType Tryz.prog.depth 31 = false := by kernel_rfl
theorem ad_inF (n : Nat) (w : World) (f : Nat) : (Op.equalIn (f + 2) 29 (.agg #[.int .u64 (hiN n : Int), .int .u64 (loN n : Int)]) (.agg #[.int .u64 (hiN n : Int), .int .u64 (loN n : Int)])).run Tryz.prog w = .ok true w := by
  have u9 := Tryz.underlying27
  have a9 := Tryz.isAgg27
  have z9 := Tryz.sizeOf27
  have hS : Tryz.prog.underlying 29 = some (.struct (Tryz.prog.fieldsOf 29)) := by kernel_rfl
  have hp : Tryz.prog.stoodInHeld 29 = false := by kernel_rfl
  rw [show f + 2 = (f + 1) + 1 from rfl, run_equalIn_agg w (f + 1) 29 _ _ hS hp]
  simp only [Program.fieldsOf, Tryz.underlying29]
  go_simp
theorem pf_eql (p : Pf) (w : World) : (binOp .eql 31 (pfV p) (pfV p)).run Tryz.prog w = .ok (.bool true) w := by
  have u9 := Tryz.underlying27
  have a9 := Tryz.isAgg27
  have z9 := Tryz.sizeOf27
  have u3 := Tryz.underlying3
  have a3 := Tryz.isAgg3
  have z3 := Tryz.sizeOf3
  have u4 := Tryz.underlying4
  have a4 := Tryz.isAgg4
  have z4 := Tryz.sizeOf4
  have a24 := Tryz.isAgg29
  have z24 := Tryz.sizeOf29
  have hS : Tryz.prog.underlying 31 = some (.struct (Tryz.prog.fieldsOf 31)) := by kernel_rfl
  have hp : Tryz.prog.stoodInHeld 31 = false := by kernel_rfl
  have hin := fun w => ad_inF p.n w 9997
  unfold pfV
  rw [run_eql_struct, show (10000 : Nat) = 9999 + 1 from rfl, run_equalIn_agg w 9999 31 _ _ hS hp]
  simp only [Program.fieldsOf, Tryz.underlying31]
  go_simp
end Go.Proofs.YtpooiehhepimkaaGreat.Addr
