/- What the document's Check, Copy, Same of disks return. -/
import Derived.Test.YtajcmgccclemdabDiskVar
import Derived.Test.YtajcmgccclemdabDiskMath
set_option linter.unusedVariables false
namespace Go.Proofs.Ytajcmgccclemdab.Disk
open Go.RowKit Go.Shelf
attribute [-go_sem] Builtin.append_

theorem badS_f {z : List UInt8} (h : z.length = 128) : badS z = false := by simp [badS, h]
theorem badS_t {z : List UInt8} (h : z.length ≠ 128) : badS z = true := by simp [badS, h]
theorem results_one {fn : Func} {p : Tmp} {ty : TypeId} (h : fn.results = #[.cell p ty]) (tmps : Array Value) (P : Program) (w : World) :
    (results fn tmps).run P w = ((asAddr (tmps.getD p undef)).run P w).andThen fun a w₁ => (loadVar ty a).run P w₁ := by
  simp only [results, h]
  simp [Sem.run_bind, Result.andThen]
end Go.Proofs.Ytajcmgccclemdab.Disk
