/- What addr.free and addr.first return. -/
import Derived.Test.YtmkbijnndbgjgaaAddrCmp
import Derived.Deep.Cut
import Derived.Deep.RegionHeld3
set_option linter.unusedVariables false
namespace Go.Proofs.Ytmkbijnndbgjgaa.Addr
open Go.RowKit

theorem styleOf_wide (six : Bool) (w : World) : Calls Try.prog 105 #[.bool six] w fun e w' => ∃ (a b : Int) (c : ByteArray), e = .returned (.agg #[.int .i64 (wideN six : Int), .int .i64 a, .int .i64 b, .string c]) ∧ Below w.heap.size w w' := (styleOf_any six w).mono (by
  rintro e w' ⟨rfl, hb⟩
  cases six
  · exact ⟨_, _, _, rfl, hb⟩
  · exact ⟨_, _, _, rfl, hb⟩)
theorem field_style (x a b c : Value) (w : World) : (Instr.field 157 (.agg #[x, a, b, c]) 0).run Try.prog w = .ok x w := by
  have u := Try.underlying157
  have z := Try.sizeOf3
  have g := Try.isAgg3
  simp only [Instr.field]
  go_simp
  rfl
end Go.Proofs.Ytmkbijnndbgjgaa.Addr
