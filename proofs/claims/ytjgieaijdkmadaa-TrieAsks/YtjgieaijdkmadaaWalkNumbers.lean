/- spoorlaw01.numbers, called in whatever world, returns true, and changes nothing that was there. -/
import Derived.Test.YtjgieaijdkmadaaWalkGet
set_option linter.unusedVariables false
namespace Go.Proofs.Ytjgieaijdkmadaa
open Go.RowKit

theorem ret_bool {a b : Bool} (h : a = b) : Ending.returned (.bool a) = .returned (.bool b) := by rw [h]
theorem gs1 : getS ⟨#[172, 2, 122]⟩ = (300, [122], 0) := by decide +kernel
theorem gs2 : getS ⟨#[128, 0]⟩ = (0, [], 7) := by decide +kernel
theorem gs3 : getS ⟨#[128]⟩ = (0, [], 5) := by decide +kernel
theorem ps1 : putL 300 = [172, 2] := by rw [putL_big _ (by decide), putL_small _ (by decide)]; decide
theorem ps2 : putL 0 = [0] := by rw [putL_small _ (by decide)]; decide

theorem below2 {a b c : World} (h1 : Below a.heap.size a b) (h2 : Below b.heap.size b c) : Below a.heap.size a c := h1.trans (h2.mono h1.size)
theorem below5 {a b c d e f : World} (h1 : Below a.heap.size a b) (h2 : Below b.heap.size b c) (h3 : Below c.heap.size c d) (h4 : Below d.heap.size d e) (h5 : Below e.heap.size e f) : Below a.heap.size a f :=
  below2 (below2 (below2 (below2 h1 h2) h3) h4) h5
end Go.Proofs.Ytjgieaijdkmadaa
