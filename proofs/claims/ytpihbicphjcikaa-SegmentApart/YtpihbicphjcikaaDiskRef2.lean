/- What the document's holds, Read, Write and Flush return. -/
import Derived.Test.YtpihbicphjcikaaDiskRef
set_option linter.unusedVariables false
namespace Go.Proofs.Ytpihbicphjcikaa.Disk
open Go.RowKit Go.Shelf

theorem holdsL_snoc (secs : List (List UInt8)) (ps : List PutT) (p : PutT) (at' : Int) : holdsL secs (ps ++ [p]) at' = if (p.1 == at') = true then p.2 else holdsL secs ps at' := by
  unfold holdsL
  rw [List.reverse_append, List.reverse_singleton, List.singleton_append, List.find?_cons]
  split
  · rename_i h; rw [if_pos h]; rfl
  · rename_i h; rw [if_neg (by rw [h]; decide)]
end Go.Proofs.Ytpihbicphjcikaa.Disk
