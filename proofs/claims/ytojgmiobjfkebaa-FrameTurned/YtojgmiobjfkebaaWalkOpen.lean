/- What crc.Sealed, Open and the document's return, for every text. -/
import Derived.Test.YtojgmiobjfkebaaWalkSeal
import Derived.Deep.RegionWith
set_option linter.unusedVariables false
namespace Go.Proofs.Ytojgmiobjfkebaa.Crc
open Go.RowKit

def sealL (l : List UInt8) : List UInt8 := l ++ textR (onL 0 l)
theorem textR_len (n : Nat) : (textR n).length = 4 := rfl
theorem sum_lt (l : List UInt8) : onL 0 l < 4294967296 := onL_lt 0 l (by decide)
theorem ofL (l : List UInt8) (w : World) (hl : l.length ≤ 9223372036854775807) :
    Calls Try.prog 32 #[.string ⟨l.toArray⟩] w fun e w' => e = .returned (.int .u32 (onL 0 l : Int)) ∧ w' = w := by
  have := of_any ⟨l.toArray⟩ w (by rw [size_list]; exact hl)
  simpa using this
theorem rofL (l : List UInt8) (w : World) (hl : l.length ≤ 9223372036854775807) :
    Calls Try.prog 25 #[.string ⟨l.toArray⟩] w fun e w' => e = .returned (.int .u32 (onL 0 l : Int)) ∧ w' = w := by
  have := rof_any ⟨l.toArray⟩ w (by rw [size_list]; exact hl)
  simpa using this

/-- a text whose sum is there -/
def openL (l : List UInt8) : List UInt8 × Int :=
  if 4 ≤ l.length then (if l.drop (l.length - 4) = textR (onL 0 (l.take (l.length - 4))) then (l.take (l.length - 4), 0) else ([], 6)) else ([], 5)
end Go.Proofs.Ytojgmiobjfkebaa.Crc
