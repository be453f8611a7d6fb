/- What prefixBytes and actionBytes return. -/
import Derived.Test.YtpooiehhepimkaaMsgLay
import Derived.Test.YtpooiehhepimkaaMsgChk
set_option linter.unusedVariables false
namespace Go.Proofs.Ytpooiehhepimkaa.Msg
open Go.RowKit
open Go.Proofs.Ytpooiehhepimkaa.Addr (Pf okP checkP wideN firstN kP hiN loN adV pfV RowAt below2 below_drew below_new bset RowAt.lt RowAt.cell RowAt.frozen RowAt.below RowAt.drew RowAt.new RowAt.alloc gdrew gset gbelow galloc grefl cells2 cells4 results_cell Bl bl_ne wp_region_bl bl_call bl_same)

def actB (a : Ac) : List UInt8 := if a.k = 1 then UInt8.ofNat a.k :: putL a.i.toNat else [UInt8.ofNat a.k]
theorem byte_k (k : Nat) (h : k ≤ 255) : ((UInt8.ofNat k).toNat : Int) = (k : Int) := by rw [UInt8.toNat_ofNat_of_lt' (by show k < 256; omega)]
theorem okA_bd {a : Ac} (h : okA a = true) : (1 ≤ a.k ∧ a.k ≤ 3) ∧ (0 ≤ a.i ∧ a.i ≤ 65536) ∧ (a.k = 1 ∨ a.i = 0) := by
  unfold okA at h
  simpa [and_assoc] using h
end Go.Proofs.Ytpooiehhepimkaa.Msg
