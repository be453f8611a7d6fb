/- spoorlaw05.lives holds. -/
import Derived.Test.YtbikcpchlgmoaaaPageJoin
set_option linter.unusedVariables false
namespace Go.Proofs.Ytbikcpchlgmoaaa.Page
open Go.RowKit Go.Shelf

def S1 : List UInt8 := pageL 1 [97]
theorem s1_put : putL 1 [97] = (S1, 0) := by decide +kernel
theorem s1_get : getL S1 1 = ([97], 0) := by decide +kernel
theorem s1_get2 : getL S1 2 = ([], 3) := by decide +kernel
theorem s1_tag : tagL S1 = (1, 0) := by decide +kernel
theorem s1_split : splitR 7 S1 = ([pageL 7 (S1.take 111), pageL 8 (S1.drop 111)], 0) := by decide +kernel
theorem s1_join : joinL [pageL 7 (S1.take 111), pageL 8 (S1.drop 111)] 7 = (S1, 2) := by decide +kernel
theorem s1_len : S1.length = 128 := by decide +kernel
theorem s1_mid : (⟨S1.toArray⟩ : ByteArray).extract 7 11 = ⟨#[1, 1, 97, 0]⟩ := by decide +kernel
theorem s1_end (h : 127 < (⟨S1.toArray⟩ : ByteArray).size) : (⟨S1.toArray⟩ : ByteArray)[127] = 1 := by
  have : S1[127]? = some 1 := by decide +kernel
  have h2 := List.getElem?_eq_some_iff.1 this
  exact h2.2
end Go.Proofs.Ytbikcpchlgmoaaa.Page
