/- What num.Text and the document's Text and GetText return, and that spoorlaw01.rows returns true. -/
import Derived.Test.YtjgieaijdkmadaaWalkText
set_option linter.unusedVariables false
namespace Go.Proofs.Ytjgieaijdkmadaa
open Go.RowKit

theorem extract_take (s : ByteArray) (k : Nat) : s.extract 0 k = ⟨(s.data.toList.take k).toArray⟩ := by
  apply ByteArray.ext
  rw [ByteArray.data_extract]
  apply Array.ext'
  simp
/-- the bytes of a text -/
def textL (t : List UInt8) : List UInt8 := putL t.length ++ t
theorem rv1 : rowL [1, 200] = [2, 1, 200, 1] := by
  have e1 : putL 2 = [2] := by rw [putL_small _ (by decide)]; rfl
  have e2 : putL 1 = [1] := by rw [putL_small _ (by decide)]; rfl
  have e3 : putL 200 = [200, 1] := by rw [putL_big _ (by decide), putL_small _ (by decide)]; rfl
  have e4 : allL [1, 200] = putL 1 ++ putL 200 := by simp [allL]
  rw [rowL, e4, e2, e3]
  show putL 2 ++ _ = _
  rw [e1]
  rfl
theorem rv2 : getRowL [2, 1, 200, 1, 122] = ([1, 200], [122], 0) := by decide +kernel
theorem rv3 : textL [97, 98] = [2, 97, 98] := by
  have e1 : putL 2 = [2] := by rw [putL_small _ (by decide)]; rfl
  show putL 2 ++ _ = _
  rw [e1]
  rfl
theorem rv4 : getTextL [2, 97, 98, 122] = ([97, 98], [122], 0) := by decide +kernel
theorem rv5 : getTextL [5, 97, 98] = ([], [], 5) := by decide +kernel
theorem isRow_two (w : World) : IsRow .u64 (w.alloc (.cells #[.int .u64 1, .int .u64 200] 23)) (some ⟨w.heap.size, 0, none⟩) 2 2 [1, 200] := by
  refine .inr ⟨_, rfl, by decide, by decide, rfl, ?_, by decide⟩
  intro i hi
  rw [addr_add, Nat.zero_add, World.cell?_alloc_at _ _ _ _ rfl]
  match i, hi with
  | 0, _ => rfl
  | 1, _ => rfl
theorem st1 : (⟨#[2, 1, 200, 1]⟩ ++ ⟨#[122]⟩ : ByteArray) = ⟨#[2, 1, 200, 1, 122]⟩ := by decide +kernel
theorem st2 : (⟨#[2, 97, 98]⟩ ++ ⟨#[122]⟩ : ByteArray) = ⟨#[2, 97, 98, 122]⟩ := by decide +kernel

end Go.Proofs.Ytjgieaijdkmadaa
