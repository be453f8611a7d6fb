/- What num.Text and the document's Text and GetText return, and that spoorlaw01.rows returns true. -/
import Derived.Test.YtmbciomfkiadiacWalkText
set_option linter.unusedVariables false
namespace Go.Proofs.Ytmbciomfkiadiac
open Go.RowKit

theorem extract_take (s : ByteArray) (k : Nat) : s.extract 0 k = ⟨(s.data.toList.take k).toArray⟩ := by
  apply ByteArray.ext
  rw [ByteArray.data_extract]
  apply Array.ext'
  simp
/-- the bytes of a text -/
def textL (t : List UInt8) : List UInt8 := putL t.length ++ t
theorem text_long (s : ByteArray) (w : World) (h : 32768 < s.size) (hs : s.size ≤ 9223372036854775807) :
    Calls Try.prog 7 #[.string s] w fun e w' => e = .returned (.tuple #[.string ⟨#[]⟩, .int .i64 11]) ∧ Below w.heap.size w w' := by
  go_enter Try.func7, Try.ntmps7
  go_wp2
  go_ret2
  exact ⟨rfl, Below.refl _ _⟩
theorem text_any (t : List UInt8) (w : World) (h : t.length ≤ 32768) :
    Calls Try.prog 7 #[.string ⟨t.toArray⟩] w fun e w' => e = .returned (.tuple #[.string ⟨(textL t).toArray⟩, .int .i64 0]) ∧ Below w.heap.size w w' := by
  obtain ⟨R, hR⟩ : ∃ R : ByteArray, R = ⟨t.toArray⟩ := ⟨_, rfl⟩
  have hRs : R.size = t.length := by rw [hR, size_list]
  obtain ⟨Q, hQ⟩ : ∃ Q : ByteArray, Q = ⟨(putL t.length).toArray⟩ := ⟨_, rfl⟩
  have hQs : Q.size ≤ 10 := by rw [hQ, size_list]; exact putL_le _ (by omega)
  have hp : ∀ w, Calls Try.prog 13 #[.int .u64 (R.size : Int)] w fun e w' => e = .returned (.string Q) ∧ Below w.heap.size w w' := fun w => by
    have := put_any R.size w (by omega) (by omega)
    rw [hQ, ← hRs]; simpa using this
  have HE : Hid (Q ++ R = ⟨(textL t).toArray⟩) := by show _ = _; rw [hQ, hR, str_app]; rfl
  have hRl : R.size ≤ 32768 := by omega
  rw [← hR]
  clear hR hQ hRs
  go_enter Try.func7, Try.ntmps7
  go_wp2_with fail
  go_at_call 13; refine (hp _).mono ?_; rintro e w1 ⟨rfl, hb1⟩
  go_wp2
  go_ret2
  refine ⟨?_, hb1⟩
  rw [HE.out]
  rfl
theorem rv1 : rowL [1, 200] = [2, 1, 200, 1] := by
  have e1 : putL 2 = [2] := by rw [putL_small _ (by decide)]; rfl
  have e2 : putL 1 = [1] := by rw [putL_small _ (by decide)]; rfl
  have e3 : putL 200 = [200, 1] := by rw [putL_big _ (by decide), putL_small _ (by decide)]; rfl
  have e4 : allL [1, 200] = putL 1 ++ putL 200 := by simp [allL]
  rw [rowL, e4, e2, e3]
  show putL 2 ++ _ = _
  rw [e1]
  rfl
theorem rv2 : getRowL [2, 1, 200, 1, 122] = ([1, 200], [122], 0) := by decide +kernel
theorem rv3 : textL [97, 98] = [2, 97, 98] := by
  have e1 : putL 2 = [2] := by rw [putL_small _ (by decide)]; rfl
  show putL 2 ++ _ = _
  rw [e1]
  rfl
theorem rv4 : getTextL [2, 97, 98, 122] = ([97, 98], [122], 0) := by decide +kernel
theorem rv5 : getTextL [5, 97, 98] = ([], [], 5) := by decide +kernel
theorem isRow_two (w : World) : IsRow .u64 (w.alloc (.cells #[.int .u64 1, .int .u64 200] 33)) (some ⟨w.heap.size, 0, none⟩) 2 2 [1, 200] := by
  refine .inr ⟨_, rfl, by decide, by decide, rfl, ?_, by decide⟩
  intro i hi
  rw [addr_add, Nat.zero_add, World.cell?_alloc_at _ _ _ _ rfl]
  match i, hi with
  | 0, _ => rfl
  | 1, _ => rfl
theorem r1 (w : World) : Calls Try.prog 5 #[.slice (some ⟨w.heap.size, 0, none⟩) 2 2] (w.alloc (.cells #[.int .u64 1, .int .u64 200] 33)) fun e w' => e = .returned (.tuple #[.string ⟨#[2, 1, 200, 1]⟩, .int .i64 0]) ∧ Below (w.heap.size + 1) (w.alloc (.cells #[.int .u64 1, .int .u64 200] 33)) w' := by
  have := row_any _ 2 2 [1, 200] _ (isRow_two w) (by decide)
  rw [show ([1, 200] : List Int).take 2 = [1, 200] from rfl, rv1] at this
  simpa using this
theorem r2 (w : World) : Calls Try.prog 10 #[.string ⟨#[2, 1, 200, 1, 122]⟩] w fun e w' => ∃ v, e = .returned (.tuple #[v, .string ⟨#[122]⟩, .int .i64 0]) ∧ Reads w' v [1, 200] ∧ Below w.heap.size w w' := by
  refine (getRow_any [2, 1, 200, 1, 122] w (by decide)).mono ?_
  rintro e w' ⟨v, he, ho, hb⟩
  rw [rv2] at he ho
  exact ⟨v, he, reads_own ho, hb⟩
theorem r3 (w : World) : Calls Try.prog 7 #[.string ⟨#[97, 98]⟩] w fun e w' => e = .returned (.tuple #[.string ⟨#[2, 97, 98]⟩, .int .i64 0]) ∧ Below w.heap.size w w' := by
  have := text_any [97, 98] w (by decide)
  rw [rv3] at this
  exact this
theorem r4 (w : World) : Calls Try.prog 8 #[.string ⟨#[2, 97, 98, 122]⟩] w fun e w' => e = .returned (.tuple #[.string ⟨#[97, 98]⟩, .string ⟨#[122]⟩, .int .i64 0]) ∧ Below w.heap.size w w' := by
  have := getText_any [2, 97, 98, 122] w (by decide)
  rw [rv4] at this
  exact this
theorem r5 (w : World) : Calls Try.prog 8 #[.string ⟨#[5, 97, 98]⟩] w fun e w' => e = .returned (.tuple #[.string ⟨#[]⟩, .string ⟨#[]⟩, .int .i64 5]) ∧ Below w.heap.size w w' := by
  have := getText_any [5, 97, 98] w (by decide)
  rw [rv5] at this
  exact this
theorem st1 : (⟨#[2, 1, 200, 1]⟩ ++ ⟨#[122]⟩ : ByteArray) = ⟨#[2, 1, 200, 1, 122]⟩ := by decide +kernel
theorem st2 : (⟨#[2, 97, 98]⟩ ++ ⟨#[122]⟩ : ByteArray) = ⟨#[2, 97, 98, 122]⟩ := by decide +kernel

end Go.Proofs.Ytmbciomfkiadiac
