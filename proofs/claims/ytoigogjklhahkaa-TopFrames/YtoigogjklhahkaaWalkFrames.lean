/- Rows of texts that come in; their frames, one behind the other. -/
import Derived.Test.YtoigogjklhahkaaWalkSame4
set_option linter.unusedVariables false
namespace Go.Proofs.Ytoigogjklhahkaa.Frame
open Go.RowKit

theorem cell_lt {w : World} {a : Addr} {v : Value} (h : w.cell? a = some v) : a.block < w.heap.size := by
  rcases Nat.lt_or_ge a.block w.heap.size with h' | h'
  · exact h'
  · simp [World.cell?, Array.getElem?_eq_none h'] at h
def IsStrs (w : World) (a : Option Addr) (len cap : Nat) (zs : List (List UInt8)) : Prop :=
  HasStrs w (.slice a len cap) zs ∧ len = zs.length ∧ len ≤ cap ∧ cap ≤ 9223372036854775807 ∧ ∀ z ∈ zs, z.length ≤ 9223372036854775807
theorem isStrs_nil (w : World) : IsStrs w none 0 0 [] := ⟨⟨none, 0, rfl, fun j hj => by simp at hj⟩, rfl, Nat.le_refl _, by decide, by simp⟩
theorem isStrs_of {w : World} {a : Addr} {len cap : Nat} {Sx : Nat → ByteArray} (hl : len ≤ cap) (hm : cap ≤ maxLen) (h : ∀ i, i < len → w.cell? (a.add i) = some (.string (Sx i)) ∧ (Sx i).size ≤ maxLen) :
    IsStrs w (some a) len cap ((List.range len).map fun i => (Sx i).data.toList) := by
  unfold maxLen at hm
  refine ⟨⟨some a, cap, by simp, fun j hj => ?_⟩, by simp, hl, hm, fun z hz => ?_⟩
  · have hj' : j < len := by simpa using hj
    obtain ⟨b, off, spot⟩ := a
    have hspot : spot = none := by simpa [Addr.add] using World.cell?_spot (h 0 (by omega)).1
    subst hspot
    have h1 := (h j hj').1
    rw [addr_add] at h1
    refine ⟨b, off, rfl, ?_, cell_lt h1⟩
    rw [h1]
    simp [strV]
  · obtain ⟨i, hi, rfl⟩ := List.mem_map.1 hz
    have := (h i (by simpa using hi)).2
    unfold maxLen at this
    have e : (Sx i).data.toList.length = (Sx i).size := Array.length_toList
    omega

def catL (zs : List (List UInt8)) : List UInt8 := zs.flatMap frameL
theorem catL_cons (z : List UInt8) (zs : List (List UInt8)) : catL (z :: zs) = frameL z ++ catL zs := rfl
theorem catL_snoc (zs : List (List UInt8)) (z : List UInt8) : catL (zs ++ [z]) = catL zs ++ frameL z := by simp [catL]
theorem frameL_len (l : List UInt8) : (frameL l).length = (putL l.length).length + 4 + l.length := by
  rw [frameL, List.length_append, List.length_append, sumL_len]; omega
theorem frameL_le (l : List UInt8) (h : l.length ≤ 4096) : (frameL l).length ≤ 4102 := by
  rw [frameL_len]; have := putL_le l.length h; omega
theorem catL_le (zs : List (List UInt8)) (h : ∀ z ∈ zs, z.length ≤ 4096) : (catL zs).length ≤ 4102 * zs.length := by
  induction zs with
  | nil => simp [catL]
  | cons z zs ih =>
    have h1 := frameL_le z (h z (by simp))
    have h2 := ih (fun y hy => h y (by simp [hy]))
    rw [catL_cons, List.length_append, List.length_cons]
    omega
theorem take_cat (zs : List (List UInt8)) (more : List UInt8) (h : ∀ z ∈ zs, z.length ≤ 4096) : takeL zs.length (catL zs ++ more) = (zs, more, 0) := by
  induction zs with
  | nil => rfl
  | cons z zs ih =>
    have h2 := ih (fun y hy => h y (by simp [hy]))
    rw [catL_cons, List.append_assoc, List.length_cons, takeL, nextL_frame z (catL zs ++ more) (h z (by simp)), h2]
    simp
theorem all_cat (zs : List (List UInt8)) (h : ∀ z ∈ zs, z.length ≤ 4096) : allL (catL zs) = (zs, []) := by
  induction zs with
  | nil => rfl
  | cons z zs ih =>
    have h2 := ih (fun y hy => h y (by simp [hy]))
    rw [catL_cons, allL_ok (nextL_frame z (catL zs) (h z (by simp))), h2]

/-- few enough, and none too long -/
def Fit20 (zs : List (List UInt8)) : Prop := zs.length ≤ 20 ∧ ∀ z ∈ zs, z.length ≤ 4096
def FramesIs (zs : List (List UInt8)) (w : World) (e : Ending) (w' : World) : Prop :=
  ((Fit20 zs ∧ e = .returned (.tuple #[.string ⟨(catL zs).toArray⟩, .bool true])) ∨ (¬ Fit20 zs ∧ e = .returned (.tuple #[.string ⟨#[]⟩, .bool false]))) ∧ Below w.heap.size w w'
end Go.Proofs.Ytoigogjklhahkaa.Frame
