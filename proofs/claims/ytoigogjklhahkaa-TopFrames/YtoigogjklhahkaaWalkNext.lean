/- What frame.Next and the document's Next return, for every text. -/
import Derived.Test.YtoigogjklhahkaaWalkFirst
import Derived.Deep.DeepCutAuto
import Derived.Deep.QuietTactic
set_option linter.unusedVariables false
namespace Go.Proofs.Ytoigogjklhahkaa.Frame
open Go.RowKit

def NextIs (l : List UInt8) (w : World) (e : Ending) (w' : World) : Prop :=
  e = .returned (.tuple #[.string ⟨(nextL l).1.toArray⟩, .string ⟨(nextL l).2.1.toArray⟩, .int .i64 (nextL l).2.2]) ∧ Below w.heap.size w w'
theorem nextIs_err {l : List UInt8} {w w' : World} {y : Int} (h : nextL l = ([], [], y)) (hb : Below w.heap.size w w') : NextIs l w (.returned (.tuple #[.string ⟨#[]⟩, .string ⟨#[]⟩, .int .i64 y])) w' := by
  refine ⟨?_, hb⟩; rw [h]
theorem nextIs_ok {l p r : List UInt8} {P R : ByteArray} {w w' : World} (h : nextL l = (p, r, 0)) (hP : P = ⟨p.toArray⟩) (hR : R = ⟨r.toArray⟩) (hb : Below w.heap.size w w') : NextIs l w (.returned (.tuple #[.string P, .string R, .int .i64 0])) w' := by
  refine ⟨?_, hb⟩; rw [h, hP, hR]

theorem nextIs_of {l p r : List UInt8} {P R : ByteArray} {w w' : World} {e : Ending} (h : nextL l = (p, r, 0)) (hP : P = ⟨p.toArray⟩) (hR : R = ⟨r.toArray⟩) (he : e = .returned (.tuple #[.string P, .string R, .int .i64 0])) (hb : Below w.heap.size w w') : NextIs l w e w' := by
  subst he; exact nextIs_ok h hP hR hb
theorem nextIs_ofe {l : List UInt8} {w w' : World} {y : Int} {e : Ending} (h : nextL l = ([], [], y)) (he : e = .returned (.tuple #[.string ⟨#[]⟩, .string ⟨#[]⟩, .int .i64 y])) (hb : Below w.heap.size w w') : NextIs l w e w' := by
  subst he; exact nextIs_err h hb
theorem slice_lhu {P : Program} (W : World) {t : TypeId} (s : ByteArray) (ht : P.underlying t = some .string) (l h : Int) (h0 : 0 ≤ l) (h1 : l ≤ h) (h2 : h ≤ s.size) :
    (Instr.slice t (.string s) (some (.int .i64 l)) (some (.int .u64 h)) none).run P W = .ok (.string (s.extract l.toNat h.toNat)) W := by
  have h3 : 0 ≤ h := by omega
  have h4 : ¬ max h 0 < l := by omega
  simp [Instr.slice, run_underlying ht, Instr.sliceBounds, run_sliceBound_if, *]
end Go.Proofs.Ytoigogjklhahkaa.Frame
