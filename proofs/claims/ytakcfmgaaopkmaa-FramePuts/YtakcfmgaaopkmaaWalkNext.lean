/- What frame.Next and the document's Next return, for every text. -/
import Derived.Test.YtakcfmgaaopkmaaWalkFirst
import Derived.Deep.DeepCutAuto
import Derived.Deep.QuietTactic
set_option linter.unusedVariables false
namespace Go.Proofs.Ytakcfmgaaopkmaa.Frame
open Go.RowKit

def NextIs (l : List UInt8) (w : World) (e : Ending) (w' : World) : Prop :=
  e = .returned (.tuple #[.string ⟨(nextL l).1.toArray⟩, .string ⟨(nextL l).2.1.toArray⟩, .int .i64 (nextL l).2.2]) ∧ Below w.heap.size w w'
theorem nextIs_err {l : List UInt8} {w w' : World} {y : Int} (h : nextL l = ([], [], y)) (hb : Below w.heap.size w w') : NextIs l w (.returned (.tuple #[.string ⟨#[]⟩, .string ⟨#[]⟩, .int .i64 y])) w' := by
  refine ⟨?_, hb⟩; rw [h]
theorem nextIs_ok {l p r : List UInt8} {P R : ByteArray} {w w' : World} (h : nextL l = (p, r, 0)) (hP : P = ⟨p.toArray⟩) (hR : R = ⟨r.toArray⟩) (hb : Below w.heap.size w w') : NextIs l w (.returned (.tuple #[.string P, .string R, .int .i64 0])) w' := by
  refine ⟨?_, hb⟩; rw [h, hP, hR]

theorem nextIs_of {l p r : List UInt8} {P R : ByteArray} {w w' : World} {e : Ending} (h : nextL l = (p, r, 0)) (hP : P = ⟨p.toArray⟩) (hR : R = ⟨r.toArray⟩) (he : e = .returned (.tuple #[.string P, .string R, .int .i64 0])) (hb : Below w.heap.size w w') : NextIs l w e w' := by
  subst he; exact nextIs_ok h hP hR hb
theorem nextIs_ofe {l : List UInt8} {w w' : World} {y : Int} {e : Ending} (h : nextL l = ([], [], y)) (he : e = .returned (.tuple #[.string ⟨#[]⟩, .string ⟨#[]⟩, .int .i64 y])) (hb : Below w.heap.size w w') : NextIs l w e w' := by
  subst he; exact nextIs_err h hb
theorem slice_lhu {P : Program} (W : World) {t : TypeId} (s : ByteArray) (ht : P.underlying t = some .string) (l h : Int) (h0 : 0 ≤ l) (h1 : l ≤ h) (h2 : h ≤ s.size) :
    (Instr.slice t (.string s) (some (.int .i64 l)) (some (.int .u64 h)) none).run P W = .ok (.string (s.extract l.toNat h.toNat)) W := by
  have h3 : 0 ≤ h := by omega
  have h4 : ¬ max h 0 < l := by omega
  simp [Instr.slice, run_underlying ht, Instr.sliceBounds, run_sliceBound_if, *]
set_option maxHeartbeats 1000000 in
theorem next_any (l : List UInt8) (w : World) (hl : l.length ≤ 281474976710656) :
    Calls Try.prog 57 #[.string ⟨l.toArray⟩] w (NextIs l w) := by
  have c1 := fun w => first_any l w hl
  have hle := nextL_le l
  unfold OneIs at c1
  unfold NextIs
  obtain ⟨⟨p, r, y⟩, hn⟩ : ∃ g, nextL l = g := ⟨_, rfl⟩
  rw [hn] at c1 hle ⊢
  clear hn
  simp only at c1 hle ⊢
  have cp := cloneL p (by omega)
  have cr := cloneL r (by omega)
  obtain ⟨P, hP⟩ : ∃ P : ByteArray, P = ⟨p.toArray⟩ := ⟨_, rfl⟩
  obtain ⟨R, hR⟩ : ∃ R : ByteArray, R = ⟨r.toArray⟩ := ⟨_, rfl⟩
  obtain ⟨S, hS⟩ : ∃ S : ByteArray, S = ⟨l.toArray⟩ := ⟨_, rfl⟩
  rw [← hP] at cp
  rw [← hR] at cr
  rw [← hP, ← hR, ← hS] at c1
  rw [← hS, ← hP, ← hR]
  clear hP hR hS hle
  go_enter Try.func57, Try.ntmps57
  go_wp2_with fail
  go_at_call 73; refine (c1 _).mono ?_; rintro e w1 ⟨rfl, hb1⟩
  clear c1
  go_wp2_with fail
  go_region_with (first
    | (go_at_call 37; refine (cp _).mono ?_; rintro e w2 ⟨rfl, hb2⟩; obtain ⟨hc2, hf2⟩ := bcell hb2)
    | (go_at_call 37; refine (cr _).mono ?_; rintro e w3 ⟨rfl, hb3⟩; obtain ⟨hc3, hf3⟩ := bcell hb3))
  all_goals go_wp2
  all_goals go_ret3
  all_goals refine ⟨rfl, ?_⟩
  all_goals first
    | exact below2 (below2 (below2 hb1 (by (repeat' (first | exact Below.refl _ _ | refine Below.drew ?_ | refine Below.alloc ?_ (by simp) _)))) hb2) hb3
    | exact below2 (below2 (below2 hb1 (by (repeat' (first | exact Below.refl _ _ | refine Below.drew ?_ | refine Below.alloc ?_ (by simp) _)))) hb3) hb2

end Go.Proofs.Ytakcfmgaaopkmaa.Frame
