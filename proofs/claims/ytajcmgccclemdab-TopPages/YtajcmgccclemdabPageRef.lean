/- What the document's Eight, Number, Zeros, Put, Tag, Get return, for every input. -/
import Derived.Test.YtajcmgccclemdabPageTag
import Derived.OwnWalk
set_option linter.unusedVariables false
namespace Go.Proofs.Ytajcmgccclemdab.Page
open Go.RowKit

theorem info_u8 : (Try.prog.info? 5).map (fun i => (i.zero, i.size, i.bytes)) = some (some (.int .u8 0), 1, 1) := by kernel_rfl
/-- 'make([]byte, n)' -/
theorem make_bytes (w : World) (n : Nat) (h : n ≤ 1000000) (kl kc : IntKind) : (Instr.makeSlice 68 (.int kl (n : Int)) (.int kc (n : Int))).run Try.prog w = .ok (.slice (some ⟨w.heap.size, 0, none⟩) n n) (w.alloc (.cells (List.replicate n zero8).toArray 5)) := by
  obtain ⟨i0, hi, hz0, hz1, hz2⟩ := info_parts info_u8
  have hr := run_make (P := Try.prog) w 68 5 i0 (.int .u8 0) Try.underlying68 hi hz0 kl kc n n (by omega) (Int.le_refl _) (by rw [hz2]; omega) (by omega)
  rw [hr, hz1, Int.toNat_natCast, Nat.mul_one]
  have e : madeCells (Value.int .u8 0).cells n = (List.replicate n zero8).toArray := by
    apply Array.ext'
    exact toList_madeCells_one (.int .u8 0) n
  rw [e]
theorem make8 (w : World) : (Instr.makeSlice 68 (.int .i64 8) (.int .i64 8)).run Try.prog w = .ok (.slice (some ⟨w.heap.size, 0, none⟩) 8 8) (w.alloc (.cells #[.int .u8 0, .int .u8 0, .int .u8 0, .int .u8 0, .int .u8 0, .int .u8 0, .int .u8 0, .int .u8 0] 5)) := make_bytes w 8 (by omega) .i64 .i64
theorem conv8 (W : World) (g : Nat) (l : List UInt8) (hl : l.length = 8) (hg : RowAt W g (cellsL l) 5) :
    (convert 68 9 (.slice (some ⟨g, 0, none⟩) 8 8)).run Try.prog W = .ok (.string ⟨l.toArray⟩) W := by
  have := conv_row l hg 8
  rw [hl] at this
  exact this
end Go.Proofs.Ytajcmgccclemdab.Page
