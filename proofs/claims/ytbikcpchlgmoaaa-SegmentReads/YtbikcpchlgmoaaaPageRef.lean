/- What the document's Eight, Number, Zeros, Put, Tag, Get return, for every input. -/
import Derived.Test.YtbikcpchlgmoaaaPageTag
import Derived.OwnWalk
set_option linter.unusedVariables false
namespace Go.Proofs.Ytbikcpchlgmoaaa.Page
open Go.RowKit

theorem info_u8 : (Try.prog.info? 5).map (fun i => (i.zero, i.size, i.bytes)) = some (some (.int .u8 0), 1, 1) := by kernel_rfl
/-- 'make([]byte, n)' -/
theorem make_bytes (w : World) (n : Nat) (h : n ≤ 1000000) (kl kc : IntKind) : (Instr.makeSlice 65 (.int kl (n : Int)) (.int kc (n : Int))).run Try.prog w = .ok (.slice (some ⟨w.heap.size, 0, none⟩) n n) (w.alloc (.cells (List.replicate n zero8).toArray 5)) := by
  obtain ⟨i0, hi, hz0, hz1, hz2⟩ := info_parts info_u8
  have hr := run_make (P := Try.prog) w 65 5 i0 (.int .u8 0) Try.underlying65 hi hz0 kl kc n n (by omega) (Int.le_refl _) (by rw [hz2]; omega) (by omega)
  rw [hr, hz1, Int.toNat_natCast, Nat.mul_one]
  have e : madeCells (Value.int .u8 0).cells n = (List.replicate n zero8).toArray := by
    apply Array.ext'
    exact toList_madeCells_one (.int .u8 0) n
  rw [e]
theorem make8 (w : World) : (Instr.makeSlice 65 (.int .i64 8) (.int .i64 8)).run Try.prog w = .ok (.slice (some ⟨w.heap.size, 0, none⟩) 8 8) (w.alloc (.cells #[.int .u8 0, .int .u8 0, .int .u8 0, .int .u8 0, .int .u8 0, .int .u8 0, .int .u8 0, .int .u8 0] 5)) := make_bytes w 8 (by omega) .i64 .i64
theorem conv8 (W : World) (g : Nat) (l : List UInt8) (hl : l.length = 8) (hg : RowAt W g (cellsL l) 5) :
    (convert 65 9 (.slice (some ⟨g, 0, none⟩) 8 8)).run Try.prog W = .ok (.string ⟨l.toArray⟩) W := by
  have := conv_row l hg 8
  rw [hl] at this
  exact this
set_option maxRecDepth 20000 in
set_option maxHeartbeats 1000000 in
theorem reight_any (n : Nat) (w : World) (h : n < 18446744073709551616) :
    Calls Try.prog 63 #[.int .u64 (n : Int)] w fun e w' => e = .returned (.string ⟨(eightL n).toArray⟩) ∧ Below w.heap.size w w' := by
  have hi : (n : Int) ≤ 18446744073709551615 := by omega
  have hi0 : (0 : Int) ≤ (n : Int) := by omega
  have hm := make8 w
  clear h
  go_enter Try.func63, Try.ntmps63
  go_wp2
  refine wp_loop_rounds 9 ?_
  repeat any_goals (rw [rounds_succ]; go_wp2_with fail)
  obtain ⟨W, hW⟩ : ∃ W, W = w.alloc (Obj.cells #[Value.int .u8 ((n : Int) / 256 / 256 / 256 / 256 / 256 / 256 / 256 % 256), .int .u8 ((n : Int) / 256 / 256 / 256 / 256 / 256 / 256 % 256), .int .u8 ((n : Int) / 256 / 256 / 256 / 256 / 256 % 256), .int .u8 ((n : Int) / 256 / 256 / 256 / 256 % 256), .int .u8 ((n : Int) / 256 / 256 / 256 % 256), .int .u8 ((n : Int) / 256 / 256 % 256), .int .u8 ((n : Int) / 256 % 256), .int .u8 ((n : Int) % 256)] 5) := ⟨_, rfl⟩
  rw [← hW]
  have hB : Below w.heap.size w W := by rw [hW]; exact (Below.refl _ w).alloc (Nat.le_refl _) _
  have hr : RowAt W w.heap.size (cellsL (eightL n)) 5 := by
    rw [hW]
    have : (cellsL (eightL n)).toArray = #[Value.int .u8 ((n : Int) / 256 / 256 / 256 / 256 / 256 / 256 / 256 % 256), .int .u8 ((n : Int) / 256 / 256 / 256 / 256 / 256 / 256 % 256), .int .u8 ((n : Int) / 256 / 256 / 256 / 256 / 256 % 256), .int .u8 ((n : Int) / 256 / 256 / 256 / 256 % 256), .int .u8 ((n : Int) / 256 / 256 / 256 % 256), .int .u8 ((n : Int) / 256 / 256 % 256), .int .u8 ((n : Int) / 256 % 256), .int .u8 ((n : Int) % 256)] := by
      simp [cellsL, eightL]
      omega
    rw [← this]
    exact RowAt.new w _ _
  have hc := conv8 W w.heap.size (eightL n) rfl hr
  clear hW hr hm
  rw [hc]
  go_wp2
  go_ret
  exact ⟨rfl, hB⟩
theorem zeros_any (n : Nat) (w : World) (h : n ≤ 1000000) :
    Calls Try.prog 64 #[.int .i64 (n : Int)] w fun e w' => e = .returned (.string ⟨(List.replicate n 0).toArray⟩) ∧ Below w.heap.size w w' := by
  have hm := make_bytes w n h .i64 .i64
  obtain ⟨W, hW⟩ : ∃ W, W = w.alloc (.cells (List.replicate n zero8).toArray 5) := ⟨_, rfl⟩
  have hB : Below w.heap.size w W := by rw [hW]; exact (Below.refl _ w).alloc (Nat.le_refl _) _
  have hr : RowAt W w.heap.size (cellsL (List.replicate n 0)) 5 := by
    rw [hW, show cellsL (List.replicate n 0) = List.replicate n zero8 by simp [cellsL, zero8]]
    exact RowAt.new w _ _
  have hc := conv_row _ hr n
  rw [List.length_replicate] at hc
  rw [← hW] at hm
  clear hW hr
  go_enter Try.func64, Try.ntmps64
  go_wp2
  go_ret
  exact ⟨ret_str (by simp), hB⟩
set_option maxHeartbeats 1000000 in
theorem rnumber_core (s : ByteArray) (w : World) (hs : s.size ≤ 8) :
    Calls Try.prog 115 #[.string s] w fun e w' => e = .returned (.int .u64 (numL 0 s.data.toList : Int)) ∧ w' = w := by
  go_enter Try.func115, Try.ntmps115
  go_wp2
  go_loop [3, 4] (fun t i => ∃ j R : Nat, j ≤ s.size ∧ Hid (R < 256 ^ j) ∧ i = .int .i64 j ∧ t = .int .u64 (R : Int) ∧ Hid (numL 0 s.data.toList = numL R (s.data.toList.drop j))) (fun _ i => s.size - (intOf i).toNat)
  case atStart => exact ⟨0, 0, by omega, (by decide : 0 < 256 ^ 0), rfl, rfl, (rfl : numL 0 _ = _)⟩
  case round =>
    obtain ⟨j, R, hj, HR, rfl, rfl, HG⟩ := hrel
    by_cases hlt : j < s.size
    · have HD : Hid (s.data.toList.drop j = s[j] :: s.data.toList.drop (j + 1)) := by
        show _ = _
        rw [List.drop_eq_getElem_cons (by simpa using hlt)]; rfl
      have hRi : (R : Int) ≤ 72057594037927935 := by have := pow_7 R j HR.out (by omega); omega
      have hbi : ((s[j]).toNat : Int) ≤ 255 := by have := (s[j]).toNat_lt; omega
      go_wp2
      go_round
      case rel =>
        refine ⟨j + 1, 256 * R + (s[j]).toNat, by omega, pow_step R j _ HR.out (by have := (s[j]).toNat_lt; omega), by go_num, ?_, ?_⟩
        · congr 1
        · show _ = _
          rw [HG.out, HD.out, numL]
      case measure => simp [intOf]; omega
    · obtain rfl : j = s.size := by omega
      have HE : Hid (numL 0 s.data.toList = R) := by show _ = _; rw [HG.out, List.drop_of_length_le (by simp)]; rfl
      go_wp2
      go_ret
      exact ⟨by rw [HE.out]; rfl, rfl⟩
theorem rnumber_any (l : List UInt8) (w : World) (hl : l.length ≤ 8) :
    Calls Try.prog 115 #[.string ⟨l.toArray⟩] w fun e w' => e = .returned (.int .u64 (numL 0 l : Int)) ∧ w' = w := by
  have := rnumber_core ⟨l.toArray⟩ w (by rw [size_list]; exact hl)
  simpa using this
end Go.Proofs.Ytbikcpchlgmoaaa.Page
