/- What frame.Put, Size, first, Next and the document's return, for every text. -/
import Derived.Test.YtoigogjklhahkaaMathFrame
import Derived.Deep.RegionWith
set_option linter.unusedVariables false
namespace Go.Proofs.Ytoigogjklhahkaa.Frame
open Go.RowKit

theorem ret_strs {a b : ByteArray} {y : Int} (h : a = b) : Ending.returned (.tuple #[.string a, .int .i64 y]) = .returned (.tuple #[.string b, .int .i64 y]) := by rw [h]
theorem below2 {a b c : World} (h1 : Below a.heap.size a b) (h2 : Below b.heap.size b c) : Below a.heap.size a c := h1.trans (h2.mono h1.size)
theorem str_list (s : ByteArray) : ∃ l : List UInt8, s = ⟨l.toArray⟩ ∧ l.length = s.size := ⟨s.data.toList, by cases s; simp, by simp⟩
theorem size_list (l : List UInt8) : (⟨l.toArray⟩ : ByteArray).size = l.length := by show l.toArray.size = _; simp
theorem str_app (a b : List UInt8) : (⟨a.toArray⟩ ++ ⟨b.toArray⟩ : ByteArray) = ⟨(a ++ b).toArray⟩ := Crc.str_app a b
theorem extract_drop (s : ByteArray) (k : Nat) : s.extract k s.size = ⟨(s.data.toList.drop k).toArray⟩ := Crc.extract_drop s k
theorem extract_take (s : ByteArray) (k : Nat) : s.extract 0 k = ⟨(s.data.toList.take k).toArray⟩ := Crc.extract_take s k
theorem sum_lt (l : List UInt8) : Crc.onL 0 l < 4294967296 := Crc.onL_lt 0 l (by decide)
theorem putL_le (n : Nat) (h : n ≤ 4096) : (putL n).length ≤ 2 := by
  by_cases h1 : n < 128
  · rw [putL_small n h1]; simp
  · rw [putL_big n h1, putL_small _ (by omega)]; simp
theorem putL_pos (n : Nat) : 1 ≤ (putL n).length := List.length_pos_iff.2 (putL_ne n)

theorem ofL (l : List UInt8) (w : World) (hl : l.length ≤ 9223372036854775807) :
    Calls Try.prog 13 #[.string ⟨l.toArray⟩] w fun e w' => e = .returned (.int .u32 (Crc.onL 0 l : Int)) ∧ w' = w := by
  have := Crc.of_any ⟨l.toArray⟩ w (by rw [size_list]; exact hl)
  simpa using this
theorem cloneL (l : List UInt8) (hl : l.length ≤ 281474976710656) (w : World) :
    Calls Try.prog 30 #[.string ⟨l.toArray⟩] w fun e w' => e = .returned (.string ⟨l.toArray⟩) ∧ Below w.heap.size w w' := clone_any _ w (by rw [size_list]; exact hl)
theorem getL {l : List UInt8} {n : Nat} {r : List UInt8} {y : Int} (h : getGo 0 0 l = (n, r, y)) (hl : l.length ≤ 281474976710656) (w : World) :
    Calls Try.prog 12 #[.string ⟨l.toArray⟩] w fun e w' => e = .returned (.tuple #[.int .u64 n, .string ⟨r.toArray⟩, .int .i64 y]) ∧ Below w.heap.size w w' := by
  have := get_any ⟨l.toArray⟩ w (by rw [size_list]; exact hl)
  rw [show getS ⟨l.toArray⟩ = getGo 0 0 l by simp [getS], h] at this
  exact this
theorem sumOf_any (l : List UInt8) (w : World) (hl : l.length ≤ 281474976710656) :
    Calls Try.prog 15 #[.string ⟨l.toArray⟩] w fun e w' => e = .returned (.string ⟨(sumL l).toArray⟩) ∧ Below w.heap.size w w' := by
  have c1 := fun w => ofL l w (by omega)
  have c2 := fun w => Crc.text_any (Crc.onL 0 l) w (sum_lt l)
  go_enter Try.func15, Try.ntmps15
  go_wp2_with fail
  go_at_call 13; refine (c1 _).mono ?_; rintro e w1 ⟨rfl, rfl⟩
  go_wp2_with fail
  go_at_call 34; refine (c2 _).mono ?_; rintro e w2 ⟨rfl, hb2⟩
  go_wp2
  go_ret
  exact ⟨rfl, hb2⟩

theorem put_long (s : ByteArray) (w : World) (h : 4096 < s.size) (hs : s.size ≤ 9223372036854775807) :
    Calls Try.prog 5 #[.string s] w fun e w' => e = .returned (.tuple #[.string ⟨#[]⟩, .int .i64 11]) ∧ Below w.heap.size w w' := by
  go_enter Try.func5, Try.ntmps5
  go_wp2
  go_ret2
  exact ⟨rfl, Below.refl _ _⟩
set_option maxHeartbeats 1000000 in
theorem put_ok (l : List UInt8) (w : World) (h : l.length ≤ 4096) :
    Calls Try.prog 5 #[.string ⟨l.toArray⟩] w fun e w' => e = .returned (.tuple #[.string ⟨(frameL l).toArray⟩, .int .i64 0]) ∧ Below w.heap.size w w' := by
  have hli : (l.length : Int) ≤ 4096 := by omega
  have c1 := fun w => put_any (l.length : Int) w (by omega) (by omega)
  have c2 := fun w => sumOf_any l w (by omega)
  rw [Int.toNat_natCast] at c1
  have hp := putL_le l.length h
  obtain ⟨P, hP⟩ : ∃ P : ByteArray, P = ⟨(putL l.length).toArray⟩ := ⟨_, rfl⟩
  obtain ⟨T, hT⟩ : ∃ T : ByteArray, T = ⟨(sumL l).toArray⟩ := ⟨_, rfl⟩
  obtain ⟨S, hS⟩ : ∃ S : ByteArray, S = ⟨l.toArray⟩ := ⟨_, rfl⟩
  obtain ⟨m, hm⟩ : ∃ m : Nat, m = l.length := ⟨_, rfl⟩
  have HE : Hid (P ++ T ++ S = ⟨(frameL l).toArray⟩) := by show _ = _; rw [hP, hT, hS, str_app, str_app, List.append_assoc]; rfl
  have hPs : P.size ≤ 2 := by rw [hP, size_list]; exact hp
  have hTs : T.size ≤ 4 := by rw [hT, size_list]; exact Nat.le_refl _
  have hSm : S.size = m := by rw [hS, size_list]; exact hm.symm
  rw [← hP, ← hm] at c1
  rw [← hT, ← hS] at c2
  rw [← hS]
  have hSs : S.size ≤ 4096 := by omega
  rw [← hSm] at c1
  clear hSm
  have e0 : IntKind.u64.wrap (S.size : Int) = (S.size : Int) := by rw [IntKind.wrap_u64]; omega
  clear hP hT hS hm hp hli
  have n1 : ¬ 9223372036854775807 < P.size + T.size := by omega
  have n2 : ¬ 9223372036854775807 < P.size + T.size + S.size := by omega
  go_enter Try.func5, Try.ntmps5
  go_wp2_with fail
  go_at_call 14; refine (c1 _).mono ?_; rintro e w1 ⟨rfl, hb1⟩
  go_wp2_with fail
  go_at_call 15; refine (c2 _).mono ?_; rintro e w2 ⟨rfl, hb2⟩
  go_wp2
  go_ret2
  exact ⟨ret_strs HE.out, below2 hb1 hb2⟩
end Go.Proofs.Ytoigogjklhahkaa.Frame
