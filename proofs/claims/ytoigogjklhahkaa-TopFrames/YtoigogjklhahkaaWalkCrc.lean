/- What crc.On, crc.Of and the document's return, for every sum and text. -/
import Derived.Test.YtoigogjklhahkaaShelf
import Derived.Test.YtoigogjklhahkaaMathCrc
import Derived.WalkKit
import Derived.WalkSmall
import Derived.Laws.IdiomStrings
import Derived.RegionTactic
import Derived.BigRegion
import Derived.ChangeAlike
import Derived.BigQuiet
import Derived.Deep.QuietTactic
set_option linter.unusedVariables false
namespace Go.Proofs.Ytoigogjklhahkaa.Crc
open Go.RowKit
theorem ret_int {k : IntKind} {a b : Int} (h : a = b) : Ending.returned (.int k a) = .returned (.int k b) := by rw [h]
theorem ret_str {a b : ByteArray} (h : a = b) : Ending.returned (.string a) = .returned (.string b) := by rw [h]
theorem ret_bool {a b : Bool} (h : a = b) : Ending.returned (.bool a) = .returned (.bool b) := by rw [h]
theorem below2 {a b c : World} (h1 : Below a.heap.size a b) (h2 : Below b.heap.size b c) : Below a.heap.size a c := h1.trans (h2.mono h1.size)

theorem halved_any (r : Nat) (w : World) (h : r < 4294967296) :
    Calls Try.prog 48 #[.int .u32 (r : Int)] w fun e w' => e = .returned (.int .u32 (hv r : Int)) ∧ w' = w := by
  have hi : (r : Int) < 4294967296 := by omega
  go_enter Try.func48, Try.ntmps48
  go_wp2
  go_ret
  exact ⟨ret_int (hv_bits r h), rfl⟩

theorem drop_cons (s : ByteArray) (k : Nat) (h : k < s.size) : s.data.toList.drop k = s[k] :: s.data.toList.drop (k + 1) := by
  rw [List.drop_eq_getElem_cons (by simpa using h)]; rfl

set_option maxRecDepth 20000 in
theorem on_any (sum : Nat) (s : ByteArray) (w : World) (h : sum < 4294967296) (hs : s.size ≤ 9223372036854775807) :
    Calls Try.prog 32 #[.int .u32 (sum : Int), .string s] w fun e w' => e = .returned (.int .u32 (onL sum s.data.toList : Int)) ∧ w' = w := by
  have hi : (sum : Int) ≤ 4294967295 := by omega
  have HS : Hid (sum < 4294967296) := h
  clear h
  go_enter Try.func32, Try.ntmps32
  have e0 := not_u32 sum HS.out
  obtain ⟨N, hN⟩ : ∃ N, N = notR sum := ⟨_, rfl⟩
  rw [← hN] at e0
  have HN : Hid (N < 4294967296 ∧ N = notR sum) := ⟨by rw [hN]; exact notR_lt _ HS.out, hN⟩
  clear hN
  go_wp2
  go_loop [5, 11] (fun t i => ∃ j R : Nat, j ≤ s.size ∧ Hid (R < 4294967296) ∧ i = .int .i64 j ∧ t = .int .u32 (R : Int) ∧ Hid (regL N s.data.toList = regL R (s.data.toList.drop j))) (fun _ i => s.size - (intOf i).toNat)
  case atStart => exact ⟨0, N, by omega, HN.out.1, rfl, rfl, (rfl : regL N s.data.toList = _)⟩
  case round =>
    obtain ⟨j, R, hj, HR, rfl, rfl, HG⟩ := hrel
    have hRi : (R : Int) ≤ 4294967295 := by have := HR.out; omega
    by_cases hlt : j < s.size
    · have HD : Hid (s.data.toList.drop j = s[j] :: s.data.toList.drop (j + 1)) := drop_cons s j hlt
      have hbl := (s[j]).toNat_lt
      obtain ⟨X, hX⟩ : ∃ X, X = R ^^^ (s[j]).toNat := ⟨_, rfl⟩
      have e1 := xor_u32 R (s[j]).toNat HR.out (by omega)
      rw [← hX] at e1
      have HX : Hid (X < 4294967296 ∧ X = R ^^^ (s[j]).toNat) := ⟨by rw [hX]; exact Nat.xor_lt_two_pow (n := 32) HR.out (by omega), hX⟩
      have hbi : ((s[j]).toNat : Int) ≤ 255 := by omega
      clear hX hbl
      go_wp2
      go_loop [5, 20] (fun t i => ∃ k Q : Nat, k ≤ 8 ∧ Hid (Q < 4294967296) ∧ i = .int .i64 k ∧ t = .int .u32 (Q : Int) ∧ Hid (hvN 8 X = hvN (8 - k) Q)) (fun _ i => 8 - (intOf i).toNat)
      case atStart => exact ⟨0, X, by omega, HX.out.1, rfl, rfl, (rfl : hvN 8 X = _)⟩
      case round =>
        obtain ⟨k, Q, hk, HQ, rfl, rfl, HE⟩ := hrel
        have hQi : (Q : Int) ≤ 4294967295 := by have := HQ.out; omega
        by_cases hlt2 : k < 8
        · have HE' : Hid (hvN 8 X = hvN (8 - (k + 1)) (hv Q)) := by
            show _ = _
            rw [HE.out, show 8 - k = 8 - (k + 1) + 1 by omega]; rfl
          have hc := fun w => halved_any Q w HQ.out
          go_wp2_with (go_at_call 48; refine (hc _).mono ?_; rintro e w' ⟨rfl, rfl⟩)
          go_round
          case rel => exact ⟨k + 1, hv Q, by omega, hv_lt Q HQ.out, by go_num, rfl, HE'⟩
          case measure => simp [intOf]; omega
        · obtain rfl : k = 8 := by omega
          go_wp2
          go_round
          case rel =>
            refine ⟨j + 1, Q, by omega, HQ, by go_num, rfl, ?_⟩
            show _ = _
            have h8 : hvN 8 X = Q := HE.out
            rw [HG.out, HD.out, regL, ← HX.out.2, h8]
          case measure => simp [intOf]; omega
    · have e2 := not_u32 R HR.out
      go_wp2
      go_ret
      refine ⟨ret_int ?_, rfl⟩
      have : s.data.toList.drop j = [] := List.drop_of_length_le (by simp; omega)
      have hE := HG.out
      rw [this] at hE
      rw [onL, ← HN.out.2, hE]
      rfl
theorem of_any (s : ByteArray) (w : World) (hs : s.size ≤ 9223372036854775807) :
    Calls Try.prog 13 #[.string s] w fun e w' => e = .returned (.int .u32 (onL 0 s.data.toList : Int)) ∧ w' = w := by
  have hc := fun w => on_any 0 s w (by decide) hs
  go_enter Try.func13, Try.ntmps13
  go_wp2_with fail
  go_at_call 32; refine (hc _).mono ?_; rintro e w' ⟨rfl, rfl⟩
  go_wp2
  go_ret
  exact ⟨rfl, rfl⟩

end Go.Proofs.Ytoigogjklhahkaa.Crc
