/- What crc.Sealed, Open and the document's return, for every text. -/
import Derived.Test.YtajcmgccclemdabWalkSeal
import Derived.Deep.RegionWith
set_option linter.unusedVariables false
namespace Go.Proofs.Ytajcmgccclemdab.Crc
open Go.RowKit

def sealL (l : List UInt8) : List UInt8 := l ++ textR (onL 0 l)
theorem textR_len (n : Nat) : (textR n).length = 4 := rfl
theorem sum_lt (l : List UInt8) : onL 0 l < 4294967296 := onL_lt 0 l (by decide)
theorem ofL (l : List UInt8) (w : World) (hl : l.length ≤ 9223372036854775807) :
    Calls Try.prog 39 #[.string ⟨l.toArray⟩] w fun e w' => e = .returned (.int .u32 (onL 0 l : Int)) ∧ w' = w := by
  have := of_any ⟨l.toArray⟩ w (by rw [size_list]; exact hl)
  simpa using this
/-- a text whose sum is there -/
def openL (l : List UInt8) : List UInt8 × Int :=
  if 4 ≤ l.length then (if l.drop (l.length - 4) = textR (onL 0 (l.take (l.length - 4))) then (l.take (l.length - 4), 0) else ([], 6)) else ([], 5)
theorem open_short (s : ByteArray) (w : World) (h : s.size < 4) :
    Calls Try.prog 87 #[.string s] w fun e w' => e = .returned (.tuple #[.string ⟨#[]⟩, .int .i64 5]) ∧ Below w.heap.size w w' := by
  go_enter Try.func87, Try.ntmps87
  go_wp2
  go_ret2
  exact ⟨rfl, Below.refl _ _⟩
set_option maxRecDepth 20000 in
set_option maxHeartbeats 1000000 in
theorem open_core (s : ByteArray) (m : Nat) (w : World) (T : ByteArray) (X : Int) (hm : s.size = m + 4) (hs : m ≤ 281474976710656)
    (c1 : ∀ w, Calls Try.prog 39 #[.string (s.extract 0 m)] w fun e w' => e = .returned (.int .u32 X) ∧ w' = w)
    (c2 : ∀ w, Calls Try.prog 71 #[.int .u32 X] w fun e w' => e = .returned (.string T) ∧ Below w.heap.size w w')
    (E : (s.extract m (m + 4)).toList = T.toList) :
    Calls Try.prog 87 #[.string s] w fun e w' => e = .returned (.tuple #[.string (s.extract 0 m), .int .i64 0]) ∧ Below w.heap.size w w' := by
  have hsz : (s.extract 0 m).size ≤ 281474976710656 := by rw [ByteArray.size_extract]; omega
  have hcl := fun w => clone_any (s.extract 0 m) w hsz
  go_enter Try.func87, Try.ntmps87
  go_wp2_with fail
  go_region_with (first | (go_at_call 39; refine (c1 _).mono ?_; rintro e w1 ⟨rfl, rfl⟩) | (go_at_call 71; refine (c2 _).mono ?_; rintro e w2 ⟨rfl, hb2⟩))
  all_goals go_wp2_with fail
  all_goals (go_at_call 47; refine (hcl _).mono ?_; rintro e w3 ⟨rfl, hb3⟩)
  all_goals go_wp2
  all_goals go_ret2
  all_goals exact ⟨rfl, below2 (below2 ((Below.refl _ w).drew) hb2) hb3⟩
set_option maxRecDepth 20000 in
set_option maxHeartbeats 1000000 in
theorem open_bad (s : ByteArray) (m : Nat) (w : World) (T : ByteArray) (X : Int) (hm : s.size = m + 4) (hs : m ≤ 281474976710656)
    (c1 : ∀ w, Calls Try.prog 39 #[.string (s.extract 0 m)] w fun e w' => e = .returned (.int .u32 X) ∧ w' = w)
    (c2 : ∀ w, Calls Try.prog 71 #[.int .u32 X] w fun e w' => e = .returned (.string T) ∧ Below w.heap.size w w')
    (E : ((s.extract m (m + 4)).toList == T.toList) = false) :
    Calls Try.prog 87 #[.string s] w fun e w' => e = .returned (.tuple #[.string ⟨#[]⟩, .int .i64 6]) ∧ Below w.heap.size w w' := by
  go_enter Try.func87, Try.ntmps87
  go_wp2_with fail
  go_region_with (first | (go_at_call 39; refine (c1 _).mono ?_; rintro e w1 ⟨rfl, rfl⟩) | (go_at_call 71; refine (c2 _).mono ?_; rintro e w2 ⟨rfl, hb2⟩))
  all_goals go_wp2
  all_goals go_ret2
  all_goals exact ⟨rfl, below2 ((Below.refl _ w).drew) hb2⟩
theorem open_any (l : List UInt8) (w : World) (hl : l.length ≤ 281474976710656) :
    Calls Try.prog 87 #[.string ⟨l.toArray⟩] w fun e w' => e = .returned (.tuple #[.string ⟨(openL l).1.toArray⟩, .int .i64 (openL l).2]) ∧ Below w.heap.size w w' := by
  by_cases h : 4 ≤ l.length
  · obtain ⟨m, hm⟩ : ∃ m, l.length = m + 4 := ⟨l.length - 4, by omega⟩
    have hm' : (⟨l.toArray⟩ : ByteArray).size = m + 4 := by rw [size_list, hm]
    have e1 : (⟨l.toArray⟩ : ByteArray).extract 0 m = ⟨(l.take m).toArray⟩ := by rw [extract_take]
    have e2 : (⟨l.toArray⟩ : ByteArray).extract m (m + 4) = ⟨(l.drop m).toArray⟩ := by rw [← hm', extract_drop]
    have c1 : ∀ w, _ := fun w => ofL (l.take m) w (by rw [List.length_take]; omega)
    have c2 := fun w => text_any (onL 0 (l.take m)) w (sum_lt _)
    rw [← e1] at c1
    rw [openL, if_pos h, show l.length - 4 = m by omega]
    by_cases hE : l.drop m = textR (onL 0 (l.take m))
    · have := open_core ⟨l.toArray⟩ m w _ _ hm' (by omega) c1 c2 (by rw [e2, hE])
      rw [e1] at this
      rw [if_pos hE]
      exact this
    · have := open_bad ⟨l.toArray⟩ m w _ _ hm' (by omega) c1 c2 (by rw [e2, ByteArray.toList_eq, ByteArray.toList_eq]; simpa using hE)
      rw [if_neg hE]
      exact this
  · rw [openL, if_neg h]
    exact open_short _ w (by rw [size_list]; omega)
end Go.Proofs.Ytajcmgccclemdab.Crc
