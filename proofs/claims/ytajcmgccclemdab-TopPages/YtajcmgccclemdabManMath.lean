/- What a torn sector of a manifest can be. -/
import Derived.Test.YtajcmgccclemdabManGet
set_option linter.unusedVariables false
namespace Go.Proofs.Ytajcmgccclemdab.Man
open Go.Proofs.Ytajcmgccclemdab.Page

theorem sect_take (m : ManT) : (sectL m).take 8 = eightL m.1 := by
  unfold sectL headL bodyL frontL
  simp only [List.append_assoc]
  exact List.take_left' rfl
theorem sect_drop (m : ManT) (h : m.2.length ≤ 8) : (sectL m).drop 120 = eightL m.1 := by
  unfold sectL
  rw [← List.append_assoc]
  exact List.drop_left' (by rw [List.length_append, headL_len m h]; rfl)
theorem getM_head {x : List UInt8} (h : (getM x).2 = 0) : x.take 8 = x.drop 120 := by
  unfold getM at h
  split at h
  · split at h
    · rename_i h2; exact h2.1
    · simp at h
  · simp at h
theorem torn_m {s o : List UInt8} {k : Nat} (hs : s.length = 128) (ho : o.length = 128) (hk : k ≤ 128) (hse : s.take 8 = s.drop 120) (hne : o.drop 120 ≠ s.drop 120) (hg : (getM (s.take k ++ o.drop k)).2 = 0) :
    s.take k ++ o.drop k = s ∨ s.take k ++ o.drop k = o ∨ o.take 8 ≠ o.drop 120 := by
  have hx := getM_head hg
  have hl : (s.take k).length = k := by rw [List.length_take]; omega
  by_cases h1 : k ≤ 120
  · have e1 : (s.take k ++ o.drop k).drop 120 = o.drop 120 := by
      rw [List.drop_append, hl, List.drop_eq_nil_of_le (by omega), List.nil_append, List.drop_drop]
      congr 1; omega
    by_cases h2 : k < 8
    · by_cases h3 : o.take 8 = o.drop 120
      · right; left
        have e2 : (s.take k ++ o.drop k).drop 8 = o.drop 8 := by
          rw [List.drop_append, hl, List.drop_eq_nil_of_le (by omega), List.nil_append, List.drop_drop]
          congr 1; omega
        rw [e1, ← h3] at hx
        rw [← List.take_append_drop 8 (s.take k ++ o.drop k), hx, e2, List.take_append_drop]
      · exact .inr (.inr h3)
    · exfalso
      have e2 : (s.take k ++ o.drop k).take 8 = s.take 8 := by
        rw [List.take_append_of_le_length (by omega), List.take_take]
        congr 1; omega
      rw [e1, e2, hse] at hx
      exact hne hx.symm
  · left
    have e1 : (s.take k ++ o.drop k).take 8 = s.take 8 := by
      rw [List.take_append_of_le_length (by omega), List.take_take]
      congr 1; omega
    have e2 : (s.take k ++ o.drop k).take 120 = s.take 120 := by
      rw [List.take_append_of_le_length (by omega), List.take_take]
      congr 1; omega
    rw [e1, hse] at hx
    rw [← List.take_append_drop 120 (s.take k ++ o.drop k), e2, ← hx, List.take_append_drop]
end Go.Proofs.Ytajcmgccclemdab.Man
