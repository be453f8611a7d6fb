/- spoorlaw05.lives holds. -/
import Derived.Test.YtjchmjmcojoklaaPageJoin
set_option linter.unusedVariables false
namespace Go.Proofs.Ytjchmjmcojoklaa.Page
open Go.RowKit Go.Shelf

def S1 : List UInt8 := pageL 1 [97]
theorem s1_put : putL 1 [97] = (S1, 0) := by decide +kernel
theorem s1_get : getL S1 1 = ([97], 0) := by decide +kernel
theorem s1_get2 : getL S1 2 = ([], 3) := by decide +kernel
theorem s1_tag : tagL S1 = (1, 0) := by decide +kernel
theorem s1_split : splitR 7 S1 = ([pageL 7 (S1.take 111), pageL 8 (S1.drop 111)], 0) := by decide +kernel
theorem s1_join : joinL [pageL 7 (S1.take 111), pageL 8 (S1.drop 111)] 7 = (S1, 2) := by decide +kernel
theorem s1_len : S1.length = 128 := by decide +kernel
theorem s1_mid : (⟨S1.toArray⟩ : ByteArray).extract 7 11 = ⟨#[1, 1, 97, 0]⟩ := by decide +kernel
theorem s1_end (h : 127 < (⟨S1.toArray⟩ : ByteArray).size) : (⟨S1.toArray⟩ : ByteArray)[127] = 1 := by
  have : S1[127]? = some 1 := by decide +kernel
  have h2 := List.getElem?_eq_some_iff.1 this
  exact h2.2
set_option maxHeartbeats 2000000 in
theorem lives_any (w : World) : Calls Try.prog 14 #[] w fun e w' => e = .returned (.bool true) ∧ Below w.heap.size w w' := by
  have c1 := fun w => put_any 1 [97] w (by omega) (by decide)
  have c2 := fun w => get_any S1 1 w (by rw [s1_len]; decide) (by omega)
  have c3 := fun w => get_any S1 2 w (by rw [s1_len]; decide) (by omega)
  have c4 := fun w => tag_any S1 w (by rw [s1_len]; decide)
  have c5 := fun w => split_any 7 S1 w (by omega) (by rw [s1_len]; decide)
  have c6 := fun v w h => join_any v [pageL 7 (S1.take 111), pageL 8 (S1.drop 111)] 7 w h (by omega) (by decide) (by
    intro z hz
    have : z.length = 128 := by
      rcases List.mem_cons.1 hz with rfl | hz
      · decide +kernel
      · rcases List.mem_cons.1 hz with rfl | hz
        · decide +kernel
        · cases hz
    omega) (by rw [s1_join, s1_len]; decide)
  have c7 := fun w => put_any 0 [97] w (by omega) (by decide)
  rw [s1_put] at c1
  rw [s1_get] at c2
  rw [s1_get2] at c3
  rw [s1_tag] at c4
  rw [s1_split] at c5
  rw [s1_join] at c6
  rw [putL_zero] at c7
  have x1 := s1_mid
  have hl : (⟨S1.toArray⟩ : ByteArray).size = 128 := by rw [size_list]; exact s1_len
  have x2 := s1_end
  unfold StrIs at c1 c2 c3 c7
  unfold NumIs at c4
  unfold RowsIs at c5
  simp only at c1 c2 c3 c4 c5 c6 c7
  generalize (⟨S1.toArray⟩ : ByteArray) = S at c1 c2 c3 c4 c5 c6 x1 hl x2
  have x3 := x2 (by omega)
  clear x2
  go_enter Try.func14, Try.ntmps14
  go_wp2_with fail
  go_at_call 8; refine (c1 _).mono ?_; rintro e w1 ⟨rfl, hW⟩
  go_wp2_with fail
  go_at_call 10; refine (c2 _).mono ?_; rintro e w2 ⟨rfl, hb⟩
  have hW := below2 hW hb
  go_wp2_with fail
  go_at_call 10; refine (c3 _).mono ?_; rintro e w3 ⟨rfl, hb⟩
  have hW := below2 hW hb
  go_wp2_with fail
  go_at_call 12; refine (c4 _).mono ?_; rintro e w4 ⟨rfl, hb⟩
  have hW := below2 hW hb
  go_wp2_with fail
  go_at_call 15; refine (c5 _).mono ?_; rintro e w5 ⟨v, rfl, hown, hb⟩
  have hW := below2 hW hb
  have hh := has_own (zs := [pageL 7 (S1.take 111), pageL 8 (S1.drop 111)]) hown
  have c6' := c6 v w5 hh
  obtain ⟨o, cap, rfl, _⟩ := hh
  simp only [List.length_cons, List.length_nil, Nat.zero_add, Nat.reduceAdd] at c6' ⊢
  go_wp2_with fail
  go_at_call 17; refine c6'.mono ?_; rintro e w6 ⟨rfl, hb⟩
  have hW := below2 hW hb
  go_wp2_with fail
  go_at_call 8; refine (c7 _).mono ?_; rintro e w7 ⟨rfl, hb⟩
  have hW := below2 hW hb
  clear c1 c2 c3 c4 c5 c6 c6' c7
  go_wp2
  go_ret
  exact ⟨rfl, hW⟩
end Go.Proofs.Ytjchmjmcojoklaa.Page
