/- What num.Text and the document's Text and GetText return, and that spoorlaw01.rows returns true. -/
import Derived.Test.YtmbciomfkiadiaaWalkText
set_option linter.unusedVariables false
namespace Go.Proofs.Ytmbciomfkiadiaa
open Go.RowKit

theorem extract_take (s : ByteArray) (k : Nat) : s.extract 0 k = ⟨(s.data.toList.take k).toArray⟩ := by
  apply ByteArray.ext
  rw [ByteArray.data_extract]
  apply Array.ext'
  simp
set_option maxHeartbeats 1000000 in
theorem rgetText_any (l : List UInt8) (w : World) (hl : l.length ≤ 281474976710656) :
    Calls Try.prog 23 #[.string ⟨l.toArray⟩] w fun e w' => e = .returned (.tuple #[.string ⟨(getTextL l).1.toArray⟩, .string ⟨(getTextL l).2.1.toArray⟩, .int .i64 (getTextL l).2.2]) ∧ Below w.heap.size w w' := by
  obtain ⟨⟨n, r, y⟩, hg⟩ : ∃ r, getGo 0 0 l = r := ⟨_, rfl⟩
  have hf := rgetL hg (by omega)
  have HG : Hid (getGo 0 0 l = (n, r, y)) := hg
  have hrl := getGo_le hg
  clear hg
  obtain ⟨R, hR⟩ : ∃ R : ByteArray, R = ⟨r.toArray⟩ := ⟨_, rfl⟩
  have HRs : Hid (R.size = r.length) := by show _ = _; rw [hR, size_list]
  have hRl : R.size ≤ 281474976710656 := by rw [HRs.out]; omega
  rw [← hR] at hf
  have HR : Hid (R = ⟨r.toArray⟩) := hR
  clear hR
  by_cases he : y = 0
  · subst he
    by_cases hn : n ≤ 32768
    · by_cases hnr : n ≤ R.size
      · have hi1 : (0 : Int) ≤ (n : Int) := by omega
        have hi2 : (n : Int) ≤ (R.size : Int) := by omega
        go_enter Try.func23, Try.ntmps23
        go_wp2_with fail
        go_at_call 13; refine (hf _).mono ?_; rintro e w1 ⟨rfl, hb1⟩
        go_wp2_with fail
        go_quiet (fail)
        go_wp2
        go_ret3
        rw [getTextL_ok HG.out hn (by rw [← HRs.out]; exact hnr)]
        refine ⟨?_, below_drewN hb1 _⟩
        rw [extract_drop, extract_take, HR.out]
        rfl
      · go_enter Try.func23, Try.ntmps23
        go_wp2_with fail
        go_at_call 13; refine (hf _).mono ?_; rintro e w1 ⟨rfl, hb1⟩
        go_wp2
        go_ret3
        rw [getTextL_short HG.out hn (by rw [← HRs.out]; exact hnr)]
        exact ⟨rfl, hb1⟩
    · go_enter Try.func23, Try.ntmps23
      go_wp2_with fail
      go_at_call 13; refine (hf _).mono ?_; rintro e w1 ⟨rfl, hb1⟩
      go_wp2
      go_ret3
      rw [getTextL_many HG.out hn]
      exact ⟨rfl, hb1⟩
  · have hne : (y != 0) = true := by simpa using he
    go_enter Try.func23, Try.ntmps23
    go_wp2_with fail
    go_at_call 13; refine (hf _).mono ?_; rintro e w1 ⟨rfl, hb1⟩
    go_wp2
    go_ret3
    rw [getTextL_err HG.out he]
    exact ⟨rfl, hb1⟩

/-- the bytes of a text -/
def textL (t : List UInt8) : List UInt8 := putL t.length ++ t
theorem text_long (s : ByteArray) (w : World) (h : 32768 < s.size) (hs : s.size ≤ 9223372036854775807) :
    Calls Try.prog 20 #[.string s] w fun e w' => e = .returned (.tuple #[.string ⟨#[]⟩, .int .i64 11]) ∧ Below w.heap.size w w' := by
  go_enter Try.func20, Try.ntmps20
  go_wp2
  go_ret2
  exact ⟨rfl, Below.refl _ _⟩
theorem rtext_long (s : ByteArray) (w : World) (h : 32768 < s.size) (hs : s.size ≤ 9223372036854775807) :
    Calls Try.prog 21 #[.string s] w fun e w' => e = .returned (.tuple #[.string ⟨#[]⟩, .int .i64 11]) ∧ Below w.heap.size w w' := by
  go_enter Try.func21, Try.ntmps21
  go_wp2
  go_ret2
  exact ⟨rfl, Below.refl _ _⟩
theorem text_any (t : List UInt8) (w : World) (h : t.length ≤ 32768) :
    Calls Try.prog 20 #[.string ⟨t.toArray⟩] w fun e w' => e = .returned (.tuple #[.string ⟨(textL t).toArray⟩, .int .i64 0]) ∧ Below w.heap.size w w' := by
  obtain ⟨R, hR⟩ : ∃ R : ByteArray, R = ⟨t.toArray⟩ := ⟨_, rfl⟩
  have hRs : R.size = t.length := by rw [hR, size_list]
  obtain ⟨Q, hQ⟩ : ∃ Q : ByteArray, Q = ⟨(putL t.length).toArray⟩ := ⟨_, rfl⟩
  have hQs : Q.size ≤ 10 := by rw [hQ, size_list]; exact putL_le _ (by omega)
  have hp : ∀ w, Calls Try.prog 9 #[.int .u64 (R.size : Int)] w fun e w' => e = .returned (.string Q) ∧ Below w.heap.size w w' := fun w => by
    have := put_any R.size w (by omega) (by omega)
    rw [hQ, ← hRs]; simpa using this
  have HE : Hid (Q ++ R = ⟨(textL t).toArray⟩) := by show _ = _; rw [hQ, hR, str_app]; rfl
  have hRl : R.size ≤ 32768 := by omega
  rw [← hR]
  clear hR hQ hRs
  go_enter Try.func20, Try.ntmps20
  go_wp2_with fail
  go_at_call 9; refine (hp _).mono ?_; rintro e w1 ⟨rfl, hb1⟩
  go_wp2
  go_ret2
  refine ⟨?_, hb1⟩
  rw [HE.out]
  rfl
theorem rtext_any (t : List UInt8) (w : World) (h : t.length ≤ 32768) :
    Calls Try.prog 21 #[.string ⟨t.toArray⟩] w fun e w' => e = .returned (.tuple #[.string ⟨(textL t).toArray⟩, .int .i64 0]) ∧ Below w.heap.size w w' := by
  obtain ⟨R, hR⟩ : ∃ R : ByteArray, R = ⟨t.toArray⟩ := ⟨_, rfl⟩
  have hRs : R.size = t.length := by rw [hR, size_list]
  obtain ⟨Q, hQ⟩ : ∃ Q : ByteArray, Q = ⟨(putL t.length).toArray⟩ := ⟨_, rfl⟩
  have hQs : Q.size ≤ 10 := by rw [hQ, size_list]; exact putL_le _ (by omega)
  have hp : ∀ w, Calls Try.prog 12 #[.int .u64 (R.size : Int)] w fun e w' => e = .returned (.string Q) ∧ Below w.heap.size w w' := fun w => by
    have := rput R.size w (by omega) (by omega)
    rw [hQ, ← hRs]; simpa using this
  have HE : Hid (Q ++ R = ⟨(textL t).toArray⟩) := by show _ = _; rw [hQ, hR, str_app]; rfl
  have hRl : R.size ≤ 32768 := by omega
  rw [← hR]
  clear hR hQ hRs
  go_enter Try.func21, Try.ntmps21
  go_wp2_with fail
  go_at_call 12; refine (hp _).mono ?_; rintro e w1 ⟨rfl, hb1⟩
  go_wp2
  go_ret2
  refine ⟨?_, hb1⟩
  rw [HE.out]
  rfl

theorem rv1 : rowL [1, 200] = [2, 1, 200, 1] := by
  have e1 : putL 2 = [2] := by rw [putL_small _ (by decide)]; rfl
  have e2 : putL 1 = [1] := by rw [putL_small _ (by decide)]; rfl
  have e3 : putL 200 = [200, 1] := by rw [putL_big _ (by decide), putL_small _ (by decide)]; rfl
  have e4 : allL [1, 200] = putL 1 ++ putL 200 := by simp [allL]
  rw [rowL, e4, e2, e3]
  show putL 2 ++ _ = _
  rw [e1]
  rfl
theorem rv2 : getRowL [2, 1, 200, 1, 122] = ([1, 200], [122], 0) := by decide +kernel
theorem rv3 : textL [97, 98] = [2, 97, 98] := by
  have e1 : putL 2 = [2] := by rw [putL_small _ (by decide)]; rfl
  show putL 2 ++ _ = _
  rw [e1]
  rfl
theorem rv4 : getTextL [2, 97, 98, 122] = ([97, 98], [122], 0) := by decide +kernel
theorem rv5 : getTextL [5, 97, 98] = ([], [], 5) := by decide +kernel
theorem isRow_two (w : World) : IsRow .u64 (w.alloc (.cells #[.int .u64 1, .int .u64 200] 22)) (some ⟨w.heap.size, 0, none⟩) 2 2 [1, 200] := by
  refine .inr ⟨_, rfl, by decide, by decide, rfl, ?_, by decide⟩
  intro i hi
  rw [addr_add, Nat.zero_add, World.cell?_alloc_at _ _ _ _ rfl]
  match i, hi with
  | 0, _ => rfl
  | 1, _ => rfl
theorem r1 (w : World) : Calls Try.prog 14 #[.slice (some ⟨w.heap.size, 0, none⟩) 2 2] (w.alloc (.cells #[.int .u64 1, .int .u64 200] 22)) fun e w' => e = .returned (.tuple #[.string ⟨#[2, 1, 200, 1]⟩, .int .i64 0]) ∧ Below (w.heap.size + 1) (w.alloc (.cells #[.int .u64 1, .int .u64 200] 22)) w' := by
  have := row_any _ 2 2 [1, 200] _ (isRow_two w) (by decide)
  rw [show ([1, 200] : List Int).take 2 = [1, 200] from rfl, rv1] at this
  simpa using this
theorem r2 (w : World) : Calls Try.prog 16 #[.string ⟨#[2, 1, 200, 1, 122]⟩] w fun e w' => ∃ v, e = .returned (.tuple #[v, .string ⟨#[122]⟩, .int .i64 0]) ∧ Reads w' v [1, 200] ∧ Below w.heap.size w w' := by
  refine (getRow_any [2, 1, 200, 1, 122] w (by decide)).mono ?_
  rintro e w' ⟨v, he, ho, hb⟩
  rw [rv2] at he ho
  exact ⟨v, he, reads_own ho, hb⟩
theorem r3 (w : World) : Calls Try.prog 20 #[.string ⟨#[97, 98]⟩] w fun e w' => e = .returned (.tuple #[.string ⟨#[2, 97, 98]⟩, .int .i64 0]) ∧ Below w.heap.size w w' := by
  have := text_any [97, 98] w (by decide)
  rw [rv3] at this
  exact this
theorem r4 (w : World) : Calls Try.prog 22 #[.string ⟨#[2, 97, 98, 122]⟩] w fun e w' => e = .returned (.tuple #[.string ⟨#[97, 98]⟩, .string ⟨#[122]⟩, .int .i64 0]) ∧ Below w.heap.size w w' := by
  have := getText_any [2, 97, 98, 122] w (by decide)
  rw [rv4] at this
  exact this
theorem r5 (w : World) : Calls Try.prog 22 #[.string ⟨#[5, 97, 98]⟩] w fun e w' => e = .returned (.tuple #[.string ⟨#[]⟩, .string ⟨#[]⟩, .int .i64 5]) ∧ Below w.heap.size w w' := by
  have := getText_any [5, 97, 98] w (by decide)
  rw [rv5] at this
  exact this
theorem st1 : (⟨#[2, 1, 200, 1]⟩ ++ ⟨#[122]⟩ : ByteArray) = ⟨#[2, 1, 200, 1, 122]⟩ := by decide +kernel
theorem st2 : (⟨#[2, 97, 98]⟩ ++ ⟨#[122]⟩ : ByteArray) = ⟨#[2, 97, 98, 122]⟩ := by decide +kernel

set_option maxHeartbeats 1000000 in
theorem rows_any (w : World) :
    Calls Try.prog 18 #[] w fun e w' => e = .returned (.bool true) ∧ Below w.heap.size w w' := by
  have s1 := st1
  have s2 := st2
  go_enter Try.func18, Try.ntmps18
  go_wp2_with fail
  go_at_call 14; refine (r1 _).mono ?_; rintro e w1 ⟨rfl, hb1⟩
  have hw1 : Below w.heap.size w w1 := ((Below.refl _ w).alloc (Nat.le_refl _) _).trans (hb1.mono (by omega))
  clear hb1
  go_wp2_with fail
  go_at_call 16; refine (r2 _).mono ?_; rintro e w2 ⟨v, rfl, hv, hb2⟩
  go_wp2_with fail
  go_at_call 20; refine (r3 _).mono ?_; rintro e w3 ⟨rfl, hb3⟩
  go_wp2_with fail
  go_at_call 22; refine (r4 _).mono ?_; rintro e w4 ⟨rfl, hb4⟩
  go_wp2_with fail
  go_at_call 22; refine (r5 _).mono ?_; rintro e w5 ⟨rfl, hb5⟩
  have hv5 := reads_below (reads_below (reads_below hv hb3) hb4) hb5
  have HV : Hid (Reads w5 v [1, 200]) := hv5
  clear hv hv5
  go_wp2_with fail
  go_at_call 19
  refine (same_true v _ [1, 200] _ (reads_below HV.out ((Below.refl _ w5).alloc (Nat.le_refl _) _)) (reads_row (isRow_two w5))).mono ?_
  rintro e w6 ⟨rfl, hb6⟩
  go_wp2
  go_ret
  refine ⟨rfl, ?_⟩
  have h5 := below2 (below2 (below2 (below2 hw1 hb2) hb3) hb4) hb5
  have hs5 := h5.size
  exact (h5.alloc hs5 _).trans (hb6.mono (by simp; omega))
end Go.Proofs.Ytmbciomfkiadiaa
