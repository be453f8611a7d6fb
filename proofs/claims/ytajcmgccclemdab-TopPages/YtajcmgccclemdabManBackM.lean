/- A manifest's sector is read as that manifest. -/
import Derived.Test.YtajcmgccclemdabManMath
import Derived.Test.YtajcmgccclemdabMathSeal
set_option linter.unusedVariables false
namespace Go.Proofs.Ytajcmgccclemdab.Man
open Go.Proofs.Ytajcmgccclemdab.Page

theorem numL_text (n : Nat) (h : n < 4294967296) : numL 0 (Crc.textR n) = n := by
  simp [Crc.textR, numL]; omega
theorem numL_byte (n : Nat) (h : n < 256) : numL 0 [UInt8.ofNat n] = n := by
  simp [numL]; omega
theorem parts_drop (ps : List PartT) : ∀ (k : Nat) (hk : k < ps.length) (r : List UInt8), ∃ r', (partsL ps ++ r).drop (13 * k) = partL ps[k] ++ r' := by
  induction ps with
  | nil => intro k hk; simp at hk
  | cons p ps ih =>
    intro k hk r
    have e : partsL (p :: ps) ++ r = partL p ++ (partsL ps ++ r) := by simp [partsL]
    rw [e]
    match k, hk with
    | 0, _ => exact ⟨_, rfl⟩
    | k + 1, hk =>
      obtain ⟨r', hr⟩ := ih k (by simpa using hk) r
      refine ⟨r', ?_⟩
      rw [show 13 * (k + 1) = (partL p).length + 13 * k from by rw [partL_len]; omega, List.drop_append, List.drop_eq_nil_of_le (by omega), List.nil_append]
      rw [show (partL p).length + 13 * k - (partL p).length = 13 * k from by omega, hr]
      rfl
theorem part_told {p : PartT} {r s : List UInt8} {k : Nat} (h : s.drop (9 + 13 * k) = partL p ++ r) (h1 : ∃ q : Nat, p.1 = (q : Int) ∧ q < 8) (h2 : 1 ≤ p.2.1 ∧ p.2.1 ≤ 4611686018427387904) (h3 : ∃ q : Nat, p.2.2 + 1 = (q : Int) ∧ q ≤ 1048577) : partAt s k = p := by
  obtain ⟨a, b, c⟩ := p
  obtain ⟨q, hq, hq8⟩ := h1
  obtain ⟨z, hz, hzl⟩ := h3
  simp only at hq hz h2
  have hL : partL (a, b, c) = UInt8.ofNat q :: (eightL b ++ Crc.textR z) := by
    show UInt8.ofNat a.toNat :: (eightL b ++ Crc.textR (c + 1).toNat) = _
    rw [hq, hz, Int.toNat_natCast, Int.toNat_natCast]
  have e1 : (s.drop (9 + 13 * k)).take 1 = [UInt8.ofNat q] := by rw [h, hL]; rfl
  have e2 : (s.drop (9 + 13 * k + 1)).take 8 = eightL b := by
    rw [← List.drop_drop, h, hL]; rfl
  have e3 : (s.drop (9 + 13 * k + 9)).take 4 = Crc.textR z := by
    rw [← List.drop_drop, h, hL]; rfl
  unfold partAt
  rw [e1, e2, e3, numL_byte q (by omega), numL_eight b (by omega), numL_text z (by omega)]
  rw [hq, ← hz]
  congr 2
  omega
theorem sect_told {m : ManT} (hok : okM m = true) : toldM (sectL m) = m := by
  obtain ⟨⟨he1, he2⟩, hn8, hps⟩ := okM_parts hok
  have hc : cntM (sectL m) = m.2.length := by
    have : ((sectL m).drop 8).take 1 = [UInt8.ofNat m.2.length] := by
      unfold sectL headL bodyL frontL; simp only [List.append_assoc]
      rw [List.drop_left' (eightL_len m.1)]; rfl
    unfold cntM
    rw [this, numL_byte _ (by omega)]
    omega
  have hd : ∀ k (hk : k < m.2.length), partAt (sectL m) k = m.2[k] := by
    intro k hk
    have hp := hps m.2[k] (List.getElem_mem hk)
    obtain ⟨r', hr⟩ := parts_drop m.2 k hk (List.replicate (116 - (bodyL m).length) 0 ++ (sumM m ++ eightL m.1))
    refine part_told (r := r') ?_ hp.1 hp.2.1 hp.2.2
    rw [← hr, ← List.drop_drop]
    congr 1
    unfold sectL headL
    rw [show bodyL m = frontL m.1 m.2.length ++ partsL m.2 from rfl]
    simp only [List.append_assoc]
    exact List.drop_left' rfl
  unfold toldM
  rw [sect_take, numL_eight m.1 (by omega), hc]
  obtain ⟨e, ps⟩ := m
  simp only at hd ⊢
  congr 1
  apply List.ext_getElem
  · simp
  · intro i h1 h2
    simp only [List.getElem_map, List.getElem_range]
    exact hd i h2
theorem get_sect {m : ManT} (hok : okM m = true) : getM (sectL m) = (m, 0) := by
  obtain ⟨⟨he1, he2⟩, hn8, hps⟩ := okM_parts hok
  have h0 : (sectL m).take 8 ≠ List.replicate 8 0 := by
    rw [sect_take]
    intro hc
    have := congrArg (numL 0) hc
    rw [numL_eight m.1 (by omega)] at this
    have h2 : numL 0 (List.replicate 8 0) = 0 := rfl
    omega
  have h1 : (sectL m).take 120 = Crc.sealL (headL m) := by
    unfold sectL
    rw [← List.append_assoc]
    exact List.take_left' (by rw [List.length_append, headL_len m hn8]; rfl)
  unfold getM
  rw [if_pos (sectL_len m hn8), if_pos ⟨(sect_take m).trans (sect_drop m hn8).symm, h0⟩, h1, Crc.open_seal, if_pos rfl, sect_told hok, if_pos ⟨hok, rfl⟩]
theorem getM_fit (s : List UInt8) : FitM (getM s).1 := by
  have hz : FitM (0, []) := ⟨by decide, by simp⟩
  unfold getM
  split
  · split
    · split
      · split
        · exact toldM_fit s
        · exact hz
      · exact hz
    · exact hz
  · exact hz
theorem get_ok {s : List UInt8} (h : (getM s).2 = 0) : okM (getM s).1 = true ∧ sectL (getM s).1 = s := by
  unfold getM at h ⊢
  split at h
  · rename_i h1
    rw [if_pos h1]
    split at h
    · rename_i h2
      rw [if_pos h2]
      split at h
      · rename_i h3
        rw [if_pos h3]
        split at h
        · rename_i h4; rw [if_pos h4]; exact h4
        · simp at h
      · rename_i h3; exact absurd h h3
    · simp at h
  · simp at h
end Go.Proofs.Ytajcmgccclemdab.Man
