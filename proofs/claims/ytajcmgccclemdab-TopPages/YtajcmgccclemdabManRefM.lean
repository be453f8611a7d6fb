/- Plain mathematics for the document's Check and Get of manifests. -/
import Derived.Test.YtajcmgccclemdabManBackM
set_option linter.unusedVariables false
namespace Go.Proofs.Ytajcmgccclemdab.Man
open Go.Proofs.Ytajcmgccclemdab.Page

theorem sect_cnt (m : ManT) : ((sectL m).drop 8).take 1 = [UInt8.ofNat m.2.length] := by
  unfold sectL headL bodyL frontL
  simp only [List.append_assoc]
  rw [List.drop_left' (eightL_len m.1)]; rfl
theorem told_len (s : List UInt8) : (toldM s).2.length = cntM s := by simp [toldM]
/-- a sector that tells of more parts than may be is laid otherwise -/
theorem get_many {s : List UInt8} (hm : 8 < numL 0 ((s.drop 8).take 1)) : sectL (toldM s) ≠ s := by
  intro hc
  have h8 : (toldM s).2.length = 8 := by rw [told_len]; unfold cntM; omega
  have := sect_cnt (toldM s)
  rw [hc, h8] at this
  rw [this, numL_byte 8 (by omega)] at hm
  omega
/-- a part with too great a many is not right -/
theorem get_big {s : List UInt8} {k : Nat} (hk : k < cntM s) (hb : 1048577 < numL 0 ((s.drop (9 + 13 * k + 9)).take 4)) : okM (toldM s) = false := by
  cases h : okM (toldM s)
  · rfl
  · have hp := (okM_parts h).2.2 (partAt s k) (List.mem_map.2 ⟨k, List.mem_range.2 hk, rfl⟩)
    obtain ⟨q, hq, hql⟩ := hp.2.2
    have e : (partAt s k).2.2 = (numL 0 ((s.drop (9 + 13 * k + 9)).take 4) : Int) - 1 := rfl
    rw [e] at hq
    omega
/-- the segments that were told ahead of part i, and the tag of the part ahead -/
def seenAt (ps : List PartT) (i : Nat) : List Int := ((ps.take i).map (·.1)).reverse
def aheadAt (ps : List PartT) (i : Nat) : Nat := ((ps.take i).map (·.2.1)).getLastD 0
theorem seenAt_succ (ps : List PartT) (i : Nat) (h : i < ps.length) : seenAt ps (i + 1) = ps[i].1 :: seenAt ps i := by
  unfold seenAt
  rw [List.take_succ_eq_append_getElem h, List.map_append, List.reverse_append]
  rfl
theorem aheadAt_succ (ps : List PartT) (i : Nat) (h : i < ps.length) : aheadAt ps (i + 1) = ps[i].2.1 := by
  unfold aheadAt
  rw [List.take_succ_eq_append_getElem h, List.map_append]
  exact List.getLastD_concat
/-- what is right from part i on, by part i and what is behind it -/
theorem okP_at (ps : List PartT) (i : Nat) (h : i < ps.length) : okP (seenAt ps i) (aheadAt ps i) (ps.drop i) =
    (mayB ps[i] (decide (i + 1 = ps.length)) && (!((seenAt ps i).contains ps[i].1) && (decide (aheadAt ps i < ps[i].2.1) && okP (seenAt ps (i + 1)) (aheadAt ps (i + 1)) (ps.drop (i + 1))))) := by
  rw [List.drop_eq_getElem_cons h, okP, seenAt_succ ps i h, aheadAt_succ ps i h]
  have e : (ps.drop (i + 1)).isEmpty = decide (i + 1 = ps.length) := by
    rw [Bool.eq_iff_iff, List.isEmpty_iff, List.drop_eq_nil_iff, decide_eq_true_iff]; omega
  rw [e]
theorem okP_from (ps : List PartT) : okP [] 0 ps = okP (seenAt ps 0) (aheadAt ps 0) (ps.drop 0) := rfl
theorem seenAt_has (ps : List PartT) (i : Nat) (a : Int) : (seenAt ps i).contains a = (ps.take i).any (fun q => q.1 == a) := by
  rw [Bool.eq_iff_iff, List.contains_iff_mem, List.any_eq_true]
  unfold seenAt
  rw [List.mem_reverse, List.mem_map]
  constructor
  · rintro ⟨q, h1, h2⟩; exact ⟨q, h1, beq_iff_eq.2 h2⟩
  · rintro ⟨q, h1, h2⟩; exact ⟨q, h1, beq_iff_eq.1 h2⟩
end Go.Proofs.Ytajcmgccclemdab.Man
