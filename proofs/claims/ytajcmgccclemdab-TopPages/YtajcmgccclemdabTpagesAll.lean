/- For every tag, text, fuse, and way of a crash: spoortop.TopPages returns true, and changes nothing that was there. No condition. -/
import Derived.Test.YtajcmgccclemdabDiskMath
import Derived.Test.YtajcmgccclemdabDiskHolds
import Derived.Test.YtajcmgccclemdabDiskMake2
import Derived.Test.YtajcmgccclemdabManGet
import Derived.Test.YtajcmgccclemdabMathSeal
import Derived.Test.YtajcmgccclemdabManFollow
import Derived.Test.YtajcmgccclemdabPageJoin
import Derived.Test.YtajcmgccclemdabManSave
import Derived.Test.YtajcmgccclemdabWalkFrame
import Derived.Test.YtajcmgccclemdabDiskBase
import Derived.Deep.Strs
import Derived.Deep.Grids
import Derived.Deep.SlicePairs
import Derived.ProofKit
import Derived.OpenShut
import Derived.ShutString
import Derived.Test.YtajcmgccclemdabRows
import Derived.Test.YtajcmgccclemdabPageSplit
import Derived.Test.YtajcmgccclemdabManFresh
import Derived.Test.YtajcmgccclemdabDiskVar
import Derived.SizedLaws
set_option linter.unusedVariables false
namespace Go.Proofs.Ytajcmgccclemdab.Disk

theorem settleF_other (part : Nat → Nat) (k : Nat) (ps : List PutT) : ∀ i secs, (∀ p ∈ ps, 0 ≤ p.1 ∧ p.1 ≠ (k : Int)) → (settleF part i secs ps)[k]? = secs[k]? := by
  induction ps with
  | nil => intro i secs _; rfl
  | cons q ps ih =>
    intro i secs h
    rw [settleF, ih _ _ (fun p hp => h p (by simp [hp]))]
    have hq := h q (by simp)
    rw [List.getElem?_set, if_neg (by omega)]
/-- as long as only other sectors were written -/
structure Kept (S : List (List UInt8)) (at' : Int) (d : Dk) : Prop where
  ok : Ok d
  secs : d.secs = S
  fuse : d.fuse = -1
  off : d.off = false
  puts : ∀ p ∈ d.cache, p.1 ≠ at'
theorem Kept.write {S : List (List UInt8)} {at' : Int} {d : Dk} (h : Kept S at' d) (a : Int) (data : List UInt8) (ha : a ≠ at') : Kept S at' (outD d (writeD d a data)).1 := by
  rw [outD_ok h.ok]
  have hok := write_ok h.ok a data
  rcases write_cases d a data with ⟨e, _⟩ | ⟨h1, h2, h3, h4, e⟩
  · rw [e]; exact h
  · rw [e] at hok ⊢
    refine ⟨hok, h.secs, by show spendF _ _ = -1; rw [h.fuse, h.off]; rfl, by show offAfter _ _ = false; rw [h.fuse, h.off]; rfl, fun p hp => ?_⟩
    simp only [List.mem_append, List.mem_singleton] at hp
    rcases hp with hp | rfl
    · exact h.puts p hp
    · exact ha
theorem Kept.crash {S : List (List UInt8)} {at' : Int} {d : Dk} (h : Kept S at' d) (hin : inB S.length at' = true) (keep : List Bool) (torn bytes : Int) : (outD d (crashD d keep torn bytes)).2 = 0 ∧ readD (outD d (crashD d keep torn bytes)).1 at' = (S.getD at'.toNat [], 0) := by
  rw [outD_ok h.ok]
  refine ⟨rfl, ?_⟩
  have hok := crash_ok h.ok keep torn bytes
  have hin2 : 0 ≤ at' ∧ at' < (S.length : Int) := by simpa [inB] using hin
  unfold readD
  rw [if_pos (ok_mk hok), if_neg (by show ¬ (false = true); decide), if_pos (by show inB (settleF _ _ _ _).length at' = true; rw [settleF_len, h.secs]; exact hin)]
  show (holdsL (settleF _ _ _ _) [] at', (0 : Int)) = _
  rw [h.secs]
  unfold holdsL
  simp only [List.reverse_nil, List.find?_nil, Option.map_none, Option.getD_none]
  rw [List.getD_eq_getElem?_getD, List.getD_eq_getElem?_getD, settleF_other _ at'.toNat d.cache 0 S (fun p hp => ?_)]
  have h1 := (h.ok.puts p hp).1
  have h2 : 0 ≤ p.1 ∧ p.1 < (d.secs.length : Int) := by simpa [inB] using h1
  exact ⟨h2.1, by have := h.puts p hp; omega⟩
theorem ok_make {n : Int} (h : 1 ≤ n ∧ n ≤ 1024) : Ok (makeD n).1 ∧ (makeD n).2 = 0 ∧ (makeD n).1.secs.length = n.toNat ∧ (makeD n).1.fuse = -1 ∧ (makeD n).1.off = false ∧ (makeD n).1.cache = [] := by
  unfold makeD
  rw [if_pos h]
  refine ⟨⟨by show 1 ≤ (List.replicate _ _).length; simp; omega, by show (List.replicate _ _).length ≤ _; simp; omega, by show 0 ≤ _; omega, by show -1 ≤ (-1 : Int); omega, fun z hz => ?_, by intro p hp; exact absurd hp (by show p ∉ []; simp)⟩, rfl, by simp, rfl, rfl, rfl⟩
  rw [List.eq_of_mem_replicate hz]; simp [zeroS]
/-- a new disk, written to and flushed -/
theorem kept_begin {n at' : Int} {data : List UInt8} (h1 : (makeD n).2 = 0) (h2 : (outD (makeD n).1 (writeD (makeD n).1 at' data)).2 = 0) :
    let d2 := (outD (makeD n).1 (writeD (makeD n).1 at' data)).1
    (outD d2 (flushD d2)).2 = 0 ∧ ∃ S, Kept S at' (outD d2 (flushD d2)).1 ∧ inB S.length at' = true ∧ S.getD at'.toNat [] = data := by
  have hn : 1 ≤ n ∧ n ≤ 1024 := by
    by_cases h : 1 ≤ n ∧ n ≤ 1024
    · exact h
    · unfold makeD at h1; rw [if_neg h] at h1; simp at h1
  obtain ⟨hok, _, hlen, hf, ho, hc⟩ := ok_make hn
  rw [outD_ok hok] at h2
  intro d2
  rcases write_cases (makeD n).1 at' data with ⟨e, h⟩ | ⟨g1, g2, g3, g4, e⟩
  · exfalso
    rcases h with ⟨h, _⟩ | ⟨_, h | h | h⟩ <;> rw [h] at h2 <;> cases h2
  · have hd2 : d2 = ⟨(makeD n).1.secs, (makeD n).1.cache ++ [(at', data)], spendF (makeD n).1.fuse (makeD n).1.off, offAfter (makeD n).1.fuse (makeD n).1.off⟩ := by show (outD _ _).1 = _; rw [outD_ok hok, e]
    have hok2 : Ok d2 := by rw [hd2]; exact ok_put hok g2 g3 g4 _ _ (spendF_ge hok.fuse)
    rw [outD_ok hok2]
    have hoff : offAfter d2.fuse d2.off = false := by rw [hd2]; show offAfter (spendF _ _) (offAfter _ _) = false; rw [hf, ho]; rfl
    have hfl : flushD d2 = (⟨allH d2, [], spendF d2.fuse d2.off, false⟩, 0) := by unfold flushD; rw [hoff]; rfl
    rw [hfl]
    refine ⟨rfl, allH d2, ⟨?_, rfl, ?_, rfl, fun p hp => absurd hp (by show p ∉ []; simp)⟩, ?_, ?_⟩
    · have := flush_ok hok2; rw [hfl] at this; exact this
    · show spendF d2.fuse d2.off = -1; rw [hd2]; show spendF (spendF _ _) (offAfter _ _) = -1; rw [hf, ho]; rfl
    · rw [allH_len, hd2]; exact g2
    · have hin2 : 0 ≤ at' ∧ at' < ((makeD n).1.secs.length : Int) := by simpa [inB] using g2
      rw [hd2, allH_put hok g2 g3, List.getD_eq_getElem?_getD, List.getElem?_set, if_pos rfl, if_pos (by rw [allH_len]; omega)]
      rfl
end Go.Proofs.Ytajcmgccclemdab.Disk
namespace Go.Proofs.Ytajcmgccclemdab.Man
open Go.Proofs.Ytajcmgccclemdab.Page

theorem sect_take (m : ManT) : (sectL m).take 8 = eightL m.1 := by
  unfold sectL headL bodyL frontL
  simp only [List.append_assoc]
  exact List.take_left' rfl
theorem sect_drop (m : ManT) (h : m.2.length ≤ 8) : (sectL m).drop 120 = eightL m.1 := by
  unfold sectL
  rw [← List.append_assoc]
  exact List.drop_left' (by rw [List.length_append, headL_len m h]; rfl)
theorem getM_head {x : List UInt8} (h : (getM x).2 = 0) : x.take 8 = x.drop 120 := by
  unfold getM at h
  split at h
  · split at h
    · rename_i h2; exact h2.1
    · simp at h
  · simp at h
theorem torn_m {s o : List UInt8} {k : Nat} (hs : s.length = 128) (ho : o.length = 128) (hk : k ≤ 128) (hse : s.take 8 = s.drop 120) (hne : o.drop 120 ≠ s.drop 120) (hg : (getM (s.take k ++ o.drop k)).2 = 0) :
    s.take k ++ o.drop k = s ∨ s.take k ++ o.drop k = o ∨ o.take 8 ≠ o.drop 120 := by
  have hx := getM_head hg
  have hl : (s.take k).length = k := by rw [List.length_take]; omega
  by_cases h1 : k ≤ 120
  · have e1 : (s.take k ++ o.drop k).drop 120 = o.drop 120 := by
      rw [List.drop_append, hl, List.drop_eq_nil_of_le (by omega), List.nil_append, List.drop_drop]
      congr 1; omega
    by_cases h2 : k < 8
    · by_cases h3 : o.take 8 = o.drop 120
      · right; left
        have e2 : (s.take k ++ o.drop k).drop 8 = o.drop 8 := by
          rw [List.drop_append, hl, List.drop_eq_nil_of_le (by omega), List.nil_append, List.drop_drop]
          congr 1; omega
        rw [e1, ← h3] at hx
        rw [← List.take_append_drop 8 (s.take k ++ o.drop k), hx, e2, List.take_append_drop]
      · exact .inr (.inr h3)
    · exfalso
      have e2 : (s.take k ++ o.drop k).take 8 = s.take 8 := by
        rw [List.take_append_of_le_length (by omega), List.take_take]
        congr 1; omega
      rw [e1, e2, hse] at hx
      exact hne hx.symm
  · left
    have e1 : (s.take k ++ o.drop k).take 8 = s.take 8 := by
      rw [List.take_append_of_le_length (by omega), List.take_take]
      congr 1; omega
    have e2 : (s.take k ++ o.drop k).take 120 = s.take 120 := by
      rw [List.take_append_of_le_length (by omega), List.take_take]
      congr 1; omega
    rw [e1, hse] at hx
    rw [← List.take_append_drop 120 (s.take k ++ o.drop k), e2, ← hx, List.take_append_drop]
end Go.Proofs.Ytajcmgccclemdab.Man
namespace Go.Proofs.Ytajcmgccclemdab.Man
open Go.Proofs.Ytajcmgccclemdab.Page

theorem numL_text (n : Nat) (h : n < 4294967296) : numL 0 (Crc.textR n) = n := by
  simp [Crc.textR, numL]; omega
theorem numL_byte (n : Nat) (h : n < 256) : numL 0 [UInt8.ofNat n] = n := by
  simp [numL]; omega
theorem parts_drop (ps : List PartT) : ∀ (k : Nat) (hk : k < ps.length) (r : List UInt8), ∃ r', (partsL ps ++ r).drop (13 * k) = partL ps[k] ++ r' := by
  induction ps with
  | nil => intro k hk; simp at hk
  | cons p ps ih =>
    intro k hk r
    have e : partsL (p :: ps) ++ r = partL p ++ (partsL ps ++ r) := by simp [partsL]
    rw [e]
    match k, hk with
    | 0, _ => exact ⟨_, rfl⟩
    | k + 1, hk =>
      obtain ⟨r', hr⟩ := ih k (by simpa using hk) r
      refine ⟨r', ?_⟩
      rw [show 13 * (k + 1) = (partL p).length + 13 * k from by rw [partL_len]; omega, List.drop_append, List.drop_eq_nil_of_le (by omega), List.nil_append]
      rw [show (partL p).length + 13 * k - (partL p).length = 13 * k from by omega, hr]
      rfl
theorem part_told {p : PartT} {r s : List UInt8} {k : Nat} (h : s.drop (9 + 13 * k) = partL p ++ r) (h1 : ∃ q : Nat, p.1 = (q : Int) ∧ q < 8) (h2 : 1 ≤ p.2.1 ∧ p.2.1 ≤ 4611686018427387904) (h3 : ∃ q : Nat, p.2.2 + 1 = (q : Int) ∧ q ≤ 1048577) : partAt s k = p := by
  obtain ⟨a, b, c⟩ := p
  obtain ⟨q, hq, hq8⟩ := h1
  obtain ⟨z, hz, hzl⟩ := h3
  simp only at hq hz h2
  have hL : partL (a, b, c) = UInt8.ofNat q :: (eightL b ++ Crc.textR z) := by
    show UInt8.ofNat a.toNat :: (eightL b ++ Crc.textR (c + 1).toNat) = _
    rw [hq, hz, Int.toNat_natCast, Int.toNat_natCast]
  have e1 : (s.drop (9 + 13 * k)).take 1 = [UInt8.ofNat q] := by rw [h, hL]; rfl
  have e2 : (s.drop (9 + 13 * k + 1)).take 8 = eightL b := by
    rw [← List.drop_drop, h, hL]; rfl
  have e3 : (s.drop (9 + 13 * k + 9)).take 4 = Crc.textR z := by
    rw [← List.drop_drop, h, hL]; rfl
  unfold partAt
  rw [e1, e2, e3, numL_byte q (by omega), numL_eight b (by omega), numL_text z (by omega)]
  rw [hq, ← hz]
  congr 2
  omega
theorem sect_told {m : ManT} (hok : okM m = true) : toldM (sectL m) = m := by
  obtain ⟨⟨he1, he2⟩, hn8, hps⟩ := okM_parts hok
  have hc : cntM (sectL m) = m.2.length := by
    have : ((sectL m).drop 8).take 1 = [UInt8.ofNat m.2.length] := by
      unfold sectL headL bodyL frontL; simp only [List.append_assoc]
      rw [List.drop_left' (eightL_len m.1)]; rfl
    unfold cntM
    rw [this, numL_byte _ (by omega)]
    omega
  have hd : ∀ k (hk : k < m.2.length), partAt (sectL m) k = m.2[k] := by
    intro k hk
    have hp := hps m.2[k] (List.getElem_mem hk)
    obtain ⟨r', hr⟩ := parts_drop m.2 k hk (List.replicate (116 - (bodyL m).length) 0 ++ (sumM m ++ eightL m.1))
    refine part_told (r := r') ?_ hp.1 hp.2.1 hp.2.2
    rw [← hr, ← List.drop_drop]
    congr 1
    unfold sectL headL
    rw [show bodyL m = frontL m.1 m.2.length ++ partsL m.2 from rfl]
    simp only [List.append_assoc]
    exact List.drop_left' rfl
  unfold toldM
  rw [sect_take, numL_eight m.1 (by omega), hc]
  obtain ⟨e, ps⟩ := m
  simp only at hd ⊢
  congr 1
  apply List.ext_getElem
  · simp
  · intro i h1 h2
    simp only [List.getElem_map, List.getElem_range]
    exact hd i h2
theorem get_sect {m : ManT} (hok : okM m = true) : getM (sectL m) = (m, 0) := by
  obtain ⟨⟨he1, he2⟩, hn8, hps⟩ := okM_parts hok
  have h0 : (sectL m).take 8 ≠ List.replicate 8 0 := by
    rw [sect_take]
    intro hc
    have := congrArg (numL 0) hc
    rw [numL_eight m.1 (by omega)] at this
    have h2 : numL 0 (List.replicate 8 0) = 0 := rfl
    omega
  have h1 : (sectL m).take 120 = Crc.sealL (headL m) := by
    unfold sectL
    rw [← List.append_assoc]
    exact List.take_left' (by rw [List.length_append, headL_len m hn8]; rfl)
  unfold getM
  rw [if_pos (sectL_len m hn8), if_pos ⟨(sect_take m).trans (sect_drop m hn8).symm, h0⟩, h1, Crc.open_seal, if_pos rfl, sect_told hok, if_pos ⟨hok, rfl⟩]
theorem getM_fit (s : List UInt8) : FitM (getM s).1 := by
  have hz : FitM (0, []) := ⟨by decide, by simp⟩
  unfold getM
  split
  · split
    · split
      · split
        · exact toldM_fit s
        · exact hz
      · exact hz
    · exact hz
  · exact hz
theorem get_ok {s : List UInt8} (h : (getM s).2 = 0) : okM (getM s).1 = true ∧ sectL (getM s).1 = s := by
  unfold getM at h ⊢
  split at h
  · rename_i h1
    rw [if_pos h1]
    split at h
    · rename_i h2
      rw [if_pos h2]
      split at h
      · rename_i h3
        rw [if_pos h3]
        split at h
        · rename_i h4; rw [if_pos h4]; exact h4
        · simp at h
      · rename_i h3; exact absurd h h3
    · simp at h
  · simp at h
end Go.Proofs.Ytajcmgccclemdab.Man
namespace Go.Proofs.Ytajcmgccclemdab.Man
open Go.Proofs.Ytajcmgccclemdab.Page

theorem sect_cnt (m : ManT) : ((sectL m).drop 8).take 1 = [UInt8.ofNat m.2.length] := by
  unfold sectL headL bodyL frontL
  simp only [List.append_assoc]
  rw [List.drop_left' (eightL_len m.1)]; rfl
theorem told_len (s : List UInt8) : (toldM s).2.length = cntM s := by simp [toldM]
/-- a sector that tells of more parts than may be is laid otherwise -/
theorem get_many {s : List UInt8} (hm : 8 < numL 0 ((s.drop 8).take 1)) : sectL (toldM s) ≠ s := by
  intro hc
  have h8 : (toldM s).2.length = 8 := by rw [told_len]; unfold cntM; omega
  have := sect_cnt (toldM s)
  rw [hc, h8] at this
  rw [this, numL_byte 8 (by omega)] at hm
  omega
/-- a part with too great a many is not right -/
theorem get_big {s : List UInt8} {k : Nat} (hk : k < cntM s) (hb : 1048577 < numL 0 ((s.drop (9 + 13 * k + 9)).take 4)) : okM (toldM s) = false := by
  cases h : okM (toldM s)
  · rfl
  · have hp := (okM_parts h).2.2 (partAt s k) (List.mem_map.2 ⟨k, List.mem_range.2 hk, rfl⟩)
    obtain ⟨q, hq, hql⟩ := hp.2.2
    have e : (partAt s k).2.2 = (numL 0 ((s.drop (9 + 13 * k + 9)).take 4) : Int) - 1 := rfl
    rw [e] at hq
    omega
/-- the segments that were told ahead of part i, and the tag of the part ahead -/
def seenAt (ps : List PartT) (i : Nat) : List Int := ((ps.take i).map (·.1)).reverse
def aheadAt (ps : List PartT) (i : Nat) : Nat := ((ps.take i).map (·.2.1)).getLastD 0
theorem seenAt_succ (ps : List PartT) (i : Nat) (h : i < ps.length) : seenAt ps (i + 1) = ps[i].1 :: seenAt ps i := by
  unfold seenAt
  rw [List.take_succ_eq_append_getElem h, List.map_append, List.reverse_append]
  rfl
theorem aheadAt_succ (ps : List PartT) (i : Nat) (h : i < ps.length) : aheadAt ps (i + 1) = ps[i].2.1 := by
  unfold aheadAt
  rw [List.take_succ_eq_append_getElem h, List.map_append]
  exact List.getLastD_concat
/-- what is right from part i on, by part i and what is behind it -/
theorem okP_at (ps : List PartT) (i : Nat) (h : i < ps.length) : okP (seenAt ps i) (aheadAt ps i) (ps.drop i) =
    (mayB ps[i] (decide (i + 1 = ps.length)) && (!((seenAt ps i).contains ps[i].1) && (decide (aheadAt ps i < ps[i].2.1) && okP (seenAt ps (i + 1)) (aheadAt ps (i + 1)) (ps.drop (i + 1))))) := by
  rw [List.drop_eq_getElem_cons h, okP, seenAt_succ ps i h, aheadAt_succ ps i h]
  have e : (ps.drop (i + 1)).isEmpty = decide (i + 1 = ps.length) := by
    rw [Bool.eq_iff_iff, List.isEmpty_iff, List.drop_eq_nil_iff, decide_eq_true_iff]; omega
  rw [e]
theorem okP_from (ps : List PartT) : okP [] 0 ps = okP (seenAt ps 0) (aheadAt ps 0) (ps.drop 0) := rfl
theorem seenAt_has (ps : List PartT) (i : Nat) (a : Int) : (seenAt ps i).contains a = (ps.take i).any (fun q => q.1 == a) := by
  rw [Bool.eq_iff_iff, List.contains_iff_mem, List.any_eq_true]
  unfold seenAt
  rw [List.mem_reverse, List.mem_map]
  constructor
  · rintro ⟨q, h1, h2⟩; exact ⟨q, h1, beq_iff_eq.2 h2⟩
  · rintro ⟨q, h1, h2⟩; exact ⟨q, h1, beq_iff_eq.1 h2⟩
end Go.Proofs.Ytajcmgccclemdab.Man
namespace Go.Proofs.Ytajcmgccclemdab.Man
open Go.Proofs.Ytajcmgccclemdab.Page
open Go.Proofs.Ytajcmgccclemdab.Disk (Dk readD)

theorem open_120 {s : List UInt8} (h : s.length = 128) : (Crc.openL (s.take 120)).2 = if (s.drop 116).take 4 = Crc.textR (Crc.onL 0 (s.take 116)) then 0 else 6 := by
  have e : s.take 120 = s.take 116 ++ (s.drop 116).take 4 := by
    rw [show 120 = 116 + 4 by rfl, List.take_add]
  rw [e, Crc.open_app _ _ (by rw [List.length_take, List.length_drop]; omega)]
  split <;> rfl
theorem num_zero {s : List UInt8} (h : s.length = 128) : numL 0 (s.take 8) = 0 ↔ s.take 8 = List.replicate 8 0 := by
  have h8 : (s.take 8).length = 8 := by rw [List.length_take]; omega
  constructor
  · intro hn
    have := eight_numL _ h8
    rw [hn, eight_zero] at this
    exact this.symm
  · intro hn
    rw [hn]; rfl
theorem getM_128 {s : List UInt8} (h : s.length ≠ 128) : getM s = ((0, []), 11) := by rw [getM, if_neg h]
theorem getM_ends {s : List UInt8} (h : s.length = 128) (hn : s.take 8 ≠ s.drop 120) : getM s = ((0, []), 3) := by rw [getM, if_pos h, if_neg (fun hc => hn hc.1)]
theorem getM_null {s : List UInt8} (h : s.length = 128) (hn : numL 0 (s.take 8) = 0) : getM s = ((0, []), 3) := by rw [getM, if_pos h, if_neg (fun hc => hc.2 ((num_zero h).1 hn))]
theorem getM_sum {s : List UInt8} (h : s.length = 128) (he : s.take 8 = s.drop 120) (hn : numL 0 (s.take 8) ≠ 0) (hs : (s.drop 116).take 4 ≠ Crc.textR (Crc.onL 0 (s.take 116))) : getM s = ((0, []), 6) := by
  rw [getM, if_pos h, if_pos ⟨he, fun hc => hn ((num_zero h).2 hc)⟩, open_120 h, if_neg hs, if_neg (by decide)]
theorem getM_rest {s : List UInt8} (h : s.length = 128) (he : s.take 8 = s.drop 120) (hn : numL 0 (s.take 8) ≠ 0) (hs : (s.drop 116).take 4 = Crc.textR (Crc.onL 0 (s.take 116))) :
    getM s = if okM (toldM s) = true ∧ sectL (toldM s) = s then (toldM s, 0) else ((0, []), 7) := by
  rw [getM, if_pos h, if_pos ⟨he, fun hc => hn ((num_zero h).2 hc)⟩, open_120 h, if_pos hs, if_pos rfl]
/-- the first k parts that a sector tells -/
def firstM (s : List UInt8) (k : Nat) : List PartT := (List.range k).map (partAt s)
theorem firstM_succ (s : List UInt8) (k : Nat) : firstM s (k + 1) = firstM s k ++ [partAt s k] := by simp [firstM, List.range_succ]
theorem firstM_len (s : List UInt8) (k : Nat) : (firstM s k).length = k := by simp [firstM]
theorem firstM_all (s : List UInt8) : (toldM s) = (numL 0 (s.take 8), firstM s (cntM s)) := rfl
/-- the document's choice of two is ours -/
theorem getM_pos {s : List UInt8} (h : (getM s).2 = 0) : 1 ≤ (getM s).1.1 := (okM_parts (get_ok h).1).1.1
theorem load_none {d : Dk} (h0 : (readD d 0).2 = 0) (h1 : (readD d 1).2 = 0) (g0 : (getM (readD d 0).1).2 ≠ 0) (g1 : (getM (readD d 1).1).2 ≠ 0) : loadM d = ((0, []), 3) := by
  have e : pickM (getM (readD d 0).1) (getM (readD d 1).1) = (0, []) := by
    unfold pickM stepM
    rw [if_neg (fun hc => g1 hc.1), if_neg (fun hc => g0 hc.1)]
  rw [loadM, if_pos h0, if_pos h1, e, if_pos rfl]
theorem load_second {d : Dk} (h0 : (readD d 0).2 = 0) (h1 : (readD d 1).2 = 0) (g1 : (getM (readD d 1).1).2 = 0) (g : (getM (readD d 0).1).2 ≠ 0 ∨ (getM (readD d 0).1).1.1 < (getM (readD d 1).1).1.1) : loadM d = ((getM (readD d 1).1).1, 0) := by
  have hp := getM_pos g1
  have e : pickM (getM (readD d 0).1) (getM (readD d 1).1) = (getM (readD d 1).1).1 := by
    unfold pickM
    generalize (getM (readD d 1).1) = y at g1 g hp
    generalize (getM (readD d 0).1) = x at g
    unfold stepM
    by_cases hx : x.2 = 0 ∧ ((0, []) : ManT).1 < x.1.1
    · rw [if_pos hx, if_pos ⟨g1, by rcases g with g | g; exact absurd hx.1 g; exact g⟩]
    · rw [if_neg hx, if_pos ⟨g1, by show 0 < y.1.1; omega⟩]
  rw [loadM, if_pos h0, if_pos h1, e, if_neg (by omega)]
theorem load_first {d : Dk} (h0 : (readD d 0).2 = 0) (h1 : (readD d 1).2 = 0) (g0 : (getM (readD d 0).1).2 = 0) (g : (getM (readD d 1).1).2 ≠ 0 ∨ ¬ (getM (readD d 0).1).1.1 < (getM (readD d 1).1).1.1) : loadM d = ((getM (readD d 0).1).1, 0) := by
  have hp := getM_pos g0
  have e : pickM (getM (readD d 0).1) (getM (readD d 1).1) = (getM (readD d 0).1).1 := by
    unfold pickM
    generalize (getM (readD d 1).1) = y at g
    generalize (getM (readD d 0).1) = x at g0 g hp
    unfold stepM
    rw [if_pos (c := x.2 = 0 ∧ ((0, []) : ManT).1 < x.1.1) ⟨g0, by show 0 < x.1.1; omega⟩, if_neg (fun hc => by rcases g with g | g; exact g hc.1; exact g hc.2)]
  rw [loadM, if_pos h0, if_pos h1, e, if_neg (by omega)]
end Go.Proofs.Ytajcmgccclemdab.Man
namespace Go.Proofs.Ytajcmgccclemdab.Page
open Go.RowKit Go.Shelf

def S1 : List UInt8 := pageL 1 [97]
theorem s1_put : putL 1 [97] = (S1, 0) := by decide +kernel
theorem s1_get : getL S1 1 = ([97], 0) := by decide +kernel
theorem s1_get2 : getL S1 2 = ([], 3) := by decide +kernel
theorem s1_tag : tagL S1 = (1, 0) := by decide +kernel
theorem s1_split : splitR 7 S1 = ([pageL 7 (S1.take 111), pageL 8 (S1.drop 111)], 0) := by decide +kernel
theorem s1_join : joinL [pageL 7 (S1.take 111), pageL 8 (S1.drop 111)] 7 = (S1, 2) := by decide +kernel
theorem s1_len : S1.length = 128 := by decide +kernel
theorem s1_mid : (⟨S1.toArray⟩ : ByteArray).extract 7 11 = ⟨#[1, 1, 97, 0]⟩ := by decide +kernel
theorem s1_end (h : 127 < (⟨S1.toArray⟩ : ByteArray).size) : (⟨S1.toArray⟩ : ByteArray)[127] = 1 := by
  have : S1[127]? = some 1 := by decide +kernel
  have h2 := List.getElem?_eq_some_iff.1 this
  exact h2.2
end Go.Proofs.Ytajcmgccclemdab.Page
namespace Go.Proofs.Ytajcmgccclemdab.Page
open Go.RowKit

theorem pages_join (ps : List (List UInt8)) : ∀ (t : Nat) (rest : List (List UInt8)), (∀ p ∈ ps, p.length ≤ 111) → 1 ≤ t → t + ps.length < 18446744073709551616 →
    joinL (ps.mapIdx (fun i p => pageL (t + i) p) ++ rest) t = (ps.flatten ++ (joinL rest (t + ps.length)).1, ps.length + (joinL rest (t + ps.length)).2) := by
  induction ps with
  | nil => intro t rest _ _ _; simp
  | cons p ps ih =>
    intro t rest hp ht hlt
    rw [List.mapIdx_cons, List.cons_append]
    simp only [Nat.add_zero]
    rw [joinL_ok (getL_page (by omega) (by omega) (hp p (by simp)))]
    have e : (t + 1) % two64 = t + 1 := by unfold two64; simp only [List.length_cons] at hlt; omega
    have e2 : (fun (i : Nat) (p : List UInt8) => pageL (t + (i + 1)) p) = fun i p => pageL (t + 1 + i) p := by
      funext i p; rw [show t + (i + 1) = t + 1 + i by omega]
    rw [e, e2, ih (t + 1) rest (fun q hq => hp q (by simp [hq])) (by omega) (by simp only [List.length_cons] at hlt; omega)]
    simp only [List.length_cons, List.flatten_cons, List.append_assoc]
    rw [show t + 1 + ps.length = t + (ps.length + 1) by omega]
    congr 1
    omega
theorem pieces_take (l : List UInt8) (k : Nat) : ((List.range k).map (pieceL l)).flatten = l.take (111 * k) := by
  induction k with
  | zero => simp
  | succ k ih =>
    rw [List.range_succ, List.map_append, List.flatten_append, ih, Nat.mul_succ, List.take_add]
    simp [pieceL]
theorem split_pages (t : Nat) (l : List UInt8) : splitL t l = ((List.range (cntL l)).map (pieceL l)).mapIdx (fun i p => pageL (t + i) p) := by
  rw [splitL, pagesL]
  apply List.ext_getElem?
  intro i
  simp only [List.getElem?_mapIdx, List.getElem?_map, Option.map_map]
  rfl
theorem splitL_len (t : Nat) (l : List UInt8) : (splitL t l).length = cntL l := by rw [splitL, pagesL_len, List.length_range]
theorem splitL_at (t : Nat) (l : List UInt8) (k : Nat) (h : k < (splitL t l).length) : (splitL t l)[k] = pageL (t + k) (pieceL l k) := by
  simp [splitL, pagesL]
theorem join_other {r : List (List UInt8)} {t : Nat} (h : ∀ s ∈ r, tagL s ≠ (t, 0)) : joinL r t = ([], 0) := by
  cases r with
  | nil => rfl
  | cons s r =>
    refine joinL_bad (fun hc => ?_)
    exact h s (by simp) (getL_tag hc)
theorem split_join (t : Nat) (l : List UInt8) (more : List (List UInt8)) (h0 : 1 ≤ t) (h1 : t ≤ 4611686018427387904) (hl : l.length ≤ 14208) (hm : ∀ s ∈ more, tagL s ≠ (t + cntL l, 0)) :
    joinL (splitL t l ++ more) t = (l, cntL l) := by
  have hc : cntL l ≤ 128 := by unfold cntL; omega
  rw [split_pages, pages_join _ t more (fun p hp => by obtain ⟨k, _, rfl⟩ := List.mem_map.1 hp; exact pieceL_len l k) h0 (by simp; omega)]
  rw [List.length_map, List.length_range, join_other hm, pieces_take, List.take_of_length_le (by unfold cntL; omega)]
  simp
/-- a slice of texts that came in -/
def IsStrsS (w : World) (a : Option Addr) (len cap : Nat) (zs : List (List UInt8)) : Prop :=
  HasStrs w (.slice a len cap) zs ∧ len = zs.length ∧ len ≤ cap ∧ cap ≤ 9223372036854775807 ∧ (∀ z ∈ zs, z.length ≤ 9223372036854775807) ∧ len * 16 ≤ 140737488351232 ∧ (a = none → cap = 0)
theorem isStrsS_nil (w : World) : IsStrsS w none 0 0 [] := ⟨⟨none, 0, rfl, fun j hj => by simp at hj⟩, rfl, Nat.le_refl _, by decide, by simp, by decide, fun _ => rfl⟩
theorem isStrsS_of {w : World} {a : Addr} {len cap : Nat} {Sx : Nat → ByteArray} (hl : len ≤ cap) (hm : cap ≤ maxLen) (h : ∀ i, i < len → w.cell? (a.add i) = some (.string (Sx i)) ∧ (Sx i).size ≤ maxLen) (hs : len * 16 ≤ 140737488351232) :
    IsStrsS w (some a) len cap ((List.range len).map fun i => (Sx i).data.toList) := by
  unfold maxLen at hm
  refine ⟨⟨some a, cap, by simp, fun j hj => ?_⟩, by simp, hl, hm, fun z hz => ?_, hs, fun e => by cases e⟩
  · have hj' : j < len := by simpa using hj
    obtain ⟨b, off, spot⟩ := a
    have hspot : spot = none := by simpa [Addr.add] using World.cell?_spot (h 0 (by omega)).1
    subst hspot
    have h1 := (h j hj').1
    rw [addr_add] at h1
    refine ⟨b, off, rfl, ?_, ?_⟩
    · rw [h1]; simp [strV]
    · rcases Nat.lt_or_ge b w.heap.size with h' | h'
      · exact h'
      · simp [World.cell?, Array.getElem?_eq_none h'] at h1
  · obtain ⟨i, hi, rfl⟩ := List.mem_map.1 hz
    have := (h i (by simpa using hi)).2
    unfold maxLen at this
    simpa using this
end Go.Proofs.Ytajcmgccclemdab.Page
namespace Go.Proofs.Ytajcmgccclemdab.Man
open Go.Proofs.Ytajcmgccclemdab.Page
open Go.Proofs.Ytajcmgccclemdab.Disk (Dk readD Ok okB inB ok_mk ok_of holdsL settleF cutIn writeD flushD crashD outD outD_ok zeroS makeD partN partN_le spendF spendE offAfter wholeF getD_mem cutIn_full settleF_len allH allH_len allH_put settleF_other PutT)

theorem zero_getM : getM zeroS = ((0, []), 3) := by
  apply getM_null
  · simp [zeroS]
  · rfl
theorem zero_tag : tagL zeroS = (0, 3) := by decide +kernel
/-- so many pages were written, and there is power still -/
structure Wr (P : List (List UInt8)) (k : Nat) (d : Dk) : Prop where
  ok : Ok d
  fuse : d.fuse ≤ 9223372036854775807
  off : d.off = false
  len : d.secs.length = 40
  few : d.cache.length = k
  low : ∀ j, j < 2 → d.secs[j]? = some zeroS
  two : ∀ p ∈ d.cache, 2 ≤ p.1
  held : ∀ j, j < 38 → (allH d)[2 + j]? = some (if j < k then P.getD j [] else zeroS)
/-- the power is gone ahead of the manifest -/
structure Gone (d : Dk) : Prop where
  ok : Ok d
  fuse : d.fuse ≤ 9223372036854775807
  len : d.secs.length = 40
  low : ∀ j, j < 2 → d.secs[j]? = some zeroS
  two : ∀ p ∈ d.cache, 2 ≤ p.1
/-- all pages were flushed -/
structure Fl (P : List (List UInt8)) (d : Dk) : Prop where
  ok : Ok d
  fuse : d.fuse ≤ 9223372036854775807
  off : d.off = false
  none : d.cache = []
  len : d.secs.length = 40
  low : ∀ j, j < 2 → d.secs[j]? = some zeroS
  pages : ∀ j, j < 38 → d.secs[2 + j]? = some (if j < P.length then P.getD j [] else zeroS)
theorem rep_at (j : Nat) (h : j < 40) : (List.replicate 40 zeroS)[j]? = some zeroS := by rw [List.getElem?_replicate, if_pos h]
theorem wr_make (P : List (List UInt8)) (f : Int) (h0 : -1 ≤ f) (h1 : f ≤ 9223372036854775807) : Wr P 0 ⟨(makeD 40).1.secs, (makeD 40).1.cache, f, (makeD 40).1.off⟩ := by
  have hm : makeD 40 = (⟨List.replicate 40 zeroS, [], -1, false⟩, 0) := rfl
  rw [hm]
  refine ⟨⟨by simp, by simp, by simp, h0, fun z hz => by rw [List.eq_of_mem_replicate hz]; simp [zeroS], by simp⟩, h1, rfl, by simp, rfl, fun j hj => rep_at j (by omega), by simp, fun j hj => ?_⟩
  show (List.replicate 40 zeroS)[2 + j]? = _
  rw [rep_at _ (by omega), if_neg (by omega)]
theorem wr_write {P : List (List UInt8)} {k : Nat} {d : Dk} (h : Wr P k d) (hk : k < P.length) (hP : P.length ≤ 30) (hl : ∀ z ∈ P, z.length = 128) :
    ((writeD d ((2 + k : Nat) : Int) P[k]).2 = 0 ∧ Wr P (k + 1) (writeD d ((2 + k : Nat) : Int) P[k]).1) ∨ ((writeD d ((2 + k : Nat) : Int) P[k]).2 = 9 ∧ Gone (writeD d ((2 + k : Nat) : Int) P[k]).1) := by
  have hz := hl P[k] (List.getElem_mem hk)
  have hin : inB d.secs.length ((2 + k : Nat) : Int) = true := by unfold inB; rw [h.len]; exact decide_eq_true (by omega)
  have hw : writeD d ((2 + k : Nat) : Int) P[k] = (⟨d.secs, d.cache ++ [(((2 + k : Nat) : Int), P[k])], spendF d.fuse false, offAfter d.fuse false⟩, spendE d.fuse false) := by
    unfold writeD
    rw [if_neg (by rw [h.off]; decide), if_neg (by rw [hin]; decide), if_neg (by omega), if_neg (by rw [h.few]; omega), h.off]
  have hok := Disk.write_ok h.ok ((2 + k : Nat) : Int) P[k]
  have hff := Disk.write_fuse h.fuse ((2 + k : Nat) : Int) P[k]
  rw [hw] at hok hff ⊢
  simp only at hok hff ⊢
  have htwo : ∀ p ∈ d.cache ++ [(((2 + k : Nat) : Int), P[k])], 2 ≤ p.1 := fun p hp => by
    simp only [List.mem_append, List.mem_singleton] at hp
    rcases hp with hp | rfl
    · exact h.two p hp
    · show (2 : Int) ≤ ((2 + k : Nat) : Int); omega
  by_cases hf : d.fuse = 0
  · right
    exact ⟨by rw [hf]; rfl, hok, hff, h.len, h.low, htwo⟩
  · left
    have he : spendE d.fuse false = 0 := by unfold spendE; rw [if_neg (by simpa using hf)]
    have ho : offAfter d.fuse false = false := by unfold offAfter; simpa using hf
    rw [ho] at hok ⊢
    refine ⟨he, hok, hff, rfl, h.len, by simp [h.few], h.low, htwo, fun j hj => ?_⟩
    rw [allH_put h.ok hin hz, Int.toNat_natCast, List.getElem?_set]
    by_cases hjk : k = j
    · subst hjk
      rw [if_pos rfl, if_pos (by rw [allH_len, h.len]; omega), if_pos (by omega), List.getD_eq_getElem?_getD, List.getElem?_eq_getElem hk]; rfl
    · rw [if_neg (by omega), h.held j hj]
      by_cases hjl : j < k
      · rw [if_pos hjl, if_pos (by omega)]
      · rw [if_neg hjl, if_neg (by omega)]
theorem low_held {d : Dk} (hlow : ∀ j, j < 2 → d.secs[j]? = some zeroS) (htwo : ∀ p ∈ d.cache, 2 ≤ p.1) (part : Nat → Nat) (j : Nat) (hj : j < 2) : (settleF part 0 d.secs d.cache)[j]? = some zeroS := by
  rw [settleF_other part j d.cache 0 d.secs (fun p hp => ⟨by have := htwo p hp; omega, by have := htwo p hp; omega⟩), hlow j hj]
theorem wr_flush {P : List (List UInt8)} {d : Dk} (h : Wr P P.length d) : ((flushD d).2 = 0 ∧ Fl P (flushD d).1) ∨ ((flushD d).2 = 9 ∧ Gone (flushD d).1) := by
  have hok := Disk.flush_ok h.ok
  have hff := Disk.flush_fuse h.fuse
  rcases Disk.flush_cases d with ⟨h1, h2⟩ | ⟨h1, h2⟩
  · right
    rw [h2] at hok hff ⊢
    exact ⟨h1, hok, hff, h.len, h.low, h.two⟩
  · left
    rw [h2] at hok hff ⊢
    exact ⟨h1, hok, hff, rfl, rfl, by show (allH d).length = 40; rw [allH_len, h.len], fun j hj => low_held h.low h.two wholeF j hj, h.held⟩
theorem getD_of {S : List (List UInt8)} {j : Nat} {z : List UInt8} (h : S[j]? = some z) : S.getD j [] = z := by rw [List.getD_eq_getElem?_getD, h]; rfl
theorem read_at {d : Dk} (ok : Ok d) (off : d.off = false) (none : d.cache = []) (len : d.secs.length = 40) (k : Nat) (hk : k < 40) : readD d (k : Int) = (d.secs.getD k [], 0) := by
  unfold readD
  rw [if_pos (ok_mk ok), if_neg (by rw [off]; decide), if_pos (by unfold inB; rw [len]; exact decide_eq_true (by omega)), none]
  unfold holdsL
  simp
theorem load_pg {d : Dk} (ok : Ok d) (off : d.off = false) (none : d.cache = []) (len : d.secs.length = 40) (h0 : d.secs.getD 0 [] = zeroS) : loadM d = if (getM (d.secs.getD 1 [])).2 = 0 then ((getM (d.secs.getD 1 [])).1, 0) else ((0, []), 3) := by
  have e0 : readD d 0 = (d.secs.getD 0 [], 0) := read_at ok off none len 0 (by omega)
  have e1 : readD d 1 = (d.secs.getD 1 [], 0) := read_at ok off none len 1 (by omega)
  have g0 : (getM (readD d 0).1).2 ≠ 0 := by rw [e0, h0, zero_getM]; decide
  by_cases hg : (getM (d.secs.getD 1 [])).2 = 0
  · rw [if_pos hg, load_second (by rw [e0]) (by rw [e1]) (by rw [e1]; exact hg) (.inl g0), e1]
  · rw [if_neg hg, load_none (by rw [e0]) (by rw [e1]) g0 (by rw [e1]; exact hg)]
/-- what a crash leaves: nothing, or all -/
structure EndN (G : Dk) : Prop where
  ok : Ok G
  fuse : G.fuse ≤ 9223372036854775807
  load : loadM G = ((0, []), 3)
  len : (allH G).length = 40
structure EndL (t : Nat) (l : List UInt8) (m : ManT) (G : Dk) : Prop where
  ok : Ok G
  fuse : G.fuse ≤ 9223372036854775807
  load : loadM G = (m, 0)
  len : (allH G).length = 40
  join : joinL ((allH G).drop 2) t = (l, cntL l)
theorem gone_crash {d : Dk} (h : Gone d) (keep : List Bool) (torn bytes : Int) : EndN (crashD d keep torn bytes).1 := by
  have hok := Disk.crash_ok h.ok keep torn bytes
  have hs : (crashD d keep torn bytes).1.secs = settleF (partN keep torn bytes) 0 d.secs d.cache := rfl
  have hl : (crashD d keep torn bytes).1.secs.length = 40 := by rw [hs, settleF_len, h.len]
  have z0 := getD_of (low_held h.low h.two (partN keep torn bytes) 0 (by omega))
  have z1 := getD_of (low_held h.low h.two (partN keep torn bytes) 1 (by omega))
  refine ⟨hok, by show (-1 : Int) ≤ _; decide, ?_, by rw [allH_len, hl]⟩
  rw [load_pg hok rfl rfl hl (by rw [hs]; exact z0), hs, z1, zero_getM, if_neg (by decide)]
/-- the pages of a disk whose sector 1 is x -/
theorem pages_join2 {t : Nat} {l x : List UInt8} {d : Dk} (h : Fl (splitL t l) d) (h0 : 1 ≤ t) (h1 : t ≤ 4611686018427387904) (hl : l.length ≤ 14208) (hc : cntL l ≤ 30) : joinL ((d.secs.set 1 x).drop 2) t = (l, cntL l) := by
  have e : (d.secs.set 1 x).drop 2 = splitL t l ++ List.replicate (38 - cntL l) zeroS := by
    apply List.ext_getElem?
    intro j
    have hsl := splitL_len t l
    rw [List.getElem?_drop, List.getElem?_set, if_neg (by omega)]
    by_cases hj : j < 38
    · rw [h.pages j hj, hsl]
      by_cases hjc : j < cntL l
      · rw [if_pos hjc, List.getElem?_append_left (by omega), List.getD_eq_getElem?_getD, List.getElem?_eq_getElem (by omega)]; rfl
      · rw [if_neg hjc, List.getElem?_append_right (by omega), List.getElem?_replicate, if_pos (by omega)]
    · rw [List.getElem?_eq_none (by rw [h.len]; omega), List.getElem?_eq_none (by simp [hsl]; omega)]
  rw [e]
  refine split_join t l _ h0 h1 hl (fun s hs => ?_)
  rw [List.eq_of_mem_replicate hs, zero_tag]
  simp
theorem fl_save {P : List (List UInt8)} {d : Dk} {m : ManT} (h : Fl P d) (hok : okM m = true) (hm : m.1 = 1) :
    ((saveM d m).2 = 0 ∧ (saveM d m).1.cache = [] ∧ (saveM d m).1.secs = d.secs.set 1 (sectL m) ∧ Ok (saveM d m).1 ∧ (saveM d m).1.fuse ≤ 9223372036854775807) ∨
    ((saveM d m).2 = 9 ∧ (saveM d m).1.cache = [(1, sectL m)] ∧ (saveM d m).1.secs = d.secs ∧ Ok (saveM d m).1 ∧ (saveM d m).1.fuse ≤ 9223372036854775807) := by
  have hsl := sectL_len m (okM_parts hok).2.1
  have hld : loadM d = ((0, []), 3) := by
    rw [load_pg h.ok h.off h.none h.len (getD_of (h.low 0 (by omega))), getD_of (h.low 1 (by omega)), zero_getM, if_neg (by decide)]
  have hfo : followE d m = 0 := by
    unfold followE
    rw [if_pos hok, hld, if_neg (by simp), if_pos (by show m.1 = 0 + 1; omega)]
  have hin : inB d.secs.length (1 : Int) = true := by unfold inB; rw [h.len]; decide
  have hp : ((m.1 % 2 : Nat) : Int) = 1 := by rw [hm]; rfl
  have hw : writeD d 1 (sectL m) = (⟨d.secs, [(1, sectL m)], spendF d.fuse false, offAfter d.fuse false⟩, spendE d.fuse false) := by
    unfold writeD
    rw [if_neg (by rw [h.off]; decide), if_neg (by rw [hin]; decide), if_neg (by omega), h.none, if_neg (by simp), h.off]
    rfl
  have hokw : Ok (writeD d 1 (sectL m)).1 := Disk.write_ok h.ok _ _
  have hfw : (writeD d 1 (sectL m)).1.fuse ≤ 9223372036854775807 := Disk.write_fuse h.fuse _ _
  unfold saveM
  rw [if_pos (ok_mk h.ok), if_pos hfo, hp]
  rw [hw] at hokw hfw ⊢
  simp only at hokw hfw ⊢
  by_cases hf : d.fuse = 0
  · right
    have he : spendE d.fuse false = 9 := by rw [hf]; rfl
    rw [he, if_neg (by decide)]
    exact ⟨rfl, rfl, rfl, hokw, hfw⟩
  · have he : spendE d.fuse false = 0 := by unfold spendE; rw [if_neg (by simpa using hf)]
    have ho : offAfter d.fuse false = false := by unfold offAfter; simpa using hf
    rw [ho] at hokw ⊢
    rw [if_pos he, outD_ok hokw]
    have hk := Disk.flush_ok hokw
    have hkf : (flushD ⟨d.secs, [(1, sectL m)], spendF d.fuse false, false⟩).1.fuse ≤ 9223372036854775807 := Disk.flush_fuse hfw
    rcases Disk.flush_cases ⟨d.secs, [(1, sectL m)], spendF d.fuse false, false⟩ with ⟨h1, h2⟩ | ⟨h1, h2⟩
    · right
      rw [h2] at hk hkf
      rw [h1, h2]
      exact ⟨rfl, rfl, rfl, hk, hkf⟩
    · left
      rw [h2] at hk hkf
      rw [h1, h2]
      refine ⟨rfl, rfl, ?_, hk, hkf⟩
      show settleF wholeF 0 d.secs [(1, sectL m)] = _
      rw [settleF, settleF]
      show d.secs.set (1 : Int).toNat (cutIn 128 (sectL m) (d.secs.getD (1 : Int).toNat [])) = _
      rw [show (1 : Int).toNat = 1 from rfl, getD_of (h.low 1 (by omega)), cutIn_full hsl (by simp [zeroS])]
theorem set_one {S : List (List UInt8)} (x : List UInt8) (h : S.length = 40) : (S.set 1 x).getD 1 [] = x ∧ (S.set 1 x).getD 0 [] = S.getD 0 [] := by
  constructor
  · rw [List.getD_eq_getElem?_getD, List.getElem?_set, if_pos rfl, if_pos (by omega)]; rfl
  · rw [List.getD_eq_getElem?_getD, List.getElem?_set, if_neg (by omega), ← List.getD_eq_getElem?_getD]
/-- behind a crash: the manifest with all pages, or none -/
theorem end_set {t : Nat} {l x : List UInt8} {d G : Dk} {m : ManT} (h : Fl (splitL t l) d) (hok : okM m = true) (h0 : 1 ≤ t) (h1 : t ≤ 4611686018427387904) (hl : l.length ≤ 14208) (hc : cntL l ≤ 30)
    (hG : Ok G) (hf : G.fuse = -1) (ho : G.off = false) (hn : G.cache = []) (hs : G.secs = d.secs.set 1 x) (hx : x = sectL m ∨ (getM x).2 ≠ 0) : (EndL t l m G ∧ x = sectL m) ∨ (EndN G ∧ (getM x).2 ≠ 0) := by
  have hlen : G.secs.length = 40 := by rw [hs, List.length_set, h.len]
  obtain ⟨s1, s0⟩ := set_one x h.len
  have hld := load_pg hG ho hn hlen (by rw [hs, s0]; exact getD_of (h.low 0 (by omega)))
  rw [hs, s1] at hld
  have hall : allH G = d.secs.set 1 x := by
    unfold allH; rw [hn, hs]; rfl
  rcases hx with rfl | hx
  · left
    refine ⟨⟨hG, by rw [hf]; decide, ?_, by rw [allH_len, hlen], by rw [hall]; exact pages_join2 h h0 h1 hl hc⟩, rfl⟩
    rw [hld, get_sect hok, if_pos rfl]
  · right
    refine ⟨⟨hG, by rw [hf]; decide, by rw [hld, if_neg hx], by rw [allH_len, hlen]⟩, hx⟩
theorem sv_crash {t : Nat} {l : List UInt8} {d e : Dk} {m : ManT} (h : Fl (splitL t l) d) (hok : okM m = true) (h0 : 1 ≤ t) (h1 : t ≤ 4611686018427387904) (hl : l.length ≤ 14208) (hc : cntL l ≤ 30)
    (he : Ok e) (hn : e.cache = []) (hs : e.secs = d.secs.set 1 (sectL m)) (keep : List Bool) (torn bytes : Int) : EndL t l m (crashD e keep torn bytes).1 := by
  have hG := Disk.crash_ok he keep torn bytes
  have hs2 : (crashD e keep torn bytes).1.secs = d.secs.set 1 (sectL m) := by
    show settleF (partN keep torn bytes) 0 e.secs e.cache = _
    rw [hn, hs]; rfl
  rcases end_set h hok h0 h1 hl hc hG rfl rfl rfl hs2 (.inl rfl) with ⟨hE, _⟩ | ⟨_, hx⟩
  · exact hE
  · exact absurd (by rw [get_sect hok]) hx
theorem pw_crash {t : Nat} {l : List UInt8} {d e : Dk} {m : ManT} (h : Fl (splitL t l) d) (hok : okM m = true) (hm : m.1 = 1) (h0 : 1 ≤ t) (h1 : t ≤ 4611686018427387904) (hl : l.length ≤ 14208) (hc : cntL l ≤ 30)
    (he : Ok e) (hn : e.cache = [(1, sectL m)]) (hs : e.secs = d.secs) (keep : List Bool) (torn bytes : Int) : EndL t l m (crashD e keep torn bytes).1 ∨ EndN (crashD e keep torn bytes).1 := by
  have hG := Disk.crash_ok he keep torn bytes
  have hsl := sectL_len m (okM_parts hok).2.1
  have z1 := getD_of (h.low 1 (by omega))
  have hs2 : (crashD e keep torn bytes).1.secs = d.secs.set 1 (cutIn (partN keep torn bytes 0) (sectL m) zeroS) := by
    show settleF (partN keep torn bytes) 0 e.secs e.cache = _
    rw [hn, hs, settleF, settleF, show ((1 : Int), sectL m).1.toNat = 1 from rfl, z1]
  have hx : cutIn (partN keep torn bytes 0) (sectL m) zeroS = sectL m ∨ (getM (cutIn (partN keep torn bytes 0) (sectL m) zeroS)).2 ≠ 0 := by
    by_cases hg : (getM (cutIn (partN keep torn bytes 0) (sectL m) zeroS)).2 = 0
    · left
      have hne : zeroS.drop 120 ≠ (sectL m).drop 120 := by
        rw [sect_drop m (okM_parts hok).2.1, hm]; decide
      rcases torn_m hsl (by simp [zeroS]) (partN_le keep torn bytes 0) ((sect_take m).trans (sect_drop m (okM_parts hok).2.1).symm) hne hg with h2 | h2 | h2
      · exact h2
      · have h3 : cutIn (partN keep torn bytes 0) (sectL m) zeroS = zeroS := h2
        rw [h3, zero_getM] at hg
        exact absurd hg (by decide)
      · exact absurd rfl h2
    · exact .inr hg
  rcases end_set h hok h0 h1 hl hc hG rfl rfl rfl hs2 hx with ⟨hE, _⟩ | ⟨hE, _⟩
  · exact .inl hE
  · exact .inr hE
end Go.Proofs.Ytajcmgccclemdab.Man
namespace Go.Proofs.Ytajcmgccclemdab.Frame
open Go.RowKit

theorem bgn1 (w : World) : Calls Try.prog 39 #[.string ⟨#[49, 50, 51, 52, 53, 54, 55, 56, 57]⟩] w fun e w' => e = .returned (.int .u32 3808858755) ∧ w' = w := by
  have := ofL [49, 50, 51, 52, 53, 54, 55, 56, 57] w (by decide)
  rw [show Crc.onL 0 [49, 50, 51, 52, 53, 54, 55, 56, 57] = 3808858755 by decide +kernel] at this
  exact this
theorem bgn2 (w : World) : Calls Try.prog 38 #[.string ⟨#[172, 2, 122]⟩] w fun e w' => e = .returned (.tuple #[.int .u64 300, .string ⟨#[122]⟩, .int .i64 0]) ∧ Below w.heap.size w w' :=
  getL (l := [172, 2, 122]) (n := 300) (r := [122]) (y := 0) (by decide +kernel) (by decide) w
theorem bgn3 (w : World) : Calls Try.prog 40 #[.int .u64 300] w fun e w' => e = .returned (.string ⟨#[172, 2]⟩) ∧ Below w.heap.size w w' := by
  have := put_any 300 w (by decide) (by decide)
  rw [show putL (300 : Int).toNat = [172, 2] by decide +kernel] at this
  exact this
theorem begins_any (w : World) :
    Calls Try.prog 15 #[] w fun e w' => e = .returned (.bool true) ∧ Below w.heap.size w w' := by
  go_enter Try.func15, Try.ntmps15
  go_wp2_with fail
  go_at_call 38; refine (bgn2 _).mono ?_; rintro e w1 ⟨rfl, hb1⟩
  go_wp2_with fail
  go_at_call 39; refine (bgn1 _).mono ?_; rintro e w2 ⟨rfl, rfl⟩
  go_wp2_with fail
  go_at_call 40; refine (bgn3 _).mono ?_; rintro e w3 ⟨rfl, hb3⟩
  go_wp2_with fail
  go_ret
  exact ⟨rfl, below2 hb1 hb3⟩
end Go.Proofs.Ytajcmgccclemdab.Frame
namespace Go.Proofs.Ytajcmgccclemdab.Disk
open Go.ChangeShapes Go.WideShapes Go.ChangeAt Go.RowKit

theorem wf_i64 {n : Int} (h : (Lit.int .i64 n).wf = true) : -9223372036854775808 ≤ n ∧ n ≤ 9223372036854775807 := by simpa [Lit.wf, IntKind.min, IntKind.max, IntKind.signed, IntKind.bits] using h
theorem spot_of {W : World} {a : Addr} {v : Value} (h : W.cell? a = some v) : a.spot = none ∧ a.block < W.heap.size := by
  refine ⟨World.cell?_spot h, ?_⟩
  rcases Nat.lt_or_ge a.block W.heap.size with h' | h'
  · exact h'
  · simp [World.cell?, Array.getElem?_eq_none h'] at h
section
variable {H : Type} {enc : TypeId × Value → H} {W : World} {base : Nat} {spare : Nat → Bool} {held : Bool}
theorem row_of {a : Addr} {len cap sz : Nat} {cs : List Value} (hsz : 0 < sz) (hl : len ≤ cap) (hm : cap ≤ maxLen) (hlen : cs.length = len * sz) (h : ∀ j, j < len * sz → W.cell? (a.add j) = cs[j]?) : HasRow W (.slice (some a) len cap) sz len cs := by
  refine ⟨hlen, .inr ⟨a, cap, rfl, hl, by unfold maxLen at hm; exact hm, fun hn => ?_, h⟩⟩
  have h0 := h 0 (Nat.mul_pos hn hsz)
  rw [List.getElem?_eq_getElem (by rw [hlen]; exact Nat.mul_pos hn hsz)] at h0
  have := spot_of h0
  simpa [Addr.add] using this
theorem open_strs_row {v : Value} {fuel : Nat} {x : DataW H × List MemPlace} (h : DataW.trod enc Try.prog W base spare held fuel 25 [v] = some x) : ∃ zs, HasStrs W v zs ∧ ∀ z ∈ zs, z.length ≤ 9223372036854775807 := by
  rcases Go.Deep.open_strs Try.underlying25 Try.underlying9 (by kernel_rfl) h with ⟨hcs, _⟩ | ⟨a, l, c, m, Sx, hcs, _, hl, hm, hmm, _, hr⟩
  · injection hcs with e; subst e
    exact ⟨[], hasRow_nil _ _, by simp⟩
  · injection hcs with e; subst e
    have hlm : l ≤ m := by rw [hmm]; split <;> omega
    refine ⟨(List.range l).map fun i => (Sx i).data.toList, ?_, fun z hz => ?_⟩
    · unfold HasStrs
      rw [List.length_map, List.length_range]
      refine row_of (by decide) hl hm (by simp) (fun j hj => ?_)
      have hj2 : j < l := by omega
      rw [(hr j (by omega)).1]
      simp [hj2, strV]
    · obtain ⟨i, hi, rfl⟩ := List.mem_map.1 hz
      have := (hr i (by have := List.mem_range.1 hi; omega)).2
      unfold maxLen at this
      have e : (Sx i).data.toList.length = (Sx i).size := Array.length_toList
      omega
theorem putCs_get (ps : List PutT) (j : Nat) (hj : j < ps.length * 2) : (putCs ps)[j]? = if j % 2 = 0 then (ps[j / 2]?).map (fun p => Value.int .i64 p.1) else (ps[j / 2]?).map (fun p => strV p.2) := by
  have h := putCs_at ps (j / 2) (by omega)
  rw [List.getElem?_eq_getElem (by omega : j / 2 < ps.length)]
  split
  · have e : (putCs ps)[j]? = (putCs ps)[2 * (j / 2)]? := by congr 1; omega
    rw [e, h.1]; rfl
  · have e : (putCs ps)[j]? = (putCs ps)[2 * (j / 2) + 1]? := by congr 1; omega
    rw [e, h.2]; rfl
theorem open_puts_row {v : Value} {fuel : Nat} {x : DataW H × List MemPlace} (h : DataW.trod enc Try.prog W base spare held fuel 26 [v] = some x) : ∃ zs, HasPuts W v zs ∧ ∀ p ∈ zs, (-9223372036854775808 ≤ p.1 ∧ p.1 ≤ 9223372036854775807) ∧ p.2.length ≤ 9223372036854775807 := by
  rcases Go.Deep.open_slice_pairs Try.underlying26 Try.underlying123 (by kernel_rfl) rfl rfl (by kernel_rfl) (by kernel_rfl) h with ⟨hcs, _⟩ | ⟨a, l, c, m, n, V0, V1, D0, D1, P0, P1, hcs, _, hl, hm, hmm, _, hr⟩
  · injection hcs with e; subst e
    exact ⟨[], hasRow_nil _ _, by simp⟩
  · injection hcs with e; subst e
    have hlm : l ≤ m := by rw [hmm]; split <;> omega
    have hA : ∀ i, ∃ p : PutT, i < l → V0 i = .int .i64 p.1 ∧ V1 i = strV p.2 ∧ (-9223372036854775808 ≤ p.1 ∧ p.1 ≤ 9223372036854775807) ∧ p.2.length ≤ 9223372036854775807 := fun i => by
      by_cases hi : i < l
      · obtain ⟨_, _, t0, t1⟩ := hr i (by omega)
        obtain ⟨k, e0, _, hw⟩ := DataW.trod_int Try.underlying3 t0
        obtain ⟨s, e1, _, hs⟩ := DataW.trod_string Try.underlying9 t1
        injection e0 with e0; injection e1 with e1
        unfold maxLen at hs
        exact ⟨(k, s.data.toList), fun _ => ⟨e0, by rw [e1]; simp [strV], wf_i64 hw, by have e : s.data.toList.length = s.size := Array.length_toList; simp only; omega⟩⟩
      · exact ⟨(0, []), fun h => absurd h hi⟩
    obtain ⟨F, hF⟩ := Classical.axiomOfChoice hA
    refine ⟨(List.range l).map F, ?_, fun p hp => ?_⟩
    · unfold HasPuts
      rw [List.length_map, List.length_range]
      refine row_of (by decide) hl hm (by rw [putCs_len]; simp) (fun j hj => ?_)
      have hj2 : j / 2 < l := by omega
      obtain ⟨f0, f1, _⟩ := hF (j / 2) hj2
      obtain ⟨c0, c1, _⟩ := hr (j / 2) (by omega)
      rw [putCs_get _ _ (by simp; omega)]
      simp only [List.getElem?_map, List.getElem?_range hj2, Option.map_some]
      split
      · have e : W.cell? (a.add j) = W.cell? (a.add (j / 2 * 2)) := by congr 2; omega
        rw [e, c0, f0]
      · have e : W.cell? (a.add j) = W.cell? (a.add (j / 2 * 2 + 1)) := by congr 2; omega
        rw [e, c1, f1]
    · obtain ⟨i, hi, rfl⟩ := List.mem_map.1 hp
      exact (hF i (List.mem_range.1 hi)).2.2
theorem open_bools_row {v : Value} {fuel : Nat} {x : DataW H × List MemPlace} (h : DataW.trod enc Try.prog W base (fun _ => true) held fuel 23 [v] = some x) : ∃ keep : List Bool, HasRow W v 1 keep.length (keep.map Value.bool) := by
  rcases Go.Deep.open_bools Try.underlying23 Try.underlying4 (by kernel_rfl) h with ⟨hcs, _⟩ | ⟨a, l, c, B, hcs, _, hl, hm, _, hr⟩
  · injection hcs with e; subst e
    exact ⟨[], hasRow_nil _ _⟩
  · injection hcs with e; subst e
    refine ⟨(List.range l).map B, ?_⟩
    rw [List.length_map, List.length_range]
    refine row_of (by decide) hl hm (by simp) (fun j hj => ?_)
    have hj2 : j < l := by omega
    rw [hr j (by omega)]
    simp [hj2]
set_option maxRecDepth 100000 in
theorem open_disk {v : Value} {d : DataW H} {ps : List MemPlace} {r : Reach} {b0 : Nat} (hval : Value.okWide Try.prog W r b0 28 v) (h : DataW.Trod enc Try.prog W base spare held 28 v d ps) : ∃ D : Dk, HasDk W v D ∧ Fits D := by
  obtain ⟨cs, rfl, hsz⟩ := okWide_struct Try.underlying28 hval
  obtain ⟨fuel, hf⟩ := h
  obtain ⟨xs, n, _, _, hlen, hxl, hfs⟩ := DataW.trod_struct Try.underlying28 hf
  rw [show Try.prog.cellsOf 28 = 4 from by kernel_rfl] at hsz
  obtain ⟨s, c, f, o, rfl⟩ : ∃ s c f o, cs = #[s, c, f, o] := by
    obtain ⟨l⟩ := cs
    match l, hsz with
    | [s, c, f, o], _ => exact ⟨s, c, f, o, rfl⟩
  have g0 : DataW.trod enc Try.prog W base spare held n 25 ((([s, c, f, o] : List Value).drop 0).take (Try.prog.cellsOf 25)) = xs[0]? := hfs 0 _ rfl
  have g1 : DataW.trod enc Try.prog W base spare held n 26 ((([s, c, f, o] : List Value).drop 1).take (Try.prog.cellsOf 26)) = xs[1]? := hfs 1 _ rfl
  have g2 : DataW.trod enc Try.prog W base spare held n 3 ((([s, c, f, o] : List Value).drop 2).take (Try.prog.cellsOf 3)) = xs[2]? := hfs 2 _ rfl
  have g3 : DataW.trod enc Try.prog W base spare held n 4 ((([s, c, f, o] : List Value).drop 3).take (Try.prog.cellsOf 4)) = xs[3]? := hfs 3 _ rfl
  have hx4 : xs.length = 4 := hxl
  rw [List.getElem?_eq_getElem (by omega)] at g0 g1 g2 g3
  rw [show Try.prog.cellsOf 25 = 1 from by kernel_rfl] at g0
  rw [show Try.prog.cellsOf 26 = 1 from by kernel_rfl] at g1
  rw [show Try.prog.cellsOf 3 = 1 from by kernel_rfl] at g2
  rw [show Try.prog.cellsOf 4 = 1 from by kernel_rfl] at g3
  obtain ⟨zs, hs, hzl⟩ := open_strs_row (v := s) g0
  obtain ⟨qs, hp, hql⟩ := open_puts_row (v := c) g1
  obtain ⟨fu, e2, _, hw⟩ := DataW.trod_int Try.underlying3 g2
  obtain ⟨ob, e3, _⟩ := DataW.trod_bool Try.underlying4 g3
  have e2' : f = .int .i64 fu := by injection e2
  have e3' : o = .bool ob := by injection e3
  subst e2' e3'
  exact ⟨⟨zs, qs, fu, ob⟩, ⟨s, c, rfl, hs, hp⟩, wf_i64 hw, hzl, hql⟩
end
end Go.Proofs.Ytajcmgccclemdab.Disk
namespace Go.Proofs.Ytajcmgccclemdab
namespace topPages
open Go.ChangeShapes Go.WideShapes Go.ChangeAt Go.RowKit
open Go.ChangeMaps (open_string shut_string)
open Go.Proofs.Ytajcmgccclemdab.Page
open Go.Proofs.Ytajcmgccclemdab.Man
open Go.Proofs.Ytajcmgccclemdab.Disk (Dk VDk VBox HasRow Back back_of flushD writeD crashD makeD outD outD_ok allH Fits fits_ok Ok heldD held_ok set4_below set4_grown)

theorem own : ownKnob Try.prog.godebug = none := by kernel_rfl
theorem laidOut : laidOutB Try.prog = true := by kernel_rfl
theorem vdk_fuse {W : World} {b : Nat} {d : Dk} (h : VDk W b d) (f : Int) : VDk (W.setCell ⟨b, 2, none⟩ (.int .i64 f)) b ⟨d.secs, d.cache, f, d.off⟩ := by
  have hn := h.ne
  obtain ⟨so, sc, co, cc, h1, h2, h3⟩ := h
  have hg : W.grownBy (W.setCell ⟨b, 2, none⟩ (.int .i64 f)) (some b) := grown_cell _ _ _ _
  exact ⟨so, sc, co, cc, heap_setCell_same W b 2 _ _ _ h1, h2.box hn hg, h3.box hn hg⟩
def m0 (c : Nat) : ManT := (1, [(0, 1, (c : Int))])
theorem m0_ok (c : Nat) (h : c ≤ 30) : okM (m0 c) = true := by
  unfold m0 okM okP okP mayB
  simp
  omega
theorem m0_fit (c : Nat) (h : c ≤ 30) : FitM (m0 c) := ⟨by show 1 < _; decide, fun p hp => by
  obtain rfl : p = (0, 1, (c : Int)) := by simpa [m0] using hp
  exact ⟨by show -9223372036854775808 ≤ (0 : Int) ∧ (0 : Int) ≤ _; decide, by show 1 < _; decide, by simp only; omega⟩⟩
theorem m0_has (W : World) (c : Nat) : HasParts (W.alloc (.cells #[.int .i64 0, .int .u64 1, .int .i64 (c : Int)] 54)) (.slice (some ⟨W.heap.size, 0, none⟩) 1 1) (m0 c).2 := by
  have hr := RowAt.new W (partCs (m0 c).2) 54
  refine ⟨rfl, .inr ⟨_, _, rfl, Nat.le_refl _, by decide, fun _ => ⟨rfl, by simp⟩, fun j hj => ?_⟩⟩
  rw [addr_add, Nat.zero_add]
  exact hr.cell j
/-- a row from its third place on -/
theorem has_drop2 {W : World} {b i cap : Nat} {zs : List (List UInt8)} (h : Disk.HasStrs W (.slice (some ⟨b, i, none⟩) zs.length cap) zs) (h2 : 2 ≤ zs.length) (n k : Nat) (hn : n = zs.length - 2) : HasStrs W (.slice (some ⟨b, i + 2, none⟩) n k) (zs.drop 2) := by
  refine ⟨_, _, by rw [List.length_drop, hn], fun j hj => ?_⟩
  rw [List.length_drop] at hj
  obtain ⟨_, b', i', e, hlt, hc⟩ := HasRow.at h (by omega)
  injection e with e; injection e with e1 e2; subst e1; subst e2
  refine ⟨b, i + 2, rfl, ?_, hlt⟩
  have := hc (2 + j) (by omega)
  rw [show i + 2 + j = i + (2 + j) by omega, this, List.getElem?_map, List.getElem?_eq_getElem (by omega), List.getElem_drop]
  rfl
theorem pages_len (t : Nat) (l : List UInt8) : ∀ z ∈ splitL t l, z.length = 128 := fun z hz => by
  obtain ⟨k, hk, rfl⟩ := List.mem_iff_getElem.1 hz
  rw [splitL_at]
  exact pageL_len _ _ (pieceL_len l k)
set_option maxHeartbeats 16000000 in
set_option maxRecDepth 20000 in
theorem core (t : Nat) (l : List UInt8) (f : Int) (keep : List Bool) (torn bytes : Int) (ko : Option Addr) (kc : Nat) (w : World) (ht9 : t < 18446744073709551616) (hl9 : l.length ≤ 140737488351232) (hf : -9223372036854775808 ≤ f ∧ f ≤ 9223372036854775807)
    (HK : Hid (HasRow w (.slice ko keep.length kc) 1 keep.length (keep.map Value.bool))) (ht : -9223372036854775808 ≤ torn ∧ torn ≤ 9223372036854775807) (hbt : -9223372036854775808 ≤ bytes ∧ bytes ≤ 9223372036854775807) :
    Calls Try.prog 6 #[.int .u64 (t : Int), .string ⟨l.toArray⟩, .int .i64 f, .slice ko keep.length kc, .int .i64 torn, .int .i64 bytes] w fun e w' => e = .returned (.bool true) ∧ Below w.heap.size w w' := by
  obtain ⟨kl, hkl⟩ : ∃ n, n = keep.length := ⟨_, rfl⟩
  have HKL : Hid (kl = keep.length) := hkl
  rw [← hkl]
  have HBT : Hid ((-9223372036854775808 ≤ torn ∧ torn ≤ 9223372036854775807) ∧ (-9223372036854775808 ≤ bytes ∧ bytes ≤ 9223372036854775807)) := ⟨ht, hbt⟩
  have hti : (t : Int) ≤ 18446744073709551615 := by omega
  have csp := fun W => split_any t l W ht9 (by omega)
  unfold RowsIs at csp
  have HT9 : Hid (t < 18446744073709551616) := ht9
  clear hkl ht hbt ht9
  by_cases hbad : (splitR t l).2 ≠ 0
  · have hy2 : ((splitR t l).2 != 0) = true := by simpa using hbad
    generalize splitR t l = sr at csp hy2
    obtain ⟨P, y⟩ := sr
    simp only at csp hy2
    generalize (⟨l.toArray⟩ : ByteArray) = Lb at csp ⊢
    clear hbad HK HBT
    go_enter Try.func6, Try.ntmps6
    go_wp2_with fail
    go_at_call 15; refine (Frame.begins_any _).mono ?_; rintro e w1 ⟨rfl, hb1⟩
    go_wp2_with fail
    go_at_call 20; refine (csp _).mono ?_; rintro e w2 ⟨v, rfl, o2, hb2⟩
    have hB := below2 hb1 hb2
    go_wp2
    go_ret
    exact ⟨rfl, hB⟩
  · have hsr : splitR t l = (splitL t l, 0) ∧ 1 ≤ t ∧ t ≤ 4611686018427387904 ∧ l.length ≤ 14208 := by
      unfold splitR at hbad ⊢
      split at hbad
      · exact absurd (by decide) hbad
      · rename_i h1
        split at hbad
        · rename_i h2; rw [if_neg h1, if_pos h2]; exact ⟨rfl, by omega, by omega, h2⟩
        · exact absurd (by decide) hbad
    obtain ⟨hsr, ht1, ht2, hl2⟩ := hsr
    rw [hsr] at csp
    simp only at csp
    clear hbad hsr
    have hsl := splitL_len t l
    have HTL : Hid (1 ≤ t ∧ t ≤ 4611686018427387904 ∧ l.length ≤ 14208) := ⟨ht1, ht2, hl2⟩
    obtain ⟨P, hP⟩ : ∃ P, P = splitL t l := ⟨_, rfl⟩
    have HP : Hid (P = splitL t l ∧ (∀ z ∈ P, z.length = 128) ∧ P.length = cntL l) := ⟨hP, by rw [hP]; exact pages_len t l, by rw [hP, hsl]⟩
    obtain ⟨c, hc⟩ : ∃ c, c = P.length := ⟨_, rfl⟩
    have HC : Hid (c = P.length) := hc
    have hc9 : c ≤ 200 := by rw [hc, HP.out.2.2]; unfold cntL; omega
    rw [← hP] at csp
    have csp2 : ∀ W, Calls Try.prog 20 #[.int .u64 (t : Int), .string ⟨l.toArray⟩] W fun e w' => ∃ lo lc, e = .returned (.tuple #[.slice lo c lc, .int .i64 0]) ∧ HasStrs w' (.slice lo c lc) P ∧ Below W.heap.size W w' := fun W => by
      refine (csp W).mono ?_
      rintro e w' ⟨v, rfl, o2, hb⟩
      have h2 := has_own o2
      obtain ⟨lo, lc, ev, _⟩ := h2
      refine ⟨lo, lc, by rw [ev, hc], by rw [hc, ← ev]; exact has_own o2, hb⟩
    obtain ⟨Lb, hLb⟩ : ∃ X : ByteArray, X = ⟨l.toArray⟩ := ⟨_, rfl⟩
    have HLB : Hid (Lb = ⟨l.toArray⟩) := hLb
    rw [← hLb] at csp2 ⊢
    clear csp hP hc hsl ht1 ht2 hl2 hLb
    by_cases h30 : 30 < c
    · have h30i : decide ((30 : Int) < (c : Int)) = true := by rw [decide_eq_true_iff]; omega
      have h30n : decide (30 < c) = true := by rw [decide_eq_true_iff]; omega
      go_enter Try.func6, Try.ntmps6
      go_wp2_with fail
      go_at_call 15; refine (Frame.begins_any _).mono ?_; rintro e w1 ⟨rfl, hb1⟩
      go_wp2_with fail
      go_at_call 20; refine (csp2 _).mono ?_; rintro e w2 ⟨lo, lc, rfl, hls, hb2⟩
      have hB := below2 hb1 hb2
      clear hls
      go_wp2
      go_ret
      exact ⟨rfl, hB⟩
    · have h30i : decide ((30 : Int) < (c : Int)) = false := by rw [decide_eq_false_iff_not]; omega
      have h30n : decide (30 < c) = false := by rw [decide_eq_false_iff_not]; omega
      have hc30 : c ≤ 30 := by omega
      have hci : (c : Int) ≤ 30 := by omega
      clear h30 hc9
      have cmk := fun W => (Disk.make_fn 40 W (by omega)).mono (fun e w' h => back_of h)
      rw [show (makeD 40).2 = 0 from rfl] at cmk
      unfold Back at cmk
      have HWR : Hid (Wr P 0 ⟨(makeD 40).1.secs, (makeD 40).1.cache, max f (-1), (makeD 40).1.off⟩) := wr_make P (max f (-1)) (by omega) (by omega)
      generalize (makeD 40).1 = D0 at cmk HWR
      go_enter Try.func6, Try.ntmps6
      go_wp2_with fail
      go_at_call 15; refine (Frame.begins_any _).mono ?_; rintro e w1 ⟨rfl, hb1⟩
      go_wp2_with fail
      go_at_call 20; refine (csp2 _).mono ?_; rintro e w2 ⟨lo, lc, rfl, hls, hb2⟩
      have hB := below2 hb1 hb2
      clear csp2 hb1 hb2
      go_wp2_with fail
      go_at_call 8; refine (cmk _).mono ?_; rintro e w3 ⟨s1, s2, s3, s4, rfl, hs3, hc3, hb3⟩
      obtain ⟨X, hX⟩ : ∃ X, X = w3.alloc (.cells #[.slice s1 D0.secs.length s2, .slice s3 D0.cache.length s4, .int .i64 D0.fuse, .bool D0.off] 28) := ⟨_, rfl⟩
      obtain ⟨bd, hbd⟩ : ∃ b, b = w3.heap.size := ⟨_, rfl⟩
      have hbX : Below w3.heap.size w3 X := by rw [hX]; exact (Below.refl _ _).alloc (Nat.le_refl _) _
      have VX : VDk X bd D0 := by rw [hX, hbd]; exact VDk.new hs3 hc3
      have hb3X := below2 hb3 hbX
      have hbd0 : w.heap.size ≤ bd := by have := (below2 hB hb3).size; omega
      have hbd2 : w2.heap.size ≤ bd := by have := hb3.size; omega
      have HLS : Hid (∀ W, Below w2.heap.size w2 W → HasStrs W (.slice lo c lc) P) := fun W hb => hls.keep hb
      have hBX := below2 hB hb3X
      go_upto_region 7 with fail
      rw [← hX, ← hbd]
      clear hX hbd hbX hb3 hs3 hc3 cmk hls
      have VXX := VX
      obtain ⟨u1, u2, u3, u4, vb, _, _⟩ := VXX
      obtain ⟨q0, q1, q2, q3, qf⟩ := vb.cells
      obtain ⟨W1, hW1⟩ : ∃ W1, W1 = X.setCell ⟨bd, 2, none⟩ (.int .i64 (max f (-1))) := ⟨_, rfl⟩
      have V1 : Hid (VDk W1 bd ⟨D0.secs, D0.cache, max f (-1), D0.off⟩) := by rw [hW1]; exact vdk_fuse VX (max f (-1))
      have hB1 : Below w.heap.size w W1 := by rw [hW1]; exact hBX.setCell (p := ⟨bd, 2, none⟩) hbd0 _
      have hB2 : Below w2.heap.size w2 W1 := by rw [hW1]; exact hb3X.setCell (p := ⟨bd, 2, none⟩) hbd2 _
      go_upto_region 8 with fail
      rw [← hW1]
      clear hW1 q0 q1 q2 q3 qf vb hBX hb3X
      go_wp2_with fail
      go_loopw [17, 58] (fun no i wr => ∃ (k : Nat) (D : Dk) (y : Int), k ≤ c ∧ i = .int .i64 k ∧ no = .int .i64 y ∧ Hid (VDk wr bd D ∧ ((y = 0 ∧ Wr P k D) ∨ (y = 9 ∧ Gone D))) ∧ Below w.heap.size w wr ∧ Below w2.heap.size w2 wr) (fun _ i _ => c - (intOf i).toNat)
      case atStart => exact ⟨0, _, 0, by omega, rfl, rfl, ⟨V1.out, .inl ⟨rfl, HWR.out⟩⟩, hB1, hB2⟩
      case round =>
        obtain ⟨k, D, y, hk, rfl, rfl, HV, hB, hB2⟩ := hrel
        clear HWR V1 hB1
        by_cases hlt : k < c
        · have hkz : k < P.length := by rw [← HC.out]; exact hlt
          obtain ⟨o, cp, eo, hcs⟩ := HLS.out wr hB2
          injection eo with eo1 eo2 eo3
          obtain ⟨b, i, eb, hcell, hbs⟩ := hcs k hkz
          rw [← eo1] at eb
          subst eb
          clear eo1 eo2 eo3 hcs
          unfold Page.strV at hcell
          have hki : (k : Int) < (c : Int) := by omega
          have hv := HV.out
          rcases hv with ⟨hv1, ⟨rfl, hwr⟩ | ⟨rfl, hgo⟩⟩
          · have hww := wr_write hwr hkz (by rw [← HC.out]; exact hc30) HP.out.2.1
            have hzl := HP.out.2.1 P[k] (List.getElem_mem hkz)
            obtain ⟨s1, s2, s3, s4, vb, hs, hc⟩ := hv1
            obtain ⟨q0, q1, q2, q3, qf⟩ := vb.cells
            have cw := (Disk.write_fn D _ ((2 + k : Nat) : Int) P[k] wr ⟨_, _, rfl, hs, hc⟩ (fits_ok hwr.ok hwr.fuse) (by omega) (by omega)).mono (fun e w' h => back_of h)
            rw [outD_ok hwr.ok] at cw
            unfold Disk.strV at cw
            generalize writeD D ((2 + k : Nat) : Int) P[k] = r at cw hww
            obtain ⟨D2, y2⟩ := r
            unfold Back at cw
            simp only at cw hww
            rw [show ((2 + k : Nat) : Int) = 2 + (k : Int) by omega] at cw
            generalize (⟨(P[k]).toArray⟩ : ByteArray) = Pk at cw hcell
            have hw2 : IntKind.i64.wrap (2 + (k : Int)) = 2 + (k : Int) := by rw [IntKind.wrap_i64]; omega
            have HWW : Hid ((y2 = 0 ∧ Wr P (k + 1) D2) ∨ (y2 = 9 ∧ Gone D2)) := hww
            have HVB : Hid (VDk wr bd D) := HV.out.1
            clear hww hwr HV
            go_wp2_with fail
            go_at_call 17; refine cw.mono ?_; rintro e w6 ⟨a1, a2, a3, a4, rfl, hs6, hc6, hb6⟩
            obtain ⟨g0, g1, g2, g3, gf⟩ := (vb.below hb6).cells
            have VN : Hid (VDk ((((w6.setCell ⟨bd, 0, none⟩ (.slice a1 D2.secs.length a2)).setCell ⟨bd, 1, none⟩ (.slice a3 D2.cache.length a4)).setCell ⟨bd, 2, none⟩ (.int .i64 D2.fuse)).setCell ⟨bd, 3, none⟩ (.bool D2.off)) bd D2) := (HVB.out.below hb6).store hs6 hc6
            have hBN := set4_below (below2 hB hb6) hbd0 (.slice a1 D2.secs.length a2) (.slice a3 D2.cache.length a4) (.int .i64 D2.fuse) (.bool D2.off)
            have hBN2 := set4_below (below2 hB2 hb6) hbd2 (.slice a1 D2.secs.length a2) (.slice a3 D2.cache.length a4) (.int .i64 D2.fuse) (.bool D2.off)
            clear q0 q1 q2 q3 qf vb hs hc cw hs6 hc6 hb6 HVB hcell
            go_wp2_with fail
            go_roundw
            case rel => exact ⟨k + 1, D2, y2, by omega, by go_num, rfl, ⟨VN.out, HWW.out⟩, hBN, hBN2⟩
            case measure => simp [intOf]; omega
          · go_wp2_with fail
            go_roundw
            case rel => exact ⟨k + 1, D, 9, by omega, by go_num, rfl, ⟨hv1, .inr ⟨rfl, hgo⟩⟩, hB, hB2⟩
            case measure => simp [intOf]; omega
        · obtain rfl : c = k := by omega
          have HMO : Hid (okM (m0 c) = true ∧ FitM (m0 c)) := ⟨m0_ok c hc30, m0_fit c hc30⟩
          have HCN : Hid (cntL l ≤ 30) := by show _ ≤ _; rw [← HP.out.2.2, ← HC.out]; exact hc30
          have hv := HV.out
          have HVB : Hid (VDk wr bd D) := HV.out.1
          clear HV hB2 hlt
          rcases hv with ⟨hv1, ⟨rfl, hwr⟩ | ⟨rfl, hgo⟩⟩
          any_goals
            have hEN := gone_crash hgo keep torn bytes
            obtain ⟨W5, hW5⟩ : ∃ W, W = wr := ⟨_, rfl⟩
            obtain ⟨D5, hD5⟩ : ∃ X, X = D := ⟨_, rfl⟩
            have V5 : Hid (VDk W5 bd D5) := by rw [hW5, hD5]; exact hv1
            have HOK5 : Hid (Ok D5 ∧ D5.fuse ≤ 9223372036854775807) := by rw [hD5]; exact ⟨hgo.ok, hgo.fuse⟩
            have hB5 : Below w.heap.size w W5 := by rw [hW5]; exact hB
            rw [← hD5] at hEN
            go_upto_region 19 with fail
            rw [← hW5]
            clear hD5 hW5 hv1 hgo hB HVB
          any_goals
            have hwr : Wr P P.length D := by rw [← HC.out]; exact hwr
            have hfl := wr_flush hwr
            obtain ⟨s1, s2, s3, s4, vb, hs, hc⟩ := hv1
            obtain ⟨q0, q1, q2, q3, qf⟩ := vb.cells
            have cf := (Disk.flush_fn D _ wr ⟨_, _, rfl, hs, hc⟩ (fits_ok hwr.ok hwr.fuse)).mono (fun e w' h => back_of h)
            rw [outD_ok hwr.ok] at cf
            generalize flushD D = rf at cf hfl
            obtain ⟨D1, y1⟩ := rf
            unfold Back at cf
            simp only at cf hfl
            have HFL : Hid ((y1 = 0 ∧ Fl P D1) ∨ (y1 = 9 ∧ Gone D1)) := hfl
            clear hfl hwr
            go_wp2_with fail
            go_at_call 10; refine cf.mono ?_; rintro e w4 ⟨b1, b2, b3, b4, rfl, hs4, hc4, hb4⟩
            obtain ⟨W4, hW4⟩ : ∃ W4, W4 = (((w4.setCell ⟨bd, 0, none⟩ (.slice b1 D1.secs.length b2)).setCell ⟨bd, 1, none⟩ (.slice b3 D1.cache.length b4)).setCell ⟨bd, 2, none⟩ (.int .i64 D1.fuse)).setCell ⟨bd, 3, none⟩ (.bool D1.off) := ⟨_, rfl⟩
            have V4 : Hid (VDk W4 bd D1) := by rw [hW4]; exact (HVB.out.below hb4).store hs4 hc4
            have hB4 : Below w.heap.size w W4 := by rw [hW4]; exact set4_below (below2 hB hb4) hbd0 _ _ _ _
            have vb4 := vb.below hb4
            clear q0 q1 q2 q3 qf vb hs hc cf hs4 hc4 hb4 HVB hB
            obtain ⟨q0, q1, q2, q3, qf⟩ := vb4.cells
            go_upto_region 17 with fail
            rw [← hW4]
            clear hW4 q0 q1 q2 q3 qf vb4
            have hfl := HFL.out
            clear HFL
            rcases hfl with ⟨rfl, hFl⟩ | ⟨rfl, hgo⟩
            any_goals
              have hEN := gone_crash hgo keep torn bytes
              obtain ⟨W5, hW5⟩ : ∃ W, W = W4 := ⟨_, rfl⟩
              obtain ⟨D5, hD5⟩ : ∃ X, X = D1 := ⟨_, rfl⟩
              have V5 : Hid (VDk W5 bd D5) := by rw [hW5, hD5]; exact V4.out
              have HOK5 : Hid (Ok D5 ∧ D5.fuse ≤ 9223372036854775807) := by rw [hD5]; exact ⟨hgo.ok, hgo.fuse⟩
              have hB5 : Below w.heap.size w W5 := by rw [hW5]; exact hB4
              rw [← hD5] at hEN
              go_upto_region 19 with fail
              rw [← hW5]
              clear hD5 hW5 hgo hB4 V4
            any_goals
              have hFl2 := hFl
              rw [HP.out.1] at hFl2
              have hsv := fl_save hFl2 HMO.out.1 rfl
              obtain ⟨s1, s2, s3, s4, vb, hs, hc⟩ := V4.out
              obtain ⟨q0, q1, q2, q3, qf⟩ := vb.cells
              have hbY : Below W4.heap.size W4 (W4.alloc (.cells #[.int .i64 0, .int .u64 1, .int .i64 (c : Int)] 54)) := (Below.refl _ _).alloc (Nat.le_refl _) _
              have csv := (save_any D1 (m0 c) _ _ (W4.alloc (.cells #[.int .i64 0, .int .u64 1, .int .i64 (c : Int)] 54)) ⟨_, _, rfl, hs.keep hbY, hc.keep hbY⟩ (fits_ok hFl.ok hFl.fuse) (m0_has W4 c) HMO.out.2 (fun hk W v h => Disk.fresh_any D1 v W h hk)).mono (fun e w' h => back_of h)
              generalize saveM D1 (m0 c) = rs at csv hsv
              obtain ⟨D2, y2⟩ := rs
              unfold Back at csv
              simp only at csv hsv
              rw [show ((m0 c).1 : Int) = 1 from rfl] at csv
              have HSV : Hid (((y2 = 0 ∧ D2.cache = [] ∧ D2.secs = D1.secs.set 1 (sectL (m0 c)) ∧ Ok D2 ∧ D2.fuse ≤ 9223372036854775807) ∨ (y2 = 9 ∧ D2.cache = [(1, sectL (m0 c))] ∧ D2.secs = D1.secs ∧ Ok D2 ∧ D2.fuse ≤ 9223372036854775807)) ∧ Fl (splitL t l) D1) := ⟨hsv, hFl2⟩
              clear hsv hFl hFl2
              go_wp2_with fail
              go_at_call 21; refine csv.mono ?_; rintro e w5 ⟨a1, a2, a3, a4, rfl, hs5, hc5, hb5⟩
              have hb45 := below2 hbY hb5
              obtain ⟨W5, hW5⟩ : ∃ W5, W5 = (((w5.setCell ⟨bd, 0, none⟩ (.slice a1 D2.secs.length a2)).setCell ⟨bd, 1, none⟩ (.slice a3 D2.cache.length a4)).setCell ⟨bd, 2, none⟩ (.int .i64 D2.fuse)).setCell ⟨bd, 3, none⟩ (.bool D2.off) := ⟨_, rfl⟩
              have V5 : Hid (VDk W5 bd D2) := by rw [hW5]; exact (V4.out.below hb45).store hs5 hc5
              have hB5 : Below w.heap.size w W5 := by rw [hW5]; exact set4_below (below2 hB4 hb45) hbd0 _ _ _ _
              have vb5 := vb.below hb45
              clear q0 q1 q2 q3 qf vb hs hc csv hs5 hc5 hb5 hbY hb45 V4 hB4
              obtain ⟨q0, q1, q2, q3, qf⟩ := vb5.cells
              go_upto_region 19 with fail
              rw [← hW5]
              clear hW5 q0 q1 q2 q3 qf vb5
              obtain ⟨D5, hD5⟩ : ∃ X, X = D2 := ⟨_, rfl⟩
              rw [← hD5] at V5
              have HOK5 : Hid (Ok D5 ∧ D5.fuse ≤ 9223372036854775807) := by
                rw [hD5]
                rcases HSV.out.1 with ⟨_, _, _, h1, h2⟩ | ⟨_, _, _, h1, h2⟩ <;> exact ⟨h1, h2⟩
              have hend : (y2 = 0 ∧ EndL t l (m0 c) (crashD D5 keep torn bytes).1) ∨ (y2 = 9 ∧ (EndL t l (m0 c) (crashD D5 keep torn bytes).1 ∨ EndN (crashD D5 keep torn bytes).1)) := by
                rw [hD5]
                obtain ⟨t1, t2, t3⟩ := HTL.out
                rcases HSV.out.1 with ⟨h0, h1, h2, h3, _⟩ | ⟨h0, h1, h2, h3, _⟩
                · exact .inl ⟨h0, sv_crash HSV.out.2 HMO.out.1 t1 t2 t3 HCN.out h3 h1 h2 keep torn bytes⟩
                · exact .inr ⟨h0, pw_crash HSV.out.2 HMO.out.1 rfl t1 t2 t3 HCN.out h3 h1 h2 keep torn bytes⟩
              clear hD5 HSV
              rcases hend with ⟨rfl, hEL⟩ | ⟨rfl, hEL | hEN⟩
          all_goals
            obtain ⟨G, hG⟩ : ∃ G, G = (crashD D5 keep torn bytes).1 := ⟨_, rfl⟩
            have hcr : crashD D5 keep torn bytes = (G, 0) := by rw [hG]; rfl
            have hcom : Ok G ∧ G.fuse ≤ 9223372036854775807 ∧ (allH G).length = 40 := by
              rw [hG]
              first | exact ⟨hEN.ok, hEN.fuse, hEN.len⟩ | exact ⟨hEL.ok, hEL.fuse, hEL.len⟩
            obtain ⟨s1, s2, s3, s4, vb, hs, hc⟩ := V5.out
            obtain ⟨q0, q1, q2, q3, qf⟩ := vb.cells
            have ccr := (Disk.crash_fn D5 _ (.slice ko keep.length kc) keep torn bytes W5 ⟨_, _, rfl, hs, hc⟩ (fits_ok HOK5.out.1 HOK5.out.2) (HasRow.keep' HK.out hB5) HBT.out.1 HBT.out.2).mono (fun e w' h => back_of h)
            rw [outD_ok HOK5.out.1, hcr, ← HKL.out] at ccr
            unfold Back at ccr
            simp only at ccr
            have HCOM : Hid (Ok G ∧ G.fuse ≤ 9223372036854775807 ∧ (allH G).length = 40) := hcom
            have HEND : Hid (EndN G ∨ EndL t l (m0 c) G) := by
              rw [hG]
              first | exact .inl hEN | exact .inr hEL
            first
              | (have HX : Hid (EndN G) := by rw [hG]; exact hEN
                 clear hEN)
              | (have HX : Hid (EndL t l (m0 c) G) := by rw [hG]; exact hEL
                 clear hEL)
            clear hG hcr hcom
            go_wp2_with fail
            go_at_call 11; refine ccr.mono ?_; rintro e w6 ⟨b1, b2, b3, b4, rfl, hs6, hc6, hb6⟩
            obtain ⟨W6, hW6⟩ : ∃ W6, W6 = (((w6.setCell ⟨bd, 0, none⟩ (.slice b1 G.secs.length b2)).setCell ⟨bd, 1, none⟩ (.slice b3 G.cache.length b4)).setCell ⟨bd, 2, none⟩ (.int .i64 G.fuse)).setCell ⟨bd, 3, none⟩ (.bool G.off) := ⟨_, rfl⟩
            have V6 : Hid (VDk W6 bd G) := by rw [hW6]; exact (V5.out.below hb6).store hs6 hc6
            have hB6 : Below w.heap.size w W6 := by rw [hW6]; exact set4_below (below2 hB5 hb6) hbd0 _ _ _ _
            have vb6 := vb.below hb6
            clear q0 q1 q2 q3 qf vb hs hc ccr hs6 hc6 hb6 V5 hB5
            obtain ⟨q0, q1, q2, q3, qf⟩ := vb6.cells
            go_upto_region 22 with fail
            rw [← hW6]
            clear hW6 q0 q1 q2 q3 qf vb6
            obtain ⟨s1, s2, s3, s4, vb, hs, hc⟩ := V6.out
            obtain ⟨q0, q1, q2, q3, qf⟩ := vb.cells
            have cl := load_any G _ W6 ⟨_, _, rfl, hs, hc⟩ (fits_ok HCOM.out.1 HCOM.out.2.1)
            obtain ⟨ml, hml⟩ : ∃ x, x = loadM G := ⟨_, rfl⟩
            rw [← hml] at cl
            have HML : Hid (ml = loadM G) := hml
            clear hml
            unfold ManIs at cl
            go_wp2_with fail
            go_at_call 22; refine cl.mono ?_; rintro e w7 ⟨v7, rfl, hxp, hb7⟩
            obtain ⟨xo, xc, rfl, _, _⟩ := hxp.form
            obtain ⟨X7, hX7⟩ : ∃ X, X = w7.alloc (.cells #[.int .u64 (ml.1.1 : Int), .slice xo ml.1.2.length xc] 57) := ⟨_, rfl⟩
            obtain ⟨bx, hbx⟩ : ∃ b, b = w7.heap.size := ⟨_, rfl⟩
            have hbX7 : Below w7.heap.size w7 X7 := by rw [hX7]; exact (Below.refl _ _).alloc (Nat.le_refl _) _
            have hb77 := below2 hb7 hbX7
            have MX : Hid (MBox X7 bx ml.1.1 (.slice xo ml.1.2.length xc)) := by rw [hX7, hbx]; exact RowAt.new w7 [_, _] _
            have HXP : Hid (HasParts X7 (.slice xo ml.1.2.length xc) ml.1.2) := hxp.keep hbX7
            have V7 : Hid (VDk X7 bd G) := V6.out.below hb77
            have hB7 := below2 hB6 hb77
            go_upto_region 23 with fail
            rw [← hX7, ← hbx]
            clear hX7 hbx hbX7 hb77 hb7 hxp cl q0 q1 q2 q3 qf vb hs hc V6 hB6
            obtain ⟨s1, s2, s3, s4, vb, hs, hc⟩ := V7.out
            obtain ⟨q0, q1, q2, q3, qf⟩ := vb.cells
            have chd := Disk.held_fn G _ X7 ⟨_, _, rfl, hs, hc⟩ (fits_ok HCOM.out.1 HCOM.out.2.1)
            rw [held_ok HCOM.out.1] at chd
            unfold Disk.StrsIs at chd
            simp only at chd
            go_wp2_with fail
            go_at_call 18; refine chd.mono ?_; rintro e w8 ⟨u, rfl, hhs, hb8⟩
            obtain ⟨ho, hcap, rfl, hh1, hh2⟩ := HasRow.slice hhs
            have hB8 := below2 hB7 hb8
            have MX : Hid (MBox w8 bx ml.1.1 (.slice xo ml.1.2.length xc)) := RowAt.below MX.out hb8
            have HXP : Hid (HasParts w8 (.slice xo ml.1.2.length xc) ml.1.2) := HXP.out.keep hb8
            have HHS : Hid (Disk.HasStrs w8 (.slice ho (allH G).length hcap) (allH G)) := hhs
            rw [HCOM.out.2.2]
            clear q0 q1 q2 q3 qf vb hs hc chd V7 hb8 hB7 hhs
            first
              | (have h3 : ml.2 = 3 := by rw [HML.out, HX.out.load]
                 rw [h3]
                 clear h3 MX HXP HHS
                 go_wp2
                 go_ret
                 exact ⟨rfl, hB8⟩)
              | (have h3 : ml = (m0 c, 0) := by rw [HML.out]; exact EndL.load HX.out
                 have h31 : ml.1 = m0 c := by rw [h3]
                 have h32 : ml.2 = 0 := by rw [h3]
                 rw [h32]
                 have m1 : w8.cell? ⟨bx, 1, none⟩ = some (.slice xo 1 xc) := by
                   have := (MBox.cells MX.out).2
                   rw [h31] at this
                   exact this
                 have hbx8 : bx < w8.heap.size := RowAt.lt MX.out
                 obtain ⟨xo2, xc2, ex, _, hpc⟩ := HXP.out.form
                 injection ex with ex1 ex2 ex3
                 rw [h31] at hpc
                 obtain ⟨pb, pi, epb, hpl, _, _, hp2⟩ := hpc 0 (by show 0 < 1; omega)
                 rw [← ex1] at epb
                 subst epb
                 have hp2 : w8.cell? ⟨pb, pi + 2, none⟩ = some (.int .i64 (c : Int)) := hp2
                 have hhl := HHS.out
                 obtain ⟨_, hb9, hi9, eho, _, _⟩ := HasRow.at hhl (by rw [HCOM.out.2.2]; omega)
                 subst eho
                 have hcap40 : 40 ≤ hcap := by rw [← HCOM.out.2.2]; exact hh1
                 have hcapi : (40 : Int) ≤ (hcap : Int) := by omega
                 have hcapj : (hcap : Int) ≤ 9223372036854775807 := by omega
                 have HJ := EndL.join HX.out
                 have hlz := HTL.out.2.2
                 have cj : ∀ K, Calls Try.prog 23 #[.slice (some ⟨hb9, hi9 + 2, none⟩) 38 K, .int .u64 (t : Int)] w8 fun e w' => e = .returned (.tuple #[.string Lb, .int .i64 (c : Int)]) ∧ Below w8.heap.size w8 w' := fun K => by
                   have h9 := join_any (.slice (some ⟨hb9, hi9 + 2, none⟩) 38 K) ((allH G).drop 2) t w8 (has_drop2 hhl (by rw [HCOM.out.2.2]; omega) 38 K (by rw [HCOM.out.2.2])) HT9.out (by rw [List.length_drop, HCOM.out.2.2]; omega)
                     (fun z hz => by rw [Disk.allH_whole HCOM.out.1 z (List.mem_of_mem_drop hz)]; omega) (by rw [HJ]; show l.length ≤ _; omega)
                   rw [HJ] at h9
                   simp only at h9
                   rw [← HLB.out, ← HP.out.2.2, ← HC.out] at h9
                   exact h9
                 have hLL : (Lb.toList == Lb.toList) = true := by simp
                 clear hhl HJ hlz ex1 ex2 ex3 hpc h3 h31 h32 MX HXP HHS hh1
                 go_wp2_with fail
                 go_at_call 23; refine (cj _).mono ?_; rintro e w9 ⟨rfl, hb99⟩
                 have hB9 := below2 hB8 hb99
                 have m1 := (hb99.cell (p := ⟨bx, 1, none⟩) hbx8).trans m1
                 have hp2 := (hb99.cell (p := ⟨pb, pi + 2, none⟩) hpl).trans hp2
                 clear cj hb99
                 go_wp2
                 go_ret
                 exact ⟨rfl, hB9⟩)
theorem walk (a0 : Int) (a1 : ByteArray) (a2 : Int) (v3 : Value) (z3 : List Bool) (a4 a5 : Int) (w : World) (b0 : 0 ≤ a0 ∧ a0 ≤ 18446744073709551615) (b1 : a1.size ≤ 140737488351232) (b2 : -9223372036854775808 ≤ a2 ∧ a2 ≤ 9223372036854775807)
    (b3 : HasRow w v3 1 z3.length (z3.map Value.bool)) (b4 : -9223372036854775808 ≤ a4 ∧ a4 ≤ 9223372036854775807) (b5 : -9223372036854775808 ≤ a5 ∧ a5 ≤ 9223372036854775807) :
    Calls Try.prog 6 #[.int .u64 a0, .string a1, .int .i64 a2, v3, .int .i64 a4, .int .i64 a5] w fun e w' => e = .returned (.bool true) ∧ Below w.heap.size w w' := by
  obtain ⟨ko, kc, rfl, _, _⟩ := HasRow.slice b3
  obtain ⟨l, rfl, hl⟩ := Frame.str_list a1
  obtain ⟨t, rfl⟩ := Int.eq_ofNat_of_zero_le b0.1
  exact core t l a2 z3 a4 a5 ko kc w (by omega) (by omega) b2 b3 b4 b5

set_option maxRecDepth 100000 in
theorem lifted (os : Os) (started : os.Started) (H : Type) (enc : TypeId × Value → H) :
    ReturnsInHanded {} Try.checked os 6 .any (Rows.topPagesSpec.pre6 enc Try.prog Try.f6 Rows.topPagesRow.domain false) (Rows.topPagesSpec.post enc Try.prog Try.f6 false true false false) := by
  refine returnsInHanded_of_change_sized (C := Try.checked) own started (by kernel_rfl) Try.func6
    (ChangeSpec.witness6 (enc := enc) (C := Try.checked) false ⟨#[], #[.int .u64 0, .string ByteArray.empty, .int .i64 0, .slice none 0 0, .int .i64 0, .int .i64 0], []⟩ 8 (by kernel_rfl) (by kernel_rfl) (by kernel_rfl) (by kernel_rfl)) ?_
  intro W base args ds gs before hval0 hW _ hsz0 _
  have hsz : (DataW.weightsEach Try.prog (Try.f6.params.toList ++ Rows.topPagesSpec.plain.varTypes Try.prog) (ds ++ gs)).all (· ≤ reachBytes) = true := hsz0
  clear hsz0
  have hval : ∀ (j : Nat) t v, Try.f6.params[j]? = some t → args[j]? = some v → Value.okWide Try.prog W .any base t v := hval0
  have hW' := hW
  obtain ⟨p, q, hA0, hV, rfl, hfz, hnd⟩ := hW
  have hA : DataW.TrodAll enc Try.prog W 0 (fun _ => true) true Try.f6.params.toList args.toList ds p := hA0
  rw [Try.params6] at hA hval hsz
  obtain ⟨v0, vs0, d0, ds0, p0, q0, hargs, rfl, rfl, h0, r0⟩ := trodAll_cons hA
  obtain ⟨v1, vs1, d1, ds1, p1, q1, rfl, rfl, rfl, h1, r1⟩ := trodAll_cons r0
  obtain ⟨v2, vs2, d2, ds2, p2, q2, rfl, rfl, rfl, h2, r2⟩ := trodAll_cons r1
  obtain ⟨v3, vs3, d3, ds3, p3, q3, rfl, rfl, rfl, h3, r3⟩ := trodAll_cons r2
  obtain ⟨v4, vs4, d4, ds4, p4, q4, rfl, rfl, rfl, h4, r4⟩ := trodAll_cons r3
  obtain ⟨v5, vs5, d5, ds5, p5, q5, rfl, rfl, rfl, h5, r5⟩ := trodAll_cons r4
  obtain ⟨rfl, rfl, rfl⟩ := trodAll_nil r5
  obtain rfl : args = #[v0, v1, v2, v3, v4, v5] := by cases args; simp_all
  obtain ⟨rfl, rfl⟩ := trodVars_none hV
  obtain ⟨a0, rfl, rfl, rfl, w0⟩ := open_int Try.underlying34 (hval 0 34 v0 rfl rfl) h0
  have b0 : 0 ≤ a0 ∧ a0 ≤ 18446744073709551615 := by simpa [Lit.wf, IntKind.min, IntKind.max, IntKind.signed, IntKind.bits] using w0
  obtain ⟨a1, rfl, rfl, rfl, w1⟩ := open_string Try.underlying9 (hval 1 9 v1 rfl rfl) h1
  have b1 : a1.size ≤ 140737488351232 := by
    have := sized_string hsz (j := 1) (t := 9) rfl rfl
    simpa [reachBytes] using this
  obtain ⟨a2, rfl, rfl, rfl, w2⟩ := open_int Try.underlying3 (hval 2 3 v2 rfl rfl) h2
  have b2 : -9223372036854775808 ≤ a2 ∧ a2 ≤ 9223372036854775807 := by simpa [Lit.wf, IntKind.min, IntKind.max, IntKind.signed, IntKind.bits] using w2
  obtain ⟨a3, len3, cap3, rfl⟩ := okWide_slice Try.underlying23 (hval 3 23 v3 rfl rfl)
  have k3 := h3
  have lt3 : ∀ x ∈ p3, x.block < W.heap.size := by obtain ⟨m, hm⟩ := k3; exact DataW.trod_lt m _ _ _ hm
  obtain ⟨fuel3, hf3⟩ := h3
  obtain ⟨z3, b3⟩ := Disk.open_bools_row hf3
  obtain ⟨a4, rfl, rfl, rfl, w4⟩ := open_int Try.underlying3 (hval 4 3 v4 rfl rfl) h4
  have b4 : -9223372036854775808 ≤ a4 ∧ a4 ≤ 9223372036854775807 := by simpa [Lit.wf, IntKind.min, IntKind.max, IntKind.signed, IntKind.bits] using w4
  obtain ⟨a5, rfl, rfl, rfl, w5⟩ := open_int Try.underlying3 (hval 5 3 v5 rfl rfl) h5
  have b5 : -9223372036854775808 ≤ a5 ∧ a5 ≤ 9223372036854775807 := by simpa [Lit.wf, IntKind.min, IntKind.max, IntKind.signed, IntKind.bits] using w5
  clear hA0 hval0
  refine (walk a0 a1 a2 (.slice a3 len3 cap3) z3 a4 a5 W b0 b1 b2 b3 b4 b5).mono fun e W' ⟨he, bel⟩ => ?_
  subst he
  exact ⟨_, rfl, _, _, _, [], _, [], hW', trodAll_mk1 (shut_bool Try.underlying4 _), (trodAll_cons_mk (shut_int Try.underlying34 w0) (trodAll_cons_mk (shut_string Try.underlying9 w1) (trodAll_cons_mk (shut_int Try.underlying3 w2) (trodAll_cons_mk (Below.trod laidOut (by kernel_rfl) (of_decide_eq_true (by kernel_rfl)) k3 bel lt3) (trodAll_cons_mk (shut_int Try.underlying3 w4) (trodAll_cons_mk (shut_int Try.underlying3 w5) trodAll_mk0)))))), rfl, bel.frame _, fun h => by cases h⟩

theorem over : Rows.topPagesRow.holds Try.pinned (OpenSpec.ofChange Rows.topPagesSpec) :=
  OpenClaim.holds_of_wide 6 Try.f6 rfl rfl rfl rfl rfl rfl rfl ⟨rfl, rfl, rfl, rfl, rfl⟩ rfl rfl rfl rfl rfl (by kernel_rfl) Try.func6 (by kernel_rfl)
    (of_decide_eq_true (by kernel_rfl)) (by unfold Func.isWrapper; first | (rw [if_pos (by decide +kernel)]; kernel_rfl) | (rw [if_neg (by decide +kernel)]; exact ⟨rfl, rfl⟩))
    (fun os started H enc _ => lifted os started H enc)
end topPages
theorem tpages_holds : Rows.TopPagesSaid := topPages.over
#print axioms tpages_holds
end Go.Proofs.Ytajcmgccclemdab
