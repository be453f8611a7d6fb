/- Plain facts: what was flushed is there behind a crash, whatever was written elsewhere. -/
import Derived.Test.YtoigogjklhahkaaDiskMath
import Derived.Test.YtoigogjklhahkaaDiskHolds
import Derived.Test.YtoigogjklhahkaaDiskMake2
set_option linter.unusedVariables false
namespace Go.Proofs.Ytoigogjklhahkaa.Disk

theorem settleF_other (part : Nat → Nat) (k : Nat) (ps : List PutT) : ∀ i secs, (∀ p ∈ ps, 0 ≤ p.1 ∧ p.1 ≠ (k : Int)) → (settleF part i secs ps)[k]? = secs[k]? := by
  induction ps with
  | nil => intro i secs _; rfl
  | cons q ps ih =>
    intro i secs h
    rw [settleF, ih _ _ (fun p hp => h p (by simp [hp]))]
    have hq := h q (by simp)
    rw [List.getElem?_set, if_neg (by omega)]
/-- as long as only other sectors were written -/
structure Kept (S : List (List UInt8)) (at' : Int) (d : Dk) : Prop where
  ok : Ok d
  secs : d.secs = S
  fuse : d.fuse = -1
  off : d.off = false
  puts : ∀ p ∈ d.cache, p.1 ≠ at'
theorem Kept.write {S : List (List UInt8)} {at' : Int} {d : Dk} (h : Kept S at' d) (a : Int) (data : List UInt8) (ha : a ≠ at') : Kept S at' (outD d (writeD d a data)).1 := by
  rw [outD_ok h.ok]
  have hok := write_ok h.ok a data
  rcases write_cases d a data with ⟨e, _⟩ | ⟨h1, h2, h3, h4, e⟩
  · rw [e]; exact h
  · rw [e] at hok ⊢
    refine ⟨hok, h.secs, by show spendF _ _ = -1; rw [h.fuse, h.off]; rfl, by show offAfter _ _ = false; rw [h.fuse, h.off]; rfl, fun p hp => ?_⟩
    simp only [List.mem_append, List.mem_singleton] at hp
    rcases hp with hp | rfl
    · exact h.puts p hp
    · exact ha
theorem Kept.crash {S : List (List UInt8)} {at' : Int} {d : Dk} (h : Kept S at' d) (hin : inB S.length at' = true) (keep : List Bool) (torn bytes : Int) : (outD d (crashD d keep torn bytes)).2 = 0 ∧ readD (outD d (crashD d keep torn bytes)).1 at' = (S.getD at'.toNat [], 0) := by
  rw [outD_ok h.ok]
  refine ⟨rfl, ?_⟩
  have hok := crash_ok h.ok keep torn bytes
  have hin2 : 0 ≤ at' ∧ at' < (S.length : Int) := by simpa [inB] using hin
  unfold readD
  rw [if_pos (ok_mk hok), if_neg (by show ¬ (false = true); decide), if_pos (by show inB (settleF _ _ _ _).length at' = true; rw [settleF_len, h.secs]; exact hin)]
  show (holdsL (settleF _ _ _ _) [] at', (0 : Int)) = _
  rw [h.secs]
  unfold holdsL
  simp only [List.reverse_nil, List.find?_nil, Option.map_none, Option.getD_none]
  rw [List.getD_eq_getElem?_getD, List.getD_eq_getElem?_getD, settleF_other _ at'.toNat d.cache 0 S (fun p hp => ?_)]
  have h1 := (h.ok.puts p hp).1
  have h2 : 0 ≤ p.1 ∧ p.1 < (d.secs.length : Int) := by simpa [inB] using h1
  exact ⟨h2.1, by have := h.puts p hp; omega⟩
theorem ok_make {n : Int} (h : 1 ≤ n ∧ n ≤ 1024) : Ok (makeD n).1 ∧ (makeD n).2 = 0 ∧ (makeD n).1.secs.length = n.toNat ∧ (makeD n).1.fuse = -1 ∧ (makeD n).1.off = false ∧ (makeD n).1.cache = [] := by
  unfold makeD
  rw [if_pos h]
  refine ⟨⟨by show 1 ≤ (List.replicate _ _).length; simp; omega, by show (List.replicate _ _).length ≤ _; simp; omega, by show 0 ≤ _; omega, by show -1 ≤ (-1 : Int); omega, fun z hz => ?_, by intro p hp; exact absurd hp (by show p ∉ []; simp)⟩, rfl, by simp, rfl, rfl, rfl⟩
  rw [List.eq_of_mem_replicate hz]; simp [zeroS]
/-- a new disk, written to and flushed -/
theorem kept_begin {n at' : Int} {data : List UInt8} (h1 : (makeD n).2 = 0) (h2 : (outD (makeD n).1 (writeD (makeD n).1 at' data)).2 = 0) :
    let d2 := (outD (makeD n).1 (writeD (makeD n).1 at' data)).1
    (outD d2 (flushD d2)).2 = 0 ∧ ∃ S, Kept S at' (outD d2 (flushD d2)).1 ∧ inB S.length at' = true ∧ S.getD at'.toNat [] = data := by
  have hn : 1 ≤ n ∧ n ≤ 1024 := by
    by_cases h : 1 ≤ n ∧ n ≤ 1024
    · exact h
    · unfold makeD at h1; rw [if_neg h] at h1; simp at h1
  obtain ⟨hok, _, hlen, hf, ho, hc⟩ := ok_make hn
  rw [outD_ok hok] at h2
  intro d2
  rcases write_cases (makeD n).1 at' data with ⟨e, h⟩ | ⟨g1, g2, g3, g4, e⟩
  · exfalso
    rcases h with ⟨h, _⟩ | ⟨_, h | h | h⟩ <;> rw [h] at h2 <;> cases h2
  · have hd2 : d2 = ⟨(makeD n).1.secs, (makeD n).1.cache ++ [(at', data)], spendF (makeD n).1.fuse (makeD n).1.off, offAfter (makeD n).1.fuse (makeD n).1.off⟩ := by show (outD _ _).1 = _; rw [outD_ok hok, e]
    have hok2 : Ok d2 := by rw [hd2]; exact ok_put hok g2 g3 g4 _ _ (spendF_ge hok.fuse)
    rw [outD_ok hok2]
    have hoff : offAfter d2.fuse d2.off = false := by rw [hd2]; show offAfter (spendF _ _) (offAfter _ _) = false; rw [hf, ho]; rfl
    have hfl : flushD d2 = (⟨allH d2, [], spendF d2.fuse d2.off, false⟩, 0) := by unfold flushD; rw [hoff]; rfl
    rw [hfl]
    refine ⟨rfl, allH d2, ⟨?_, rfl, ?_, rfl, fun p hp => absurd hp (by show p ∉ []; simp)⟩, ?_, ?_⟩
    · have := flush_ok hok2; rw [hfl] at this; exact this
    · show spendF d2.fuse d2.off = -1; rw [hd2]; show spendF (spendF _ _) (offAfter _ _) = -1; rw [hf, ho]; rfl
    · rw [allH_len, hd2]; exact g2
    · have hin2 : 0 ≤ at' ∧ at' < ((makeD n).1.secs.length : Int) := by simpa [inB] using g2
      rw [hd2, allH_put hok g2 g3, List.getD_eq_getElem?_getD, List.getElem?_set, if_pos rfl, if_pos (by rw [allH_len]; omega)]
      rfl
end Go.Proofs.Ytoigogjklhahkaa.Disk
