/- Plain facts of disks: what is written is held; a flush changes nothing that is held; what comes out is right. -/
import Derived.Test.YtoigogjklhahkaaDiskCrash
set_option linter.unusedVariables false
namespace Go.Proofs.Ytoigogjklhahkaa.Disk

/-- what all sectors hold -/
def allH (d : Dk) : List (List UInt8) := settleF wholeF 0 d.secs d.cache
theorem allH_len (d : Dk) : (allH d).length = d.secs.length := settleF_len _ _ _ _
theorem allH_whole {d : Dk} (h : Ok d) : ∀ z ∈ allH d, z.length = 128 := settleF_all wholeF (fun _ => Nat.le_refl _) d.cache 0 d.secs h.whole h.puts
theorem held_ok {d : Dk} (h : Ok d) : heldD d = (allH d, 0) := by unfold heldD allH; rw [ok_mk h]; rfl
theorem outD_ok {d : Dk} (h : Ok d) (r : Dk × Int) : outD d r = r := by unfold outD; rw [ok_mk h]; rfl
theorem fits_ok {d : Dk} (h : Ok d) (hf : d.fuse ≤ 9223372036854775807) : Fits d := by
  refine ⟨⟨by have := h.fuse; omega, hf⟩, fun z hz => by rw [h.whole z hz]; omega, fun p hp => ?_⟩
  obtain ⟨h1, h2⟩ := h.puts p hp
  have h3 : 0 ≤ p.1 ∧ p.1 < (d.secs.length : Int) := by simpa [inB] using h1
  have := h.many
  exact ⟨by omega, by rw [h2]; omega⟩
theorem cutIn_full {data old : List UInt8} (h : data.length = 128) (ho : old.length = 128) : cutIn 128 data old = data := by
  unfold cutIn
  rw [List.take_of_length_le (by omega), List.drop_of_length_le (by omega), List.append_nil]
theorem spendF_ge {f : Int} {o : Bool} (h : -1 ≤ f) : -1 ≤ spendF f o := by unfold spendF; split; exact h; split <;> omega
theorem spendF_le {f : Int} {o : Bool} (h : f ≤ 9223372036854775807) : spendF f o ≤ 9223372036854775807 := by unfold spendF; split; exact h; split <;> omega
/-- what a write comes to -/
theorem write_cases (d : Dk) (at' : Int) (data : List UInt8) :
    ((writeD d at' data).1 = d ∧ (((writeD d at' data).2 = 9 ∧ d.off = true) ∨ (d.off = false ∧ ((writeD d at' data).2 = 1 ∨ (writeD d at' data).2 = 11 ∨ (writeD d at' data).2 = 8)))) ∨
    (d.off = false ∧ inB d.secs.length at' = true ∧ data.length = 128 ∧ d.cache.length < 4096 ∧ writeD d at' data = (⟨d.secs, d.cache ++ [(at', data)], spendF d.fuse d.off, offAfter d.fuse d.off⟩, spendE d.fuse d.off)) := by
  by_cases h1 : d.off = true
  · left; rw [writeD, if_pos h1]; exact ⟨rfl, .inl ⟨rfl, h1⟩⟩
  · have h1' : d.off = false := by simpa using h1
    by_cases h2 : inB d.secs.length at' = false
    · left; rw [writeD, if_neg h1, if_pos h2]; exact ⟨rfl, .inr ⟨h1', .inl rfl⟩⟩
    · have h2' : inB d.secs.length at' = true := by simpa using h2
      by_cases h3 : data.length ≠ 128
      · left; rw [writeD, if_neg h1, if_neg h2, if_pos h3]; exact ⟨rfl, .inr ⟨h1', .inr (.inl rfl)⟩⟩
      · by_cases h4 : 4096 ≤ d.cache.length
        · left; rw [writeD, if_neg h1, if_neg h2, if_neg h3, if_pos h4]; exact ⟨rfl, .inr ⟨h1', .inr (.inr rfl)⟩⟩
        · right; exact ⟨h1', h2', by omega, by omega, by rw [writeD, if_neg h1, if_neg h2, if_neg h3, if_neg h4]⟩
theorem ok_put {d : Dk} (h : Ok d) {at' : Int} {data : List UInt8} (h2 : inB d.secs.length at' = true) (h3 : data.length = 128) (h4 : d.cache.length < 4096) (f : Int) (o : Bool) (hf : -1 ≤ f) : Ok ⟨d.secs, d.cache ++ [(at', data)], f, o⟩ := by
  refine ⟨h.one, h.many, by simp; omega, hf, h.whole, fun p hp => ?_⟩
  simp only [List.mem_append, List.mem_singleton] at hp
  rcases hp with hp | rfl
  · exact h.puts p hp
  · exact ⟨h2, h3⟩
theorem write_ok {d : Dk} (h : Ok d) (at' : Int) (data : List UInt8) : Ok (writeD d at' data).1 := by
  rcases write_cases d at' data with ⟨e, _⟩ | ⟨h1, h2, h3, h4, e⟩
  · rw [e]; exact h
  · rw [e]; exact ok_put h h2 h3 h4 _ _ (spendF_ge h.fuse)
theorem write_fuse {d : Dk} (hf : d.fuse ≤ 9223372036854775807) (at' : Int) (data : List UInt8) : (writeD d at' data).1.fuse ≤ 9223372036854775807 := by
  rcases write_cases d at' data with ⟨e, _⟩ | ⟨h1, h2, h3, h4, e⟩
  · rw [e]; exact hf
  · rw [e]; exact spendF_le hf
theorem allH_put {d : Dk} (h : Ok d) {at' : Int} {data : List UInt8} (h2 : inB d.secs.length at' = true) (h3 : data.length = 128) (f : Int) (o : Bool) : allH ⟨d.secs, d.cache ++ [(at', data)], f, o⟩ = (allH d).set at'.toNat data := by
  unfold allH
  simp only
  rw [settleF_snoc]
  have hin : at'.toNat < d.secs.length := by have : 0 ≤ at' ∧ at' < (d.secs.length : Int) := by simpa [inB] using h2
                                             omega
  have hl := settleF_len wholeF d.cache 0 d.secs
  rw [show wholeF (0 + d.cache.length) = 128 from rfl, cutIn_full h3 (settleF_all wholeF (fun _ => Nat.le_refl _) d.cache 0 d.secs h.whole h.puts _ (getD_mem (by rw [hl]; exact hin)))]
theorem flush_cases (d : Dk) : ((flushD d).2 = 9 ∧ (flushD d).1 = ⟨d.secs, d.cache, spendF d.fuse d.off, true⟩) ∨ ((flushD d).2 = 0 ∧ (flushD d).1 = ⟨allH d, [], spendF d.fuse d.off, false⟩) := by
  unfold flushD
  split
  · exact .inl ⟨rfl, rfl⟩
  · exact .inr ⟨rfl, rfl⟩
theorem flush_ok {d : Dk} (h : Ok d) : Ok (flushD d).1 := by
  rcases flush_cases d with ⟨_, e⟩ | ⟨_, e⟩
  · rw [e]; exact ⟨h.one, h.many, h.few, spendF_ge h.fuse, h.whole, h.puts⟩
  · rw [e]; exact ⟨by rw [allH_len]; exact h.one, by rw [allH_len]; exact h.many, by simp, spendF_ge h.fuse, allH_whole h, by simp⟩
theorem flush_fuse {d : Dk} (hf : d.fuse ≤ 9223372036854775807) : (flushD d).1.fuse ≤ 9223372036854775807 := by
  rcases flush_cases d with ⟨_, e⟩ | ⟨_, e⟩ <;> (rw [e]; exact spendF_le hf)
theorem allH_flush (d : Dk) : allH (flushD d).1 = allH d := by
  rcases flush_cases d with ⟨_, e⟩ | ⟨_, e⟩
  · rw [e]; rfl
  · rw [e]; rfl
theorem crash_ok {d : Dk} (h : Ok d) (keep : List Bool) (torn bytes : Int) : Ok (crashD d keep torn bytes).1 :=
  ⟨by show 1 ≤ (settleF _ _ _ _).length; rw [settleF_len]; exact h.one, by show (settleF _ _ _ _).length ≤ _; rw [settleF_len]; exact h.many, by show 0 ≤ _; omega, by show -1 ≤ (-1 : Int); omega,
   settleF_all _ (partN_le keep torn bytes) d.cache 0 d.secs h.whole h.puts, by intro p hp; exact absurd hp (by show p ∉ []; simp)⟩
end Go.Proofs.Ytoigogjklhahkaa.Disk
