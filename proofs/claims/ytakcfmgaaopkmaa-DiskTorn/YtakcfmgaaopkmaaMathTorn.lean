/- Plain facts: what a sector is behind a crash. -/
import Derived.Test.YtakcfmgaaopkmaaDiskMath
set_option linter.unusedVariables false
namespace Go.Proofs.Ytakcfmgaaopkmaa.Disk

/-- each byte of a sector is one of those that were there, or of one of the writes there -/
def ByteFrom (old : List UInt8) (ps : List PutT) (k j : Nat) (b : Option UInt8) : Prop := b = old[j]? ∨ ∃ p ∈ ps, p.1 = (k : Int) ∧ p.2[j]? = b
theorem cutIn_at (n : Nat) (p z : List UInt8) (j : Nat) (hp : p.length = 128) (hz : z.length = 128) (hn : n ≤ 128) : (cutIn n p z)[j]? = if j < n then p[j]? else z[j]? := by
  unfold cutIn
  rw [List.getElem?_append]
  have hl : (p.take n).length = n := by rw [List.length_take]; omega
  rw [hl]
  split
  · rw [List.getElem?_take, if_pos (by assumption)]
  · rw [List.getElem?_drop, show n + (j - n) = j by omega]
theorem settle_bytes (part : Nat → Nat) (hpart : ∀ i, part i ≤ 128) (k : Nat) (ps : List PutT) : ∀ i secs, k < secs.length → (∀ z ∈ secs, z.length = 128) → (∀ p ∈ ps, inB secs.length p.1 = true ∧ p.2.length = 128) → ∀ j, ByteFrom (secs.getD k []) ps k j ((settleF part i secs ps).getD k [])[j]? := by
  induction ps with
  | nil => intro i secs hk _ _ j; exact .inl rfl
  | cons q ps ih =>
    intro i secs hk hs hp j
    rw [settleF]
    have hq := hp q (by simp)
    have hin : 0 ≤ q.1 ∧ q.1 < (secs.length : Int) := by simpa [inB] using hq.1
    have hq2 : q.1.toNat < secs.length := by omega
    have hold := hs _ (getD_mem hq2)
    have := ih (i + 1) (secs.set q.1.toNat (cutIn (part i) q.2 (secs.getD q.1.toNat []))) (by rw [List.length_set]; exact hk)
      (fun z hz => by rcases mem_set_or hz with hz | rfl; exact hs z hz; exact cutIn_len _ _ _ hq.2 hold (hpart i)) (fun p hpm => by rw [List.length_set]; exact hp p (by simp [hpm])) j
    rcases this with h | ⟨p, hpm, e1, e2⟩
    · by_cases hqk : q.1 = (k : Int)
      · have hkk : q.1.toNat = k := by omega
        rw [hkk] at h hold
        have hcut : (secs.set k (cutIn (part i) q.2 (secs.getD k []))).getD k [] = cutIn (part i) q.2 (secs.getD k []) := by
          rw [List.getD_eq_getElem?_getD, List.getElem?_set, if_pos rfl, if_pos hk]; rfl
        rw [hcut, cutIn_at _ _ _ _ hq.2 hold (hpart i)] at h
        rw [hkk]
        split at h
        · exact .inr ⟨q, by simp, hqk, h.symm⟩
        · exact .inl h
      · have hne : q.1.toNat ≠ k := by omega
        have hcut : (secs.set q.1.toNat (cutIn (part i) q.2 (secs.getD q.1.toNat []))).getD k [] = secs.getD k [] := by
          rw [List.getD_eq_getElem?_getD, List.getElem?_set, if_neg hne, ← List.getD_eq_getElem?_getD]
        rw [hcut] at h
        exact .inl h
    · exact .inr ⟨p, by simp [hpm], e1, e2⟩
/-- a sector that is not the torn write's is what was there, or one of the writes -/
theorem settle_whole_or (keep : List Bool) (torn bytes : Int) (k : Nat) (ps : List PutT) : ∀ (i : Nat) (secs : List (List UInt8)), k < secs.length → (∀ z ∈ secs, z.length = 128) → (∀ p ∈ ps, inB secs.length p.1 = true ∧ p.2.length = 128) →
    (∀ t : Nat, (t : Int) + (i : Int) = torn → ∀ h : t < ps.length, ps[t].1 ≠ (k : Int)) → (settleF (partN keep torn bytes) i secs ps).getD k [] = secs.getD k [] ∨ ∃ p ∈ ps, p.1 = (k : Int) ∧ p.2 = (settleF (partN keep torn bytes) i secs ps).getD k [] := by
  induction ps with
  | nil => intro i secs hk _ _ _; exact .inl rfl
  | cons q ps ih =>
    intro i secs hk hs hp ht
    rw [settleF]
    have hq := hp q (by simp)
    have hin : 0 ≤ q.1 ∧ q.1 < (secs.length : Int) := by simpa [inB] using hq.1
    have hq2 : q.1.toNat < secs.length := by omega
    have hold := hs _ (getD_mem hq2)
    have hpl := partN_le keep torn bytes i
    have := ih (i + 1) (secs.set q.1.toNat (cutIn (partN keep torn bytes i) q.2 (secs.getD q.1.toNat []))) (by rw [List.length_set]; exact hk)
      (fun z hz => by rcases mem_set_or hz with hz | rfl; exact hs z hz; exact cutIn_len _ _ _ hq.2 hold hpl) (fun p hpm => by rw [List.length_set]; exact hp p (by simp [hpm]))
      (fun t e h => by have := ht (t + 1) (by omega) (by simp; omega); simpa using this)
    rcases this with h | ⟨p, hpm, e1, e2⟩
    · by_cases hqk : q.1 = (k : Int)
      · have hkk : q.1.toNat = k := by omega
        have hnt : ¬ (i : Int) = torn := fun e => by have := ht 0 (by omega) (by simp); simp at this; exact this hqk
        rw [hkk] at h hold
        have hcut : (secs.set k (cutIn (partN keep torn bytes i) q.2 (secs.getD k []))).getD k [] = cutIn (partN keep torn bytes i) q.2 (secs.getD k []) := by
          rw [List.getD_eq_getElem?_getD, List.getElem?_set, if_pos rfl, if_pos hk]; rfl
        rw [hcut] at h
        rw [hkk]
        have hpn : partN keep torn bytes i = if keep.getD i false then 128 else 0 := by unfold partN; rw [if_neg hnt]
        rw [hpn] at h ⊢
        split at h
        · rename_i hkp
          rw [if_pos hkp]
          refine .inr ⟨q, by simp, hqk, ?_⟩
          rw [h, cutIn_full hq.2 hold]
        · rename_i hkp
          rw [if_neg hkp]
          left
          rw [h]; simp [cutIn]
      · have hne : q.1.toNat ≠ k := by omega
        have hcut : (secs.set q.1.toNat (cutIn (partN keep torn bytes i) q.2 (secs.getD q.1.toNat []))).getD k [] = secs.getD k [] := by
          rw [List.getD_eq_getElem?_getD, List.getElem?_set, if_neg hne, ← List.getD_eq_getElem?_getD]
        rw [hcut] at h
        exact .inl h
    · exact .inr ⟨p, by simp [hpm], e1, e2⟩

/-- whether one of the first j writes at k is the text s -/
def wholeB (old s : List UInt8) (ps : List PutT) (k j : Nat) : Bool := (s == old) || (ps.take j).any (fun p => (p.1 == (k : Int)) && (p.2 == s))
theorem wholeB_succ (old s : List UInt8) (ps : List PutT) (k j : Nat) (hj : j < ps.length) : wholeB old s ps k (j + 1) = (wholeB old s ps k j || ((ps[j].1 == (k : Int)) && (ps[j].2 == s))) := by
  unfold wholeB
  rw [List.take_succ_eq_append_getElem hj, List.any_append]
  simp [Bool.or_assoc]
def byteB (o x : UInt8) (ps : List PutT) (k i j : Nat) : Bool := (x == o) || (ps.take j).any (fun p => (p.1 == (k : Int)) && (p.2.getD i 0 == x))
theorem byteB_succ (o x : UInt8) (ps : List PutT) (k i j : Nat) (hj : j < ps.length) : byteB o x ps k i (j + 1) = (byteB o x ps k i j || ((ps[j].1 == (k : Int)) && (ps[j].2.getD i 0 == x))) := by
  unfold byteB
  rw [List.take_succ_eq_append_getElem hj, List.any_append]
  simp [Bool.or_assoc]
theorem torn_whole {d : Dk} (h : Ok d) (keep : List Bool) (torn bytes : Int) (k : Nat) (hk : k < d.secs.length) :
    wholeB (d.secs.getD k []) ((settleF (partN keep torn bytes) 0 d.secs d.cache).getD k []) d.cache k d.cache.length = true ∨ ∃ t : Nat, torn = (t : Int) ∧ ∃ ht : t < d.cache.length, d.cache[t].1 = (k : Int) := by
  by_cases hx : ∃ t : Nat, torn = (t : Int) ∧ ∃ ht : t < d.cache.length, d.cache[t].1 = (k : Int)
  · exact .inr hx
  · left
    have := settle_whole_or keep torn bytes k d.cache 0 d.secs hk h.whole h.puts (fun t e ht e2 => hx ⟨t, by omega, ht, e2⟩)
    unfold wholeB
    rw [List.take_length]
    rcases this with h | ⟨p, hp, e1, e2⟩
    · rw [h]; simp
    · rw [Bool.or_eq_true]
      right
      rw [List.any_eq_true]
      exact ⟨p, hp, by rw [e1, e2]; simp⟩
theorem torn_bytes {d : Dk} (h : Ok d) (part : Nat → Nat) (hpart : ∀ i, part i ≤ 128) (k i : Nat) (hk : k < d.secs.length) (hi : i < 128) :
    byteB ((d.secs.getD k []).getD i 0) (((settleF part 0 d.secs d.cache).getD k []).getD i 0) d.cache k i d.cache.length = true := by
  have := settle_bytes part hpart k d.cache 0 d.secs hk h.whole h.puts i
  have hl : ((settleF part 0 d.secs d.cache).getD k []).length = 128 := settleF_all part hpart d.cache 0 d.secs h.whole h.puts _ (getD_mem (by rw [settleF_len]; exact hk))
  have ho : (d.secs.getD k []).length = 128 := h.whole _ (getD_mem hk)
  unfold byteB
  rw [List.take_length, Bool.or_eq_true]
  rcases this with e | ⟨p, hp, e1, e2⟩
  · left
    rw [List.getD_eq_getElem?_getD, e, ← List.getD_eq_getElem?_getD]; simp
  · right
    rw [List.any_eq_true]
    exact ⟨p, hp, by rw [e1, List.getD_eq_getElem?_getD, e2, ← List.getD_eq_getElem?_getD]; simp⟩
end Go.Proofs.Ytakcfmgaaopkmaa.Disk
