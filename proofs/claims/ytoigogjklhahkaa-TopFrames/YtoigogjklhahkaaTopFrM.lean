/- Plain mathematics: a text that is written over sectors, flushed amid, and read behind a crash. -/
import Derived.Test.YtoigogjklhahkaaMathKept
set_option linter.unusedVariables false
namespace Go.Proofs.Ytoigogjklhahkaa.Disk

/-- what goes into the sector k -/
def chunk (t : List UInt8) (k : Nat) : List UInt8 := (t.drop (128 * k)).take 128
theorem chunk_len {t : List UInt8} {n k : Nat} (h : t.length = 128 * n) (hk : k < n) : (chunk t k).length = 128 := by
  unfold chunk; rw [List.length_take, List.length_drop]; omega
theorem chunk_take (t : List UInt8) (k : Nat) : t.take (128 * (k + 1)) = t.take (128 * k) ++ chunk t k := by
  unfold chunk
  rw [show 128 * (k + 1) = 128 * k + 128 by omega, List.take_add]
/-- the disk while the text is written, k sectors being done; F is where it was flushed -/
structure Laid (t : List UInt8) (n : Nat) (F : Int) (k : Nat) (d : Dk) : Prop where
  ok : Ok d
  fuse : d.fuse = -1
  off : d.off = false
  len : d.secs.length = n + 1
  few : d.cache.length ≤ k
  before : ¬ (0 ≤ F ∧ F < (k : Int)) → ∀ j, j < k → (allH d)[j]? = some (chunk t j)
  after : 0 ≤ F → F < (k : Int) → (∀ j : Nat, (j : Int) < F → d.secs[j]? = some (chunk t j)) ∧ ∀ p ∈ d.cache, F ≤ p.1
theorem laid_make (t : List UInt8) (n : Nat) (F : Int) (hn : n ≤ 1000) : Laid t n F 0 (makeD ((n : Int) + 1)).1 := by
  obtain ⟨h1, h2, h3, h4, h5, h6⟩ := ok_make (n := (n : Int) + 1) (by omega)
  exact ⟨h1, h4, h5, by rw [h3]; omega, by rw [h6]; simp, fun _ j hj => by omega, fun h0 h1 => by omega⟩
theorem laid_flush {t : List UInt8} {n k : Nat} {F : Int} {d : Dk} (h : Laid t n F k d) : flushD d = (⟨allH d, [], -1, false⟩, 0) := by
  unfold flushD
  rw [h.fuse, h.off, if_neg (by decide)]
  rfl
theorem laid_write {t : List UInt8} {n k : Nat} {d : Dk} (hf : d.fuse = -1) (ho : d.off = false) (hl : d.secs.length = n + 1) (hc : d.cache.length ≤ k) (ht : t.length = 128 * n) (hk : k < n) (hn : n ≤ 1000) :
    writeD d (k : Int) (chunk t k) = (⟨d.secs, d.cache ++ [((k : Int), chunk t k)], -1, false⟩, 0) := by
  have hin : inB d.secs.length (k : Int) = true := by unfold inB; rw [hl]; exact decide_eq_true (by omega)
  unfold writeD
  rw [if_neg (by rw [ho]; decide), if_neg (by rw [hin]; decide), if_neg (by rw [chunk_len ht hk]; simp), if_neg (by omega), hf, ho]
  rfl
theorem laid_step {t : List UInt8} {n k : Nat} {F : Int} {d : Dk} (h : Laid t n F k d) (hF : (k : Int) ≠ F) (ht : t.length = 128 * n) (hk : k < n) (hn : n ≤ 1000) : Laid t n F (k + 1) (writeD d (k : Int) (chunk t k)).1 := by
  have hw := laid_write h.fuse h.off h.len h.few ht hk hn
  have hok := write_ok h.ok (k : Int) (chunk t k)
  rw [hw] at hok ⊢
  have hin : inB d.secs.length (k : Int) = true := by unfold inB; rw [h.len]; exact decide_eq_true (by omega)
  refine ⟨hok, rfl, rfl, h.len, by have := h.few; simp; omega, fun hb j hj => ?_, fun h0 h1 => ?_⟩
  · rw [allH_put h.ok hin (chunk_len ht hk), Int.toNat_natCast, List.getElem?_set]
    by_cases hjk : k = j
    · subst hjk
      rw [if_pos rfl, if_pos (by rw [allH_len, h.len]; omega)]
    · rw [if_neg hjk]
      exact h.before (by omega) j (by omega)
  · obtain ⟨g1, g2⟩ := h.after h0 (by omega)
    refine ⟨g1, fun p hp => ?_⟩
    simp only [List.mem_append, List.mem_singleton] at hp
    rcases hp with hp | rfl
    · exact g2 p hp
    · show F ≤ (k : Int); omega
theorem laid_both {t : List UInt8} {n k : Nat} {F : Int} {d : Dk} (h : Laid t n F k d) (hF : (k : Int) = F) (ht : t.length = 128 * n) (hk : k < n) (hn : n ≤ 1000) : Laid t n F (k + 1) (writeD (flushD d).1 (k : Int) (chunk t k)).1 := by
  have hfok := flush_ok h.ok
  have hfl := laid_flush h
  rw [hfl] at hfok ⊢
  simp only at hfok ⊢
  have hw := laid_write (t := t) (n := n) (k := k) (d := ⟨allH d, [], -1, false⟩) rfl rfl (by show (allH d).length = _; rw [allH_len]; exact h.len) (by show 0 ≤ k; omega) ht hk hn
  have hok := write_ok hfok (k : Int) (chunk t k)
  rw [hw] at hok ⊢
  refine ⟨hok, rfl, rfl, by show (allH d).length = _; rw [allH_len]; exact h.len, by simp, fun hb j hj => by omega, fun h0 h1 => ⟨fun j hj => ?_, fun p hp => ?_⟩⟩
  · exact h.before (by omega) j (by omega)
  · have : p = ((k : Int), chunk t k) := by simpa using hp
    rw [this]; show F ≤ (k : Int); omega
theorem laid_crash {t : List UInt8} {n : Nat} {F : Int} {d : Dk} (h : Laid t n F n d) (keep : List Bool) (torn bytes : Int) (h0 : 0 ≤ F) (h1 : F < (n : Int)) (j : Nat) (hj : (j : Int) < F) : (allH (crashD d keep torn bytes).1)[j]? = some (chunk t j) := by
  obtain ⟨g1, g2⟩ := h.after h0 h1
  show (settleF wholeF 0 (settleF (partN keep torn bytes) 0 d.secs d.cache) [])[j]? = _
  rw [show settleF wholeF 0 (settleF (partN keep torn bytes) 0 d.secs d.cache) [] = settleF (partN keep torn bytes) 0 d.secs d.cache from rfl, settleF_other _ j d.cache 0 d.secs (fun p hp => ⟨?_, ?_⟩), g1 j hj]
  · have := g2 p hp; omega
  · have := g2 p hp; omega
theorem laid_held {t : List UInt8} {n : Nat} {F : Int} {d : Dk} (h : Laid t n F n d) (keep : List Bool) (torn bytes : Int) : (allH (crashD d keep torn bytes).1).length = n + 1 := by
  rw [allH_len]
  show (settleF _ _ _ _).length = _
  rw [settleF_len, h.len]
/-- how many zero bytes fill up the last sector -/
def padN (m : Nat) : Nat := (128 - m % 128) % 128
theorem pad_rest (m j : Nat) (hj : j ≤ padN m) : ((m + j) % 128 = 0 ↔ j = padN m) := by unfold padN at *; omega
theorem pad_lt (m : Nat) : padN m < 128 := by unfold padN; omega
theorem pad_all (m : Nat) : ∃ n, m + padN m = 128 * n ∧ (0 < m → 128 * (n - 1) < m ∧ 1 ≤ n) ∧ (m = 0 → n = 0) := by
  refine ⟨(m + padN m) / 128, ?_, ?_, ?_⟩ <;> (unfold padN; omega)
end Go.Proofs.Ytoigogjklhahkaa.Disk
