/- Plain mathematics: a sum's bytes are read as it; what is sealed is opened as it was; and a text as bytes, one of them turned. -/
import Derived.Test.YtojgmiobjfkebaaWalkOpen
import Derived.Lib.Builder
set_option linter.unusedVariables false
namespace Go.Proofs.Ytojgmiobjfkebaa.Crc
open Go.RowKit

theorem be4_text (n : Nat) (h : n < 4294967296) : be4 (UInt8.ofNat (n / 16777216)) (UInt8.ofNat (n / 65536)) (UInt8.ofNat (n / 256)) (UInt8.ofNat n) = n := by
  unfold be4
  simp only [UInt8.toNat_ofNat']
  omega
theorem read_text (n : Nat) (h : n < 4294967296) (more : List UInt8) : readL (textR n ++ more) = (n, more, 0) := by
  show (be4 _ _ _ _, more, 0) = _
  rw [be4_text n h]
theorem text_inj (a b : Nat) (ha : a < 4294967296) (hb : b < 4294967296) (h : textR a = textR b) : a = b := by
  have h1 := read_text a ha []
  have h2 := read_text b hb []
  rw [h, h2] at h1
  exact (congrArg Prod.fst h1).symm
theorem open_app (l : List UInt8) (x : List UInt8) (hx : x.length = 4) : openL (l ++ x) = if x = textR (onL 0 l) then (l, 0) else ([], 6) := by
  have h1 : (l ++ x).length - 4 = l.length := by rw [List.length_append]; omega
  unfold openL
  rw [if_pos (by rw [List.length_append]; omega), h1, List.drop_left, List.take_left]
theorem open_seal (l : List UInt8) : openL (sealL l) = (l, 0) := by
  unfold sealL
  rw [open_app l _ rfl, if_pos rfl]
theorem seal_open {l t : List UInt8} (h : openL l = (t, 0)) : sealL t = l := by
  unfold openL at h
  split at h
  · split at h
    · rename_i h1 h2
      cases h
      unfold sealL
      rw [← h2, List.take_append_drop]
    · cases h
  · cases h
theorem open_none {l t : List UInt8} {e : Int} (h : openL l = (t, e)) (he : e ≠ 0) : t = [] := by
  unfold openL at h
  split at h
  · split at h
    · cases h; exact absurd rfl he
    · cases h; rfl
  · cases h; rfl
theorem open_len {l t : List UInt8} {e : Int} (h : openL l = (t, e)) : t.length ≤ l.length := by
  unfold openL at h
  split at h
  · split at h
    · cases h; rw [List.length_take]; omega
    · cases h; simp
  · cases h; simp
/- ### the text as bytes, one of them turned -/
theorem conv_bytes (l : List UInt8) (w : World) : ∃ (W : World) (cap : Nat), (convert 9 41 (.string ⟨l.toArray⟩)).run Try.prog w = .ok (.slice (some ⟨w.heap.size, 0, none⟩) (⟨l.toArray⟩ : ByteArray).size cap) W ∧
    (∀ j (h : j < l.length), W.cell? ⟨w.heap.size, j, none⟩ = some (.int .u8 (l[j].toNat : Int))) ∧ (∀ j, j < l.length → W.frozen? ⟨w.heap.size, j, none⟩ = false) ∧ Below w.heap.size w W := by
  refine ⟨_, _, run_bytes_of_string (P := Try.prog) w 9 41 5 ⟨l.toArray⟩ Try.underlying9 Try.underlying41 Try.underlying5, ?_, ?_, ?_⟩
  · intro j h
    generalize grownCap w (⟨l.toArray⟩ : ByteArray).size 0 5 = cap
    have hh : (w.drew.alloc (.cells (bytesRow ⟨l.toArray⟩ cap) 5 ((bytesRow ⟨l.toArray⟩ cap).size, (bytesRow ⟨l.toArray⟩ cap).size + 1))).heap[w.heap.size]? = some (.cells (bytesRow ⟨l.toArray⟩ cap) 5 ((bytesRow ⟨l.toArray⟩ cap).size, (bytesRow ⟨l.toArray⟩ cap).size + 1)) := by
      show (w.heap.push _)[w.heap.size]? = _
      simp
    rw [Lib.cell_of_heap hh]
    unfold bytesRow
    rw [Array.getElem?_append_left (by simpa using h)]
    simp [h]
  · intro j h
    generalize grownCap w (⟨l.toArray⟩ : ByteArray).size 0 5 = cap
    have hh : (w.drew.alloc (.cells (bytesRow ⟨l.toArray⟩ cap) 5 ((bytesRow ⟨l.toArray⟩ cap).size, (bytesRow ⟨l.toArray⟩ cap).size + 1))).heap[w.heap.size]? = some (.cells (bytesRow ⟨l.toArray⟩ cap) 5 ((bytesRow ⟨l.toArray⟩ cap).size, (bytesRow ⟨l.toArray⟩ cap).size + 1)) := by
      show (w.heap.push _)[w.heap.size]? = _
      simp
    have hj : j < (bytesRow ⟨l.toArray⟩ cap).size := by unfold bytesRow; simp; omega
    simp only [World.frozen?, hh]
    simp
    omega
  · exact ((Below.refl _ w).drew).alloc (Nat.le_refl _) _

end Go.Proofs.Ytojgmiobjfkebaa.Crc
