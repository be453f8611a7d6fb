/- Plain mathematics for the document's Get, Load and Save of manifests. -/
import Derived.Test.YtajcmgccclemdabManRefM
import Derived.Test.YtajcmgccclemdabManFollow
import Derived.Test.YtajcmgccclemdabMathSeal
set_option linter.unusedVariables false
namespace Go.Proofs.Ytajcmgccclemdab.Man
open Go.Proofs.Ytajcmgccclemdab.Page
open Go.Proofs.Ytajcmgccclemdab.Disk (Dk readD)

theorem open_120 {s : List UInt8} (h : s.length = 128) : (Crc.openL (s.take 120)).2 = if (s.drop 116).take 4 = Crc.textR (Crc.onL 0 (s.take 116)) then 0 else 6 := by
  have e : s.take 120 = s.take 116 ++ (s.drop 116).take 4 := by
    rw [show 120 = 116 + 4 by rfl, List.take_add]
  rw [e, Crc.open_app _ _ (by rw [List.length_take, List.length_drop]; omega)]
  split <;> rfl
theorem num_zero {s : List UInt8} (h : s.length = 128) : numL 0 (s.take 8) = 0 ↔ s.take 8 = List.replicate 8 0 := by
  have h8 : (s.take 8).length = 8 := by rw [List.length_take]; omega
  constructor
  · intro hn
    have := eight_numL _ h8
    rw [hn, eight_zero] at this
    exact this.symm
  · intro hn
    rw [hn]; rfl
theorem getM_128 {s : List UInt8} (h : s.length ≠ 128) : getM s = ((0, []), 11) := by rw [getM, if_neg h]
theorem getM_ends {s : List UInt8} (h : s.length = 128) (hn : s.take 8 ≠ s.drop 120) : getM s = ((0, []), 3) := by rw [getM, if_pos h, if_neg (fun hc => hn hc.1)]
theorem getM_null {s : List UInt8} (h : s.length = 128) (hn : numL 0 (s.take 8) = 0) : getM s = ((0, []), 3) := by rw [getM, if_pos h, if_neg (fun hc => hc.2 ((num_zero h).1 hn))]
theorem getM_sum {s : List UInt8} (h : s.length = 128) (he : s.take 8 = s.drop 120) (hn : numL 0 (s.take 8) ≠ 0) (hs : (s.drop 116).take 4 ≠ Crc.textR (Crc.onL 0 (s.take 116))) : getM s = ((0, []), 6) := by
  rw [getM, if_pos h, if_pos ⟨he, fun hc => hn ((num_zero h).2 hc)⟩, open_120 h, if_neg hs, if_neg (by decide)]
theorem getM_rest {s : List UInt8} (h : s.length = 128) (he : s.take 8 = s.drop 120) (hn : numL 0 (s.take 8) ≠ 0) (hs : (s.drop 116).take 4 = Crc.textR (Crc.onL 0 (s.take 116))) :
    getM s = if okM (toldM s) = true ∧ sectL (toldM s) = s then (toldM s, 0) else ((0, []), 7) := by
  rw [getM, if_pos h, if_pos ⟨he, fun hc => hn ((num_zero h).2 hc)⟩, open_120 h, if_pos hs, if_pos rfl]
/-- the first k parts that a sector tells -/
def firstM (s : List UInt8) (k : Nat) : List PartT := (List.range k).map (partAt s)
theorem firstM_succ (s : List UInt8) (k : Nat) : firstM s (k + 1) = firstM s k ++ [partAt s k] := by simp [firstM, List.range_succ]
theorem firstM_len (s : List UInt8) (k : Nat) : (firstM s k).length = k := by simp [firstM]
theorem firstM_all (s : List UInt8) : (toldM s) = (numL 0 (s.take 8), firstM s (cntM s)) := rfl
/-- the document's choice of two is ours -/
theorem getM_pos {s : List UInt8} (h : (getM s).2 = 0) : 1 ≤ (getM s).1.1 := (okM_parts (get_ok h).1).1.1
theorem load_none {d : Dk} (h0 : (readD d 0).2 = 0) (h1 : (readD d 1).2 = 0) (g0 : (getM (readD d 0).1).2 ≠ 0) (g1 : (getM (readD d 1).1).2 ≠ 0) : loadM d = ((0, []), 3) := by
  have e : pickM (getM (readD d 0).1) (getM (readD d 1).1) = (0, []) := by
    unfold pickM stepM
    rw [if_neg (fun hc => g1 hc.1), if_neg (fun hc => g0 hc.1)]
  rw [loadM, if_pos h0, if_pos h1, e, if_pos rfl]
theorem load_second {d : Dk} (h0 : (readD d 0).2 = 0) (h1 : (readD d 1).2 = 0) (g1 : (getM (readD d 1).1).2 = 0) (g : (getM (readD d 0).1).2 ≠ 0 ∨ (getM (readD d 0).1).1.1 < (getM (readD d 1).1).1.1) : loadM d = ((getM (readD d 1).1).1, 0) := by
  have hp := getM_pos g1
  have e : pickM (getM (readD d 0).1) (getM (readD d 1).1) = (getM (readD d 1).1).1 := by
    unfold pickM
    generalize (getM (readD d 1).1) = y at g1 g hp
    generalize (getM (readD d 0).1) = x at g
    unfold stepM
    by_cases hx : x.2 = 0 ∧ ((0, []) : ManT).1 < x.1.1
    · rw [if_pos hx, if_pos ⟨g1, by rcases g with g | g; exact absurd hx.1 g; exact g⟩]
    · rw [if_neg hx, if_pos ⟨g1, by show 0 < y.1.1; omega⟩]
  rw [loadM, if_pos h0, if_pos h1, e, if_neg (by omega)]
theorem load_first {d : Dk} (h0 : (readD d 0).2 = 0) (h1 : (readD d 1).2 = 0) (g0 : (getM (readD d 0).1).2 = 0) (g : (getM (readD d 1).1).2 ≠ 0 ∨ ¬ (getM (readD d 0).1).1.1 < (getM (readD d 1).1).1.1) : loadM d = ((getM (readD d 0).1).1, 0) := by
  have hp := getM_pos g0
  have e : pickM (getM (readD d 0).1) (getM (readD d 1).1) = (getM (readD d 0).1).1 := by
    unfold pickM
    generalize (getM (readD d 1).1) = y at g
    generalize (getM (readD d 0).1) = x at g0 g hp
    unfold stepM
    rw [if_pos (c := x.2 = 0 ∧ ((0, []) : ManT).1 < x.1.1) ⟨g0, by show 0 < x.1.1; omega⟩, if_neg (fun hc => by rcases g with g | g; exact g hc.1; exact g hc.2)]
  rw [loadM, if_pos h0, if_pos h1, e, if_neg (by omega)]
end Go.Proofs.Ytajcmgccclemdab.Man
