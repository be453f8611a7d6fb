/- A sector at work: what (*manifest.sector).put and take do. -/
import Derived.Test.YtajcmgccclemdabPageRef
import Derived.Test.YtajcmgccclemdabWalkOpen
import Derived.Test.YtajcmgccclemdabQuietBelow
set_option linter.unusedVariables false
namespace Go.Proofs.Ytajcmgccclemdab.Man
open Go.RowKit
open Go.Proofs.Ytajcmgccclemdab.Page

/-- so many bytes of a number, the highest one first -/
def beL (n k : Nat) : List UInt8 := (List.range k).map fun i => UInt8.ofNat (n / 256 ^ (k - 1 - i))
theorem beL_len (n k : Nat) : (beL n k).length = k := by simp [beL]
theorem beL_8 (n : Nat) : beL n 8 = eightL n := by simp [beL, eightL, List.range, List.range.loop]
theorem beL_4 (n : Nat) : beL n 4 = Crc.textR n := by simp [beL, Crc.textR, List.range, List.range.loop]
theorem beL_1 (n : Nat) : beL n 1 = [UInt8.ofNat n] := by simp [beL]
/-- a sector at work: its bytes, and where it stands -/
def Sec (W : World) (B : Nat) (L : List UInt8) (at' : Nat) : Prop := RowAt W B (cellsL L ++ [.int .i64 (at' : Int)]) 142
/-- what has been put of a number -/
def putIn (L : List UInt8) (at' : Nat) (b : List UInt8) : List UInt8 := L.take at' ++ b ++ L.drop (at' + b.length)
theorem putIn_len {L b : List UInt8} {a : Nat} (h : a + b.length ≤ L.length) : (putIn L a b).length = L.length := by
  simp [putIn]; omega
theorem putIn_get {L b : List UInt8} {a : Nat} (h : a + b.length ≤ L.length) (j : Nat) : (putIn L a b)[j]? = if a ≤ j ∧ j < a + b.length then b[j - a]? else L[j]? := by
  have h1 : (L.take a).length = a := by rw [List.length_take]; omega
  rw [putIn, List.append_assoc, List.getElem?_append, h1, List.getElem?_append]
  by_cases hj : j < a
  · rw [if_pos hj, if_neg (by omega), List.getElem?_take, if_pos hj]
  · rw [if_neg hj]
    by_cases h2 : j - a < b.length
    · rw [if_pos h2, if_pos (by omega)]
    · rw [if_neg h2, if_neg (by omega), List.getElem?_drop]
      congr 1; omega
theorem beL_at {n k i : Nat} (hi : i < k) : (beL n k)[i]? = some (UInt8.ofNat (n / 256 ^ (k - 1 - i))) := by
  rw [beL, List.getElem?_map, List.getElem?_range hi]; rfl
theorem putIn_step {L : List UInt8} {n k a i : Nat} (hi : i < k) (h : a + k ≤ L.length) : (putIn L a ((beL n k).take i)).set (a + i) (UInt8.ofNat (n / 256 ^ (k - 1 - i))) = putIn L a ((beL n k).take (i + 1)) := by
  have hb : (beL n k).length = k := beL_len n k
  have e1 : ((beL n k).take i).length = i := by rw [List.length_take]; omega
  have e2 : ((beL n k).take (i + 1)).length = i + 1 := by rw [List.length_take]; omega
  have hl : (putIn L a ((beL n k).take i)).length = L.length := putIn_len (by rw [e1]; omega)
  apply List.ext_getElem?
  intro j
  rw [List.getElem?_set, putIn_get (by rw [e1]; omega), putIn_get (by rw [e2]; omega), e1, e2]
  by_cases hj : a + i = j
  · subst hj
    rw [if_pos rfl, if_pos (by rw [hl]; omega), if_pos (by omega), show a + i - a = i by omega, List.getElem?_take, if_pos (by omega), beL_at hi]
  · rw [if_neg hj]
    by_cases h1 : a ≤ j ∧ j < a + i
    · rw [if_pos h1, if_pos (by omega), List.getElem?_take, List.getElem?_take, if_pos (by omega), if_pos (by omega)]
    · rw [if_neg h1, if_neg (by omega)]
theorem sec_cell {W : World} {B : Nat} {L : List UInt8} {a : Nat} (h : Sec W B L a) (j : Nat) (hj : j < L.length) : W.cell? ⟨B, j, none⟩ = some (.int .u8 ((L[j]).toNat : Int)) := by
  rw [RowAt.cell h, List.getElem?_append_left (by rw [cellsL_len]; exact hj), cellsL, List.getElem?_map, List.getElem?_eq_getElem hj]; rfl
theorem sec_at {W : World} {B : Nat} {L : List UInt8} {a : Nat} (h : Sec W B L a) (hl : L.length = 128) : W.cell? ⟨B, 128, none⟩ = some (.int .i64 (a : Int)) := by
  rw [RowAt.cell h, List.getElem?_append_right (by rw [cellsL_len]; omega), cellsL_len, hl]; rfl
theorem sec_put {W : World} {B : Nat} {L : List UInt8} {a : Nat} (h : Sec W B L a) (j : Nat) (hj : j < L.length) (x : UInt8) : Sec (W.setCell ⟨B, j, none⟩ (.int .u8 (x.toNat : Int))) B (L.set j x) a := by
  unfold Sec at h ⊢
  rw [h.setCell]
  have : (cellsL L ++ [Value.int .i64 (a : Int)]).set j (.int .u8 (x.toNat : Int)) = cellsL (L.set j x) ++ [.int .i64 (a : Int)] := by
    rw [List.set_append_left _ _ (by rw [cellsL_len]; exact hj)]
    simp [cellsL, List.map_set]
  rw [this]
  exact RowAt.set h _
theorem sec_move {W : World} {B : Nat} {L : List UInt8} {a : Nat} (h : Sec W B L a) (hl : L.length = 128) (b : Nat) : Sec (W.setCell ⟨B, 128, none⟩ (.int .i64 (b : Int))) B L b := by
  unfold Sec at h ⊢
  rw [h.setCell]
  have : (cellsL L ++ [Value.int .i64 (a : Int)]).set 128 (.int .i64 (b : Int)) = cellsL L ++ [.int .i64 (b : Int)] := by
    rw [List.set_append_right _ _ (by rw [cellsL_len]; omega), cellsL_len, hl]; rfl
  rw [this]
  exact RowAt.set h _
theorem grown_cell (W : World) (b i : Nat) (v : Value) : W.grownBy (W.setCell ⟨b, i, none⟩ v) (some b) := Lib.grownBy_setCell W b i v
theorem grown2 {X Y Z : World} {r : Option Nat} (h1 : X.grownBy Y r) (h2 : Y.grownBy Z r) : X.grownBy Z r :=
  ⟨h2.os.trans h1.os, h2.tape.trans h1.tape, h2.output.trans h1.output, Nat.le_trans h1.size h2.size, fun k hk hne => (h2.block k (Nat.lt_of_lt_of_le hk h1.size) hne).trans (h1.block k hk hne)⟩
theorem byte_val (n q : Nat) : (n : Int) / 2 ^ (8 * q) % 256 = ((UInt8.ofNat (n / 256 ^ q)).toNat : Int) := by
  have p : (2 : Int) ^ (8 * q) = ((256 ^ q : Nat) : Int) := by
    rw [show 256 = 2 ^ 8 by rfl, ← Nat.pow_mul]; simp
  rw [p]
  simp
set_option maxRecDepth 20000 in
set_option maxHeartbeats 4000000 in
theorem sput_any (B n k a : Nat) (L : List UInt8) (w : World) (h : Sec w B L a) (hl : L.length = 128) (ha : a + k ≤ 128) (hk8 : k ≤ 8) (hn : n < 18446744073709551616) :
    Calls Try.prog 85 #[.pointer (some ⟨B, 0, none⟩), .int .u64 (n : Int), .int .i64 (k : Int)] w fun e w' => e = .returned (.tuple #[]) ∧ Sec w' B (putIn L a (beL n k)) (a + k) ∧ w.grownBy w' (some B) := by
  have hni : (n : Int) ≤ 18446744073709551615 := by omega
  go_enter Try.func85, Try.ntmps85
  go_wp2_with fail
  go_loopw [8] (fun i wr => ∃ j : Nat, j ≤ k ∧ i = .int .i64 j ∧ Hid (Sec wr B (putIn L a ((beL n k).take j)) a) ∧ w.grownBy wr (some B)) (fun i _ => k - (intOf i).toNat)
  case atStart =>
    refine ⟨0, by omega, rfl, ?_, World.grownBy.refl _ _⟩
    show Sec _ _ _ _
    simp only [List.take_zero, putIn, List.append_nil, List.length_nil, Nat.add_zero, List.take_append_drop]
    exact h
  case round =>
    obtain ⟨j, hj, rfl, HS, hg⟩ := hrel
    have hlj : (putIn L a ((beL n k).take j)).length = 128 := by
      rw [putIn_len (by rw [List.length_take, beL_len]; omega)]; exact hl
    by_cases hlt : j < k
    · have hval : (n : Int) / 2 ^ (8 * (k - 1 - j)) % 256 = ((UInt8.ofNat (n / 256 ^ (k - 1 - j))).toNat : Int) := byte_val n (k - 1 - j)
      have HS2 : Hid (Sec (wr.setCell ⟨B, a + j, none⟩ (.int .u8 ((UInt8.ofNat (n / 256 ^ (k - 1 - j))).toNat : Int))).drew B (putIn L a ((beL n k).take (j + 1))) a) := by
        show Sec _ _ _ _
        rw [← putIn_step (L := L) (n := n) hlt (by omega)]
        exact sec_put HS.out (a + j) (by omega) _
      have q1 := sec_at HS.out hlj
      have q2 : ∃ v, wr.cell? ⟨B, a + j, none⟩ = some v := ⟨_, sec_cell HS.out (a + j) (by omega)⟩
      obtain ⟨v, q2⟩ := q2
      have f1 := RowAt.frozen HS.out (a + j)
      have hg2 : w.grownBy (wr.setCell ⟨B, a + j, none⟩ (.int .u8 ((UInt8.ofNat (n / 256 ^ (k - 1 - j))).toNat : Int))).drew (some B) := grown2 hg (grown2 (grown_cell wr B (a + j) _) ⟨rfl, rfl, rfl, Nat.le_refl _, fun _ _ _ => rfl⟩)
      rw [← hval] at HS2 hg2
      have HV : Hid (0 = 0) := rfl
      obtain ⟨q, hq⟩ : ∃ q, q = k - 1 - j := ⟨_, rfl⟩
      have eq1 : (k : Int) - 1 - (j : Int) = (q : Int) := by omega
      have hq7 : q ≤ 7 := by omega
      have hqi : (8 * (q : Int)).toNat = 8 * q := by omega
      rw [← hq] at HS2 hg2
      clear hval hq h
      go_wp2_with fail
      go_region
      go_wp2
      go_roundw
      case rel => exact ⟨j + 1, by omega, by go_num, HS2, hg2⟩
      case measure => simp [intOf]; omega
    · obtain rfl : j = k := by omega
      have HS3 : Hid (Sec wr B (putIn L a (beL n j)) a) := by
        have := HS.out
        rw [List.take_of_length_le (by rw [beL_len]; exact Nat.le_refl _)] at this
        exact this
      have hlk : (putIn L a (beL n j)).length = 128 := by rw [putIn_len (by rw [beL_len]; omega)]; exact hl
      have q1 := sec_at HS3.out hlk
      have f1 := RowAt.frozen HS3.out 128
      have HS4 : Hid (Sec (wr.setCell ⟨B, 128, none⟩ (.int .i64 ((a + j : Nat) : Int))) B (putIn L a (beL n j)) (a + j)) := sec_move HS3.out hlk (a + j)
      have hg2 : w.grownBy (wr.setCell ⟨B, 128, none⟩ (.int .i64 ((a + j : Nat) : Int))) (some B) := grown2 hg (grown_cell wr B 128 _)
      rw [show ((a + j : Nat) : Int) = (a : Int) + (j : Int) by omega] at HS4 hg2
      clear h HS HS3 hlj hlk
      go_wp2
      go_returns
      exact ⟨rfl, HS4.out, hg2⟩
/-- the number that so many bytes are -/
theorem num_snoc (l : List UInt8) (b : UInt8) : ∀ acc, numL acc (l ++ [b]) = 256 * numL acc l + b.toNat := by
  induction l with
  | nil => intro acc; rfl
  | cons x l ih => intro acc; simp only [List.cons_append, numL]; exact ih _
theorem numL_lt' (l : List UInt8) : ∀ acc, numL acc l < (acc + 1) * 256 ^ l.length := by
  induction l with
  | nil => intro acc; simp [numL]
  | cons b l ih =>
    intro acc
    have h1 := ih (256 * acc + b.toNat)
    have h2 := b.toNat_lt
    rw [numL, List.length_cons, Nat.pow_succ, Nat.mul_comm (256 ^ l.length) 256, ← Nat.mul_assoc]
    refine Nat.lt_of_lt_of_le h1 (Nat.mul_le_mul_right _ (by omega))
theorem seven {l : List UInt8} (h : l.length ≤ 7) : numL 0 l < 72057594037927936 := by
  have h1 := numL_lt' l 0
  have : 256 ^ l.length ≤ 256 ^ 7 := Nat.pow_le_pow_right (by decide) h
  omega
set_option maxRecDepth 20000 in
set_option maxHeartbeats 4000000 in
theorem stake_any (B k a : Nat) (L : List UInt8) (w : World) (h : Sec w B L a) (hl : L.length = 128) (ha : a + k ≤ 128) (hk8 : k ≤ 8) :
    Calls Try.prog 103 #[.pointer (some ⟨B, 0, none⟩), .int .i64 (k : Int)] w fun e w' => e = .returned (.int .u64 (numL 0 ((L.drop a).take k) : Int)) ∧ Sec w' B L (a + k) ∧ w.grownBy w' (some B) := by
  have HS : Hid (Sec w B L a) := h
  clear h
  go_enter Try.func103, Try.ntmps103
  go_wp2_with fail
  go_loopw [5, 8] (fun t i wr => ∃ j R : Nat, j ≤ k ∧ i = .int .i64 j ∧ t = .int .u64 (R : Int) ∧ Hid (R = numL 0 ((L.drop a).take j)) ∧ Sec wr B L a ∧ w.grownBy wr (some B)) (fun _ i _ => k - (intOf i).toNat)
  case atStart => exact ⟨0, 0, by omega, rfl, rfl, rfl, HS.out, World.grownBy.refl _ _⟩
  case round =>
    obtain ⟨j, R, hj, rfl, rfl, HR, hS, hg⟩ := hrel
    have q1 := sec_at hS hl
    by_cases hlt : j < k
    · have q2 := sec_cell hS (a + j) (by omega)
      have HR2 : Hid (256 * R + (L[a + j]'(by omega)).toNat = numL 0 ((L.drop a).take (j + 1))) := by
        show _ = _
        have e : (L.drop a).take (j + 1) = (L.drop a).take j ++ [L[a + j]'(by omega)] := by
          rw [List.take_succ_eq_append_getElem (by rw [List.length_drop]; omega), List.getElem_drop]
        rw [e, num_snoc, ← HR.out]
      generalize hb : L[a + j]'(by omega) = b at q2 HR2
      have hbl := b.toNat_lt
      have hbi : (b.toNat : Int) ≤ 255 := by omega
      have hRl : R < 72057594037927936 := by rw [HR.out]; exact seven (by rw [List.length_take]; omega)
      have hRi : (R : Int) ≤ 72057594037927935 := by omega
      have e1 := or_low (R : Int) (b.toNat : Int) (by omega) (by omega) (by omega) hbi
      have HS3 : Hid (Sec wr B L a) := hS
      clear hb hbl hRl hS
      go_wp2_with fail
      go_quiet (fail)
      go_wp2
      go_roundw
      case rel => exact ⟨j + 1, 256 * R + b.toNat, by omega, by go_num, by congr 1; omega, HR2, HS3.out, grown2 hg ⟨rfl, rfl, rfl, Nat.le_refl _, fun _ _ _ => rfl⟩⟩
      case measure => simp [intOf]; omega
    · obtain rfl : j = k := by omega
      have f1 := RowAt.frozen hS 128
      have HS4 : Hid (Sec (wr.setCell ⟨B, 128, none⟩ (.int .i64 ((a + j : Nat) : Int))) B L (a + j)) := sec_move hS hl (a + j)
      have hg2 : w.grownBy (wr.setCell ⟨B, 128, none⟩ (.int .i64 ((a + j : Nat) : Int))) (some B) := grown2 hg (grown_cell wr B 128 _)
      rw [show ((a + j : Nat) : Int) = (a : Int) + (j : Int) by omega] at HS4 hg2
      clear hS
      go_wp2
      go_ret
      exact ⟨by rw [← HR.out]; rfl, HS4.out, hg2⟩
end Go.Proofs.Ytajcmgccclemdab.Man
