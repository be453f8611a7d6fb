/- What the document's Has, Covers and Halves return. -/
import Derived.Test.YtklbnnnkogghpaaAddrMath2
import Derived.Test.YtklbnnnkogghpaaAddrHalves
import Derived.OwnWalk
set_option linter.unusedVariables false
namespace Go.Proofs.Ytklbnnnkogghpaa.Addr

/-- a number's last W bits, the highest first -/
def bitL (W n : Nat) : List Nat := (List.range W).map fun i => (n.testBit (W - 1 - i)).toNat
theorem bitL_len (W n : Nat) : (bitL W n).length = W := by simp [bitL]
theorem bitL_get (W n i : Nat) (h : i < W) : (bitL W n)[i]'(by rw [bitL_len]; exact h) = (n.testBit (W - 1 - i)).toNat := by simp [bitL]
theorem bitL_get? (W n i : Nat) (h : i < W) : (bitL W n)[i]? = some (n.testBit (W - 1 - i)).toNat := by simp [bitL, h]
theorem bitL_le (W n : Nat) : ∀ b ∈ bitL W n, b ≤ 1 := by
  intro b hb
  obtain ⟨i, _, rfl⟩ := List.mem_map.1 hb
  cases n.testBit (W - 1 - i) <;> decide
/-- the number of bits -/
def ofL (l : List Nat) : Nat := l.foldl (fun a b => (2 * a + b) % 2 ^ 128) 0
theorem ofL_snoc (l : List Nat) (b : Nat) : ofL (l ++ [b]) = (2 * ofL l + b) % 2 ^ 128 := by unfold ofL; rw [List.foldl_append]; rfl
theorem ofL_lt (l : List Nat) : ofL l < 2 ^ 128 := by
  rcases List.eq_nil_or_concat l with rfl | ⟨l2, b, rfl⟩
  · decide
  · rw [List.concat_eq_append, ofL_snoc]; exact Nat.mod_lt _ (by decide)
theorem ofL_take (l : List Nat) (k : Nat) (h : k < l.length) : ofL (l.take (k + 1)) = (2 * ofL (l.take k) + l[k]) % 2 ^ 128 := by
  rw [List.take_succ_eq_append_getElem h, ofL_snoc]
theorem bitL_succ (W n : Nat) : bitL (W + 1) n = bitL W (n / 2) ++ [n % 2] := by
  unfold bitL
  rw [List.range_succ, List.map_append]
  congr 1
  · apply List.map_congr_left
    intro i hi
    have hi2 : i < W := List.mem_range.1 hi
    rw [show W + 1 - 1 - i = (W - 1 - i) + 1 by omega, Nat.testBit_succ]
  · simp only [List.map_cons, List.map_nil]
    congr 1
    rw [show W + 1 - 1 - W = 0 by omega, Nat.toNat_testBit]
    simp
theorem ofL_bits (W n : Nat) (h : W ≤ 128) : ofL (bitL W n) = n % 2 ^ W := by
  induction W generalizing n with
  | zero => simp [bitL, ofL, Nat.mod_one]
  | succ W ih =>
    rw [bitL_succ, ofL_snoc, ih _ (by omega)]
    have hp := Nat.two_pow_pos W
    have hle : (2 : Nat) ^ (W + 1) ≤ 2 ^ 128 := Nat.pow_le_pow_right (by decide) h
    have e : (2 : Nat) ^ (W + 1) = 2 * 2 ^ W := by rw [Nat.pow_succ, Nat.mul_comm]
    rw [e] at *
    have hm := Nat.mod_mul (x := n) (a := 2) (b := 2 ^ W)
    have hlt := Nat.mod_lt (n / 2) hp
    rw [hm]
    rw [Nat.mod_eq_of_lt (by omega)]
    omega
/-- a row in which one bit is another one is the row of another number -/
theorem bitL_set (W n t : Nat) (b : Bool) (h : t < W) : ∃ m, (bitL W n).set (W - 1 - t) b.toNat = bitL W m ∧ ∀ j, m.testBit j = if j = t then b else n.testBit j := by
  have hB : n % 2 ^ t < 2 ^ t := Nat.mod_lt _ (Nat.two_pow_pos t)
  have key : ∀ j, (2 ^ t * (2 * (n / 2 ^ (t + 1)) + b.toNat) + n % 2 ^ t).testBit j = if j = t then b else n.testBit j := by
    intro j
    rw [Nat.testBit_two_pow_mul_add _ hB]
    by_cases hj : j < t
    · rw [if_pos hj, if_neg (by omega), Nat.testBit_mod_two_pow]
      simp [hj]
    · rw [if_neg hj]
      by_cases he : j = t
      · subst he
        rw [if_pos rfl, Nat.sub_self, Nat.testBit_zero]
        cases b <;> simp <;> omega
      · rw [if_neg he]
        obtain ⟨m, rfl⟩ : ∃ m, j = t + 1 + m := ⟨j - t - 1, by omega⟩
        rw [show t + 1 + m - t = m + 1 by omega, Nat.testBit_succ]
        have : (2 * (n / 2 ^ (t + 1)) + b.toNat) / 2 = n / 2 ^ (t + 1) := by cases b <;> simp <;> omega
        rw [this, Nat.testBit_div_two_pow]
        congr 1; omega
  refine ⟨_, ?_, key⟩
  apply List.ext_getElem
  · simp [bitL_len]
  · intro i h1 h2
    rw [bitL_len] at h2
    rw [List.getElem_set, bitL_get W n i h2, bitL_get W _ i h2, key]
    by_cases hi : W - 1 - t = i
    · rw [if_pos hi, if_pos (by omega)]
    · rw [if_neg hi, if_neg (by omega)]
theorem eq_of_bits {x y W : Nat} (hx : x < 2 ^ W) (hy : y < 2 ^ W) (h : ∀ j, j < W → x.testBit j = y.testBit j) : x = y := by
  apply Nat.eq_of_testBit_eq
  intro j
  by_cases hj : j < W
  · exact h j hj
  · have hle : (2 : Nat) ^ W ≤ 2 ^ j := Nat.pow_le_pow_right (by decide) (by omega)
    rw [Nat.testBit_lt_two_pow (by omega), Nat.testBit_lt_two_pow (by omega)]
theorem mod_zero_bits (n k : Nat) : n % 2 ^ k = 0 ↔ ∀ j, j < k → n.testBit j = false := by
  constructor
  · intro h j hj
    have := Nat.testBit_mod_two_pow n k j
    rw [h, Nat.zero_testBit] at this
    simpa [hj] using this.symm
  · intro h
    apply Nat.eq_of_testBit_eq
    intro j
    rw [Nat.testBit_mod_two_pow, Nat.zero_testBit]
    by_cases hj : j < k
    · simp [h j hj]
    · simp [hj]
theorem div_eq_bits {n m k W : Nat} (hn : n < 2 ^ W) (hm : m < 2 ^ W) : n / 2 ^ k = m / 2 ^ k ↔ ∀ j, k ≤ j → j < W → n.testBit j = m.testBit j := by
  constructor
  · intro h j h1 h2
    have e1 : (n / 2 ^ k).testBit (j - k) = n.testBit (j - k + k) := Nat.testBit_div_two_pow n (j - k)
    have e2 : (m / 2 ^ k).testBit (j - k) = m.testBit (j - k + k) := Nat.testBit_div_two_pow m (j - k)
    rw [show j - k + k = j by omega] at e1 e2
    rw [← e1, ← e2, h]
  · intro h
    apply Nat.eq_of_testBit_eq
    intro j
    rw [Nat.testBit_div_two_pow, Nat.testBit_div_two_pow]
    by_cases hj : j + k < W
    · exact h _ (by omega) hj
    · have hle : (2 : Nat) ^ W ≤ 2 ^ (j + k) := Nat.pow_le_pow_right (by decide) (by omega)
      rw [Nat.testBit_lt_two_pow (by omega), Nat.testBit_lt_two_pow (by omega)]
/-- the last bits are ones -/
theorem last_bits {n m k W : Nat} (hk : k ≤ W) (hn : n < 2 ^ W) (h0 : n % 2 ^ k = 0) (h : ∀ j, j < W → m.testBit j = if j < k then true else n.testBit j) : m % 2 ^ W = n + freeN k := by
  have hp := Nat.two_pow_pos k
  have hlast : n + 2 ^ k ≤ 2 ^ W := mult_room h0 (pow_mod _ _ hk) hp hn
  apply eq_of_bits (W := W) (Nat.mod_lt _ (Nat.two_pow_pos W)) (by unfold freeN; omega)
  intro j hj
  rw [Nat.testBit_mod_two_pow]
  have e : n + freeN k = 2 ^ k * (n / 2 ^ k) + (2 ^ k - 1) := by have := Nat.div_add_mod n (2 ^ k); unfold freeN; omega
  rw [e, Nat.testBit_two_pow_mul_add _ (by omega), Nat.testBit_two_pow_sub_one, h j hj]
  simp only [hj, decide_true, Bool.true_and]
  by_cases hjk : j < k
  · simp [hjk]
  · simp only [hjk, if_false]
    rw [Nat.testBit_div_two_pow, show j - k + k = j by omega]
/-- the bit at t is one more -/
theorem half_bits {n m t W : Nat} (ht : t < W) (hn : n < 2 ^ W) (h0 : n % 2 ^ (t + 1) = 0) (h : ∀ j, m.testBit j = if j = t then true else n.testBit j) : m % 2 ^ W = n + 2 ^ t := by
  have hp := Nat.two_pow_pos t
  have e2 : (2 : Nat) ^ (t + 1) = 2 ^ t + 2 ^ t := by rw [Nat.pow_succ]; omega
  have hlast : n + 2 ^ (t + 1) ≤ 2 ^ W := mult_room h0 (pow_mod _ _ ht) (Nat.two_pow_pos _) hn
  apply eq_of_bits (W := W) (Nat.mod_lt _ (Nat.two_pow_pos W)) (by omega)
  intro j hj
  rw [Nat.testBit_mod_two_pow, h j]
  have e : n + 2 ^ t = 2 ^ (t + 1) * (n / 2 ^ (t + 1)) + 2 ^ t := by have := Nat.div_add_mod n (2 ^ (t + 1)); omega
  rw [e, Nat.testBit_two_pow_mul_add _ (by omega), Nat.testBit_two_pow]
  simp only [hj, decide_true, Bool.true_and]
  by_cases hjt : j = t
  · subst hjt; simp
  · rw [if_neg hjt]
    by_cases hj1 : j < t + 1
    · rw [if_pos hj1, decide_eq_false (fun hc => hjt hc.symm)]
      exact (mod_zero_bits _ _).1 h0 j hj1
    · rw [if_neg hj1, Nat.testBit_div_two_pow, show j - (t + 1) + (t + 1) = j by omega]
/-- last bits that are ones, and the nought ahead of them, turned: one more -/
theorem next_bits {n m t W : Nat} (ht : t < W) (hn : n < 2 ^ W) (hl : ∀ j, j < t → n.testBit j = true) (h1 : n.testBit t = false) (h : ∀ j, j < W → m.testBit j = if j < t then false else if j = t then true else n.testBit j) : m % 2 ^ W = n + 1 ∧ n ≠ 2 ^ W - 1 := by
  have hp := Nat.two_pow_pos t
  have e2 : (2 : Nat) ^ (t + 1) = 2 ^ t + 2 ^ t := by rw [Nat.pow_succ]; omega
  have en : n = 2 ^ (t + 1) * (n / 2 ^ (t + 1)) + (2 ^ t - 1) := by
    have hd := Nat.div_add_mod n (2 ^ (t + 1))
    have hm : n % 2 ^ (t + 1) = 2 ^ t - 1 := by
      apply eq_of_bits (W := t + 1) (Nat.mod_lt _ (Nat.two_pow_pos _)) (by omega)
      intro j hj
      rw [Nat.testBit_mod_two_pow, Nat.testBit_two_pow_sub_one]
      simp only [hj, decide_true, Bool.true_and]
      by_cases hjt : j < t
      · rw [hl j hjt, decide_eq_true hjt]
      · rw [show j = t by omega, h1]; simp
    omega
  have hroom : 2 ^ (t + 1) * (n / 2 ^ (t + 1)) + 2 ^ (t + 1) ≤ 2 ^ W := by
    apply mult_room (q := 2 ^ (t + 1)) (Nat.mul_mod_right _ _) (pow_mod (t + 1) W ht) (Nat.two_pow_pos _)
    have := Nat.div_mul_le_self n (2 ^ (t + 1))
    rw [Nat.mul_comm] at this; omega
  constructor
  · have : m % 2 ^ W = 2 ^ (t + 1) * (n / 2 ^ (t + 1)) + 2 ^ t := by
      apply eq_of_bits (W := W) (Nat.mod_lt _ (Nat.two_pow_pos W)) (by omega)
      intro j hj
      rw [Nat.testBit_mod_two_pow, h j hj, Nat.testBit_two_pow_mul_add _ (by omega), Nat.testBit_two_pow]
      simp only [hj, decide_true, Bool.true_and]
      by_cases hjt : j < t
      · rw [if_pos hjt, if_pos (by omega), decide_eq_false (by omega)]
      · rw [if_neg hjt]
        by_cases he : j = t
        · rw [if_pos he, if_pos (by omega), decide_eq_true he.symm]
        · rw [if_neg he, if_neg (by omega), Nat.testBit_div_two_pow, show j - (t + 1) + (t + 1) = j by omega]
    omega
  · omega
theorem ones_bits {n W : Nat} (hn : n < 2 ^ W) (hl : ∀ j, j < W → n.testBit j = true) : n = 2 ^ W - 1 := by
  have hp := Nat.two_pow_pos W
  apply eq_of_bits hn (by omega)
  intro j hj
  rw [hl j hj, Nat.testBit_two_pow_sub_one, decide_eq_true hj]
/-- last bits that are noughts, and the one ahead of them, turned: one less -/
theorem prev_bits {n m t W : Nat} (ht : t < W) (hn : n < 2 ^ W) (hl : ∀ j, j < t → n.testBit j = false) (h1 : n.testBit t = true) (h : ∀ j, j < W → m.testBit j = if j < t then true else if j = t then false else n.testBit j) : m % 2 ^ W + 1 = n := by
  have hm : m % 2 ^ W < 2 ^ W := Nat.mod_lt _ (Nat.two_pow_pos W)
  have hb : ∀ j, j < W → (m % 2 ^ W).testBit j = if j < t then true else if j = t then false else n.testBit j := fun j hj => by
    rw [Nat.testBit_mod_two_pow, h j hj]; simp [hj]
  have := next_bits (n := m % 2 ^ W) (m := n) ht hm (fun j hj => by rw [hb j (by omega), if_pos hj]) (by rw [hb t ht, if_neg (by omega), if_pos rfl]) (fun j hj => by
    by_cases hjt : j < t
    · rw [if_pos hjt, hl j hjt]
    · rw [if_neg hjt]
      by_cases he : j = t
      · rw [if_pos he, he, h1]
      · rw [if_neg he, hb j hj, if_neg hjt, if_neg he])
  have e := this.1
  rw [Nat.mod_eq_of_lt hn] at e
  exact e.symm
theorem zero_bits {n W : Nat} (hn : n < 2 ^ W) (hl : ∀ j, j < W → n.testBit j = false) : n = 0 := by
  apply eq_of_bits hn (Nat.two_pow_pos W)
  intro j hj
  rw [hl j hj, Nat.zero_testBit]
end Go.Proofs.Ytklbnnnkogghpaa.Addr
namespace Go.Proofs.Ytklbnnnkogghpaa.Addr
open Go.RowKit

theorem info_int : (Try.prog.info? 3).map (fun i => (i.zero, i.size, i.bytes)) = some (some (.int .i64 0), 1, 8) := by kernel_rfl
theorem info_parts' {t : TypeId} {z : Option Value} {s b : Nat} (h : (Try.prog.info? t).map (fun i => (i.zero, i.size, i.bytes)) = some (z, s, b)) : ∃ i, Try.prog.info? t = some i ∧ i.zero = z ∧ i.size = s ∧ i.bytes = b := by
  cases hi : Try.prog.info? t with
  | none => rw [hi] at h; simp at h
  | some i => rw [hi] at h; simp at h; exact ⟨i, rfl, h.1, h.2.1, h.2.2⟩
def celN (l : List Nat) : List Value := l.map fun (b : Nat) => Value.int .i64 (b : Int)
theorem celN_len (l : List Nat) : (celN l).length = l.length := by simp [celN]
theorem celN_get (l : List Nat) (k : Nat) (h : k < l.length) : (celN l)[k]? = some (.int .i64 (l[k] : Int)) := by simp [celN, h]
theorem celN_set (l : List Nat) (k b : Nat) : (celN l).set k (.int .i64 (b : Int)) = celN (l.set k b) := by simp [celN, List.map_set]
/-- 'make([]int, n)' -/
theorem make_ints (w : World) (n : Nat) (h : n ≤ 1000000) (kl kc : IntKind) : (Instr.makeSlice 141 (.int kl (n : Int)) (.int kc (n : Int))).run Try.prog w = .ok (.slice (some ⟨w.heap.size, 0, none⟩) n n) (w.alloc (.cells (celN (List.replicate n 0)).toArray 3)) := by
  obtain ⟨i0, hi, hz0, hz1, hz2⟩ := info_parts' info_int
  have hr := run_make (P := Try.prog) w 141 3 i0 (.int .i64 0) Try.underlying141 hi hz0 kl kc n n (by omega) (Int.le_refl _) (by rw [hz2]; omega) (by omega)
  rw [hr, hz1, Int.toNat_natCast, Nat.mul_one]
  have e : madeCells (Value.int .i64 0).cells n = (celN (List.replicate n 0)).toArray := by
    apply Array.ext'
    refine (toList_madeCells_one (.int .i64 0) n).trans ?_
    simp [celN]
  rw [e]
/-- the row of bits, from the last one on, as far as t -/
def rowT (W n t : Nat) : List Nat := (List.range W).map fun j => if W - t ≤ j then (n.testBit (W - 1 - j)).toNat else 0
theorem rowT_len (W n t : Nat) : (rowT W n t).length = W := by simp [rowT]
theorem rowT_zero (W n : Nat) : rowT W n 0 = List.replicate W 0 := by
  apply List.ext_getElem
  · simp [rowT]
  · intro i h1 h2
    rw [rowT_len] at h1
    simp [rowT]; omega
theorem rowT_all (W n : Nat) : rowT W n W = bitL W n := by
  unfold rowT bitL
  apply List.map_congr_left
  intro j _
  rw [if_pos (by omega)]
theorem rowT_set (W n t : Nat) (h : t < W) : (rowT W n t).set (W - 1 - t) (n.testBit t).toNat = rowT W n (t + 1) := by
  apply List.ext_getElem
  · simp [rowT]
  · intro i h1 h2
    rw [rowT_len] at h2
    rw [List.getElem_set]
    by_cases hi : W - 1 - t = i
    · rw [if_pos hi]
      simp only [rowT, List.getElem_map, List.getElem_range]
      rw [if_pos (by omega), show W - 1 - i = t by omega]
    · rw [if_neg hi]
      simp only [rowT, List.getElem_map, List.getElem_range]
      by_cases h3 : W - t ≤ i
      · rw [if_pos h3, if_pos (by omega)]
      · rw [if_neg h3, if_neg (by omega)]
theorem half_num (m : Nat) (hm : m < 2 ^ 128) : loN m / 2 + hiN m % 2 * 9223372036854775808 = loN (m / 2) ∧ hiN m / 2 = hiN (m / 2) := by unfold loN hiN; omega
def BitsIs (L : List Nat) (w : World) (e : Ending) (w' : World) : Prop := ∃ g, e = .returned (.slice (some ⟨g, 0, none⟩) L.length L.length) ∧ w.heap.size ≤ g ∧ RowAt w' g (celN L) 3 ∧ Below w.heap.size w w'
theorem of_step (m b : Nat) (hm : m < 2 ^ 128) (hb : b ≤ 1) : IntKind.u64.wrap (IntKind.u64.wrap (2 * (hiN m : Int)) + (loN m : Int) / 9223372036854775808) = (hiN ((2 * m + b) % 2 ^ 128) : Int) ∧ IntKind.u64.wrap (IntKind.u64.wrap (2 * (loN m : Int)) + (b : Int)) = (loN ((2 * m + b) % 2 ^ 128) : Int) := by
  rw [IntKind.wrap_u64, IntKind.wrap_u64, IntKind.wrap_u64, IntKind.wrap_u64]
  unfold hiN loN
  constructor <;> omega
end Go.Proofs.Ytklbnnnkogghpaa.Addr
namespace Go.Proofs.Ytklbnnnkogghpaa.Addr
open Go.RowKit

theorem right_four (n : Nat) : rightB false n = (decide (hiN n = 0) && decide (loN n < 4294967296)) := by
  unfold rightB hiN loN
  rw [← Bool.decide_and]
  exact decide_eq_decide.2 (by show n < 2 ^ 32 ↔ _; omega)
theorem right_six (n : Nat) (h : n < 2 ^ 128) : rightB true n = true := decide_eq_true h
def turn1E (six : Bool) (n : Nat) : Nat × Bool := if n = 2 ^ wideN six - 1 then (0, false) else (n + 1, true)
def turn0E (six : Bool) (n : Nat) : Nat × Bool := if n = 0 then (0, false) else (n - 1, true)
end Go.Proofs.Ytklbnnnkogghpaa.Addr
namespace Go.Proofs.Ytklbnnnkogghpaa.Addr
open Go.RowKit

theorem check_bits {p : Pf} (h1 : 0 ≤ p.len ∧ p.len ≤ (wideN p.six : Int)) (h2 : rightB p.six p.n = true) :
    ((∀ j, j < wideN p.six → p.len ≤ (j : Int) → p.n.testBit (wideN p.six - 1 - j) = false) → checkP p = 0) ∧ (∀ j, j < wideN p.six → p.len ≤ (j : Int) → p.n.testBit (wideN p.six - 1 - j) = true → checkP p = 2) := by
  have hk : kP p = wideN p.six - p.len.toNat := rfl
  constructor
  · intro h
    apply checkP_ok
    rw [okP_first h1 h2]
    apply decide_eq_true
    rw [first_eq, mod_zero_bits]
    intro j hj
    have := h (wideN p.six - 1 - j) (by omega) (by omega)
    rwa [show wideN p.six - 1 - (wideN p.six - 1 - j) = j by omega] at this
  · intro j hj hl hb
    apply checkP_bad
    rw [okP_first h1 h2]
    apply decide_eq_false
    rw [first_eq, mod_zero_bits]
    intro h
    have := h (wideN p.six - 1 - j) (by omega)
    rw [hb] at this
    simp at this
end Go.Proofs.Ytklbnnnkogghpaa.Addr
namespace Go.Proofs.Ytklbnnnkogghpaa.Addr
open Go.RowKit

theorem has_bits {p : Pf} {a : Nat} (hok : okP p = true) (hr : rightB p.six a = true) :
    ((∀ j, j < p.len.toNat → p.n.testBit (wideN p.six - 1 - j) = a.testBit (wideN p.six - 1 - j)) → hasB p p.six a = true) ∧ (∀ j, j < p.len.toNat → p.n.testBit (wideN p.six - 1 - j) ≠ a.testBit (wideN p.six - 1 - j) → hasB p p.six a = false) := by
  have hk : kP p = wideN p.six - p.len.toNat := rfl
  have hle := (okP_iff.1 hok).1
  have ha : a < 2 ^ wideN p.six := of_decide_eq_true hr
  have hn := okP_lt hok
  have h0 := okP_zero hok
  have key : firstN (kP p) a = p.n ↔ p.n / 2 ^ kP p = a / 2 ^ kP p := by
    unfold firstN
    have h1 := Nat.div_add_mod a (2 ^ kP p)
    have h2 := Nat.div_add_mod p.n (2 ^ kP p)
    constructor
    · intro h
      have : 2 ^ kP p * (p.n / 2 ^ kP p) = 2 ^ kP p * (a / 2 ^ kP p) := by omega
      exact Nat.eq_of_mul_eq_mul_left (Nat.two_pow_pos _) this
    · intro h
      rw [h] at h2
      omega
  have hb := div_eq_bits (k := kP p) hn ha
  unfold hasB
  rw [hok, hr]
  simp only [decide_true, Bool.true_and]
  constructor
  · intro h
    apply decide_eq_true
    rw [key, hb]
    intro j h1 h2
    have := h (wideN p.six - 1 - j) (by omega)
    rwa [show wideN p.six - 1 - (wideN p.six - 1 - j) = j by omega] at this
  · intro j hj hne
    apply decide_eq_false
    rw [key, hb]
    intro h
    exact hne (h _ (by omega) (by omega))
end Go.Proofs.Ytklbnnnkogghpaa.Addr
