/- What the document's Has and Of answer. -/
import Derived.Test.YtiemlaehhmlhmaaAddrMath2
import Derived.Test.YtiemlaehhmlhmaaAddrHalves
import Derived.OwnWalk
import Derived.Test.YtiemlaehhmlhmaaSpField2
import Derived.BigQuiet
import Derived.Test.YtiemlaehhmlhmaaSpChk
import Derived.Test.YtiemlaehhmlhmaaSpHas
set_option linter.unusedVariables false
namespace Go.Proofs.Ytiemlaehhmlhmaa.Addr

/-- a number's last W bits, the highest first -/
def bitL (W n : Nat) : List Nat := (List.range W).map fun i => (n.testBit (W - 1 - i)).toNat
theorem bitL_len (W n : Nat) : (bitL W n).length = W := by simp [bitL]
theorem bitL_get (W n i : Nat) (h : i < W) : (bitL W n)[i]'(by rw [bitL_len]; exact h) = (n.testBit (W - 1 - i)).toNat := by simp [bitL]
theorem bitL_get? (W n i : Nat) (h : i < W) : (bitL W n)[i]? = some (n.testBit (W - 1 - i)).toNat := by simp [bitL, h]
theorem bitL_le (W n : Nat) : ∀ b ∈ bitL W n, b ≤ 1 := by
  intro b hb
  obtain ⟨i, _, rfl⟩ := List.mem_map.1 hb
  cases n.testBit (W - 1 - i) <;> decide
/-- the number of bits -/
def ofL (l : List Nat) : Nat := l.foldl (fun a b => (2 * a + b) % 2 ^ 128) 0
theorem ofL_snoc (l : List Nat) (b : Nat) : ofL (l ++ [b]) = (2 * ofL l + b) % 2 ^ 128 := by unfold ofL; rw [List.foldl_append]; rfl
theorem ofL_lt (l : List Nat) : ofL l < 2 ^ 128 := by
  rcases List.eq_nil_or_concat l with rfl | ⟨l2, b, rfl⟩
  · decide
  · rw [List.concat_eq_append, ofL_snoc]; exact Nat.mod_lt _ (by decide)
theorem ofL_take (l : List Nat) (k : Nat) (h : k < l.length) : ofL (l.take (k + 1)) = (2 * ofL (l.take k) + l[k]) % 2 ^ 128 := by
  rw [List.take_succ_eq_append_getElem h, ofL_snoc]
theorem bitL_succ (W n : Nat) : bitL (W + 1) n = bitL W (n / 2) ++ [n % 2] := by
  unfold bitL
  rw [List.range_succ, List.map_append]
  congr 1
  · apply List.map_congr_left
    intro i hi
    have hi2 : i < W := List.mem_range.1 hi
    rw [show W + 1 - 1 - i = (W - 1 - i) + 1 by omega, Nat.testBit_succ]
  · simp only [List.map_cons, List.map_nil]
    congr 1
    rw [show W + 1 - 1 - W = 0 by omega, Nat.toNat_testBit]
    simp
theorem ofL_bits (W n : Nat) (h : W ≤ 128) : ofL (bitL W n) = n % 2 ^ W := by
  induction W generalizing n with
  | zero => simp [bitL, ofL, Nat.mod_one]
  | succ W ih =>
    rw [bitL_succ, ofL_snoc, ih _ (by omega)]
    have hp := Nat.two_pow_pos W
    have hle : (2 : Nat) ^ (W + 1) ≤ 2 ^ 128 := Nat.pow_le_pow_right (by decide) h
    have e : (2 : Nat) ^ (W + 1) = 2 * 2 ^ W := by rw [Nat.pow_succ, Nat.mul_comm]
    rw [e] at *
    have hm := Nat.mod_mul (x := n) (a := 2) (b := 2 ^ W)
    have hlt := Nat.mod_lt (n / 2) hp
    rw [hm]
    rw [Nat.mod_eq_of_lt (by omega)]
    omega
/-- a row in which one bit is another one is the row of another number -/
theorem bitL_set (W n t : Nat) (b : Bool) (h : t < W) : ∃ m, (bitL W n).set (W - 1 - t) b.toNat = bitL W m ∧ ∀ j, m.testBit j = if j = t then b else n.testBit j := by
  have hB : n % 2 ^ t < 2 ^ t := Nat.mod_lt _ (Nat.two_pow_pos t)
  have key : ∀ j, (2 ^ t * (2 * (n / 2 ^ (t + 1)) + b.toNat) + n % 2 ^ t).testBit j = if j = t then b else n.testBit j := by
    intro j
    rw [Nat.testBit_two_pow_mul_add _ hB]
    by_cases hj : j < t
    · rw [if_pos hj, if_neg (by omega), Nat.testBit_mod_two_pow]
      simp [hj]
    · rw [if_neg hj]
      by_cases he : j = t
      · subst he
        rw [if_pos rfl, Nat.sub_self, Nat.testBit_zero]
        cases b <;> simp <;> omega
      · rw [if_neg he]
        obtain ⟨m, rfl⟩ : ∃ m, j = t + 1 + m := ⟨j - t - 1, by omega⟩
        rw [show t + 1 + m - t = m + 1 by omega, Nat.testBit_succ]
        have : (2 * (n / 2 ^ (t + 1)) + b.toNat) / 2 = n / 2 ^ (t + 1) := by cases b <;> simp <;> omega
        rw [this, Nat.testBit_div_two_pow]
        congr 1; omega
  refine ⟨_, ?_, key⟩
  apply List.ext_getElem
  · simp [bitL_len]
  · intro i h1 h2
    rw [bitL_len] at h2
    rw [List.getElem_set, bitL_get W n i h2, bitL_get W _ i h2, key]
    by_cases hi : W - 1 - t = i
    · rw [if_pos hi, if_pos (by omega)]
    · rw [if_neg hi, if_neg (by omega)]
theorem eq_of_bits {x y W : Nat} (hx : x < 2 ^ W) (hy : y < 2 ^ W) (h : ∀ j, j < W → x.testBit j = y.testBit j) : x = y := by
  apply Nat.eq_of_testBit_eq
  intro j
  by_cases hj : j < W
  · exact h j hj
  · have hle : (2 : Nat) ^ W ≤ 2 ^ j := Nat.pow_le_pow_right (by decide) (by omega)
    rw [Nat.testBit_lt_two_pow (by omega), Nat.testBit_lt_two_pow (by omega)]
theorem mod_zero_bits (n k : Nat) : n % 2 ^ k = 0 ↔ ∀ j, j < k → n.testBit j = false := by
  constructor
  · intro h j hj
    have := Nat.testBit_mod_two_pow n k j
    rw [h, Nat.zero_testBit] at this
    simpa [hj] using this.symm
  · intro h
    apply Nat.eq_of_testBit_eq
    intro j
    rw [Nat.testBit_mod_two_pow, Nat.zero_testBit]
    by_cases hj : j < k
    · simp [h j hj]
    · simp [hj]
theorem div_eq_bits {n m k W : Nat} (hn : n < 2 ^ W) (hm : m < 2 ^ W) : n / 2 ^ k = m / 2 ^ k ↔ ∀ j, k ≤ j → j < W → n.testBit j = m.testBit j := by
  constructor
  · intro h j h1 h2
    have e1 : (n / 2 ^ k).testBit (j - k) = n.testBit (j - k + k) := Nat.testBit_div_two_pow n (j - k)
    have e2 : (m / 2 ^ k).testBit (j - k) = m.testBit (j - k + k) := Nat.testBit_div_two_pow m (j - k)
    rw [show j - k + k = j by omega] at e1 e2
    rw [← e1, ← e2, h]
  · intro h
    apply Nat.eq_of_testBit_eq
    intro j
    rw [Nat.testBit_div_two_pow, Nat.testBit_div_two_pow]
    by_cases hj : j + k < W
    · exact h _ (by omega) hj
    · have hle : (2 : Nat) ^ W ≤ 2 ^ (j + k) := Nat.pow_le_pow_right (by decide) (by omega)
      rw [Nat.testBit_lt_two_pow (by omega), Nat.testBit_lt_two_pow (by omega)]
/-- the last bits are ones -/
theorem last_bits {n m k W : Nat} (hk : k ≤ W) (hn : n < 2 ^ W) (h0 : n % 2 ^ k = 0) (h : ∀ j, j < W → m.testBit j = if j < k then true else n.testBit j) : m % 2 ^ W = n + freeN k := by
  have hp := Nat.two_pow_pos k
  have hlast : n + 2 ^ k ≤ 2 ^ W := mult_room h0 (pow_mod _ _ hk) hp hn
  apply eq_of_bits (W := W) (Nat.mod_lt _ (Nat.two_pow_pos W)) (by unfold freeN; omega)
  intro j hj
  rw [Nat.testBit_mod_two_pow]
  have e : n + freeN k = 2 ^ k * (n / 2 ^ k) + (2 ^ k - 1) := by have := Nat.div_add_mod n (2 ^ k); unfold freeN; omega
  rw [e, Nat.testBit_two_pow_mul_add _ (by omega), Nat.testBit_two_pow_sub_one, h j hj]
  simp only [hj, decide_true, Bool.true_and]
  by_cases hjk : j < k
  · simp [hjk]
  · simp only [hjk, if_false]
    rw [Nat.testBit_div_two_pow, show j - k + k = j by omega]
/-- the bit at t is one more -/
theorem half_bits {n m t W : Nat} (ht : t < W) (hn : n < 2 ^ W) (h0 : n % 2 ^ (t + 1) = 0) (h : ∀ j, m.testBit j = if j = t then true else n.testBit j) : m % 2 ^ W = n + 2 ^ t := by
  have hp := Nat.two_pow_pos t
  have e2 : (2 : Nat) ^ (t + 1) = 2 ^ t + 2 ^ t := by rw [Nat.pow_succ]; omega
  have hlast : n + 2 ^ (t + 1) ≤ 2 ^ W := mult_room h0 (pow_mod _ _ ht) (Nat.two_pow_pos _) hn
  apply eq_of_bits (W := W) (Nat.mod_lt _ (Nat.two_pow_pos W)) (by omega)
  intro j hj
  rw [Nat.testBit_mod_two_pow, h j]
  have e : n + 2 ^ t = 2 ^ (t + 1) * (n / 2 ^ (t + 1)) + 2 ^ t := by have := Nat.div_add_mod n (2 ^ (t + 1)); omega
  rw [e, Nat.testBit_two_pow_mul_add _ (by omega), Nat.testBit_two_pow]
  simp only [hj, decide_true, Bool.true_and]
  by_cases hjt : j = t
  · subst hjt; simp
  · rw [if_neg hjt]
    by_cases hj1 : j < t + 1
    · rw [if_pos hj1, decide_eq_false (fun hc => hjt hc.symm)]
      exact (mod_zero_bits _ _).1 h0 j hj1
    · rw [if_neg hj1, Nat.testBit_div_two_pow, show j - (t + 1) + (t + 1) = j by omega]
/-- last bits that are ones, and the nought ahead of them, turned: one more -/
theorem next_bits {n m t W : Nat} (ht : t < W) (hn : n < 2 ^ W) (hl : ∀ j, j < t → n.testBit j = true) (h1 : n.testBit t = false) (h : ∀ j, j < W → m.testBit j = if j < t then false else if j = t then true else n.testBit j) : m % 2 ^ W = n + 1 ∧ n ≠ 2 ^ W - 1 := by
  have hp := Nat.two_pow_pos t
  have e2 : (2 : Nat) ^ (t + 1) = 2 ^ t + 2 ^ t := by rw [Nat.pow_succ]; omega
  have en : n = 2 ^ (t + 1) * (n / 2 ^ (t + 1)) + (2 ^ t - 1) := by
    have hd := Nat.div_add_mod n (2 ^ (t + 1))
    have hm : n % 2 ^ (t + 1) = 2 ^ t - 1 := by
      apply eq_of_bits (W := t + 1) (Nat.mod_lt _ (Nat.two_pow_pos _)) (by omega)
      intro j hj
      rw [Nat.testBit_mod_two_pow, Nat.testBit_two_pow_sub_one]
      simp only [hj, decide_true, Bool.true_and]
      by_cases hjt : j < t
      · rw [hl j hjt, decide_eq_true hjt]
      · rw [show j = t by omega, h1]; simp
    omega
  have hroom : 2 ^ (t + 1) * (n / 2 ^ (t + 1)) + 2 ^ (t + 1) ≤ 2 ^ W := by
    apply mult_room (q := 2 ^ (t + 1)) (Nat.mul_mod_right _ _) (pow_mod (t + 1) W ht) (Nat.two_pow_pos _)
    have := Nat.div_mul_le_self n (2 ^ (t + 1))
    rw [Nat.mul_comm] at this; omega
  constructor
  · have : m % 2 ^ W = 2 ^ (t + 1) * (n / 2 ^ (t + 1)) + 2 ^ t := by
      apply eq_of_bits (W := W) (Nat.mod_lt _ (Nat.two_pow_pos W)) (by omega)
      intro j hj
      rw [Nat.testBit_mod_two_pow, h j hj, Nat.testBit_two_pow_mul_add _ (by omega), Nat.testBit_two_pow]
      simp only [hj, decide_true, Bool.true_and]
      by_cases hjt : j < t
      · rw [if_pos hjt, if_pos (by omega), decide_eq_false (by omega)]
      · rw [if_neg hjt]
        by_cases he : j = t
        · rw [if_pos he, if_pos (by omega), decide_eq_true he.symm]
        · rw [if_neg he, if_neg (by omega), Nat.testBit_div_two_pow, show j - (t + 1) + (t + 1) = j by omega]
    omega
  · omega
theorem ones_bits {n W : Nat} (hn : n < 2 ^ W) (hl : ∀ j, j < W → n.testBit j = true) : n = 2 ^ W - 1 := by
  have hp := Nat.two_pow_pos W
  apply eq_of_bits hn (by omega)
  intro j hj
  rw [hl j hj, Nat.testBit_two_pow_sub_one, decide_eq_true hj]
/-- last bits that are noughts, and the one ahead of them, turned: one less -/
theorem prev_bits {n m t W : Nat} (ht : t < W) (hn : n < 2 ^ W) (hl : ∀ j, j < t → n.testBit j = false) (h1 : n.testBit t = true) (h : ∀ j, j < W → m.testBit j = if j < t then true else if j = t then false else n.testBit j) : m % 2 ^ W + 1 = n := by
  have hm : m % 2 ^ W < 2 ^ W := Nat.mod_lt _ (Nat.two_pow_pos W)
  have hb : ∀ j, j < W → (m % 2 ^ W).testBit j = if j < t then true else if j = t then false else n.testBit j := fun j hj => by
    rw [Nat.testBit_mod_two_pow, h j hj]; simp [hj]
  have := next_bits (n := m % 2 ^ W) (m := n) ht hm (fun j hj => by rw [hb j (by omega), if_pos hj]) (by rw [hb t ht, if_neg (by omega), if_pos rfl]) (fun j hj => by
    by_cases hjt : j < t
    · rw [if_pos hjt, hl j hjt]
    · rw [if_neg hjt]
      by_cases he : j = t
      · rw [if_pos he, he, h1]
      · rw [if_neg he, hb j hj, if_neg hjt, if_neg he])
  have e := this.1
  rw [Nat.mod_eq_of_lt hn] at e
  exact e.symm
theorem zero_bits {n W : Nat} (hn : n < 2 ^ W) (hl : ∀ j, j < W → n.testBit j = false) : n = 0 := by
  apply eq_of_bits hn (Nat.two_pow_pos W)
  intro j hj
  rw [hl j hj, Nat.zero_testBit]
end Go.Proofs.Ytiemlaehhmlhmaa.Addr
namespace Go.Proofs.Ytiemlaehhmlhmaa.Addr
open Go.RowKit

theorem rwide_any (six : Bool) (w : World) : Calls Try.prog 91 #[.bool six] w fun e w' => e = .returned (.int .i64 (wideN six : Int)) ∧ w' = w := by
  cases six
  · go_enter Try.func91, Try.ntmps91
    go_wp2
    go_ret
    exact ⟨rfl, rfl⟩
  · go_enter Try.func91, Try.ntmps91
    go_wp2
    go_ret
    exact ⟨rfl, rfl⟩
theorem info_int : (Try.prog.info? 3).map (fun i => (i.zero, i.size, i.bytes)) = some (some (.int .i64 0), 1, 8) := by kernel_rfl
theorem info_parts' {t : TypeId} {z : Option Value} {s b : Nat} (h : (Try.prog.info? t).map (fun i => (i.zero, i.size, i.bytes)) = some (z, s, b)) : ∃ i, Try.prog.info? t = some i ∧ i.zero = z ∧ i.size = s ∧ i.bytes = b := by
  cases hi : Try.prog.info? t with
  | none => rw [hi] at h; simp at h
  | some i => rw [hi] at h; simp at h; exact ⟨i, rfl, h.1, h.2.1, h.2.2⟩
def celN (l : List Nat) : List Value := l.map fun (b : Nat) => Value.int .i64 (b : Int)
theorem celN_len (l : List Nat) : (celN l).length = l.length := by simp [celN]
theorem celN_get (l : List Nat) (k : Nat) (h : k < l.length) : (celN l)[k]? = some (.int .i64 (l[k] : Int)) := by simp [celN, h]
theorem celN_set (l : List Nat) (k b : Nat) : (celN l).set k (.int .i64 (b : Int)) = celN (l.set k b) := by simp [celN, List.map_set]
/-- 'make([]int, n)' -/
theorem make_ints (w : World) (n : Nat) (h : n ≤ 1000000) (kl kc : IntKind) : (Instr.makeSlice 99 (.int kl (n : Int)) (.int kc (n : Int))).run Try.prog w = .ok (.slice (some ⟨w.heap.size, 0, none⟩) n n) (w.alloc (.cells (celN (List.replicate n 0)).toArray 3)) := by
  obtain ⟨i0, hi, hz0, hz1, hz2⟩ := info_parts' info_int
  have hr := run_make (P := Try.prog) w 99 3 i0 (.int .i64 0) Try.underlying99 hi hz0 kl kc n n (by omega) (Int.le_refl _) (by rw [hz2]; omega) (by omega)
  rw [hr, hz1, Int.toNat_natCast, Nat.mul_one]
  have e : madeCells (Value.int .i64 0).cells n = (celN (List.replicate n 0)).toArray := by
    apply Array.ext'
    refine (toList_madeCells_one (.int .i64 0) n).trans ?_
    simp [celN]
  rw [e]
/-- the row of bits, from the last one on, as far as t -/
def rowT (W n t : Nat) : List Nat := (List.range W).map fun j => if W - t ≤ j then (n.testBit (W - 1 - j)).toNat else 0
theorem rowT_len (W n t : Nat) : (rowT W n t).length = W := by simp [rowT]
theorem rowT_zero (W n : Nat) : rowT W n 0 = List.replicate W 0 := by
  apply List.ext_getElem
  · simp [rowT]
  · intro i h1 h2
    rw [rowT_len] at h1
    simp [rowT]; omega
theorem rowT_all (W n : Nat) : rowT W n W = bitL W n := by
  unfold rowT bitL
  apply List.map_congr_left
  intro j _
  rw [if_pos (by omega)]
theorem rowT_set (W n t : Nat) (h : t < W) : (rowT W n t).set (W - 1 - t) (n.testBit t).toNat = rowT W n (t + 1) := by
  apply List.ext_getElem
  · simp [rowT]
  · intro i h1 h2
    rw [rowT_len] at h2
    rw [List.getElem_set]
    by_cases hi : W - 1 - t = i
    · rw [if_pos hi]
      simp only [rowT, List.getElem_map, List.getElem_range]
      rw [if_pos (by omega), show W - 1 - i = t by omega]
    · rw [if_neg hi]
      simp only [rowT, List.getElem_map, List.getElem_range]
      by_cases h3 : W - t ≤ i
      · rw [if_pos h3, if_pos (by omega)]
      · rw [if_neg h3, if_neg (by omega)]
theorem half_num (m : Nat) (hm : m < 2 ^ 128) : loN m / 2 + hiN m % 2 * 9223372036854775808 = loN (m / 2) ∧ hiN m / 2 = hiN (m / 2) := by unfold loN hiN; omega
def BitsIs (L : List Nat) (w : World) (e : Ending) (w' : World) : Prop := ∃ g, e = .returned (.slice (some ⟨g, 0, none⟩) L.length L.length) ∧ w.heap.size ≤ g ∧ RowAt w' g (celN L) 3 ∧ Below w.heap.size w w'
set_option maxHeartbeats 2000000 in
set_option maxRecDepth 20000 in
theorem rbits_any (six : Bool) (n : Nat) (w : World) (hn : n < 2 ^ 128) : Calls Try.prog 75 #[.bool six, adV n] w (BitsIs (bitL (wideN six) n) w) := by
  have cw := fun w => rwide_any six w
  have hWl := wideN_le six
  have hWg := wideN_ge six
  obtain ⟨W, hWd⟩ : ∃ W, W = wideN six := ⟨_, rfl⟩
  rw [← hWd] at cw hWl hWg ⊢
  clear hWd
  have hmk := fun w => make_ints w W (by omega) .i64 .i64
  unfold adV
  obtain ⟨X, hX⟩ : ∃ X, X = w.alloc (.cells #[.int .u64 (hiN n : Int), .int .u64 (loN n : Int)] 25) := ⟨_, rfl⟩
  have hB0 : Below w.heap.size w X := by rw [hX]; exact below_new (Below.refl _ _) _
  have r0 : RowAt X w.heap.size [.int .u64 (hiN n : Int), .int .u64 (loN n : Int)] 25 := by rw [hX]; exact RowAt.new _ _ _
  obtain ⟨Y, hY⟩ : ∃ Y, Y = X.alloc (.cells (celN (List.replicate W 0)).toArray 3) := ⟨_, rfl⟩
  obtain ⟨g, hg⟩ : ∃ g, g = X.heap.size := ⟨_, rfl⟩
  have hmk := hmk X
  have r1 : RowAt Y g (celN (rowT W n 0)) 3 := by rw [hY, hg, rowT_zero]; exact RowAt.new _ _ _
  have hBY : Below w.heap.size w Y := by rw [hY]; exact below_new hB0 _
  have hwg : w.heap.size ≤ g := by rw [hg]; exact hB0.size
  have r0Y : RowAt Y w.heap.size [.int .u64 (hiN n : Int), .int .u64 (loN n : Int)] 25 := by rw [hY]; exact r0.alloc _
  have hWi : (W : Int) ≤ 128 := by omega
  have hWi2 : (32 : Int) ≤ (W : Int) := by omega
  go_enter Try.func75, Try.ntmps75
  go_wp2_with fail
  go_at_call 91; refine (cw _).mono ?_; rintro e w2 ⟨rfl, rfl⟩
  rw [← hX]
  clear hX hB0 r0
  go_upto_region 2 with fail
  rw [← hY, ← hg]
  clear hmk hY hg cw
  obtain ⟨q0, q1, qf⟩ := cells2 r0Y
  go_region
  go_wp2_with fail
  clear q0 q1 qf r0Y hmk
  have HN : Hid (n < 2 ^ 128) := hn
  have HP : Hid (BitsIs (bitL W n) w = BitsIs (bitL W n) w) := rfl
  go_loopw [6, 7, 8] (fun lo hi i wr => ∃ (t : Nat) (x : Int), t ≤ W ∧ lo = .int .u64 (loN (n / 2 ^ t) : Int) ∧ hi = .int .u64 (hiN (n / 2 ^ t) : Int) ∧ i = .int .i64 x ∧ Hid (x = (W : Int) - 1 - (t : Int)) ∧ RowAt wr g (celN (rowT W n t)) 3 ∧ Below w.heap.size w wr) (fun _ _ i _ => (intOf i + 1).toNat)
  case atStart => exact ⟨0, (W : Int) - 1, by omega, by simp, by simp, rfl, (by show _ = _; omega), r1.drew, below_drew hBY⟩
  case round =>
    obtain ⟨t, x, ht, rfl, rfl, rfl, HX, hr, hb⟩ := hrel
    clear r1 hBY
    by_cases hlt : t < W
    · obtain ⟨i, hi⟩ : ∃ i : Nat, i = W - 1 - t := ⟨_, rfl⟩
      obtain rfl : x = (i : Int) := by have := HX.out; omega
      have hxi : (i : Int) < (W : Int) := by omega
      have d0 : decide ((0 : Int) ≤ (i : Int)) = true := decide_eq_true (by omega)
      have hcell : wr.cell? ⟨g, i, none⟩ = some (.int .i64 ((rowT W n t)[i]'(by rw [rowT_len]; omega) : Int)) := by rw [hr.cell, celN_get]
      have hfz : wr.frozen? ⟨g, i, none⟩ = false := hr.frozen i
      have hm := half_num (n / 2 ^ t) (Nat.lt_of_le_of_lt (Nat.div_le_self _ _) HN.out)
      rw [Nat.div_div_eq_div_mul, ← Nat.pow_succ] at hm
      have hlo := loN_lt (n / 2 ^ t)
      have hhi := hiN_lt (Nat.lt_of_le_of_lt (Nat.div_le_self n (2 ^ t)) HN.out)
      have hbit : loN (n / 2 ^ t) % 2 = (n.testBit t).toNat := by rw [Nat.toNat_testBit]; unfold loN; omega
      have hset := rowT_set W n t hlt
      rw [← hi, ← hbit] at hset
      have HS : Hid (∀ W' : World, RowAt W' g (celN (rowT W n t)) 3 → RowAt (W'.setCell ⟨g, i, none⟩ (.int .i64 ((loN (n / 2 ^ t) % 2 : Nat) : Int))) g (celN (rowT W n (t + 1))) 3) := fun W' h => by
        have := h.set1 i (.int .i64 ((loN (n / 2 ^ t) % 2 : Nat) : Int))
        rw [celN_set, hset] at this
        exact this
      have HH1 : Hid (loN (n / 2 ^ t) / 2 + hiN (n / 2 ^ t) % 2 * 9223372036854775808 = loN (n / 2 ^ (t + 1))) := hm.1
      have HH2 : Hid (hiN (n / 2 ^ t) / 2 = hiN (n / 2 ^ (t + 1))) := hm.2
      generalize (rowT W n t)[i]'(by rw [rowT_len]; omega) = old at hcell
      clear hm hset hbit
      generalize loN (n / 2 ^ t) = lo at *
      generalize hiN (n / 2 ^ t) = hh at *
      have hloi : (lo : Int) ≤ 18446744073709551615 := by omega
      have hhii : (hh : Int) ≤ 18446744073709551615 := by omega
      have HR : Hid (RowAt wr g (celN (rowT W n t)) 3) := hr
      have HI : Hid (i = W - 1 - t) := hi
      clear hlo hhi hr hi
      go_wp2_with fail
      go_roundw
      case rel =>
        refine ⟨t + 1, (i : Int) - 1, by omega, ?_, ?_, rfl, (by show _ = _; have := HI.out; omega), ?_, ?_⟩
        · rw [← HH1.out]; go_num
        · rw [← HH2.out]; go_num
        · exact HS.out _ HR.out
        · exact bset hb (by omega)
      case measure => simp [intOf]
    · obtain rfl : t = W := by omega
      obtain rfl : x = -1 := by have := HX.out; omega
      rw [rowT_all] at hr
      have HR : Hid (RowAt wr g (celN (bitL t n)) 3) := hr
      clear hr
      go_wp2_with fail
      go_ret
      exact ⟨g, by rw [bitL_len]; rfl, hwg, HR.out, hb⟩
theorem of_step (m b : Nat) (hm : m < 2 ^ 128) (hb : b ≤ 1) : IntKind.u64.wrap (IntKind.u64.wrap (2 * (hiN m : Int)) + (loN m : Int) / 9223372036854775808) = (hiN ((2 * m + b) % 2 ^ 128) : Int) ∧ IntKind.u64.wrap (IntKind.u64.wrap (2 * (loN m : Int)) + (b : Int)) = (loN ((2 * m + b) % 2 ^ 128) : Int) := by
  rw [IntKind.wrap_u64, IntKind.wrap_u64, IntKind.wrap_u64, IntKind.wrap_u64]
  unfold hiN loN
  constructor <;> omega
set_option maxHeartbeats 2000000 in
set_option maxRecDepth 20000 in
theorem rof_any (l : List Nat) (g off cap : Nat) (w : World) (hl : l.length ≤ 1000000) (h1 : ∀ b ∈ l, b ≤ 1) (hc : ∀ j (hj : j < l.length), w.cell? ⟨g, off + j, none⟩ = some (.int .i64 (l[j] : Int))) (hgw : l ≠ [] → g < w.heap.size) : Calls Try.prog 76 #[.slice (some ⟨g, off, none⟩) l.length cap] w fun e w' => e = .returned (adV (ofL l)) ∧ Below w.heap.size w w' := by
  obtain ⟨X, hX⟩ : ∃ X, X = (w.alloc (.cells #[.int .u64 0, .int .u64 0] 25)).alloc (.cells #[.int .u64 0, .int .u64 0] 25) := ⟨_, rfl⟩
  have hB0 : Below w.heap.size w X := by rw [hX]; exact below_new (below_new (Below.refl _ _) _) _
  have r0 : RowAt X w.heap.size [.int .u64 0, .int .u64 0] 25 := by rw [hX]; exact (RowAt.new _ _ _).alloc _
  have r1 : RowAt X (w.heap.size + 1) [.int .u64 0, .int .u64 0] 25 := by rw [hX, ← World.size_alloc w (.cells #[.int .u64 0, .int .u64 0] 25)]; exact RowAt.new _ _ _
  obtain ⟨N, hN⟩ : ∃ N, N = l.length := ⟨_, rfl⟩
  have HN : Hid (N = l.length) := hN
  have HC : Hid (∀ j (hj : j < l.length), w.cell? ⟨g, off + j, none⟩ = some (.int .i64 (l[j] : Int))) := hc
  have H1 : Hid (∀ b ∈ l, b ≤ 1) := h1
  have HG : Hid (l ≠ [] → g < w.heap.size) := hgw
  have hNi : (N : Int) ≤ 1000000 := by omega
  rw [← hN]
  have HV : Hid (adV (ofL l) = .agg #[.int .u64 (hiN (ofL l) : Int), .int .u64 (loN (ofL l) : Int)]) := rfl
  generalize adV (ofL l) = V at HV ⊢
  clear hN hc h1 hl hgw
  go_enter Try.func76, Try.ntmps76
  go_upto_region 2 with fail
  rw [← hX]
  clear hX
  go_wp2_with fail
  go_loopw [9] (fun i wr => ∃ k : Nat, k ≤ N ∧ i = .int .i64 (k : Int) ∧ RowAt wr (w.heap.size + 1) [.int .u64 (hiN (ofL (l.take k)) : Int), .int .u64 (loN (ofL (l.take k)) : Int)] 25 ∧ RowAt wr w.heap.size [.int .u64 0, .int .u64 0] 25 ∧ Below w.heap.size w wr) (fun i _ => N - (intOf i).toNat)
  case atStart => exact ⟨0, by omega, rfl, by simpa [ofL, hiN, loN] using r1, r0, hB0⟩
  case round =>
    obtain ⟨k, hk, rfl, ra, rb, hb⟩ := hrel
    clear r0 r1 hB0
    by_cases hlt : k < N
    · have hkl : k < l.length := by rw [← HN.out]; exact hlt
      have hgw := HG.out (fun e => by rw [e] at hkl; simp at hkl)
      have hcell := (hb.cell (p := ⟨g, off + k, none⟩) hgw).trans (HC.out k hkl)
      have hb1 := H1.out _ (List.getElem_mem hkl)
      have hst := of_step (ofL (l.take k)) l[k] (ofL_lt _) hb1
      rw [← ofL_take l k hkl] at hst
      have hki : (k : Int) < (N : Int) := by omega
      generalize l[k] = b at *
      have hlo := loN_lt (ofL (l.take k))
      have hhi := hiN_lt (ofL_lt (l.take k))
      obtain ⟨q0, q1, qf⟩ := cells2 ra
      have HA : Hid (RowAt wr (w.heap.size + 1) [.int .u64 (hiN (ofL (l.take k)) : Int), .int .u64 (loN (ofL (l.take k)) : Int)] 25) := ra
      have HRb : Hid (RowAt wr w.heap.size [.int .u64 0, .int .u64 0] 25) := rb
      have HE1 : Hid (IntKind.u64.wrap (IntKind.u64.wrap (2 * (hiN (ofL (l.take k)) : Int)) + (loN (ofL (l.take k)) : Int) / 9223372036854775808) = (hiN (ofL (l.take (k + 1))) : Int)) := hst.1
      have HE2 : Hid (IntKind.u64.wrap (IntKind.u64.wrap (2 * (loN (ofL (l.take k)) : Int)) + (b : Int)) = (loN (ofL (l.take (k + 1))) : Int)) := hst.2
      clear hst ra rb
      generalize hiN (ofL (l.take k)) = hh at *
      generalize loN (ofL (l.take k)) = lo at *
      have hloi : (lo : Int) ≤ 18446744073709551615 := by omega
      have hhii : (hh : Int) ≤ 18446744073709551615 := by omega
      have hbi : (b : Int) ≤ 1 := by omega
      clear hlo hhi
      go_wp2_with fail
      go_roundw
      case rel =>
        refine ⟨k + 1, by omega, by go_num, ?_, (HRb.out.far1 (by omega) _ _).far1 (by omega) _ _, bset (bset hb (by omega)) (by omega)⟩
        have h := (HA.out.set1 0 (.int .u64 (IntKind.u64.wrap (IntKind.u64.wrap (2 * (hh : Int)) + (lo : Int) / 9223372036854775808)))).set1 1 (.int .u64 (IntKind.u64.wrap (IntKind.u64.wrap (2 * (lo : Int)) + (b : Int))))
        rw [← HE1.out, ← HE2.out]
        exact h
      case measure => simp [intOf]; omega
    · obtain rfl : k = N := by omega
      rw [show l.take k = l by rw [HN.out, List.take_length]] at ra
      obtain ⟨q0, q1, qf⟩ := cells2 ra
      obtain ⟨p0, p1, pf⟩ := cells2 rb
      generalize hiN (ofL l) = hh at *
      generalize loN (ofL l) = lo at *
      clear ra rb
      go_wp2_with fail
      (try simp only [Exit.inBlock, Exit.then])
      refine bodyPost_ret (v := .agg #[.int .u64 (hh : Int), .int .u64 (lo : Int)]) ?_ rfl ⟨by rw [HV.out], ?_⟩
      · rw [results_cell rfl]
        go_simp
      · repeat' (first | with_reducible exact hb | with_reducible apply below_new | with_reducible refine bset ?_ (by omega))
end Go.Proofs.Ytiemlaehhmlhmaa.Addr
namespace Go.Proofs.Ytiemlaehhmlhmaa.Addr
open Go.RowKit

theorem rof_row (W m g : Nat) (w : World) (hW : W ≤ 128) (hr : RowAt w g (celN (bitL W m)) 3) : Calls Try.prog 76 #[.slice (some ⟨g, 0, none⟩) W W] w fun e w' => e = .returned (adV (m % 2 ^ W)) ∧ Below w.heap.size w w' := by
  have h := rof_any (bitL W m) g 0 W w (by rw [bitL_len]; omega) (bitL_le W m) (fun j hj => by rw [Nat.zero_add, hr.cell, celN_get]) (fun _ => hr.lt)
  rw [bitL_len, ofL_bits W m hW] at h
  exact h
theorem right_four (n : Nat) : rightB false n = (decide (hiN n = 0) && decide (loN n < 4294967296)) := by
  unfold rightB hiN loN
  rw [← Bool.decide_and]
  exact decide_eq_decide.2 (by show n < 2 ^ 32 ↔ _; omega)
theorem right_six (n : Nat) (h : n < 2 ^ 128) : rightB true n = true := decide_eq_true h
set_option maxHeartbeats 1000000 in
theorem rright_any (six : Bool) (n : Nat) (w : World) (hn : n < 2 ^ 128) : Calls Try.prog 53 #[.bool six, adV n] w fun e w' => e = .returned (.bool (rightB six n)) ∧ Below w.heap.size w w' := by
  obtain ⟨X, hX⟩ : ∃ X, X = w.alloc (.cells #[.int .u64 (hiN n : Int), .int .u64 (loN n : Int)] 25) := ⟨_, rfl⟩
  have hB0 : Below w.heap.size w X := by rw [hX]; exact below_new (Below.refl _ _) _
  have r0 : RowAt X w.heap.size [.int .u64 (hiN n : Int), .int .u64 (loN n : Int)] 25 := by rw [hX]; exact RowAt.new _ _ _
  cases six
  · rw [right_four]
    unfold adV
    have hlt := loN_lt n
    generalize hiN n = h at *
    generalize loN n = l at *
    have hli : (l : Int) ≤ 18446744073709551615 := by omega
    obtain ⟨q0, q1, qf⟩ := cells2 r0
    clear hn r0 hlt
    by_cases h0 : h = 0
    · have h0' : ((h : Int) == 0) = true := by simpa using h0
      have HV : Hid ((decide (h = 0) && decide (l < 4294967296)) = decide ((l : Int) < 4294967296)) := by
        show _ = _
        rw [decide_eq_true h0, Bool.true_and]
        exact decide_eq_decide.2 (by omega)
      generalize (decide (h = 0) && decide (l < 4294967296)) = R at HV ⊢
      clear h0
      go_enter Try.func53, Try.ntmps53
      go_upto_region 1 with fail
      rw [← hX]
      clear hX
      go_wp2_with fail
      go_ret
      exact ⟨by rw [HV.out]; rfl, hB0⟩
    · have HV : Hid ((decide (h = 0) && decide (l < 4294967296)) = false) := by show _ = _; rw [decide_eq_false h0]; rfl
      generalize (decide (h = 0) && decide (l < 4294967296)) = R at HV ⊢
      have h0' : ((h : Int) == 0) = false := by simpa using h0
      go_enter Try.func53, Try.ntmps53
      go_upto_region 1 with fail
      rw [← hX]
      clear hX
      go_wp2_with fail
      go_ret
      exact ⟨by rw [HV.out]; rfl, hB0⟩
  · rw [right_six n hn]
    unfold adV
    clear hn r0
    go_enter Try.func53, Try.ntmps53
    go_upto_region 1 with fail
    rw [← hX]
    clear hX
    go_wp2_with fail
    go_ret
    exact ⟨rfl, hB0⟩
set_option maxHeartbeats 2000000 in
theorem rcmp_any (n m : Nat) (w : World) (hn : n < 2 ^ 128) (hm : m < 2 ^ 128) : Calls Try.prog 44 #[adV n, adV m] w fun e w' => e = .returned (.int .i64 (cmpN n m)) ∧ Below w.heap.size w w' := by
  have heq := fun w => ad_eql n m w
  have hgd := ad_guard
  obtain ⟨X, hX⟩ : ∃ X, X = (w.alloc (.cells #[.int .u64 (hiN n : Int), .int .u64 (loN n : Int)] 25)).alloc (.cells #[.int .u64 (hiN m : Int), .int .u64 (loN m : Int)] 25) := ⟨_, rfl⟩
  have hB0 : Below w.heap.size w X := by rw [hX]; exact below_new (below_new (Below.refl _ _) _) _
  have r0 : RowAt X w.heap.size [.int .u64 (hiN n : Int), .int .u64 (loN n : Int)] 25 := by rw [hX]; exact (RowAt.new _ _ _).alloc _
  have r1 : RowAt X (w.heap.size + 1) [.int .u64 (hiN m : Int), .int .u64 (loN m : Int)] 25 := by rw [hX, ← World.size_alloc w (.cells #[.int .u64 (hiN n : Int), .int .u64 (loN n : Int)] 25)]; exact RowAt.new _ _ _
  have e1 := hilo n
  have e2 := hilo m
  have l1 := loN_lt n
  have l2 := loN_lt m
  have u1 := hiN_lt hn
  have u2 := hiN_lt hm
  unfold adV at *
  generalize hiN n = a at *
  generalize loN n = c at *
  generalize hiN m = b at *
  generalize loN m = d at *
  have ai : (a : Int) ≤ 18446744073709551615 := by omega
  have bi : (b : Int) ≤ 18446744073709551615 := by omega
  have ci : (c : Int) ≤ 18446744073709551615 := by omega
  have di : (d : Int) ≤ 18446744073709551615 := by omega
  obtain ⟨q0, q1, qf⟩ := cells2 r0
  obtain ⟨p0, p1, pf⟩ := cells2 r1
  have HL : Hid (n < m ↔ a < b ∨ (a = b ∧ c < d)) := by show _ ↔ _; omega
  have HE : Hid (n = m ↔ (a = b ∧ c = d)) := by show _ ↔ _; omega
  have HC : Hid ((n < m → cmpN n m = -1) ∧ (n = m → cmpN n m = 0) ∧ (m < n → cmpN n m = 1)) := ⟨cmp_lt, fun h => by rw [h]; exact cmp_eq _, cmp_gt⟩
  clear hn hm e1 e2 l1 l2 u1 u2 r0 r1
  generalize hR : cmpN n m = R at *
  clear hR
  by_cases h1 : a < b
  · have d1 : decide ((a : Int) < (b : Int)) = true := decide_eq_true (by omega)
    have d1' : decide (a < b) = true := decide_eq_true h1
    have HV : Hid (R = -1) := HC.out.1 (HL.out.2 (.inl h1))
    rw [decide_eq_false (fun e => by have := HE.out.1 e; omega)] at heq
    clear HL HE HC
    (try clear he)
    go_enter Try.func44, Try.ntmps44
    go_upto_region 1 with fail
    rw [← hX]
    clear hX
    go_wp2_with fail
    go_ret
    exact ⟨by rw [HV.out]; rfl, hB0⟩
  have d1 : decide ((a : Int) < (b : Int)) = false := decide_eq_false (by omega)
  have d1' : decide (a < b) = false := decide_eq_false h1
  by_cases h2 : a = b
  · subst h2
    by_cases h3 : c < d
    · have d3 : decide ((c : Int) < (d : Int)) = true := decide_eq_true (by omega)
      have d3' : decide (c < d) = true := decide_eq_true h3
      have HV : Hid (R = -1) := HC.out.1 (HL.out.2 (.inr ⟨rfl, h3⟩))
      rw [decide_eq_false (fun e => by have := HE.out.1 e; omega)] at heq
      clear HL HE HC
      (try clear he)
      go_enter Try.func44, Try.ntmps44
      go_upto_region 1 with fail
      rw [← hX]
      clear hX
      go_wp2_with fail
      go_ret
      exact ⟨by rw [HV.out]; rfl, hB0⟩
    · have d3 : decide ((c : Int) < (d : Int)) = false := decide_eq_false (by omega)
      have d3' : decide (c < d) = false := decide_eq_false h3
      by_cases h4 : c = d
      · have he := HE.out.2 ⟨rfl, h4⟩
        clear h4
        have HV : Hid (R = 0) := HC.out.2.1 (he)
        rw [decide_eq_true he] at heq
        clear HL HE HC
        (try clear he)
        go_enter Try.func44, Try.ntmps44
        go_upto_region 1 with fail
        rw [← hX]
        clear hX
        go_wp2_with fail
        go_ret
        exact ⟨by rw [HV.out]; rfl, hB0⟩
      · have he : ¬ n = m := fun e => h4 (HE.out.1 e).2
        have hgt : m < n := by have := HL.out; omega
        have HV : Hid (R = 1) := HC.out.2.2 (hgt)
        rw [decide_eq_false he] at heq
        clear HL HE HC
        (try clear he)
        go_enter Try.func44, Try.ntmps44
        go_upto_region 1 with fail
        rw [← hX]
        clear hX
        go_wp2_with fail
        go_ret
        exact ⟨by rw [HV.out]; rfl, hB0⟩
  · have d2 : ((a : Int) == (b : Int)) = false := by rw [beq_eq_false_iff_ne]; omega
    have d2' : (a == b) = false := by rw [beq_eq_false_iff_ne]; exact h2
    have he : ¬ n = m := fun e => h2 (HE.out.1 e).1
    have hgt : m < n := by have := HL.out; omega
    have HV : Hid (R = 1) := HC.out.2.2 (hgt)
    rw [decide_eq_false he] at heq
    clear HL HE HC
    (try clear he)
    go_enter Try.func44, Try.ntmps44
    go_upto_region 1 with fail
    rw [← hX]
    clear hX
    go_wp2_with fail
    go_ret
    exact ⟨by rw [HV.out]; rfl, hB0⟩
def turn1E (six : Bool) (n : Nat) : Nat × Bool := if n = 2 ^ wideN six - 1 then (0, false) else (n + 1, true)
set_option maxHeartbeats 2000000 in
set_option maxRecDepth 20000 in
theorem turn1_any (six : Bool) (n : Nat) (w : World) (hn : n < 2 ^ wideN six) : Calls Try.prog 77 #[.bool six, adV n, .int .i64 1] w fun e w' => e = .returned (.tuple #[adV (turn1E six n).1, .bool (turn1E six n).2]) ∧ Below w.heap.size w w' := by
  have hWl := wideN_le six
  have hWg := wideN_ge six
  have h128 : (2 : Nat) ^ wideN six ≤ 2 ^ 128 := Nat.pow_le_pow_right (by decide) hWl
  have cb := fun w => rbits_any six n w (by omega)
  have HE : Hid (turn1E six n = if n = 2 ^ wideN six - 1 then (0, false) else (n + 1, true)) := rfl
  generalize turn1E six n = R at HE ⊢
  obtain ⟨W, hWd⟩ : ∃ W, W = wideN six := ⟨_, rfl⟩
  rw [← hWd] at cb hWl hWg HE hn h128
  clear hWd
  have HNW : Hid (n < 2 ^ W) := hn
  have HOF : Hid (∀ m g w, RowAt w g (celN (bitL W m)) 3 → Calls Try.prog 76 #[.slice (some ⟨g, 0, none⟩) W W] w fun e w' => e = .returned (adV (m % 2 ^ W)) ∧ Below w.heap.size w w') := fun m g w h => rof_row W m g w hWl h
  unfold BitsIs at cb
  rw [bitL_len] at cb
  obtain ⟨X, hX⟩ : ∃ X, X = (w.alloc (.cells #[.int .u64 (hiN n : Int), .int .u64 (loN n : Int)] 25)).alloc (.cells #[.int .u64 0, .int .u64 0] 25) := ⟨_, rfl⟩
  have hB0 : Below w.heap.size w X := by rw [hX]; exact below_new (below_new (Below.refl _ _) _) _
  have r1 : RowAt X (w.heap.size + 1) [.int .u64 0, .int .u64 0] 25 := by rw [hX, ← World.size_alloc w (.cells #[.int .u64 (hiN n : Int), .int .u64 (loN n : Int)] 25)]; exact RowAt.new _ _ _
  have hWi : (W : Int) ≤ 128 := by omega
  have hWi2 : (32 : Int) ≤ (W : Int) := by omega
  unfold adV at cb ⊢
  clear hn h128 hWg hWl
  go_enter Try.func77, Try.ntmps77
  go_wp2_with fail
  go_at_call 75; refine (cb _).mono ?_; rintro e w2 ⟨g, rfl, hgX, hrow, hb2⟩
  rw [← hX] at hb2 hgX
  have hlt0 := r1.lt
  have hgw : w.heap.size + 2 ≤ g := by
    have : X.heap.size = w.heap.size + 2 := by rw [hX]; simp
    omega
  have hB2 := below2 hB0 hb2
  have r1 := r1.below hb2
  clear hX cb hB0 hb2 hgX
  go_wp2_with fail
  go_loopw [9, 10] (fun i was wr => ∃ (t m : Nat) (x : Int), t ≤ W ∧ i = .int .i64 x ∧ Hid (x = (W : Int) - 1 - (t : Int)) ∧ Hid (∀ j, j < t → n.testBit j = true) ∧ Hid (∀ j, j < W → m.testBit j = if j < t then false else n.testBit j) ∧ RowAt wr g (celN (bitL W m)) 3 ∧ RowAt wr (w.heap.size + 1) [.int .u64 0, .int .u64 0] 25 ∧ Below w.heap.size w wr) (fun i _ _ => (intOf i + 1).toNat)
  case atStart => exact ⟨0, n, (W : Int) - 1, by omega, rfl, (by show _ = _; omega), (fun j hj => by omega), (fun j hj => by rw [if_neg (by omega)]), hrow, r1, hB2⟩
  case round =>
    obtain ⟨t, m, x, ht, rfl, HX, HT, HM, hr, ra, hb⟩ := hrel
    clear hrow r1 hB2
    by_cases hlt : t < W
    · obtain ⟨i, hi⟩ : ∃ i : Nat, i = W - 1 - t := ⟨_, rfl⟩
      obtain rfl : x = (i : Int) := by have := HX.out; omega
      have hxi : (i : Int) < (W : Int) := by omega
      have d0 : decide ((0 : Int) ≤ (i : Int)) = true := decide_eq_true (by omega)
      have hmt : m.testBit t = n.testBit t := by rw [HM.out t hlt, if_neg (by omega)]
      have hcell : wr.cell? ⟨g, i, none⟩ = some (.int .i64 ((n.testBit t).toNat : Int)) := by
        rw [hr.cell, celN_get _ _ (by rw [bitL_len]; omega), bitL_get W m i (by omega), show W - 1 - i = t by omega, hmt]
      have hfz : ∀ k, wr.frozen? ⟨g, k, none⟩ = false := hr.frozen
      cases hbt : n.testBit t with
      | true =>
        rw [hbt] at hcell
        simp only [Bool.toNat_true, Int.natCast_one] at hcell
        obtain ⟨m2, hm2, hm3⟩ := bitL_set W m t false hlt
        have hr2 := hr.set1 i (.int .i64 ((false.toNat : Nat) : Int))
        rw [celN_set, hi, hm2] at hr2
        have HR : Hid (RowAt (wr.setCell ⟨g, i, none⟩ (.int .i64 0)) g (celN (bitL W m2)) 3) := by rw [hi]; exact hr2
        have HA : Hid (RowAt (wr.setCell ⟨g, i, none⟩ (.int .i64 0)) (w.heap.size + 1) [.int .u64 0, .int .u64 0] 25) := ra.far1 (by omega) _ _
        have HT2 : Hid (∀ j, j < t + 1 → n.testBit j = true) := fun j hj => by
          by_cases hjt : j < t
          · exact HT.out j hjt
          · rw [show j = t by omega, hbt]
        have HM2 : Hid (∀ j, j < W → m2.testBit j = if j < t + 1 then false else n.testBit j) := fun j hj => by
          rw [hm3 j]
          by_cases hjt : j = t
          · rw [if_pos hjt, if_pos (by omega)]
          · rw [if_neg hjt, HM.out j hj]
            by_cases hj2 : j < t
            · rw [if_pos hj2, if_pos (by omega)]
            · rw [if_neg hj2, if_neg (by omega)]
        have HI : Hid (i = W - 1 - t) := hi
        clear hr hr2 hm2 hm3 ra hi hmt hbt HX HT HM
        go_wp2_with fail
        go_roundw
        case rel => exact ⟨t + 1, m2, (i : Int) - 1, by omega, rfl, (by show _ = _; have := HI.out; omega), HT2, HM2, HR.out, HA.out, bset hb (by omega)⟩
        case measure => simp [intOf]
      | false =>
        rw [hbt] at hcell
        simp only [Bool.toNat_false, Int.natCast_zero] at hcell
        obtain ⟨m2, hm2, hm3⟩ := bitL_set W m t true hlt
        have hr2 := hr.set1 i (.int .i64 ((true.toNat : Nat) : Int))
        rw [celN_set, hi, hm2] at hr2
        have hR : RowAt (wr.setCell ⟨g, i, none⟩ (.int .i64 1)) g (celN (bitL W m2)) 3 := by rw [hi]; exact hr2
        have HA : Hid (RowAt (wr.setCell ⟨g, i, none⟩ (.int .i64 1)) (w.heap.size + 1) [.int .u64 0, .int .u64 0] 25) := ra.far1 (by omega) _ _
        have hm3 : ∀ j, j < W → m2.testBit j = if j < t then false else if j = t then true else n.testBit j := fun j hj => by
          rw [hm3 j]
          by_cases hjt : j = t
          · rw [if_pos hjt, if_neg (by omega), if_pos hjt]
          · rw [if_neg hjt, HM.out j hj]
            by_cases hj2 : j < t
            · rw [if_pos hj2, if_pos hj2]
            · rw [if_neg hj2, if_neg hj2, if_neg hjt]
        have hnb := next_bits hlt HNW.out HT.out hbt hm3
        have HV : Hid (R = (m2 % 2 ^ W, true)) := by show _ = _; rw [HE.out, if_neg hnb.2, hnb.1]
        have cof := HOF.out m2 g _ hR
        have hbn : Below w.heap.size w (wr.setCell ⟨g, i, none⟩ (.int .i64 1)) := bset hb (by omega)
        unfold adV at cof
        have HF1 : Hid (hiN R.1 = hiN (m2 % 2 ^ W)) := by show _ = _; rw [HV.out]
        have HF2 : Hid (loN R.1 = loN (m2 % 2 ^ W)) := by show _ = _; rw [HV.out]
        have HF3 : Hid (R.2 = true) := by show _ = _; rw [HV.out]
        clear HV
        generalize hF : m2 % 2 ^ W = F at *
        generalize hiN F = Fh at *
        generalize loN F = Fl at *
        clear hr hr2 hm2 hm3 ra hi hmt hbt HX HT HM hnb hR hF
        obtain ⟨V, hV⟩ : ∃ V, V = wr.setCell ⟨g, i, none⟩ (.int .i64 1) := ⟨_, rfl⟩
        rw [← hV] at cof hbn HA
        go_wp2_with fail
        rw [← hV]
        clear hV
        go_at_call 76; refine cof.mono ?_; rintro e w4 ⟨rfl, hb4⟩
        have hW4 := below2 hbn hb4
        obtain ⟨q0, q1, qf⟩ := cells2 (HA.out.below hb4)
        clear cof HA hb4 hcell
        go_wp2_with fail
        (try simp only [Exit.inBlock, Exit.then])
        refine bodyPost_ret (v := .tuple #[.agg #[.int .u64 (Fh : Int), .int .u64 (Fl : Int)], .bool true]) ?_ rfl ⟨?_, ?_⟩
        · rw [results_cell_tmp rfl]
          go_simp
        · rw [HF1.out, HF2.out, HF3.out]
        · repeat' (first | with_reducible exact hW4 | with_reducible apply below_new | with_reducible refine bset ?_ (by omega))
    · obtain rfl : t = W := by omega
      obtain rfl : x = -1 := by have := HX.out; omega
      have HV : Hid (R = (0, false)) := by show _ = _; rw [HE.out, if_pos (ones_bits HNW.out HT.out)]
      obtain ⟨q0, q1, qf⟩ := cells2 ra
      clear hr ra HX HT HM
      go_wp2_with fail
      (try simp only [Exit.inBlock, Exit.then])
      refine bodyPost_ret (v := .tuple #[.agg #[.int .u64 0, .int .u64 0], .bool false]) ?_ rfl ⟨by rw [HV.out]; rfl, ?_⟩
      · rw [results_cell_tmp rfl]
        go_simp
      · repeat' (first | with_reducible exact hb | with_reducible apply below_new | with_reducible refine bset ?_ (by omega))
def turn0E (six : Bool) (n : Nat) : Nat × Bool := if n = 0 then (0, false) else (n - 1, true)
set_option maxHeartbeats 2000000 in
set_option maxRecDepth 20000 in
theorem turn0_any (six : Bool) (n : Nat) (w : World) (hn : n < 2 ^ wideN six) : Calls Try.prog 77 #[.bool six, adV n, .int .i64 0] w fun e w' => e = .returned (.tuple #[adV (turn0E six n).1, .bool (turn0E six n).2]) ∧ Below w.heap.size w w' := by
  have hWl := wideN_le six
  have hWg := wideN_ge six
  have h128 : (2 : Nat) ^ wideN six ≤ 2 ^ 128 := Nat.pow_le_pow_right (by decide) hWl
  have cb := fun w => rbits_any six n w (by omega)
  have HE : Hid (turn0E six n = if n = 0 then (0, false) else (n - 1, true)) := rfl
  generalize turn0E six n = R at HE ⊢
  obtain ⟨W, hWd⟩ : ∃ W, W = wideN six := ⟨_, rfl⟩
  rw [← hWd] at cb hWl hWg hn h128
  clear hWd
  have HNW : Hid (n < 2 ^ W) := hn
  have HOF : Hid (∀ m g w, RowAt w g (celN (bitL W m)) 3 → Calls Try.prog 76 #[.slice (some ⟨g, 0, none⟩) W W] w fun e w' => e = .returned (adV (m % 2 ^ W)) ∧ Below w.heap.size w w') := fun m g w h => rof_row W m g w hWl h
  unfold BitsIs at cb
  rw [bitL_len] at cb
  obtain ⟨X, hX⟩ : ∃ X, X = (w.alloc (.cells #[.int .u64 (hiN n : Int), .int .u64 (loN n : Int)] 25)).alloc (.cells #[.int .u64 0, .int .u64 0] 25) := ⟨_, rfl⟩
  have hB0 : Below w.heap.size w X := by rw [hX]; exact below_new (below_new (Below.refl _ _) _) _
  have r1 : RowAt X (w.heap.size + 1) [.int .u64 0, .int .u64 0] 25 := by rw [hX, ← World.size_alloc w (.cells #[.int .u64 (hiN n : Int), .int .u64 (loN n : Int)] 25)]; exact RowAt.new _ _ _
  have hWi : (W : Int) ≤ 128 := by omega
  have hWi2 : (32 : Int) ≤ (W : Int) := by omega
  unfold adV at cb ⊢
  clear hn h128 hWg hWl
  go_enter Try.func77, Try.ntmps77
  go_wp2_with fail
  go_at_call 75; refine (cb _).mono ?_; rintro e w2 ⟨g, rfl, hgX, hrow, hb2⟩
  rw [← hX] at hb2 hgX
  have hlt0 := r1.lt
  have hgw : w.heap.size + 2 ≤ g := by
    have : X.heap.size = w.heap.size + 2 := by rw [hX]; simp
    omega
  have hB2 := below2 hB0 hb2
  have r1 := r1.below hb2
  clear hX cb hB0 hb2 hgX
  go_wp2_with fail
  go_loopw [9, 10] (fun i was wr => ∃ (t m : Nat) (x : Int), t ≤ W ∧ i = .int .i64 x ∧ Hid (x = (W : Int) - 1 - (t : Int)) ∧ Hid (∀ j, j < t → n.testBit j = false) ∧ Hid (∀ j, j < W → m.testBit j = if j < t then true else n.testBit j) ∧ RowAt wr g (celN (bitL W m)) 3 ∧ RowAt wr (w.heap.size + 1) [.int .u64 0, .int .u64 0] 25 ∧ Below w.heap.size w wr) (fun i _ _ => (intOf i + 1).toNat)
  case atStart => exact ⟨0, n, (W : Int) - 1, by omega, rfl, (by show _ = _; omega), (fun j hj => by omega), (fun j hj => by rw [if_neg (by omega)]), hrow, r1, hB2⟩
  case round =>
    obtain ⟨t, m, x, ht, rfl, HX, HT, HM, hr, ra, hb⟩ := hrel
    clear hrow r1 hB2
    by_cases hlt : t < W
    · obtain ⟨i, hi⟩ : ∃ i : Nat, i = W - 1 - t := ⟨_, rfl⟩
      obtain rfl : x = (i : Int) := by have := HX.out; omega
      have hxi : (i : Int) < (W : Int) := by omega
      have d0 : decide ((0 : Int) ≤ (i : Int)) = true := decide_eq_true (by omega)
      have hmt : m.testBit t = n.testBit t := by rw [HM.out t hlt, if_neg (by omega)]
      have hcell : wr.cell? ⟨g, i, none⟩ = some (.int .i64 ((n.testBit t).toNat : Int)) := by
        rw [hr.cell, celN_get _ _ (by rw [bitL_len]; omega), bitL_get W m i (by omega), show W - 1 - i = t by omega, hmt]
      have hfz : ∀ k, wr.frozen? ⟨g, k, none⟩ = false := hr.frozen
      cases hbt : n.testBit t with
      | false =>
        rw [hbt] at hcell
        simp only [Bool.toNat_false, Int.natCast_zero] at hcell
        obtain ⟨m2, hm2, hm3⟩ := bitL_set W m t true hlt
        have hr2 := hr.set1 i (.int .i64 ((true.toNat : Nat) : Int))
        rw [celN_set, hi, hm2] at hr2
        have HR : Hid (RowAt (wr.setCell ⟨g, i, none⟩ (.int .i64 1)) g (celN (bitL W m2)) 3) := by rw [hi]; exact hr2
        have HA : Hid (RowAt (wr.setCell ⟨g, i, none⟩ (.int .i64 1)) (w.heap.size + 1) [.int .u64 0, .int .u64 0] 25) := ra.far1 (by omega) _ _
        have HT2 : Hid (∀ j, j < t + 1 → n.testBit j = false) := fun j hj => by
          by_cases hjt : j < t
          · exact HT.out j hjt
          · rw [show j = t by omega, hbt]
        have HM2 : Hid (∀ j, j < W → m2.testBit j = if j < t + 1 then true else n.testBit j) := fun j hj => by
          rw [hm3 j]
          by_cases hjt : j = t
          · rw [if_pos hjt, if_pos (by omega)]
          · rw [if_neg hjt, HM.out j hj]
            by_cases hj2 : j < t
            · rw [if_pos hj2, if_pos (by omega)]
            · rw [if_neg hj2, if_neg (by omega)]
        have HI : Hid (i = W - 1 - t) := hi
        clear hr hr2 hm2 hm3 ra hi hmt hbt HX HT HM
        go_wp2_with fail
        go_roundw
        case rel => exact ⟨t + 1, m2, (i : Int) - 1, by omega, rfl, (by show _ = _; have := HI.out; omega), HT2, HM2, HR.out, HA.out, bset hb (by omega)⟩
        case measure => simp [intOf]
      | true =>
        rw [hbt] at hcell
        simp only [Bool.toNat_true, Int.natCast_one] at hcell
        obtain ⟨m2, hm2, hm3⟩ := bitL_set W m t false hlt
        have hr2 := hr.set1 i (.int .i64 ((false.toNat : Nat) : Int))
        rw [celN_set, hi, hm2] at hr2
        have hR : RowAt (wr.setCell ⟨g, i, none⟩ (.int .i64 0)) g (celN (bitL W m2)) 3 := by rw [hi]; exact hr2
        have HA : Hid (RowAt (wr.setCell ⟨g, i, none⟩ (.int .i64 0)) (w.heap.size + 1) [.int .u64 0, .int .u64 0] 25) := ra.far1 (by omega) _ _
        have hm3 : ∀ j, j < W → m2.testBit j = if j < t then true else if j = t then false else n.testBit j := fun j hj => by
          rw [hm3 j]
          by_cases hjt : j = t
          · rw [if_pos hjt, if_neg (by omega), if_pos hjt]
          · rw [if_neg hjt, HM.out j hj]
            by_cases hj2 : j < t
            · rw [if_pos hj2, if_pos hj2]
            · rw [if_neg hj2, if_neg hj2, if_neg hjt]
        have hnb := prev_bits hlt HNW.out HT.out hbt hm3
        have HV : Hid (R = (m2 % 2 ^ W, true)) := by show _ = _; rw [HE.out, if_neg (by omega), show n - 1 = m2 % 2 ^ W by omega]
        have cof := HOF.out m2 g _ hR
        have hbn : Below w.heap.size w (wr.setCell ⟨g, i, none⟩ (.int .i64 0)) := bset hb (by omega)
        unfold adV at cof
        have HF1 : Hid (hiN R.1 = hiN (m2 % 2 ^ W)) := by show _ = _; rw [HV.out]
        have HF2 : Hid (loN R.1 = loN (m2 % 2 ^ W)) := by show _ = _; rw [HV.out]
        have HF3 : Hid (R.2 = true) := by show _ = _; rw [HV.out]
        clear HV
        generalize hF : m2 % 2 ^ W = F at *
        generalize hiN F = Fh at *
        generalize loN F = Fl at *
        clear hr hr2 hm2 hm3 ra hi hmt hbt HX HT HM hnb hR hF
        obtain ⟨V, hV⟩ : ∃ V, V = wr.setCell ⟨g, i, none⟩ (.int .i64 0) := ⟨_, rfl⟩
        rw [← hV] at cof hbn HA
        go_wp2_with fail
        rw [← hV]
        clear hV
        go_at_call 76; refine cof.mono ?_; rintro e w4 ⟨rfl, hb4⟩
        have hW4 := below2 hbn hb4
        obtain ⟨q0, q1, qf⟩ := cells2 (HA.out.below hb4)
        clear cof HA hb4 hcell
        go_wp2_with fail
        (try simp only [Exit.inBlock, Exit.then])
        refine bodyPost_ret (v := .tuple #[.agg #[.int .u64 (Fh : Int), .int .u64 (Fl : Int)], .bool true]) ?_ rfl ⟨?_, ?_⟩
        · rw [results_cell_tmp rfl]
          go_simp
        · rw [HF1.out, HF2.out, HF3.out]
        · repeat' (first | with_reducible exact hW4 | with_reducible apply below_new | with_reducible refine bset ?_ (by omega))
    · obtain rfl : t = W := by omega
      obtain rfl : x = -1 := by have := HX.out; omega
      have HV : Hid (R = (0, false)) := by show _ = _; rw [HE.out, if_pos (zero_bits HNW.out HT.out)]
      obtain ⟨q0, q1, qf⟩ := cells2 ra
      clear hr ra HX HT HM
      go_wp2_with fail
      (try simp only [Exit.inBlock, Exit.then])
      refine bodyPost_ret (v := .tuple #[.agg #[.int .u64 0, .int .u64 0], .bool false]) ?_ rfl ⟨by rw [HV.out]; rfl, ?_⟩
      · rw [results_cell_tmp rfl]
        go_simp
      · repeat' (first | with_reducible exact hb | with_reducible apply below_new | with_reducible refine bset ?_ (by omega))
set_option maxHeartbeats 2000000 in
theorem rnext_any (six : Bool) (n : Nat) (w : World) (hn : n < 2 ^ 128) : Calls Try.prog 43 #[.bool six, adV n] w fun e w' => e = .returned (.tuple #[adV (nextE six n).1, .int .i64 (nextE six n).2]) ∧ Below w.heap.size w w' := by
  have cr := fun w => rright_any six n w hn
  have hz : adV 0 = .agg #[.int .u64 0, .int .u64 0] := rfl
  obtain ⟨X, hX⟩ : ∃ X, X = (w.alloc (.cells #[.int .u64 (hiN n : Int), .int .u64 (loN n : Int)] 25)).alloc (.cells #[.int .u64 0, .int .u64 0] 25) := ⟨_, rfl⟩
  have hB0 : Below w.heap.size w X := by rw [hX]; exact below_new (below_new (Below.refl _ _) _) _
  have r0 : RowAt X w.heap.size [.int .u64 (hiN n : Int), .int .u64 (loN n : Int)] 25 := by rw [hX]; exact (RowAt.new _ _ _).alloc _
  have r1 : RowAt X (w.heap.size + 1) [.int .u64 0, .int .u64 0] 25 := by rw [hX, ← World.size_alloc w (.cells #[.int .u64 (hiN n : Int), .int .u64 (loN n : Int)] 25)]; exact RowAt.new _ _ _
  cases hr : rightB six n
  · rw [hr] at cr
    have e1 : nextE six n = (0, 2) := by unfold nextE; rw [hr]; rfl
    rw [e1]
    simp only [hz]
    unfold adV at *
    generalize hiN n = h at *
    generalize loN n = l at *
    clear hr e1 hn hz
    go_enter Try.func43, Try.ntmps43
    go_wp2_with fail
    go_at_call 53; refine (cr _).mono ?_; rintro e w2 ⟨rfl, hb2⟩
    rw [← hX] at hb2
    have hW := below2 hB0 hb2
    obtain ⟨q0, q1, qf⟩ := cells2 (r1.below hb2)
    clear hX cr r1 hB0 hb2
    go_wp2_with fail
    (try simp only [Exit.inBlock, Exit.then])
    refine bodyPost_ret (v := .tuple #[.agg #[.int .u64 0, .int .u64 0], .int .i64 2]) ?_ rfl ⟨rfl, ?_⟩
    · rw [results_cell_tmp rfl]
      go_simp
    · repeat' (first | with_reducible exact hW | with_reducible apply below_new | with_reducible refine bset ?_ (by omega))
  · rw [hr] at cr
    have ct := fun w => turn1_any six n w (of_decide_eq_true hr)
    by_cases hm : n = 2 ^ wideN six - 1
    · have e1 : nextE six n = (0, 3) := by unfold nextE; rw [hr, if_pos rfl, if_pos hm]
      have e2 : turn1E six n = (0, false) := by unfold turn1E; rw [if_pos hm]
      rw [e1]
      rw [e2] at ct
      simp only [hz] at ct ⊢
      unfold adV at *
      generalize hiN n = h at *
      generalize loN n = l at *
      clear hr e1 e2 hn hz hm
      go_enter Try.func43, Try.ntmps43
      go_wp2_with fail
      go_at_call 53; refine (cr _).mono ?_; rintro e w2 ⟨rfl, hb2⟩
      rw [← hX] at hb2
      have hW := below2 hB0 hb2
      have r0 := r0.below hb2
      have r1 := r1.below hb2
      obtain ⟨q0, q1, qf⟩ := cells2 r0
      clear hX cr hB0 hb2
      go_wp2_with fail
      go_at_call 77; refine (ct _).mono ?_; rintro e w3 ⟨rfl, hb3⟩
      clear q0 q1 qf
      obtain ⟨q0, q1, qf⟩ := cells2 (r1.below hb3)
      have l1 := (r1.below hb3).lt
      have hW := below2 hW hb3
      clear ct r0 r1 hb3
      go_wp2_with fail
      (try simp only [Exit.inBlock, Exit.then])
      refine bodyPost_ret (v := .tuple #[.agg #[.int .u64 0, .int .u64 0], .int .i64 3]) ?_ rfl ⟨rfl, ?_⟩
      · rw [results_cell_tmp rfl]
        go_simp
      · repeat' (first | with_reducible exact hW | with_reducible apply below_new | with_reducible refine bset ?_ (by omega))
    · have e1 : nextE six n = (n + 1, 0) := by unfold nextE; rw [hr, if_pos rfl, if_neg hm]
      have e2 : turn1E six n = (n + 1, true) := by unfold turn1E; rw [if_neg hm]
      rw [e1]
      rw [e2] at ct
      simp only at ct ⊢
      unfold adV at *
      generalize hiN (n + 1) = rh at *
      generalize loN (n + 1) = rl at *
      generalize hiN n = h at *
      generalize loN n = l at *
      clear hr e1 e2 hn hz hm
      go_enter Try.func43, Try.ntmps43
      go_wp2_with fail
      go_at_call 53; refine (cr _).mono ?_; rintro e w2 ⟨rfl, hb2⟩
      rw [← hX] at hb2
      have hW := below2 hB0 hb2
      have r0 := r0.below hb2
      have r1 := r1.below hb2
      obtain ⟨q0, q1, qf⟩ := cells2 r0
      clear hX cr hB0 hb2
      go_wp2_with fail
      go_at_call 77; refine (ct _).mono ?_; rintro e w3 ⟨rfl, hb3⟩
      clear q0 q1 qf
      obtain ⟨q0, q1, qf⟩ := cells2 (r1.below hb3)
      have l1 := (r1.below hb3).lt
      have hW := below2 hW hb3
      clear ct r0 r1 hb3
      go_wp2_with fail
      (try simp only [Exit.inBlock, Exit.then])
      refine bodyPost_ret (v := .tuple #[.agg #[.int .u64 (rh : Int), .int .u64 (rl : Int)], .int .i64 0]) ?_ rfl ⟨rfl, ?_⟩
      · rw [results_cell_tmp rfl]
        go_simp
      · repeat' (first | with_reducible exact hW | with_reducible apply below_new | with_reducible refine bset ?_ (by omega))
set_option maxHeartbeats 2000000 in
theorem rprev_any (six : Bool) (n : Nat) (w : World) (hn : n < 2 ^ 128) : Calls Try.prog 73 #[.bool six, adV n] w fun e w' => e = .returned (.tuple #[adV (prevE six n).1, .int .i64 (prevE six n).2]) ∧ Below w.heap.size w w' := by
  have cr := fun w => rright_any six n w hn
  have hz : adV 0 = .agg #[.int .u64 0, .int .u64 0] := rfl
  obtain ⟨X, hX⟩ : ∃ X, X = (w.alloc (.cells #[.int .u64 (hiN n : Int), .int .u64 (loN n : Int)] 25)).alloc (.cells #[.int .u64 0, .int .u64 0] 25) := ⟨_, rfl⟩
  have hB0 : Below w.heap.size w X := by rw [hX]; exact below_new (below_new (Below.refl _ _) _) _
  have r0 : RowAt X w.heap.size [.int .u64 (hiN n : Int), .int .u64 (loN n : Int)] 25 := by rw [hX]; exact (RowAt.new _ _ _).alloc _
  have r1 : RowAt X (w.heap.size + 1) [.int .u64 0, .int .u64 0] 25 := by rw [hX, ← World.size_alloc w (.cells #[.int .u64 (hiN n : Int), .int .u64 (loN n : Int)] 25)]; exact RowAt.new _ _ _
  cases hr : rightB six n
  · rw [hr] at cr
    have e1 : prevE six n = (0, 2) := by unfold prevE; rw [hr]; rfl
    rw [e1]
    simp only [hz]
    unfold adV at *
    generalize hiN n = h at *
    generalize loN n = l at *
    clear hr e1 hn hz
    go_enter Try.func73, Try.ntmps73
    go_wp2_with fail
    go_at_call 53; refine (cr _).mono ?_; rintro e w2 ⟨rfl, hb2⟩
    rw [← hX] at hb2
    have hW := below2 hB0 hb2
    obtain ⟨q0, q1, qf⟩ := cells2 (r1.below hb2)
    clear hX cr r1 hB0 hb2
    go_wp2_with fail
    (try simp only [Exit.inBlock, Exit.then])
    refine bodyPost_ret (v := .tuple #[.agg #[.int .u64 0, .int .u64 0], .int .i64 2]) ?_ rfl ⟨rfl, ?_⟩
    · rw [results_cell_tmp rfl]
      go_simp
    · repeat' (first | with_reducible exact hW | with_reducible apply below_new | with_reducible refine bset ?_ (by omega))
  · rw [hr] at cr
    have ct := fun w => turn0_any six n w (of_decide_eq_true hr)
    by_cases hm : n = 0
    · have e1 : prevE six n = (0, 3) := by unfold prevE; rw [hr, if_pos rfl, if_pos hm]
      have e2 : turn0E six n = (0, false) := by unfold turn0E; rw [if_pos hm]
      rw [e1]
      rw [e2] at ct
      simp only [hz] at ct ⊢
      unfold adV at *
      generalize hiN n = h at *
      generalize loN n = l at *
      clear hr e1 e2 hn hz hm
      go_enter Try.func73, Try.ntmps73
      go_wp2_with fail
      go_at_call 53; refine (cr _).mono ?_; rintro e w2 ⟨rfl, hb2⟩
      rw [← hX] at hb2
      have hW := below2 hB0 hb2
      have r0 := r0.below hb2
      have r1 := r1.below hb2
      obtain ⟨q0, q1, qf⟩ := cells2 r0
      clear hX cr hB0 hb2
      go_wp2_with fail
      go_at_call 77; refine (ct _).mono ?_; rintro e w3 ⟨rfl, hb3⟩
      clear q0 q1 qf
      obtain ⟨q0, q1, qf⟩ := cells2 (r1.below hb3)
      have l1 := (r1.below hb3).lt
      have hW := below2 hW hb3
      clear ct r0 r1 hb3
      go_wp2_with fail
      (try simp only [Exit.inBlock, Exit.then])
      refine bodyPost_ret (v := .tuple #[.agg #[.int .u64 0, .int .u64 0], .int .i64 3]) ?_ rfl ⟨rfl, ?_⟩
      · rw [results_cell_tmp rfl]
        go_simp
      · repeat' (first | with_reducible exact hW | with_reducible apply below_new | with_reducible refine bset ?_ (by omega))
    · have e1 : prevE six n = (n - 1, 0) := by unfold prevE; rw [hr, if_pos rfl, if_neg hm]
      have e2 : turn0E six n = (n - 1, true) := by unfold turn0E; rw [if_neg hm]
      rw [e1]
      rw [e2] at ct
      simp only at ct ⊢
      unfold adV at *
      generalize hiN (n - 1) = rh at *
      generalize loN (n - 1) = rl at *
      generalize hiN n = h at *
      generalize loN n = l at *
      clear hr e1 e2 hn hz hm
      go_enter Try.func73, Try.ntmps73
      go_wp2_with fail
      go_at_call 53; refine (cr _).mono ?_; rintro e w2 ⟨rfl, hb2⟩
      rw [← hX] at hb2
      have hW := below2 hB0 hb2
      have r0 := r0.below hb2
      have r1 := r1.below hb2
      obtain ⟨q0, q1, qf⟩ := cells2 r0
      clear hX cr hB0 hb2
      go_wp2_with fail
      go_at_call 77; refine (ct _).mono ?_; rintro e w3 ⟨rfl, hb3⟩
      clear q0 q1 qf
      obtain ⟨q0, q1, qf⟩ := cells2 (r1.below hb3)
      have l1 := (r1.below hb3).lt
      have hW := below2 hW hb3
      clear ct r0 r1 hb3
      go_wp2_with fail
      (try simp only [Exit.inBlock, Exit.then])
      refine bodyPost_ret (v := .tuple #[.agg #[.int .u64 (rh : Int), .int .u64 (rl : Int)], .int .i64 0]) ?_ rfl ⟨rfl, ?_⟩
      · rw [results_cell_tmp rfl]
        go_simp
      · repeat' (first | with_reducible exact hW | with_reducible apply below_new | with_reducible refine bset ?_ (by omega))
end Go.Proofs.Ytiemlaehhmlhmaa.Addr
namespace Go.Proofs.Ytiemlaehhmlhmaa.Addr
open Go.RowKit

theorem check_bits {p : Pf} (h1 : 0 ≤ p.len ∧ p.len ≤ (wideN p.six : Int)) (h2 : rightB p.six p.n = true) :
    ((∀ j, j < wideN p.six → p.len ≤ (j : Int) → p.n.testBit (wideN p.six - 1 - j) = false) → checkP p = 0) ∧ (∀ j, j < wideN p.six → p.len ≤ (j : Int) → p.n.testBit (wideN p.six - 1 - j) = true → checkP p = 2) := by
  have hk : kP p = wideN p.six - p.len.toNat := rfl
  constructor
  · intro h
    apply checkP_ok
    rw [okP_first h1 h2]
    apply decide_eq_true
    rw [first_eq, mod_zero_bits]
    intro j hj
    have := h (wideN p.six - 1 - j) (by omega) (by omega)
    rwa [show wideN p.six - 1 - (wideN p.six - 1 - j) = j by omega] at this
  · intro j hj hl hb
    apply checkP_bad
    rw [okP_first h1 h2]
    apply decide_eq_false
    rw [first_eq, mod_zero_bits]
    intro h
    have := h (wideN p.six - 1 - j) (by omega)
    rw [hb] at this
    simp at this
set_option maxHeartbeats 2000000 in
set_option maxRecDepth 20000 in
theorem rcheck_any (p : Pf) (w : World) (hl : -9223372036854775808 ≤ p.len ∧ p.len ≤ 9223372036854775807) (ha : p.n < 2 ^ 128) : Calls Try.prog 74 #[pfV p] w fun e w' => e = .returned (.int .i64 (checkP p)) ∧ Below w.heap.size w w' := by
  have cs := fun w => rwide_any p.six w
  have cr := fun w => rright_any p.six p.n w ha
  have cb := fun w => rbits_any p.six p.n w ha
  have hw : (wideN p.six : Int) ≤ 128 := by have := wideN_le p.six; omega
  have HB1 : Hid (¬ (0 ≤ p.len ∧ p.len ≤ (wideN p.six : Int)) → checkP p = 2) := fun h => checkP_bad (okP_len_bad h)
  have HB2 : Hid (rightB p.six p.n = false → checkP p = 2) := fun h => checkP_bad (okP_right h)
  have HB3 : Hid (0 ≤ p.len ∧ p.len ≤ (wideN p.six : Int) → rightB p.six p.n = true → ((∀ j, j < wideN p.six → p.len ≤ (j : Int) → p.n.testBit (wideN p.six - 1 - j) = false) → checkP p = 0) ∧ (∀ j, j < wideN p.six → p.len ≤ (j : Int) → p.n.testBit (wideN p.six - 1 - j) = true → checkP p = 2)) := check_bits
  unfold BitsIs at cb
  rw [bitL_len] at cb
  generalize checkP p = R at *
  generalize rightB p.six p.n = B at *
  obtain ⟨six, n, len⟩ := p
  simp only at *
  unfold pfV adV at *
  simp only at *
  generalize hiN n = h at *
  generalize loN n = l at *
  obtain ⟨W, hWd⟩ : ∃ W, W = wideN six := ⟨_, rfl⟩
  rw [← hWd] at cb cs hw HB1 HB3
  clear ha hWd
  obtain ⟨hl0, hl1⟩ := hl
  obtain ⟨X, hX⟩ : ∃ X, X = w.alloc (.cells #[.bool six, .int .u64 (h : Int), .int .u64 (l : Int), .int .i64 len] 27) := ⟨_, rfl⟩
  have hB0 : Below w.heap.size w X := by rw [hX]; exact below_new (Below.refl _ _) _
  have r1 : RowAt X w.heap.size [.bool six, .int .u64 (h : Int), .int .u64 (l : Int), .int .i64 len] 27 := by rw [hX]; exact RowAt.new _ _ _
  have q0 : ∀ p : Bl X, p.W.cell? ⟨w.heap.size, 0, none⟩ = some (.bool six) := fun p => (r1.below p.h).cell 0
  have q1 : ∀ p : Bl X, p.W.cell? ⟨w.heap.size, 1, none⟩ = some (.int .u64 (h : Int)) := fun p => (r1.below p.h).cell 1
  have q2 : ∀ p : Bl X, p.W.cell? ⟨w.heap.size, 2, none⟩ = some (.int .u64 (l : Int)) := fun p => (r1.below p.h).cell 2
  have q3 : ∀ p : Bl X, p.W.cell? ⟨w.heap.size, 3, none⟩ = some (.int .i64 len) := fun p => (r1.below p.h).cell 3
  by_cases h0 : len < 0
  · have d0 : decide (len < 0) = true := decide_eq_true h0
    have HV : Hid (R = 2) := HB1.out (by omega)
    clear HB1 HB2 HB3 cb
    go_enter Try.func74, Try.ntmps74
    go_wp2_with fail
    rw [← hX]
    clear hX
    haveI := bl_ne X
    refine wp_region_bl (by kernel_rfl) (by kernel_rfl) ?_
    repeat (quiet_step (first | (go_at_call 91; with_reducible exact bl_same (cs _)) | (go_at_call 53; with_reducible exact bl_call (cr _))))
    refine wpQuiet_nil ?_
    intro wq hw'
    obtain ⟨⟨wz, hq⟩, hw2⟩ := hw'
    subst hw2
    have hW := below2 hB0 hq
    go_wp2_with fail
    go_ret
    exact ⟨by rw [HV.out]; rfl, hW⟩
  have d0 : decide (len < 0) = false := decide_eq_false h0
  by_cases h1 : (W : Int) < len
  · have d1 : decide ((W : Int) < len) = true := decide_eq_true h1
    have HV : Hid (R = 2) := HB1.out (by omega)
    clear HB1 HB2 HB3 cb
    go_enter Try.func74, Try.ntmps74
    go_wp2_with fail
    rw [← hX]
    clear hX
    haveI := bl_ne X
    refine wp_region_bl (by kernel_rfl) (by kernel_rfl) ?_
    repeat (quiet_step (first | (go_at_call 91; with_reducible exact bl_same (cs _)) | (go_at_call 53; with_reducible exact bl_call (cr _))))
    refine wpQuiet_nil ?_
    intro wq hw'
    obtain ⟨⟨wz, hq⟩, hw2⟩ := hw'
    subst hw2
    have hW := below2 hB0 hq
    go_wp2_with fail
    go_ret
    exact ⟨by rw [HV.out]; rfl, hW⟩
  have d1 : decide ((W : Int) < len) = false := decide_eq_false h1
  cases B with
  | false =>
    have HV : Hid (R = 2) := HB2.out rfl
    clear HB1 HB2 HB3 cb
    go_enter Try.func74, Try.ntmps74
    go_wp2_with fail
    rw [← hX]
    clear hX
    haveI := bl_ne X
    refine wp_region_bl (by kernel_rfl) (by kernel_rfl) ?_
    repeat (quiet_step (first | (go_at_call 91; with_reducible exact bl_same (cs _)) | (go_at_call 53; with_reducible exact bl_call (cr _))))
    refine wpQuiet_nil ?_
    intro wq hw'
    obtain ⟨⟨wz, hq⟩, hw2⟩ := hw'
    subst hw2
    have hW := below2 hB0 hq
    go_wp2_with fail
    go_ret
    exact ⟨by rw [HV.out]; rfl, hW⟩
  | true =>
    obtain ⟨hA, hC⟩ := HB3.out ⟨by omega, by omega⟩ rfl
    have HA : Hid ((∀ j, j < W → len ≤ (j : Int) → n.testBit (W - 1 - j) = false) → R = 0) := hA
    have HC : Hid (∀ j, j < W → len ≤ (j : Int) → n.testBit (W - 1 - j) = true → R = 2) := hC
    clear HB1 HB2 HB3 hA hC
    go_enter Try.func74, Try.ntmps74
    go_wp2_with fail
    rw [← hX]
    clear hX
    haveI := bl_ne X
    refine wp_region_bl (by kernel_rfl) (by kernel_rfl) ?_
    repeat (quiet_step (first | (go_at_call 91; with_reducible exact bl_same (cs _)) | (go_at_call 53; with_reducible exact bl_call (cr _))))
    refine wpQuiet_nil ?_
    intro wq hw'
    obtain ⟨⟨wz, hq⟩, hw2⟩ := hw'
    subst hw2
    have hW := below2 hB0 hq
    have r2 := r1.below hq
    clear r1 q0 q1 q2 q3 cs cr this hq hB0
    obtain ⟨q0, q1, q2, q3, qf⟩ := cells4 r2
    go_wp2_with fail
    go_at_call 75; refine (cb _).mono ?_; rintro e w3 ⟨g, rfl, hg, hrow, hb3⟩
    have hW := below2 hW hb3
    have r3 := r2.below hb3
    have hcl : ∀ j, j < W → w3.cell? ⟨g, j, none⟩ = some (.int .i64 ((n.testBit (W - 1 - j)).toNat : Int)) := fun j hj => by
      rw [hrow.cell, celN_get _ _ (by rw [bitL_len]; exact hj), bitL_get W n j hj]
    have HCL : Hid (∀ j, j < W → w3.cell? ⟨g, j, none⟩ = some (.int .i64 ((n.testBit (W - 1 - j)).toNat : Int))) := hcl
    clear q0 q1 q2 q3 qf cb hg hrow hcl r2 hb3
    obtain ⟨q0, q1, q2, q3, qf⟩ := cells4 r3
    clear r3
    go_wp2_with fail
    go_loop [30] (fun i => ∃ k : Nat, k ≤ W ∧ i = .int .i64 (k : Int) ∧ Hid (∀ j, j < k → len ≤ (j : Int) → n.testBit (W - 1 - j) = false)) (fun i => W - (intOf i).toNat)
    case atStart => exact ⟨0, by omega, rfl, fun j hj => by omega⟩
    case round =>
      obtain ⟨k, hk, rfl, HK⟩ := hrel
      by_cases hlt : k < W
      · have hki : (k : Int) < (W : Int) := by omega
        have hc := HCL.out k hlt
        by_cases hlk : len ≤ (k : Int)
        · have dl : decide (len ≤ (k : Int)) = true := decide_eq_true hlk
          cases hbt : n.testBit (W - 1 - k) with
          | false =>
            rw [hbt] at hc
            simp only [Bool.toNat_false, Int.natCast_zero] at hc
            have HK2 : Hid (∀ j, j < k + 1 → len ≤ (j : Int) → n.testBit (W - 1 - j) = false) := fun j hj hjl => by
              by_cases hjk : j < k
              · exact HK.out j hjk hjl
              · rw [show j = k by omega, hbt]
            clear hbt
            go_wp2_with fail
            go_round
            case rel => exact ⟨k + 1, by omega, by go_num, HK2⟩
            case measure => simp [intOf]; omega
          | true =>
            rw [hbt] at hc
            simp only [Bool.toNat_true, Int.natCast_one] at hc
            have HV : Hid (R = 2) := HC.out k hlt hlk hbt
            clear hbt
            go_wp2_with fail
            go_ret
            exact ⟨by rw [HV.out]; rfl, hW⟩
        · have dl : decide (len ≤ (k : Int)) = false := decide_eq_false hlk
          have HK2 : Hid (∀ j, j < k + 1 → len ≤ (j : Int) → n.testBit (W - 1 - j) = false) := fun j hj hjl => by
            by_cases hjk : j < k
            · exact HK.out j hjk hjl
            · omega
          go_wp2_with fail
          go_round
          case rel => exact ⟨k + 1, by omega, by go_num, HK2⟩
          case measure => simp [intOf]; omega
      · obtain rfl : k = W := by omega
        have HV : Hid (R = 0) := HA.out HK.out
        clear HK
        go_wp2_with fail
        go_ret
        exact ⟨by rw [HV.out]; rfl, hW⟩
set_option maxHeartbeats 2000000 in
set_option maxRecDepth 20000 in
theorem rlast_any (p : Pf) (w : World) (hl : -9223372036854775808 ≤ p.len ∧ p.len ≤ 9223372036854775807) (ha : p.n < 2 ^ 128) : Calls Try.prog 41 #[pfV p] w fun e w' => e = .returned (.tuple #[adV (lastE p).1, .int .i64 (lastE p).2]) ∧ Below w.heap.size w w' := by
  have cc := fun w => rcheck_any p w hl ha
  obtain ⟨X, hX⟩ : ∃ X, X = (w.alloc (.cells #[.bool p.six, .int .u64 (hiN p.n : Int), .int .u64 (loN p.n : Int), .int .i64 p.len] 27)).alloc (.cells #[.int .u64 0, .int .u64 0] 25) := ⟨_, rfl⟩
  have hB0 : Below w.heap.size w X := by rw [hX]; exact below_new (below_new (Below.refl _ _) _) _
  have r0 : RowAt X w.heap.size [.bool p.six, .int .u64 (hiN p.n : Int), .int .u64 (loN p.n : Int), .int .i64 p.len] 27 := by rw [hX]; exact (RowAt.new _ _ _).alloc _
  have r1 : RowAt X (w.heap.size + 1) [.int .u64 0, .int .u64 0] 25 := by rw [hX, ← World.size_alloc w (.cells #[.bool p.six, .int .u64 (hiN p.n : Int), .int .u64 (loN p.n : Int), .int .i64 p.len] 27)]; exact RowAt.new _ _ _
  cases hok : okP p
  · have e1 : lastE p = (0, 2) := by unfold lastE; rw [hok]; rfl
    rw [e1]
    rw [checkP_bad hok] at cc
    have hz : adV 0 = .agg #[.int .u64 0, .int .u64 0] := rfl
    simp only [hz]
    unfold pfV at *
    generalize hiN p.n = h at *
    generalize loN p.n = l at *
    generalize p.six = six at *
    generalize p.len = len at *
    clear hok e1 ha hl hz
    go_enter Try.func41, Try.ntmps41
    go_wp2_with fail
    go_at_call 74; refine (cc _).mono ?_; rintro e w2 ⟨rfl, hb2⟩
    rw [← hX] at hb2
    have hW := below2 hB0 hb2
    obtain ⟨q0, q1, qf⟩ := cells2 (r1.below hb2)
    clear hX cc r1 hB0 hb2
    go_wp2_with fail
    (try simp only [Exit.inBlock, Exit.then])
    refine bodyPost_ret (v := .tuple #[.agg #[.int .u64 0, .int .u64 0], .int .i64 2]) ?_ rfl ⟨rfl, ?_⟩
    · rw [results_cell_tmp rfl]
      go_simp
    · repeat' (first | with_reducible exact hW | with_reducible apply below_new | with_reducible refine bset ?_ (by omega))
  · have e1 : lastE p = (p.n + freeN (kP p), 0) := by unfold lastE; rw [hok]; rfl
    rw [e1]
    rw [checkP_ok hok] at cc
    have cb := fun w => rbits_any p.six p.n w ha
    have hWl := wideN_le p.six
    have hle := (okP_iff.1 hok).1
    have hklen := okP_len hok
    have HLB : Hid (∀ m, (∀ j, j < wideN p.six → m.testBit j = if j < kP p then true else p.n.testBit j) → m % 2 ^ wideN p.six = p.n + freeN (kP p)) := fun m h => last_bits hklen.1 (okP_lt hok) (okP_zero hok) h
    have HOF : Hid (∀ m g w, RowAt w g (celN (bitL (wideN p.six) m)) 3 → Calls Try.prog 76 #[.slice (some ⟨g, 0, none⟩) (wideN p.six) (wideN p.six)] w fun e w' => e = .returned (adV (m % 2 ^ wideN p.six)) ∧ Below w.heap.size w w') := fun m g w h => rof_row _ m g w hWl h
    unfold BitsIs at cb
    rw [bitL_len] at cb
    obtain ⟨K, hK⟩ : ∃ K, K = kP p := ⟨_, rfl⟩
    rw [← hK] at HLB hklen ⊢
    have HV : Hid (adV (p.n + freeN K) = .agg #[.int .u64 (hiN (p.n + freeN K) : Int), .int .u64 (loN (p.n + freeN K) : Int)]) := rfl
    unfold pfV at *
    simp only
    generalize adV (p.n + freeN K) = V at HV ⊢
    obtain ⟨six, n, len⟩ := p
    simp only at *
    unfold adV at cb
    obtain ⟨W, hWd⟩ : ∃ W, W = wideN six := ⟨_, rfl⟩
    rw [← hWd] at cb hWl hle hklen HLB HOF
    obtain ⟨L, hL⟩ : ∃ L : Nat, len = (L : Int) := ⟨len.toNat, by omega⟩
    subst hL
    have hKL : K + L = W := by omega
    have HKL : Hid (K + L = W) := hKL
    have hLW : L ≤ W := by omega
    have hWi : (W : Int) ≤ 128 := by omega
    clear hok e1 ha hl hWd hK hklen hKL hle hWl
    go_enter Try.func41, Try.ntmps41
    go_wp2_with fail
    go_at_call 74; refine (cc _).mono ?_; rintro e w2 ⟨rfl, hb2⟩
    rw [← hX] at hb2
    have hs2 : w.heap.size + 2 ≤ X.heap.size := by rw [hX]; simp
    have hsX := hb2.size
    have hW := below2 hB0 hb2
    have r0 := r0.below hb2
    have r1 := r1.below hb2
    obtain ⟨q0, q1, q2, q3, qf⟩ := cells4 r0
    clear hX cc hB0 hb2
    go_wp2_with fail
    go_at_call 75; refine (cb _).mono ?_; rintro e w3 ⟨g, rfl, hg, hrow, hb3⟩
    have hgw : w.heap.size + 2 ≤ g := by omega
    have hW := below2 hW hb3
    have r0 := r0.below hb3
    have r1 := r1.below hb3
    clear q0 q1 q2 q3 qf cb hg hb3 hsX hs2
    obtain ⟨q0, q1, q2, q3, qf⟩ := cells4 r0
    go_wp2_with fail
    clear q0 q1 q2 q3 qf
    go_loopw [5] (fun i wr => ∃ (k m : Nat), L ≤ k ∧ k ≤ W ∧ i = .int .i64 (k : Int) ∧ Hid (∀ j, j < W → m.testBit j = if W - k ≤ j ∧ j < K then true else n.testBit j) ∧ RowAt wr g (celN (bitL W m)) 3 ∧ RowAt wr (w.heap.size + 1) [.int .u64 0, .int .u64 0] 25 ∧ Below w.heap.size w wr) (fun i _ => W - (intOf i).toNat)
    case atStart => exact ⟨L, n, Nat.le_refl _, hLW, rfl, (fun j hj => by rw [if_neg (by have := HKL.out; omega)]), hrow, r1, hW⟩
    case round =>
      obtain ⟨k, m, hLk, hk, rfl, HM, hr, ra, hb⟩ := hrel
      clear hrow r1 hW r0
      by_cases hlt : k < W
      · have hki : (k : Int) < (W : Int) := by omega
        have hcell : ∃ z : Int, wr.cell? ⟨g, k, none⟩ = some (.int .i64 z) := ⟨_, by rw [hr.cell, celN_get _ _ (by rw [bitL_len]; exact hlt)]⟩
        obtain ⟨z, hcell⟩ := hcell
        have hfz : wr.frozen? ⟨g, k, none⟩ = false := hr.frozen k
        obtain ⟨m2, hm2, hm3⟩ := bitL_set W m (W - 1 - k) true (by omega)
        have hr2 := hr.set1 k (.int .i64 ((true.toNat : Nat) : Int))
        rw [celN_set] at hr2
        rw [show W - 1 - (W - 1 - k) = k by omega] at hm2
        rw [hm2] at hr2
        have HR : Hid (RowAt (wr.setCell ⟨g, k, none⟩ (.int .i64 1)) g (celN (bitL W m2)) 3) := hr2
        have HA : Hid (RowAt (wr.setCell ⟨g, k, none⟩ (.int .i64 1)) (w.heap.size + 1) [.int .u64 0, .int .u64 0] 25) := ra.far1 (by omega) _ _
        have HM2 : Hid (∀ j, j < W → m2.testBit j = if W - (k + 1) ≤ j ∧ j < K then true else n.testBit j) := fun j hj => by
          have := HKL.out
          rw [hm3 j]
          by_cases hjt : j = W - 1 - k
          · rw [if_pos hjt, if_pos (by omega)]
          · rw [if_neg hjt, HM.out j hj]
            by_cases hj2 : W - k ≤ j ∧ j < K
            · rw [if_pos hj2, if_pos (by omega)]
            · rw [if_neg hj2, if_neg (by omega)]
        clear hr hr2 hm2 hm3 ra HM
        go_wp2_with fail
        go_roundw
        case rel => exact ⟨k + 1, m2, by omega, by omega, by go_num, HM2, HR.out, HA.out, bset hb (by omega)⟩
        case measure => simp [intOf]; omega
      · obtain rfl : k = W := by omega
        have hval := HLB.out m (fun j hj => by
          rw [HM.out j hj]
          by_cases hjk : j < K
          · rw [if_pos ⟨by omega, hjk⟩, if_pos hjk]
          · rw [if_neg (fun h => hjk h.2), if_neg hjk])
        have cof := HOF.out m g _ hr
        rw [hval] at cof
        unfold adV at cof
        generalize hiN (n + freeN K) = Fh at *
        generalize loN (n + freeN K) = Fl at *
        clear HM hval hr HLB HOF
        go_wp2_with fail
        go_at_call 76; refine cof.mono ?_; rintro e w4 ⟨rfl, hb4⟩
        have hW4 := below2 hb hb4
        obtain ⟨q0, q1, qf⟩ := cells2 (ra.below hb4)
        clear cof ra hb4
        go_wp2_with fail
        (try simp only [Exit.inBlock, Exit.then])
        refine bodyPost_ret (v := .tuple #[.agg #[.int .u64 (Fh : Int), .int .u64 (Fl : Int)], .int .i64 0]) ?_ rfl ⟨by rw [HV.out], ?_⟩
        · rw [results_cell_tmp rfl]
          go_simp
        · repeat' (first | with_reducible exact hW4 | with_reducible apply below_new | with_reducible refine bset ?_ (by omega))
end Go.Proofs.Ytiemlaehhmlhmaa.Addr
namespace Go.Proofs.Ytiemlaehhmlhmaa.Addr
open Go.RowKit

theorem has_bits {p : Pf} {a : Nat} (hok : okP p = true) (hr : rightB p.six a = true) :
    ((∀ j, j < p.len.toNat → p.n.testBit (wideN p.six - 1 - j) = a.testBit (wideN p.six - 1 - j)) → hasB p p.six a = true) ∧ (∀ j, j < p.len.toNat → p.n.testBit (wideN p.six - 1 - j) ≠ a.testBit (wideN p.six - 1 - j) → hasB p p.six a = false) := by
  have hk : kP p = wideN p.six - p.len.toNat := rfl
  have hle := (okP_iff.1 hok).1
  have ha : a < 2 ^ wideN p.six := of_decide_eq_true hr
  have hn := okP_lt hok
  have h0 := okP_zero hok
  have key : firstN (kP p) a = p.n ↔ p.n / 2 ^ kP p = a / 2 ^ kP p := by
    unfold firstN
    have h1 := Nat.div_add_mod a (2 ^ kP p)
    have h2 := Nat.div_add_mod p.n (2 ^ kP p)
    constructor
    · intro h
      have : 2 ^ kP p * (p.n / 2 ^ kP p) = 2 ^ kP p * (a / 2 ^ kP p) := by omega
      exact Nat.eq_of_mul_eq_mul_left (Nat.two_pow_pos _) this
    · intro h
      rw [h] at h2
      omega
  have hb := div_eq_bits (k := kP p) hn ha
  unfold hasB
  rw [hok, hr]
  simp only [decide_true, Bool.true_and]
  constructor
  · intro h
    apply decide_eq_true
    rw [key, hb]
    intro j h1 h2
    have := h (wideN p.six - 1 - j) (by omega)
    rwa [show wideN p.six - 1 - (wideN p.six - 1 - j) = j by omega] at this
  · intro j hj hne
    apply decide_eq_false
    rw [key, hb]
    intro h
    exact hne (h _ (by omega) (by omega))
end Go.Proofs.Ytiemlaehhmlhmaa.Addr
namespace Go.Proofs.Ytiemlaehhmlhmaa.Addr
open Go.RowKit

theorem covers_swap (p q : Pf) : coversB p q = (okP q && (hasB p q.six q.n && decide (p.len ≤ q.len))) := by
  unfold coversB
  cases okP q <;> cases hasB p q.six q.n <;> simp
set_option maxHeartbeats 4000000 in
set_option maxRecDepth 20000 in
theorem rhalves_any (p : Pf) (w : World) (hl : -9223372036854775808 ≤ p.len ∧ p.len ≤ 9223372036854775807) (hn : p.n < 2 ^ 128) : Calls Try.prog 84 #[pfV p] w fun e w' => e = .returned (.tuple #[pfV (halvesE p).1, pfV (halvesE p).2.1, .int .i64 (halvesE p).2.2]) ∧ Below w.heap.size w w' := by
  have cc := fun w => rcheck_any p w hl hn
  have cw := fun w => rwide_any p.six w
  have hz : pfV ⟨false, 0, 0⟩ = .agg #[.bool false, .int .u64 0, .int .u64 0, .int .i64 0] := rfl
  obtain ⟨X, hX⟩ : ∃ X, X = ((w.alloc (.cells #[.bool p.six, .int .u64 (hiN p.n : Int), .int .u64 (loN p.n : Int), .int .i64 p.len] 27)).alloc (.cells #[.bool false, .int .u64 0, .int .u64 0, .int .i64 0] 27)).alloc (.cells #[.bool false, .int .u64 0, .int .u64 0, .int .i64 0] 27) := ⟨_, rfl⟩
  have hB0 : Below w.heap.size w X := by rw [hX]; exact below_new (below_new (below_new (Below.refl _ _) _) _) _
  have r0 : RowAt X w.heap.size [.bool p.six, .int .u64 (hiN p.n : Int), .int .u64 (loN p.n : Int), .int .i64 p.len] 27 := by rw [hX]; exact ((RowAt.new _ _ _).alloc _).alloc _
  have r1 : RowAt X (w.heap.size + 1) [.bool false, .int .u64 0, .int .u64 0, .int .i64 0] 27 := by rw [hX, ← World.size_alloc w (.cells #[.bool p.six, .int .u64 (hiN p.n : Int), .int .u64 (loN p.n : Int), .int .i64 p.len] 27)]; exact (RowAt.new _ _ _).alloc _
  have r2 : RowAt X (w.heap.size + 1 + 1) [.bool false, .int .u64 0, .int .u64 0, .int .i64 0] 27 := by
    rw [hX, ← World.size_alloc w (.cells #[.bool p.six, .int .u64 (hiN p.n : Int), .int .u64 (loN p.n : Int), .int .i64 p.len] 27), ← World.size_alloc _ (.cells #[.bool false, .int .u64 0, .int .u64 0, .int .i64 0] 27)]
    exact RowAt.new _ _ _
  cases hok : okP p
  · rw [checkP_bad hok] at cc
    have e1 : halvesE p = (⟨false, 0, 0⟩, ⟨false, 0, 0⟩, 2) := by unfold halvesE; rw [hok]; rfl
    rw [e1]
    simp only [hz]
    clear e1 hok hz cw
    unfold pfV at *
    generalize hiN p.n = h at *
    generalize loN p.n = l at *
    generalize p.six = sx at *
    generalize p.len = len at *
    go_enter Try.func84, Try.ntmps84
    go_wp2_with fail
    go_at_call 74; refine (cc _).mono ?_; rintro e w2 ⟨rfl, hb2⟩
    rw [← hX] at hb2
    have hW := below2 hB0 hb2
    obtain ⟨q0, q1, q2, q3, qf⟩ := cells4 (r1.below hb2)
    obtain ⟨p0, p1, p2, p3, pf⟩ := cells4 (r2.below hb2)
    clear hX cc hB0 r0 r1 r2 hb2
    go_wp2_with fail
    (try simp only [Exit.inBlock, Exit.then])
    refine bodyPost_ret (v := .tuple #[.agg #[.bool false, .int .u64 0, .int .u64 0, .int .i64 0], .agg #[.bool false, .int .u64 0, .int .u64 0, .int .i64 0], .int .i64 2]) ?_ rfl ⟨rfl, ?_⟩
    · rw [results_cct rfl]
      go_simp
    · repeat' (first | with_reducible exact hW | with_reducible apply below_new | with_reducible refine bset ?_ (by omega))
  rw [checkP_ok hok] at cc
  have hle := (okP_iff.1 hok).1
  have hWl := wideN_le p.six
  by_cases hm : p.len = (wideN p.six : Int)
  · have e1 : halvesE p = (⟨false, 0, 0⟩, ⟨false, 0, 0⟩, 3) := by unfold halvesE; rw [hok, if_pos rfl, if_pos hm]
    rw [e1]
    simp only [hz]
    have dm : (p.len == (wideN p.six : Int)) = true := by simpa using hm
    unfold pfV at *
    clear e1 hok hz hl hn hle hWl hm
    generalize hiN p.n = h at *
    generalize loN p.n = l at *
    generalize (wideN p.six : Int) = wd at *
    generalize p.six = sx at *
    generalize p.len = len at *
    go_enter Try.func84, Try.ntmps84
    go_wp2_with fail
    go_at_call 74; refine (cc _).mono ?_; rintro e w2 ⟨rfl, hb2⟩
    rw [← hX] at hb2
    have hW := below2 hB0 hb2
    have r0 := r0.below hb2
    have r1 := r1.below hb2
    have r2 := r2.below hb2
    clear hX cc hB0 hb2
    have q0 : ∀ p : Bl w2, p.W.cell? ⟨w.heap.size, 0, none⟩ = some (.bool sx) := fun p => (r0.below p.h).cell 0
    have q3 : ∀ p : Bl w2, p.W.cell? ⟨w.heap.size, 3, none⟩ = some (.int .i64 len) := fun p => (r0.below p.h).cell 3
    haveI := bl_ne w2
    go_wp2_with fail
    refine wp_region_bl (by kernel_rfl) (by kernel_rfl) ?_
    repeat (quiet_step (first | (go_at_call 91; with_reducible exact bl_same (cw _))))
    refine wpQuiet_nil ?_
    intro wq hw'
    obtain ⟨⟨wz, hq⟩, hw2⟩ := hw'
    subst hw2
    have hW := below2 hW hq
    clear q0 q3
    obtain ⟨q0, q1, q2, q3, qf⟩ := cells4 (r1.below hq)
    obtain ⟨p0, p1, p2, p3, pf⟩ := cells4 (r2.below hq)
    clear cw r0 r1 r2 hq this
    go_wp2_with fail
    (try simp only [Exit.inBlock, Exit.then])
    refine bodyPost_ret (v := .tuple #[.agg #[.bool false, .int .u64 0, .int .u64 0, .int .i64 0], .agg #[.bool false, .int .u64 0, .int .u64 0, .int .i64 0], .int .i64 3]) ?_ rfl ⟨rfl, ?_⟩
    · rw [results_cct rfl]
      go_simp
    · repeat' (first | with_reducible exact hW | with_reducible apply below_new | with_reducible refine bset ?_ (by omega))
  · rw [halves_ok hok hm]
    have dm : (p.len == (wideN p.six : Int)) = false := by simpa using hm
    have cb := fun w => rbits_any p.six p.n w hn
    unfold BitsIs at cb
    rw [bitL_len] at cb
    have hf := half_facts hok hm
    have hklen := okP_len hok
    have HHB : Hid (∀ m, (∀ j, m.testBit j = if j = kP p - 1 then true else p.n.testBit j) → m % 2 ^ wideN p.six = p.n + 2 ^ (kP p - 1)) := fun m h => half_bits (by omega) (okP_lt hok) (by rw [show kP p - 1 + 1 = kP p by omega]; exact okP_zero hok) h
    have HOF : Hid (∀ m g w, RowAt w g (celN (bitL (wideN p.six) m)) 3 → Calls Try.prog 76 #[.slice (some ⟨g, 0, none⟩) (wideN p.six) (wideN p.six)] w fun e w' => e = .returned (adV (m % 2 ^ wideN p.six)) ∧ Below w.heap.size w w') := fun m g w h => rof_row _ m g w hWl h
    have hK1 := hf.1
    generalize kP p = K at *
    generalize hR : p.n + 2 ^ (K - 1) = r at *
    have h128 : (2 : Nat) ^ wideN p.six ≤ 2 ^ 128 := Nat.pow_le_pow_right (by decide) hWl
    unfold pfV at *
    simp only
    obtain ⟨sx, n, len⟩ := p
    simp only at *
    obtain ⟨W, hWd⟩ : ∃ W, W = wideN sx := ⟨_, rfl⟩
    rw [← hWd] at cb cw dm hle hWl hklen HHB HOF hm
    obtain ⟨L, hL⟩ : ∃ L : Nat, len = (L : Int) := ⟨len.toNat, by omega⟩
    subst hL
    have hLW : L < W := by omega
    have HLK : Hid (W - 1 - L = K - 1) := by show _ = _; omega
    have hWi : (W : Int) ≤ 128 := by omega
    have hLi : (L : Int) < (W : Int) := by omega
    have hwr : IntKind.i64.wrap ((L : Int) + 1) = (L : Int) + 1 := by rw [IntKind.wrap_i64]; omega
    clear hok hz hl hn hWd hf hklen hle hWl hm hR h128 hK1
    unfold adV at cb HOF
    generalize hiN n = h at *
    generalize loN n = l at *
    go_enter Try.func84, Try.ntmps84
    go_wp2_with fail
    go_at_call 74; refine (cc _).mono ?_; rintro e w2 ⟨rfl, hb2⟩
    rw [← hX] at hb2
    have hs2 : w.heap.size + 3 ≤ X.heap.size := by rw [hX]; simp
    have hsX := hb2.size
    have hW := below2 hB0 hb2
    have r0 := r0.below hb2
    have r1 := r1.below hb2
    have r2 := r2.below hb2
    clear hX cc hB0 hb2
    have q0 : ∀ p : Bl w2, p.W.cell? ⟨w.heap.size, 0, none⟩ = some (.bool sx) := fun p => (r0.below p.h).cell 0
    have q3 : ∀ p : Bl w2, p.W.cell? ⟨w.heap.size, 3, none⟩ = some (.int .i64 (L : Int)) := fun p => (r0.below p.h).cell 3
    haveI := bl_ne w2
    go_wp2_with fail
    refine wp_region_bl (by kernel_rfl) (by kernel_rfl) ?_
    repeat (quiet_step (first | (go_at_call 91; with_reducible exact bl_same (cw _))))
    refine wpQuiet_nil ?_
    intro wq hw'
    obtain ⟨⟨wz, hq⟩, hw2⟩ := hw'
    subst hw2
    have hsq := hq.size
    have hW := below2 hW hq
    have r0 := r0.below hq
    have r1 := r1.below hq
    have r2 := r2.below hq
    clear q0 q3 cw hq this
    obtain ⟨q0, q1, q2, q3, qf⟩ := cells4 r0
    go_wp2_with fail
    go_at_call 75; refine (cb _).mono ?_; rintro e w3 ⟨g, rfl, hg, hrow, hb3⟩
    have hgw : w.heap.size + 3 ≤ g := by omega
    have hW := below2 hW hb3
    have r0 := r0.below hb3
    have r1 := r1.below hb3
    have r2 := r2.below hb3
    clear q0 q1 q2 q3 qf cb hg hb3 hsX hs2 hsq
    obtain ⟨q0, q1, q2, q3, qf⟩ := cells4 r0
    have hcell : ∃ z : Int, w3.cell? ⟨g, L, none⟩ = some (.int .i64 z) := ⟨_, by rw [hrow.cell, celN_get _ _ (by rw [bitL_len]; exact hLW)]⟩
    obtain ⟨z, hcell⟩ := hcell
    have hfz : w3.frozen? ⟨g, L, none⟩ = false := hrow.frozen L
    obtain ⟨m2, hm2, hm3⟩ := bitL_set W n (W - 1 - L) true (by omega)
    rw [show W - 1 - (W - 1 - L) = L by omega] at hm2
    have hr2 := hrow.set1 L (.int .i64 ((true.toNat : Nat) : Int))
    rw [celN_set, hm2] at hr2
    have hval := HHB.out m2 (fun j => by rw [hm3 j, HLK.out])
    obtain ⟨V, hV⟩ : ∃ V, V = w3.setCell ⟨g, L, none⟩ (.int .i64 1) := ⟨_, rfl⟩
    have hrV : RowAt V g (celN (bitL W m2)) 3 := by rw [hV]; exact hr2
    have R0 : RowAt V w.heap.size [.bool sx, .int .u64 (h : Int), .int .u64 (l : Int), .int .i64 (L : Int)] 27 := by rw [hV]; exact r0.far1 (by omega) _ _
    have R1 : RowAt V (w.heap.size + 1) [.bool false, .int .u64 0, .int .u64 0, .int .i64 0] 27 := by rw [hV]; exact r1.far1 (by omega) _ _
    have R2 : RowAt V (w.heap.size + 1 + 1) [.bool false, .int .u64 0, .int .u64 0, .int .i64 0] 27 := by rw [hV]; exact r2.far1 (by omega) _ _
    have hWV : Below w.heap.size w V := by rw [hV]; exact bset hW (by omega)
    have HCO : Hid (∀ V2, Below V.heap.size V V2 → Calls Try.prog 76 #[.slice (some ⟨g, 0, none⟩) W W] V2 fun e w' => e = .returned (.agg #[.int .u64 (hiN r : Int), .int .u64 (loN r : Int)]) ∧ Below V2.heap.size V2 w') := fun V2 hb => by
      have := HOF.out m2 g V2 (hrV.below hb)
      rw [hval] at this
      exact this
    clear hr2 hm2 hm3 hval hrow HHB HOF hrV HLK r0 r1 r2 hW
    go_upto_region 7 with fail
    rw [← hV]
    clear hV hcell hfz q0 q1 q2 q3 qf
    have HSK : Hid (∀ Z, V.grownBy Z (some (w.heap.size + 1)) ∨ (∃ Y, V.grownBy Y (some (w.heap.size + 1)) ∧ Y.grownBy Z (some (w.heap.size + 1 + 1))) → (Z.cell? ⟨w.heap.size, 0, none⟩ = some (.bool sx) ∧ Z.cell? ⟨w.heap.size, 1, none⟩ = some (.int .u64 (h : Int)) ∧ Z.cell? ⟨w.heap.size, 2, none⟩ = some (.int .u64 (l : Int)) ∧ Z.cell? ⟨w.heap.size, 3, none⟩ = some (.int .i64 (L : Int)))) := fun Z hz => by
      rcases hz with hz | ⟨Y, h1, h2⟩
      · have q := cells4 (R0.gkeep hz (by simp)); exact ⟨q.1, q.2.1, q.2.2.1, q.2.2.2.1⟩
      · have q := cells4 ((R0.gkeep h1 (by simp)).gkeep h2 (by simp; omega)); exact ⟨q.1, q.2.1, q.2.2.1, q.2.2.2.1⟩
    have HR1 : Hid (∀ Z, Below V.heap.size V Z → RowAt Z (w.heap.size + 1) [.bool false, .int .u64 0, .int .u64 0, .int .i64 0] 27) := fun Z hb => R1.below hb
    have HR2 : Hid (∀ Z, Below V.heap.size V Z → RowAt Z (w.heap.size + 1 + 1) [.bool false, .int .u64 0, .int .u64 0, .int .i64 0] 27) := fun Z hb => R2.below hb
    have hbA : Below V.heap.size V V := Below.refl _ _
    have hgA : V.grownBy V (some (w.heap.size + 1)) := grefl _ _
    clear R0 R1 R2
    go_region_held3 (fun w' => w'.cell? ⟨w.heap.size, 0, none⟩ = some (.bool sx) ∧ w'.cell? ⟨w.heap.size, 1, none⟩ = some (.int .u64 (h : Int)) ∧ w'.cell? ⟨w.heap.size, 2, none⟩ = some (.int .u64 (l : Int)) ∧ w'.cell? ⟨w.heap.size, 3, none⟩ = some (.int .i64 (L : Int)))
      (first
        | (refine HSK.out _ (.inl ?_)
           repeat' (first | with_reducible exact hgA | with_reducible apply gdrew | with_reducible apply gset)
           done)
        | (refine HSK.out _ (.inr ⟨_, ?_, gset (gset (gset (gset (grefl _ _))))⟩)
           repeat' (first | with_reducible exact hgA | with_reducible apply gdrew | with_reducible apply gset)))
      (first
        | (go_at_call 76; with_reducible refine (HCO.out _ (by repeat' (first | with_reducible exact hbA | with_reducible apply below_drew))).mono ?_; rintro e w4 ⟨rfl, hb4⟩
           have hbN : Below V.heap.size V w4 := below2 (by repeat' (first | with_reducible exact hbA | with_reducible apply below_drew)) hb4
           have hgN : V.grownBy w4 (some (w.heap.size + 1)) := gbelow (by repeat' (first | with_reducible exact hgA | with_reducible apply gdrew)) hb4
           clear hbA hgA hb4
           have hbA := hbN
           have hgA := hgN
           clear hbN hgN
           obtain ⟨a0, a1, a2, a3, haf⟩ := cells4 (HR1.out _ hbA)
           obtain ⟨b0, b1, b2, b3, hbf⟩ := cells4 (HR2.out _ hbA)))
    go_wp2_with fail
    (try simp only [Exit.inBlock, Exit.then])
    have hW4 := below2 hWV hbA
    refine bodyPost_ret (v := .tuple #[.agg #[.bool sx, .int .u64 (h : Int), .int .u64 (l : Int), .int .i64 ((L : Int) + 1)], .agg #[.bool sx, .int .u64 (hiN r : Int), .int .u64 (loN r : Int), .int .i64 ((L : Int) + 1)], .int .i64 0]) ?_ rfl ⟨rfl, ?_⟩
    · rw [results_cct rfl]
      go_simp
    · repeat' (first | with_reducible exact hW4 | with_reducible apply below_drew | with_reducible apply below_new | with_reducible refine bset ?_ (by omega))
end Go.Proofs.Ytiemlaehhmlhmaa.Addr
namespace Go.Proofs.Ytiemlaehhmlhmaa.Sp
open Go.RowKit
open Go.Proofs.Ytiemlaehhmlhmaa.Lk (HasRow)
open Go.Proofs.Ytiemlaehhmlhmaa.Addr (wideN rightB hiN loN adV cmpN nextE prevE rcmp_any rright_any rnext_any cmp_le RowAt below2 below_drew below_new bset RowAt.lt RowAt.cell RowAt.frozen RowAt.below RowAt.drew RowAt.new RowAt.alloc cells2 cells4 results_cell gset grefl Bl bl_ne wp_region_bl bl_call bl_same)
set_option maxHeartbeats 2000000 in
theorem rone_any (six : Bool) (s : Sp) (w : World) (hs : FitS s) : Calls Try.prog 39 #[.bool six, spV s] w fun e w' => e = .returned (.bool (okS six s)) ∧ Below w.heap.size w w' := by
  have ci1 := fun w => rright_any six s.1 w hs.1
  have ci2 := fun w => rright_any six s.2 w hs.2
  have cc := fun w => rcmp_any s.1 s.2 w hs.1 hs.2
  have hle : decide (cmpN s.1 s.2 ≤ 0) = decide (s.1 ≤ s.2) := cmp_le
  unfold okS
  rw [← hle]
  clear hle
  unfold spV
  unfold adV at *
  generalize rightB six s.1 = A at *
  generalize rightB six s.2 = B at *
  generalize cmpN s.1 s.2 = c at *
  generalize hiN s.1 = sa at *
  generalize loN s.1 = sb at *
  generalize hiN s.2 = sc at *
  generalize loN s.2 = sd at *
  clear hs
  obtain ⟨X, hX⟩ : ∃ X, X = w.alloc (.cells #[.int .u64 (sa : Int), .int .u64 (sb : Int), .int .u64 (sc : Int), .int .u64 (sd : Int)] 34) := ⟨_, rfl⟩
  have hB : Below w.heap.size w X := by rw [hX]; exact below_new (Below.refl _ _) _
  have rs : RowAt X (w.heap.size) [.int .u64 (sa : Int), .int .u64 (sb : Int), .int .u64 (sc : Int), .int .u64 (sd : Int)] 34 := by rw [hX]; exact RowAt.new _ _ _
  obtain ⟨x0, x1, x2, x3, xf⟩ := cells4 rs
  go_enter Try.func39, Try.ntmps39
  go_upto_region 1 with fail
  rw [← hX]
  clear hX
  go_wp2_with fail
  go_at_call 53; refine (ci1 _).mono ?_; rintro e w2 ⟨rfl, hb⟩
  replace rs := rs.below hb
  replace hB := below2 hB hb
  clear x0 x1 x2 x3 xf hb
  obtain ⟨x0, x1, x2, x3, xf⟩ := cells4 rs
  cases A
  · go_wp2_with fail
    go_ret
    exact ⟨rfl, hB⟩
  · go_wp2_with fail
    go_at_call 53; refine (ci2 _).mono ?_; rintro e w3 ⟨rfl, hb⟩
    replace rs := rs.below hb
    replace hB := below2 hB hb
    clear x0 x1 x2 x3 xf hb
    obtain ⟨x0, x1, x2, x3, xf⟩ := cells4 rs
    cases B
    · go_wp2_with fail
      go_ret
      exact ⟨rfl, hB⟩
    · go_wp2_with fail
      go_at_call 44; refine (cc _).mono ?_; rintro e w4 ⟨rfl, hb⟩
      replace hB := below2 hB hb
      clear x0 x1 x2 x3 xf hb rs
      go_wp2_with fail
      go_ret
      exact ⟨rfl, hB⟩
theorem in_end {l : List Sp} {k : Nat} {x : Nat} (h : inB (l.take k) x = false) (hk : k = l.length) : inB l x = false := by
  rw [hk, List.take_length] at h; exact h
theorem in_hit {l : List Sp} {k : Nat} {x : Nat} (hk : k < l.length) (h : hasS l[k] x = true) : inB l x = true := by
  unfold inB; exact List.any_eq_true.2 ⟨_, List.getElem_mem hk, h⟩
theorem in_next {l : List Sp} {k : Nat} {x : Nat} (hk : k < l.length) (h0 : inB (l.take k) x = false) (h : hasS l[k] x = false) : inB (l.take (k + 1)) x = false := by
  rw [inB_take hk, h0, h]; rfl
set_option maxHeartbeats 4000000 in
set_option maxRecDepth 20000 in
theorem rin_any (l : List Sp) (x : Nat) (v : Value) (w : World) (h : HasSps w v l) (hf : ∀ s ∈ l, FitS s) (hx : x < 2 ^ 128) :
    Calls Try.prog 54 #[v, adV x] w fun e w' => e = .returned (.bool (inB l x)) ∧ Below w.heap.size w w' := by
  obtain ⟨o, c, rfl, hc1, hc2⟩ := HasRow.slice h
  have HF : Hid (∀ s ∈ l, FitS s) := hf
  have HX : Hid (x < 2 ^ 128) := hx
  obtain ⟨xa, hxa⟩ : ∃ q, q = hiN x := ⟨_, rfl⟩
  obtain ⟨xb, hxb⟩ : ∃ q, q = loN x := ⟨_, rfl⟩
  have HXV : Hid (adV x = .agg #[.int .u64 (xa : Int), .int .u64 (xb : Int)]) := by rw [hxa, hxb]; rfl
  obtain ⟨X0, hX0⟩ : ∃ X, X = w.alloc (.cells #[.int .u64 (xa : Int), .int .u64 (xb : Int)] 25) := ⟨_, rfl⟩
  have hB0 : Below w.heap.size w X0 := by rw [hX0]; exact below_new (Below.refl _ _) _
  have rx : RowAt X0 w.heap.size [.int .u64 (xa : Int), .int .u64 (xb : Int)] 25 := by rw [hX0]; exact RowAt.new _ _ _
  have HR : Hid (∀ wr : World, Below X0.heap.size X0 wr → HasSps wr (.slice o l.length c) l ∧ RowAt wr w.heap.size [.int .u64 (xa : Int), .int .u64 (xb : Int)] 25) := fun wr hb => ⟨(h.keep hB0).keep hb, rx.below hb⟩
  obtain ⟨n, hn⟩ : ∃ n, n = l.length := ⟨_, rfl⟩
  have HN : Hid (n = l.length) := hn
  rw [← hn] at HR hc1 ⊢
  have hni : (n : Int) ≤ 9223372036854775807 := by omega
  obtain ⟨R, hR⟩ : ∃ R, R = inB l x := ⟨_, rfl⟩
  have HD : Hid (R = inB l x) := hR
  rw [← hR, HXV.out]
  clear h hn hR hf hx rx hxa hxb
  obtain ⟨gx, hgx⟩ : ∃ q, q = w.heap.size := ⟨_, rfl⟩
  rw [← hgx] at HR
  go_enter Try.func54, Try.ntmps54
  go_upto_region 1 with fail
  rw [← hX0, ← hgx]
  clear hX0 hgx
  go_wp2_with fail
  go_loopw [9] (fun i wr => ∃ k : Nat, k ≤ n ∧ i = .int .i64 k ∧ Below X0.heap.size X0 wr ∧ Hid (inB (l.take k) x = false)) (fun i _ => n - (intOf i).toNat)
  case atStart => exact ⟨0, by omega, rfl, Below.refl _ _, by rw [List.take_zero]; exact inB_nil x⟩
  case round =>
    obtain ⟨k, hk, rfl, hB, HG⟩ := hrel
    obtain ⟨hh, rx⟩ := HR.out _ hB
    by_cases hlt : k < n
    · have hkz : k < l.length := by rw [← HN.out]; exact hlt
      obtain ⟨g1, i1, rfl, hg1, a0, a1, a2, a3⟩ := HasSps.cell hh k hkz
      have hfk := HF.out _ (List.getElem_mem hkz)
      have hki : (k : Int) < (n : Int) := by omega
      have HB1 : Hid (hasS l[k] x = true → R = true) := fun h => by rw [HD.out]; exact in_hit hkz h
      have HB2 : Hid (hasS l[k] x = false → inB (l.take (k + 1)) x = false) := fun h => in_next hkz HG.out h
      have c1 := fun (W : World) => rcmp_any l[k].1 x W hfk.1 HX.out
      have c2 := fun (W : World) => rcmp_any x l[k].2 W HX.out hfk.2
      have hle1 : decide (cmpN l[k].1 x ≤ 0) = decide (l[k].1 ≤ x) := cmp_le
      have hle2 : decide (cmpN x l[k].2 ≤ 0) = decide (x ≤ l[k].2) := cmp_le
      unfold hasS at HB1 HB2
      rw [← hle1, ← hle2] at HB1 HB2
      rw [HXV.out] at c1 c2
      unfold adV at c1 c2
      clear hle1 hle2
      obtain ⟨sk, hsk⟩ : ∃ sk, sk = l[k] := ⟨_, rfl⟩
      rw [← hsk] at a0 a1 a2 a3 c1 c2 HB1 HB2
      obtain ⟨s1, s2⟩ := sk
      clear hsk hfk HG
      simp only at a0 a1 a2 a3 c1 c2 HB1 HB2
      generalize cmpN s1 x = m1 at *
      generalize cmpN x s2 = m2 at *
      generalize hiN s1 = ka at *
      generalize loN s1 = kb at *
      generalize hiN s2 = kc at *
      generalize loN s2 = kd at *
      go_upto_region 4 with fail
      obtain ⟨X, hX⟩ : ∃ X, X = wr.alloc (.cells #[.int .u64 (ka : Int), .int .u64 (kb : Int), .int .u64 (kc : Int), .int .u64 (kd : Int)] 34) := ⟨_, rfl⟩
      have hbX : Below wr.heap.size wr X := by rw [hX]; exact below_new (Below.refl _ _) _
      have rk : RowAt X wr.heap.size [.int .u64 (ka : Int), .int .u64 (kb : Int), .int .u64 (kc : Int), .int .u64 (kd : Int)] 34 := by rw [hX]; exact RowAt.new _ _ _
      rw [← hX]
      have hBX := below2 hB hbX
      replace rx := rx.below hbX
      clear hX hbX hh
      obtain ⟨gs, hgs⟩ : ∃ g, g = wr.heap.size := ⟨_, rfl⟩
      rw [← hgs] at rk ⊢
      clear hgs a0 a1 a2 a3 hg1 hB
      obtain ⟨x0, x1, x2, x3, xf⟩ := cells4 rk
      obtain ⟨y0, y1, yf⟩ := cells2 rx
      go_wp2_with fail
      go_at_call 44; refine (c1 _).mono ?_; rintro e w2 ⟨rfl, hb⟩
      replace rk := rk.below hb
      replace rx := rx.below hb
      replace hBX := below2 hBX hb
      clear x0 x1 x2 x3 xf y0 y1 yf hb
      obtain ⟨x0, x1, x2, x3, xf⟩ := cells4 rk
      obtain ⟨y0, y1, yf⟩ := cells2 rx
      by_cases h1 : m1 ≤ 0
      · have hA : decide (m1 ≤ 0) = true := decide_eq_true h1
        go_wp2_with fail
        go_at_call 44; refine (c2 _).mono ?_; rintro e w3 ⟨rfl, hb⟩
        replace hBX := below2 hBX hb
        clear x0 x1 x2 x3 xf y0 y1 yf hb rk rx
        by_cases h2 : m2 ≤ 0
        · have hA2 : decide (m2 ≤ 0) = true := decide_eq_true h2
          have HV : Hid (R = true) := HB1.out (by rw [hA, hA2]; rfl)
          have hW := below2 hB0 hBX
          clear HB1 HB2 HD
          go_wp2_with fail
          go_ret
          exact ⟨by rw [HV.out]; rfl, hW⟩
        · have hA2 : decide (m2 ≤ 0) = false := decide_eq_false h2
          have HS : Hid (inB (l.take (k + 1)) x = false) := HB2.out (by rw [hA, hA2]; rfl)
          clear HB1 HB2
          go_wp2_with fail
          go_roundw
          case rel => exact ⟨k + 1, by omega, by go_num, hBX, HS⟩
          case measure => simp [intOf]; omega
      · have hA : decide (m1 ≤ 0) = false := decide_eq_false h1
        have HS : Hid (inB (l.take (k + 1)) x = false) := HB2.out (by rw [hA]; rfl)
        clear HB1 HB2 x0 x1 x2 x3 xf y0 y1 yf rk rx
        go_wp2_with fail
        go_roundw
        case rel => exact ⟨k + 1, by omega, by go_num, hBX, HS⟩
        case measure => simp [intOf]; omega
    · have HV : Hid (R = false) := by show _ = _; rw [HD.out]; exact in_end HG.out (by have := HN.out; omega)
      have hkf : decide ((k : Int) < (n : Int)) = false := decide_eq_false (by omega)
      have hW := below2 hB0 hB
      clear HG HD
      go_wp2_with fail
      go_ret
      exact ⟨by rw [HV.out]; rfl, hW⟩
end Go.Proofs.Ytiemlaehhmlhmaa.Sp
namespace Go.Proofs.Ytiemlaehhmlhmaa.Sp
open Go.RowKit
open Go.Proofs.Ytiemlaehhmlhmaa.Lk (HasRow)
open Go.Proofs.Ytiemlaehhmlhmaa.Addr (wideN rightB hiN loN adV cmpN nextE prevE rcmp_any rright_any rnext_any cmp_le RowAt below2 below_drew below_new bset RowAt.lt RowAt.cell RowAt.frozen RowAt.below RowAt.drew RowAt.new RowAt.alloc cells2 cells4 results_cell gset grefl Bl bl_ne wp_region_bl bl_call bl_same)
theorem next_fit (six : Bool) {t : Nat} : (nextE six t).1 < 2 ^ 128 := by
  have : (2 : Nat) ^ wideN six ≤ 2 ^ 128 := Nat.pow_le_pow_right (by decide) (Addr.wideN_le six)
  unfold nextE
  split
  · rename_i hr
    have := of_decide_eq_true hr
    split
    · show 0 < _; decide
    · show t + 1 < _; omega
  · show 0 < _; decide
set_option maxHeartbeats 4000000 in
set_option maxRecDepth 20000 in
theorem rchk_any (six : Bool) (l : List Sp) (v : Value) (w : World) (h : HasSps w v l) (hf : ∀ s ∈ l, FitS s) :
    Calls Try.prog 17 #[.bool six, v] w fun e w' => e = .returned (.int .i64 (chk (okB six l))) ∧ Below w.heap.size w w' := by
  obtain ⟨o, c, rfl, hc1, hc2⟩ := HasRow.slice h
  by_cases hlen : 1024 < l.length
  · have HV : Hid (chk (okB six l) = 2) := by show _ = _; unfold okB; rw [decide_eq_false (by omega)]; rfl
    have hq1 : decide ((1024 : Int) < (l.length : Int)) = true := decide_eq_true (by omega)
    have hq2 : decide (1024 < l.length) = true := decide_eq_true hlen
    generalize chk (okB six l) = R at *
    generalize l.length = n at *
    clear h hf
    go_enter Try.func17, Try.ntmps17
    go_wp2_with fail
    go_ret
    exact ⟨by rw [HV.out]; rfl, Below.refl _ _⟩
  have hq1 : decide ((1024 : Int) < (l.length : Int)) = false := decide_eq_false (by omega)
  have hq2 : decide (1024 < l.length) = false := decide_eq_false hlen
  have HC : Hid (∀ b, rowB six l = b → chk (okB six l) = chk b) := fun b hb => by unfold okB; rw [decide_eq_true (by omega), hb]; rfl
  have HR : Hid (∀ wr : World, Below w.heap.size w wr → HasSps wr (.slice o l.length c) l) := fun wr hb => h.keep hb
  have HF : Hid (∀ s ∈ l, FitS s) := hf
  obtain ⟨n, hn⟩ : ∃ n, n = l.length := ⟨_, rfl⟩
  have HN : Hid (n = l.length) := hn
  rw [← hn] at HR hc1 hq1 hq2 ⊢
  have hni : (n : Int) ≤ 9223372036854775807 := by omega
  obtain ⟨R, hR⟩ : ∃ R, R = chk (okB six l) := ⟨_, rfl⟩
  rw [← hR] at HC ⊢
  clear h hn hR hf hlen
  go_enter Try.func17, Try.ntmps17
  go_wp2_with fail
  go_loopw [14] (fun i wr => ∃ k : Nat, k ≤ n ∧ i = .int .i64 k ∧ Below w.heap.size w wr ∧ Hid (Row six (l.take k))) (fun i _ => n - (intOf i).toNat)
  case atStart => exact ⟨0, by omega, rfl, Below.refl _ _, by rw [List.take_zero]; exact row_nil six⟩
  case round =>
    obtain ⟨k, hk, rfl, hB, HG⟩ := hrel
    have hh := HR.out _ hB
    by_cases hlt : k < n
    · have hkz : k < l.length := by rw [← HN.out]; exact hlt
      obtain ⟨g1, i1, rfl, hg1, a0, a1, a2, a3⟩ := HasSps.cell hh k hkz
      have hfk := HF.out _ (List.getElem_mem hkz)
      have cr := fun (W : World) => rone_any six l[k] W hfk
      have hki : (k : Int) < (n : Int) := by omega
      have HB1 : Hid (okS six l[k] = false → R = 2) := fun h => HC.out false (row_bad1 hkz h)
      have HB2 : Hid (okS six l[k] = true → k = 0 → Row six (l.take (k + 1))) := fun h h0 => row_step hkz HG.out h (fun h1 => absurd h1 (by omega))
      have HB3 : Hid (okS six l[k] = true → ∀ (j : Nat) (hj : j < l.length), k = j + 1 → (apartB six l[j].2 l[k].1 = true → Row six (l.take (k + 1))) ∧ (apartB six l[j].2 l[k].1 = false → R = 2)) := fun h j hj h0 => by
        have hz := row_round hkz HG.out h h0 hj
        exact ⟨hz.1, fun hq => HC.out false (hz.2 hq)⟩
      have HNX : Hid (∀ (j : Nat) (hj : j < l.length) (W : World), Calls Try.prog 43 #[.bool six, adV l[j].2] W fun e w' => e = .returned (.tuple #[adV (nextE six l[j].2).1, .int .i64 (nextE six l[j].2).2]) ∧ Below W.heap.size W w') := fun j hj W => rnext_any six l[j].2 W (HF.out _ (List.getElem_mem hj)).2
      have HCM : Hid (∀ (j : Nat) (hj : j < l.length) (W : World), Calls Try.prog 44 #[adV (nextE six l[j].2).1, adV l[k].1] W fun e w' => e = .returned (.int .i64 (cmpN (nextE six l[j].2).1 l[k].1)) ∧ Below W.heap.size W w') := fun j hj W => rcmp_any _ _ W (next_fit six) hfk.1
      unfold spV at cr
      generalize okS six l[k] = B1 at cr HB1 HB2 HB3
      obtain ⟨sk, hsk⟩ : ∃ sk, sk = l[k] := ⟨_, rfl⟩
      rw [← hsk] at a0 a1 a2 a3 cr HB3 HCM
      obtain ⟨s1, s2⟩ := sk
      clear hsk hfk HG
      simp only at a0 a1 a2 a3 cr HB3 HCM
      obtain ⟨ka, hka⟩ : ∃ q, q = hiN s1 := ⟨_, rfl⟩
      obtain ⟨kb, hkb⟩ : ∃ q, q = loN s1 := ⟨_, rfl⟩
      have HKV : Hid (adV s1 = .agg #[.int .u64 (ka : Int), .int .u64 (kb : Int)]) := by rw [hka, hkb]; rfl
      rw [← hka, ← hkb] at cr
      rw [← hka] at a0
      rw [← hkb] at a1
      rw [HKV.out] at HCM
      clear hka hkb HKV
      generalize hiN s2 = kc at *
      generalize loN s2 = kd at *
      go_upto_region 6 with fail
      obtain ⟨X, hX⟩ : ∃ X, X = wr.alloc (.cells #[.int .u64 (ka : Int), .int .u64 (kb : Int), .int .u64 (kc : Int), .int .u64 (kd : Int)] 34) := ⟨_, rfl⟩
      have hbX : Below wr.heap.size wr X := by rw [hX]; exact below_new (Below.refl _ _) _
      have rk : RowAt X wr.heap.size [.int .u64 (ka : Int), .int .u64 (kb : Int), .int .u64 (kc : Int), .int .u64 (kd : Int)] 34 := by rw [hX]; exact RowAt.new _ _ _
      rw [← hX]
      have hBX := below2 hB hbX
      replace hh := hh.keep hbX
      clear hX hbX
      obtain ⟨gs, hgs⟩ : ∃ g, g = wr.heap.size := ⟨_, rfl⟩
      rw [← hgs] at rk ⊢
      clear hgs a0 a1 a2 a3 hg1 hB
      obtain ⟨x0, x1, x2, x3, xf⟩ := cells4 rk
      go_wp2_with fail
      go_at_call 39; refine (cr _).mono ?_; rintro e w2 ⟨rfl, hb⟩
      replace rk := rk.below hb
      replace hh := hh.keep hb
      replace hBX := below2 hBX hb
      clear x0 x1 x2 x3 xf hb cr
      obtain ⟨x0, x1, x2, x3, xf⟩ := cells4 rk
      cases B1
      · have HV : Hid (R = 2) := HB1.out rfl
        clear HB1 HB2 HB3 HC hh
        go_wp2_with fail
        go_ret
        exact ⟨by rw [HV.out]; rfl, hBX⟩
      · by_cases hk0 : k = 0
        · have HS1 : Hid (Row six (l.take (k + 1))) := HB2.out rfl hk0
          have hz1 : decide ((0 : Int) < (k : Int)) = false := decide_eq_false (by omega)
          have hz2 : decide (0 < k) = false := decide_eq_false (by omega)
          clear HB1 HB2 HB3 hh hk0
          go_wp2_with fail
          go_roundw
          case rel => exact ⟨k + 1, by omega, by go_num, hBX, HS1⟩
          case measure => simp [intOf]; omega
        · obtain ⟨j, hj⟩ : ∃ j, k = j + 1 := ⟨k - 1, by omega⟩
          have hj2 : j < l.length := by omega
          obtain ⟨g2, i2, e12, hg2, _, _, b2, b3⟩ := HasSps.cell hh j hj2
          injection e12 with e12
          injection e12 with e1 e2
          subst e1 e2
          obtain ⟨HN1, HN2⟩ := HB3.out rfl j hj2 hj
          have HN1 : Hid (apartB six l[j].2 s1 = true → Row six (l.take (k + 1))) := HN1
          have HN2 : Hid (apartB six l[j].2 s1 = false → R = 2) := HN2
          have cn := fun W => HNX.out j hj2 W
          have cm := fun W => HCM.out j hj2 W
          have hle : decide (cmpN (nextE six l[j].2).1 s1 < 0) = decide ((nextE six l[j].2).1 < s1) := cmp_lt0
          unfold apartB at HN1 HN2
          rw [← hle] at HN1 HN2
          unfold adV at cn cm
          clear hle HB1 HB2 HB3 HNX HCM hh
          generalize cmpN (nextE six l[j].2).1 s1 = m1 at *
          generalize hiN (nextE six l[j].2).1 = na at *
          generalize loN (nextE six l[j].2).1 = nb at *
          generalize hye : (nextE six l[j].2).2 = y at *
          generalize hiN l[j].2 = ja at *
          generalize loN l[j].2 = jb at *
          have e1 : (k : Int) - 1 = (j : Int) := by omega
          have e2 : IntKind.i64.wrap (j : Int) = (j : Int) := by rw [IntKind.wrap_i64]; omega
          have hkp : decide ((0 : Int) < (k : Int)) = true := decide_eq_true (by omega)
          have hkp2 : decide (0 < k) = true := decide_eq_true (by omega)
          have hjn : (j : Int) < (n : Int) := by omega
          clear hye hk0 hj
          go_wp2_with fail
          go_at_call 43; refine (cn _).mono ?_; rintro e w3 ⟨rfl, hb⟩
          replace rk := rk.below hb
          replace hBX := below2 hBX hb
          clear x0 x1 x2 x3 xf hb cn b2 b3 hg2 e1 e2 hkp hkp2 hjn
          go_upto_region 10 with fail
          obtain ⟨Y, hY⟩ : ∃ X, X = w3.alloc (.cells #[.int .u64 (na : Int), .int .u64 (nb : Int)] 25) := ⟨_, rfl⟩
          have hbY : Below w3.heap.size w3 Y := by rw [hY]; exact below_new (Below.refl _ _) _
          have rn : RowAt Y w3.heap.size [.int .u64 (na : Int), .int .u64 (nb : Int)] 25 := by rw [hY]; exact RowAt.new _ _ _
          rw [← hY]
          replace rk := rk.below hbY
          have hBY := below2 hBX hbY
          clear hY hbY hBX
          obtain ⟨gn, hgn⟩ : ∃ g, g = w3.heap.size := ⟨_, rfl⟩
          rw [← hgn] at rn ⊢
          clear hgn
          obtain ⟨x0, x1, x2, x3, xf⟩ := cells4 rk
          obtain ⟨y0, y1, yf⟩ := cells2 rn
          by_cases hy : y = 0
          · have HY : Hid (decide (y = 0) = true) := decide_eq_true hy
            subst hy
            go_wp2_with fail
            go_at_call 44; refine (cm _).mono ?_; rintro e w4 ⟨rfl, hb⟩
            replace hBY := below2 hBY hb
            clear x0 x1 x2 x3 xf y0 y1 yf rk rn hb
            by_cases h1 : 0 ≤ m1
            · have hA : decide (0 ≤ m1) = true := decide_eq_true h1
              have HV : Hid (R = 2) := HN2.out (by rw [decide_eq_false (show ¬ m1 < 0 by omega)]; rfl)
              clear HN1 HN2 HC
              go_wp2_with fail
              go_ret
              exact ⟨by rw [HV.out]; rfl, hBY⟩
            · have hA : decide (0 ≤ m1) = false := decide_eq_false h1
              have HS : Hid (Row six (l.take (k + 1))) := HN1.out (by rw [decide_eq_true (show m1 < 0 by omega)]; rfl)
              clear HN1 HN2
              go_wp2_with fail
              go_roundw
              case rel => exact ⟨k + 1, by omega, by go_num, hBY, HS⟩
              case measure => simp [intOf]; omega
          · have hA : decide (y = 0) = false := decide_eq_false hy
            have HV : Hid (R = 2) := HN2.out (by rw [hA]; rfl)
            clear HN1 HN2 HC x0 x1 x2 x3 xf y0 y1 yf rk rn
            go_wp2_with fail
            go_ret
            exact ⟨by rw [HV.out]; rfl, hBY⟩
    · have HV : Hid (R = 0) := HC.out true (row_end HG.out (by have := HN.out; omega))
      have hkf : decide ((k : Int) < (n : Int)) = false := decide_eq_false (by omega)
      clear HG HC
      go_wp2_with fail
      go_ret
      exact ⟨by rw [HV.out]; rfl, hB⟩
end Go.Proofs.Ytiemlaehhmlhmaa.Sp
namespace Go.Proofs.Ytiemlaehhmlhmaa.Sp
open Go.RowKit Go.Shelf
open Go.Proofs.Ytiemlaehhmlhmaa.Lk (HasRow hasRow_own addr_add)
open Go.Proofs.Ytiemlaehhmlhmaa.Addr (Pf pfV okP lastN lastE rlast_any rright_any wideN rightB hiN loN adV cmpN RowAt below2 below_drew below_new bset RowAt.lt RowAt.cell RowAt.frozen RowAt.below RowAt.drew RowAt.new RowAt.alloc cells2 cells4 results_cell gset grefl)
set_option maxHeartbeats 2000000 in
theorem rof10_any (p : Pf) (w : World) (hl : -9223372036854775808 ≤ p.len ∧ p.len ≤ 9223372036854775807) (ha : p.n < 2 ^ 128) : Calls Try.prog 14 #[pfV p] w fun e w' => e = .returned (.tuple #[spV (if okP p = true then (p.n, lastN p) else (0, 0)), .int .i64 (chk (okP p))]) ∧ Below w.heap.size w w' := by
  have cl := fun w => rlast_any p w hl ha
  have HV : Hid (∀ ok, okP p = ok → lastE p = (if ok then (lastN p, 0) else (0, 2))) := fun ok h => by unfold lastE; rw [h]
  have h00 : spV (0, 0) = .agg #[.int .u64 0, .int .u64 0, .int .u64 0, .int .u64 0] := by
    have e1 : hiN 0 = 0 := by unfold hiN; exact Nat.zero_div _
    have e2 : loN 0 = 0 := by unfold loN; exact Nat.zero_mod _
    show Value.agg #[.int .u64 (hiN 0 : Int), .int .u64 (loN 0 : Int), .int .u64 (hiN 0 : Int), .int .u64 (loN 0 : Int)] = _
    rw [e1, e2]; rfl
  have ha0 : adV 0 = .agg #[.int .u64 0, .int .u64 0] := rfl
  obtain ⟨X, hX⟩ : ∃ X, X = (w.alloc (.cells #[.bool p.six, .int .u64 (hiN p.n : Int), .int .u64 (loN p.n : Int), .int .i64 p.len] 27)).alloc (.cells #[.int .u64 0, .int .u64 0, .int .u64 0, .int .u64 0] 34) := ⟨_, rfl⟩
  have hB : Below w.heap.size w X := by rw [hX]; exact below_new (below_new (Below.refl _ _) _) _
  have rp : RowAt X w.heap.size [.bool p.six, .int .u64 (hiN p.n : Int), .int .u64 (loN p.n : Int), .int .i64 p.len] 27 := by rw [hX]; exact (RowAt.new _ _ _).alloc _
  have rz : RowAt X (w.heap.size + 1) [.int .u64 0, .int .u64 0, .int .u64 0, .int .u64 0] 34 := by
    have h := RowAt.new (w.alloc (.cells #[.bool p.six, .int .u64 (hiN p.n : Int), .int .u64 (loN p.n : Int), .int .i64 p.len] 27)) [.int .u64 0, .int .u64 0, .int .u64 0, .int .u64 0] 34
    rw [World.size_alloc] at h
    rw [hX]; exact h
  cases hok : okP p
  · rw [HV.out false hok] at cl
    simp only [Bool.false_eq_true, if_false] at cl ⊢
    rw [h00]
    rw [ha0] at cl
    unfold pfV at *
    generalize hiN p.n = a at *
    generalize loN p.n = b at *
    generalize p.six = six at *
    generalize p.len = ln at *
    clear HV h00 ha0 hok ha hl
    obtain ⟨p0, p1, p2, p3, pf⟩ := cells4 rp
    go_enter Try.func14, Try.ntmps14
    go_upto_region 1 with fail
    rw [← hX]
    clear hX rp
    go_wp2_with fail
    go_at_call 41; refine (cl _).mono ?_; rintro e w2 ⟨rfl, hb⟩
    replace rz := rz.below hb
    replace hB := below2 hB hb
    have hlt := rz.lt
    clear p0 p1 p2 p3 pf hb cl
    obtain ⟨z0, z1, z2, z3, zf⟩ := cells4 rz
    clear rz
    go_wp2_with fail
    (try simp only [Exit.inBlock, Exit.then])
    refine bodyPost_ret (v := .tuple #[.agg #[.int .u64 0, .int .u64 0, .int .u64 0, .int .u64 0], .int .i64 2]) ?_ rfl ⟨rfl, ?_⟩
    · rw [results_cell_tmp rfl]
      go_simp
    · repeat' (first | with_reducible exact hB | with_reducible apply below_new | with_reducible refine bset ?_ (by omega))
  · rw [HV.out true hok] at cl
    simp only [if_true] at cl ⊢
    unfold pfV adV at *
    unfold spV
    simp only
    generalize hiN (lastN p) = la at *
    generalize loN (lastN p) = lb at *
    generalize hiN p.n = a at *
    generalize loN p.n = b at *
    generalize p.six = six at *
    generalize p.len = ln at *
    clear HV h00 ha0 hok ha hl
    obtain ⟨p0, p1, p2, p3, pf⟩ := cells4 rp
    go_enter Try.func14, Try.ntmps14
    go_upto_region 1 with fail
    rw [← hX]
    clear hX
    go_wp2_with fail
    go_at_call 41; refine (cl _).mono ?_; rintro e w2 ⟨rfl, hb⟩
    replace rz := rz.below hb
    replace rp := rp.below hb
    replace hB := below2 hB hb
    have hlt := rz.lt
    have hlp := rp.lt
    clear p0 p1 p2 p3 pf hb cl
    obtain ⟨z0, z1, z2, z3, zf⟩ := cells4 rz
    obtain ⟨p0, p1, p2, p3, pf⟩ := cells4 rp
    clear rz rp
    go_wp2_with fail
    (try simp only [Exit.inBlock, Exit.then])
    refine bodyPost_ret (v := .tuple #[.agg #[.int .u64 (a : Int), .int .u64 (b : Int), .int .u64 (la : Int), .int .u64 (lb : Int)], .int .i64 0]) ?_ rfl ⟨rfl, ?_⟩
    · rw [results_cell_tmp rfl]
      go_simp
    · repeat' (first | with_reducible exact hB | with_reducible apply below_new | with_reducible refine bset ?_ (by omega))
set_option maxHeartbeats 2000000 in
theorem rhas10_any (six : Bool) (l : List Sp) (n : Nat) (v : Value) (w : World) (h : HasSps w v l) (hf : ∀ s ∈ l, FitS s) (hn : n < 2 ^ 128) :
    Calls Try.prog 25 #[.bool six, v, adV n] w fun e w' => e = .returned (.tuple #[.bool (hasE six l n).1, .int .i64 (hasE six l n).2]) ∧ Below w.heap.size w w' := by
  have ck := fun (W : World) (hq : HasSps W v l) => rchk_any six l v W hq hf
  have cr := fun W => rright_any six n W hn
  have ci := fun (W : World) (hq : HasSps W v l) => rin_any l n v W hq hf hn
  obtain ⟨X, hX⟩ : ∃ X, X = w.alloc (.cells #[.int .u64 (hiN n : Int), .int .u64 (loN n : Int)] 25) := ⟨_, rfl⟩
  have hB : Below w.heap.size w X := by rw [hX]; exact below_new (Below.refl _ _) _
  have ra : RowAt X w.heap.size [.int .u64 (hiN n : Int), .int .u64 (loN n : Int)] 25 := by rw [hX]; exact RowAt.new _ _ _
  replace h := h.keep hB
  unfold adV at *
  have HE : Hid (∀ A B, okB six l = A → rightB six n = B → hasE six l n = (if A && B then (inB l n, 0) else (false, 2))) := fun A B h1 h2 => by unfold hasE; rw [h1, h2]
  generalize hasE six l n = R at *
  generalize inB l n = I at *
  cases hA : okB six l
  · rw [hA] at ck
    have HV : Hid (R = (false, 2)) := HE.out _ _ hA rfl
    obtain ⟨x0, x1, xf⟩ := cells2 ra
    generalize hiN n = na at *
    generalize loN n = nb at *
    clear hf hn HE hA
    go_enter Try.func25, Try.ntmps25
    go_upto_region 1 with fail
    rw [← hX]
    clear hX
    go_wp2_with fail
    go_at_call 17; refine (ck _ h).mono ?_; rintro e w2 ⟨rfl, hb⟩
    replace hB := below2 hB hb
    clear x0 x1 xf hb ra
    unfold chk
    go_wp2_with fail
    go_ret2
    exact ⟨by rw [HV.out]; rfl, hB⟩
  · rw [hA] at ck
    cases hBr : rightB six n
    · rw [hBr] at cr
      have HV : Hid (R = (false, 2)) := HE.out _ _ hA hBr
      obtain ⟨x0, x1, xf⟩ := cells2 ra
      generalize hiN n = na at *
      generalize loN n = nb at *
      clear hf hn HE hA hBr
      go_enter Try.func25, Try.ntmps25
      go_upto_region 1 with fail
      rw [← hX]
      clear hX
      go_wp2_with fail
      go_at_call 17; refine (ck _ h).mono ?_; rintro e w2 ⟨rfl, hb⟩
      replace hB := below2 hB hb
      replace ra := ra.below hb
      clear x0 x1 xf hb
      obtain ⟨x0, x1, xf⟩ := cells2 ra
      unfold chk
      go_wp2_with fail
      go_at_call 53; refine (cr _).mono ?_; rintro e w3 ⟨rfl, hb⟩
      replace hB := below2 hB hb
      clear x0 x1 xf hb ra
      go_wp2_with fail
      go_ret2
      exact ⟨by rw [HV.out]; rfl, hB⟩
    · rw [hBr] at cr
      have HV : Hid (R = (I, 0)) := HE.out _ _ hA hBr
      obtain ⟨x0, x1, xf⟩ := cells2 ra
      generalize hiN n = na at *
      generalize loN n = nb at *
      clear hf hn HE hA hBr
      go_enter Try.func25, Try.ntmps25
      go_upto_region 1 with fail
      rw [← hX]
      clear hX
      go_wp2_with fail
      go_at_call 17; refine (ck _ h).mono ?_; rintro e w2 ⟨rfl, hb⟩
      replace hB := below2 hB hb
      replace ra := ra.below hb
      replace h := h.keep hb
      clear x0 x1 xf hb
      obtain ⟨x0, x1, xf⟩ := cells2 ra
      unfold chk
      go_wp2_with fail
      go_at_call 53; refine (cr _).mono ?_; rintro e w3 ⟨rfl, hb⟩
      replace hB := below2 hB hb
      replace ra := ra.below hb
      replace h := h.keep hb
      clear x0 x1 xf hb
      obtain ⟨x0, x1, xf⟩ := cells2 ra
      go_wp2_with fail
      go_at_call 54; refine (ci _ h).mono ?_; rintro e w4 ⟨rfl, hb⟩
      replace hB := below2 hB hb
      clear x0 x1 xf hb ra h
      go_wp2_with fail
      go_ret2
      exact ⟨by rw [HV.out]; rfl, hB⟩
end Go.Proofs.Ytiemlaehhmlhmaa.Sp
