/- What the document's Check and Last return. -/
import Derived.Test.YtiemlaehhmlhmaaAddrMath2
import Derived.Test.YtiemlaehhmlhmaaAddrHalves
import Derived.OwnWalk
set_option linter.unusedVariables false
namespace Go.Proofs.Ytiemlaehhmlhmaa.Addr

/-- a number's last W bits, the highest first -/
def bitL (W n : Nat) : List Nat := (List.range W).map fun i => (n.testBit (W - 1 - i)).toNat
theorem bitL_len (W n : Nat) : (bitL W n).length = W := by simp [bitL]
theorem bitL_get (W n i : Nat) (h : i < W) : (bitL W n)[i]'(by rw [bitL_len]; exact h) = (n.testBit (W - 1 - i)).toNat := by simp [bitL]
theorem bitL_get? (W n i : Nat) (h : i < W) : (bitL W n)[i]? = some (n.testBit (W - 1 - i)).toNat := by simp [bitL, h]
theorem bitL_le (W n : Nat) : ∀ b ∈ bitL W n, b ≤ 1 := by
  intro b hb
  obtain ⟨i, _, rfl⟩ := List.mem_map.1 hb
  cases n.testBit (W - 1 - i) <;> decide
/-- the number of bits -/
def ofL (l : List Nat) : Nat := l.foldl (fun a b => (2 * a + b) % 2 ^ 128) 0
theorem ofL_snoc (l : List Nat) (b : Nat) : ofL (l ++ [b]) = (2 * ofL l + b) % 2 ^ 128 := by unfold ofL; rw [List.foldl_append]; rfl
theorem ofL_lt (l : List Nat) : ofL l < 2 ^ 128 := by
  rcases List.eq_nil_or_concat l with rfl | ⟨l2, b, rfl⟩
  · decide
  · rw [List.concat_eq_append, ofL_snoc]; exact Nat.mod_lt _ (by decide)
theorem ofL_take (l : List Nat) (k : Nat) (h : k < l.length) : ofL (l.take (k + 1)) = (2 * ofL (l.take k) + l[k]) % 2 ^ 128 := by
  rw [List.take_succ_eq_append_getElem h, ofL_snoc]
theorem bitL_succ (W n : Nat) : bitL (W + 1) n = bitL W (n / 2) ++ [n % 2] := by
  unfold bitL
  rw [List.range_succ, List.map_append]
  congr 1
  · apply List.map_congr_left
    intro i hi
    have hi2 : i < W := List.mem_range.1 hi
    rw [show W + 1 - 1 - i = (W - 1 - i) + 1 by omega, Nat.testBit_succ]
  · simp only [List.map_cons, List.map_nil]
    congr 1
    rw [show W + 1 - 1 - W = 0 by omega, Nat.toNat_testBit]
    simp
theorem ofL_bits (W n : Nat) (h : W ≤ 128) : ofL (bitL W n) = n % 2 ^ W := by
  induction W generalizing n with
  | zero => simp [bitL, ofL, Nat.mod_one]
  | succ W ih =>
    rw [bitL_succ, ofL_snoc, ih _ (by omega)]
    have hp := Nat.two_pow_pos W
    have hle : (2 : Nat) ^ (W + 1) ≤ 2 ^ 128 := Nat.pow_le_pow_right (by decide) h
    have e : (2 : Nat) ^ (W + 1) = 2 * 2 ^ W := by rw [Nat.pow_succ, Nat.mul_comm]
    rw [e] at *
    have hm := Nat.mod_mul (x := n) (a := 2) (b := 2 ^ W)
    have hlt := Nat.mod_lt (n / 2) hp
    rw [hm]
    rw [Nat.mod_eq_of_lt (by omega)]
    omega
/-- a row in which one bit is another one is the row of another number -/
theorem bitL_set (W n t : Nat) (b : Bool) (h : t < W) : ∃ m, (bitL W n).set (W - 1 - t) b.toNat = bitL W m ∧ ∀ j, m.testBit j = if j = t then b else n.testBit j := by
  have hB : n % 2 ^ t < 2 ^ t := Nat.mod_lt _ (Nat.two_pow_pos t)
  have key : ∀ j, (2 ^ t * (2 * (n / 2 ^ (t + 1)) + b.toNat) + n % 2 ^ t).testBit j = if j = t then b else n.testBit j := by
    intro j
    rw [Nat.testBit_two_pow_mul_add _ hB]
    by_cases hj : j < t
    · rw [if_pos hj, if_neg (by omega), Nat.testBit_mod_two_pow]
      simp [hj]
    · rw [if_neg hj]
      by_cases he : j = t
      · subst he
        rw [if_pos rfl, Nat.sub_self, Nat.testBit_zero]
        cases b <;> simp <;> omega
      · rw [if_neg he]
        obtain ⟨m, rfl⟩ : ∃ m, j = t + 1 + m := ⟨j - t - 1, by omega⟩
        rw [show t + 1 + m - t = m + 1 by omega, Nat.testBit_succ]
        have : (2 * (n / 2 ^ (t + 1)) + b.toNat) / 2 = n / 2 ^ (t + 1) := by cases b <;> simp <;> omega
        rw [this, Nat.testBit_div_two_pow]
        congr 1; omega
  refine ⟨_, ?_, key⟩
  apply List.ext_getElem
  · simp [bitL_len]
  · intro i h1 h2
    rw [bitL_len] at h2
    rw [List.getElem_set, bitL_get W n i h2, bitL_get W _ i h2, key]
    by_cases hi : W - 1 - t = i
    · rw [if_pos hi, if_pos (by omega)]
    · rw [if_neg hi, if_neg (by omega)]
theorem eq_of_bits {x y W : Nat} (hx : x < 2 ^ W) (hy : y < 2 ^ W) (h : ∀ j, j < W → x.testBit j = y.testBit j) : x = y := by
  apply Nat.eq_of_testBit_eq
  intro j
  by_cases hj : j < W
  · exact h j hj
  · have hle : (2 : Nat) ^ W ≤ 2 ^ j := Nat.pow_le_pow_right (by decide) (by omega)
    rw [Nat.testBit_lt_two_pow (by omega), Nat.testBit_lt_two_pow (by omega)]
theorem mod_zero_bits (n k : Nat) : n % 2 ^ k = 0 ↔ ∀ j, j < k → n.testBit j = false := by
  constructor
  · intro h j hj
    have := Nat.testBit_mod_two_pow n k j
    rw [h, Nat.zero_testBit] at this
    simpa [hj] using this.symm
  · intro h
    apply Nat.eq_of_testBit_eq
    intro j
    rw [Nat.testBit_mod_two_pow, Nat.zero_testBit]
    by_cases hj : j < k
    · simp [h j hj]
    · simp [hj]
theorem div_eq_bits {n m k W : Nat} (hn : n < 2 ^ W) (hm : m < 2 ^ W) : n / 2 ^ k = m / 2 ^ k ↔ ∀ j, k ≤ j → j < W → n.testBit j = m.testBit j := by
  constructor
  · intro h j h1 h2
    have e1 : (n / 2 ^ k).testBit (j - k) = n.testBit (j - k + k) := Nat.testBit_div_two_pow n (j - k)
    have e2 : (m / 2 ^ k).testBit (j - k) = m.testBit (j - k + k) := Nat.testBit_div_two_pow m (j - k)
    rw [show j - k + k = j by omega] at e1 e2
    rw [← e1, ← e2, h]
  · intro h
    apply Nat.eq_of_testBit_eq
    intro j
    rw [Nat.testBit_div_two_pow, Nat.testBit_div_two_pow]
    by_cases hj : j + k < W
    · exact h _ (by omega) hj
    · have hle : (2 : Nat) ^ W ≤ 2 ^ (j + k) := Nat.pow_le_pow_right (by decide) (by omega)
      rw [Nat.testBit_lt_two_pow (by omega), Nat.testBit_lt_two_pow (by omega)]
/-- the last bits are ones -/
theorem last_bits {n m k W : Nat} (hk : k ≤ W) (hn : n < 2 ^ W) (h0 : n % 2 ^ k = 0) (h : ∀ j, j < W → m.testBit j = if j < k then true else n.testBit j) : m % 2 ^ W = n + freeN k := by
  have hp := Nat.two_pow_pos k
  have hlast : n + 2 ^ k ≤ 2 ^ W := mult_room h0 (pow_mod _ _ hk) hp hn
  apply eq_of_bits (W := W) (Nat.mod_lt _ (Nat.two_pow_pos W)) (by unfold freeN; omega)
  intro j hj
  rw [Nat.testBit_mod_two_pow]
  have e : n + freeN k = 2 ^ k * (n / 2 ^ k) + (2 ^ k - 1) := by have := Nat.div_add_mod n (2 ^ k); unfold freeN; omega
  rw [e, Nat.testBit_two_pow_mul_add _ (by omega), Nat.testBit_two_pow_sub_one, h j hj]
  simp only [hj, decide_true, Bool.true_and]
  by_cases hjk : j < k
  · simp [hjk]
  · simp only [hjk, if_false]
    rw [Nat.testBit_div_two_pow, show j - k + k = j by omega]
/-- the bit at t is one more -/
theorem half_bits {n m t W : Nat} (ht : t < W) (hn : n < 2 ^ W) (h0 : n % 2 ^ (t + 1) = 0) (h : ∀ j, m.testBit j = if j = t then true else n.testBit j) : m % 2 ^ W = n + 2 ^ t := by
  have hp := Nat.two_pow_pos t
  have e2 : (2 : Nat) ^ (t + 1) = 2 ^ t + 2 ^ t := by rw [Nat.pow_succ]; omega
  have hlast : n + 2 ^ (t + 1) ≤ 2 ^ W := mult_room h0 (pow_mod _ _ ht) (Nat.two_pow_pos _) hn
  apply eq_of_bits (W := W) (Nat.mod_lt _ (Nat.two_pow_pos W)) (by omega)
  intro j hj
  rw [Nat.testBit_mod_two_pow, h j]
  have e : n + 2 ^ t = 2 ^ (t + 1) * (n / 2 ^ (t + 1)) + 2 ^ t := by have := Nat.div_add_mod n (2 ^ (t + 1)); omega
  rw [e, Nat.testBit_two_pow_mul_add _ (by omega), Nat.testBit_two_pow]
  simp only [hj, decide_true, Bool.true_and]
  by_cases hjt : j = t
  · subst hjt; simp
  · rw [if_neg hjt]
    by_cases hj1 : j < t + 1
    · rw [if_pos hj1, decide_eq_false (fun hc => hjt hc.symm)]
      exact (mod_zero_bits _ _).1 h0 j hj1
    · rw [if_neg hj1, Nat.testBit_div_two_pow, show j - (t + 1) + (t + 1) = j by omega]
/-- last bits that are ones, and the nought ahead of them, turned: one more -/
theorem next_bits {n m t W : Nat} (ht : t < W) (hn : n < 2 ^ W) (hl : ∀ j, j < t → n.testBit j = true) (h1 : n.testBit t = false) (h : ∀ j, j < W → m.testBit j = if j < t then false else if j = t then true else n.testBit j) : m % 2 ^ W = n + 1 ∧ n ≠ 2 ^ W - 1 := by
  have hp := Nat.two_pow_pos t
  have e2 : (2 : Nat) ^ (t + 1) = 2 ^ t + 2 ^ t := by rw [Nat.pow_succ]; omega
  have en : n = 2 ^ (t + 1) * (n / 2 ^ (t + 1)) + (2 ^ t - 1) := by
    have hd := Nat.div_add_mod n (2 ^ (t + 1))
    have hm : n % 2 ^ (t + 1) = 2 ^ t - 1 := by
      apply eq_of_bits (W := t + 1) (Nat.mod_lt _ (Nat.two_pow_pos _)) (by omega)
      intro j hj
      rw [Nat.testBit_mod_two_pow, Nat.testBit_two_pow_sub_one]
      simp only [hj, decide_true, Bool.true_and]
      by_cases hjt : j < t
      · rw [hl j hjt, decide_eq_true hjt]
      · rw [show j = t by omega, h1]; simp
    omega
  have hroom : 2 ^ (t + 1) * (n / 2 ^ (t + 1)) + 2 ^ (t + 1) ≤ 2 ^ W := by
    apply mult_room (q := 2 ^ (t + 1)) (Nat.mul_mod_right _ _) (pow_mod (t + 1) W ht) (Nat.two_pow_pos _)
    have := Nat.div_mul_le_self n (2 ^ (t + 1))
    rw [Nat.mul_comm] at this; omega
  constructor
  · have : m % 2 ^ W = 2 ^ (t + 1) * (n / 2 ^ (t + 1)) + 2 ^ t := by
      apply eq_of_bits (W := W) (Nat.mod_lt _ (Nat.two_pow_pos W)) (by omega)
      intro j hj
      rw [Nat.testBit_mod_two_pow, h j hj, Nat.testBit_two_pow_mul_add _ (by omega), Nat.testBit_two_pow]
      simp only [hj, decide_true, Bool.true_and]
      by_cases hjt : j < t
      · rw [if_pos hjt, if_pos (by omega), decide_eq_false (by omega)]
      · rw [if_neg hjt]
        by_cases he : j = t
        · rw [if_pos he, if_pos (by omega), decide_eq_true he.symm]
        · rw [if_neg he, if_neg (by omega), Nat.testBit_div_two_pow, show j - (t + 1) + (t + 1) = j by omega]
    omega
  · omega
theorem ones_bits {n W : Nat} (hn : n < 2 ^ W) (hl : ∀ j, j < W → n.testBit j = true) : n = 2 ^ W - 1 := by
  have hp := Nat.two_pow_pos W
  apply eq_of_bits hn (by omega)
  intro j hj
  rw [hl j hj, Nat.testBit_two_pow_sub_one, decide_eq_true hj]
/-- last bits that are noughts, and the one ahead of them, turned: one less -/
theorem prev_bits {n m t W : Nat} (ht : t < W) (hn : n < 2 ^ W) (hl : ∀ j, j < t → n.testBit j = false) (h1 : n.testBit t = true) (h : ∀ j, j < W → m.testBit j = if j < t then true else if j = t then false else n.testBit j) : m % 2 ^ W + 1 = n := by
  have hm : m % 2 ^ W < 2 ^ W := Nat.mod_lt _ (Nat.two_pow_pos W)
  have hb : ∀ j, j < W → (m % 2 ^ W).testBit j = if j < t then true else if j = t then false else n.testBit j := fun j hj => by
    rw [Nat.testBit_mod_two_pow, h j hj]; simp [hj]
  have := next_bits (n := m % 2 ^ W) (m := n) ht hm (fun j hj => by rw [hb j (by omega), if_pos hj]) (by rw [hb t ht, if_neg (by omega), if_pos rfl]) (fun j hj => by
    by_cases hjt : j < t
    · rw [if_pos hjt, hl j hjt]
    · rw [if_neg hjt]
      by_cases he : j = t
      · rw [if_pos he, he, h1]
      · rw [if_neg he, hb j hj, if_neg hjt, if_neg he])
  have e := this.1
  rw [Nat.mod_eq_of_lt hn] at e
  exact e.symm
theorem zero_bits {n W : Nat} (hn : n < 2 ^ W) (hl : ∀ j, j < W → n.testBit j = false) : n = 0 := by
  apply eq_of_bits hn (Nat.two_pow_pos W)
  intro j hj
  rw [hl j hj, Nat.zero_testBit]
end Go.Proofs.Ytiemlaehhmlhmaa.Addr
namespace Go.Proofs.Ytiemlaehhmlhmaa.Addr
open Go.RowKit

theorem rwide_any (six : Bool) (w : World) : Calls Try.prog 91 #[.bool six] w fun e w' => e = .returned (.int .i64 (wideN six : Int)) ∧ w' = w := by
  cases six
  · go_enter Try.func91, Try.ntmps91
    go_wp2
    go_ret
    exact ⟨rfl, rfl⟩
  · go_enter Try.func91, Try.ntmps91
    go_wp2
    go_ret
    exact ⟨rfl, rfl⟩
theorem info_int : (Try.prog.info? 3).map (fun i => (i.zero, i.size, i.bytes)) = some (some (.int .i64 0), 1, 8) := by kernel_rfl
theorem info_parts' {t : TypeId} {z : Option Value} {s b : Nat} (h : (Try.prog.info? t).map (fun i => (i.zero, i.size, i.bytes)) = some (z, s, b)) : ∃ i, Try.prog.info? t = some i ∧ i.zero = z ∧ i.size = s ∧ i.bytes = b := by
  cases hi : Try.prog.info? t with
  | none => rw [hi] at h; simp at h
  | some i => rw [hi] at h; simp at h; exact ⟨i, rfl, h.1, h.2.1, h.2.2⟩
def celN (l : List Nat) : List Value := l.map fun (b : Nat) => Value.int .i64 (b : Int)
theorem celN_len (l : List Nat) : (celN l).length = l.length := by simp [celN]
theorem celN_get (l : List Nat) (k : Nat) (h : k < l.length) : (celN l)[k]? = some (.int .i64 (l[k] : Int)) := by simp [celN, h]
theorem celN_set (l : List Nat) (k b : Nat) : (celN l).set k (.int .i64 (b : Int)) = celN (l.set k b) := by simp [celN, List.map_set]
/-- 'make([]int, n)' -/
theorem make_ints (w : World) (n : Nat) (h : n ≤ 1000000) (kl kc : IntKind) : (Instr.makeSlice 99 (.int kl (n : Int)) (.int kc (n : Int))).run Try.prog w = .ok (.slice (some ⟨w.heap.size, 0, none⟩) n n) (w.alloc (.cells (celN (List.replicate n 0)).toArray 3)) := by
  obtain ⟨i0, hi, hz0, hz1, hz2⟩ := info_parts' info_int
  have hr := run_make (P := Try.prog) w 99 3 i0 (.int .i64 0) Try.underlying99 hi hz0 kl kc n n (by omega) (Int.le_refl _) (by rw [hz2]; omega) (by omega)
  rw [hr, hz1, Int.toNat_natCast, Nat.mul_one]
  have e : madeCells (Value.int .i64 0).cells n = (celN (List.replicate n 0)).toArray := by
    apply Array.ext'
    refine (toList_madeCells_one (.int .i64 0) n).trans ?_
    simp [celN]
  rw [e]
/-- the row of bits, from the last one on, as far as t -/
def rowT (W n t : Nat) : List Nat := (List.range W).map fun j => if W - t ≤ j then (n.testBit (W - 1 - j)).toNat else 0
theorem rowT_len (W n t : Nat) : (rowT W n t).length = W := by simp [rowT]
theorem rowT_zero (W n : Nat) : rowT W n 0 = List.replicate W 0 := by
  apply List.ext_getElem
  · simp [rowT]
  · intro i h1 h2
    rw [rowT_len] at h1
    simp [rowT]; omega
theorem rowT_all (W n : Nat) : rowT W n W = bitL W n := by
  unfold rowT bitL
  apply List.map_congr_left
  intro j _
  rw [if_pos (by omega)]
theorem rowT_set (W n t : Nat) (h : t < W) : (rowT W n t).set (W - 1 - t) (n.testBit t).toNat = rowT W n (t + 1) := by
  apply List.ext_getElem
  · simp [rowT]
  · intro i h1 h2
    rw [rowT_len] at h2
    rw [List.getElem_set]
    by_cases hi : W - 1 - t = i
    · rw [if_pos hi]
      simp only [rowT, List.getElem_map, List.getElem_range]
      rw [if_pos (by omega), show W - 1 - i = t by omega]
    · rw [if_neg hi]
      simp only [rowT, List.getElem_map, List.getElem_range]
      by_cases h3 : W - t ≤ i
      · rw [if_pos h3, if_pos (by omega)]
      · rw [if_neg h3, if_neg (by omega)]
theorem half_num (m : Nat) (hm : m < 2 ^ 128) : loN m / 2 + hiN m % 2 * 9223372036854775808 = loN (m / 2) ∧ hiN m / 2 = hiN (m / 2) := by unfold loN hiN; omega
def BitsIs (L : List Nat) (w : World) (e : Ending) (w' : World) : Prop := ∃ g, e = .returned (.slice (some ⟨g, 0, none⟩) L.length L.length) ∧ w.heap.size ≤ g ∧ RowAt w' g (celN L) 3 ∧ Below w.heap.size w w'
set_option maxHeartbeats 2000000 in
set_option maxRecDepth 20000 in
theorem rbits_any (six : Bool) (n : Nat) (w : World) (hn : n < 2 ^ 128) : Calls Try.prog 75 #[.bool six, adV n] w (BitsIs (bitL (wideN six) n) w) := by
  have cw := fun w => rwide_any six w
  have hWl := wideN_le six
  have hWg := wideN_ge six
  obtain ⟨W, hWd⟩ : ∃ W, W = wideN six := ⟨_, rfl⟩
  rw [← hWd] at cw hWl hWg ⊢
  clear hWd
  have hmk := fun w => make_ints w W (by omega) .i64 .i64
  unfold adV
  obtain ⟨X, hX⟩ : ∃ X, X = w.alloc (.cells #[.int .u64 (hiN n : Int), .int .u64 (loN n : Int)] 25) := ⟨_, rfl⟩
  have hB0 : Below w.heap.size w X := by rw [hX]; exact below_new (Below.refl _ _) _
  have r0 : RowAt X w.heap.size [.int .u64 (hiN n : Int), .int .u64 (loN n : Int)] 25 := by rw [hX]; exact RowAt.new _ _ _
  obtain ⟨Y, hY⟩ : ∃ Y, Y = X.alloc (.cells (celN (List.replicate W 0)).toArray 3) := ⟨_, rfl⟩
  obtain ⟨g, hg⟩ : ∃ g, g = X.heap.size := ⟨_, rfl⟩
  have hmk := hmk X
  have r1 : RowAt Y g (celN (rowT W n 0)) 3 := by rw [hY, hg, rowT_zero]; exact RowAt.new _ _ _
  have hBY : Below w.heap.size w Y := by rw [hY]; exact below_new hB0 _
  have hwg : w.heap.size ≤ g := by rw [hg]; exact hB0.size
  have r0Y : RowAt Y w.heap.size [.int .u64 (hiN n : Int), .int .u64 (loN n : Int)] 25 := by rw [hY]; exact r0.alloc _
  have hWi : (W : Int) ≤ 128 := by omega
  have hWi2 : (32 : Int) ≤ (W : Int) := by omega
  go_enter Try.func75, Try.ntmps75
  go_wp2_with fail
  go_at_call 91; refine (cw _).mono ?_; rintro e w2 ⟨rfl, rfl⟩
  rw [← hX]
  clear hX hB0 r0
  go_upto_region 2 with fail
  rw [← hY, ← hg]
  clear hmk hY hg cw
  obtain ⟨q0, q1, qf⟩ := cells2 r0Y
  go_region
  go_wp2_with fail
  clear q0 q1 qf r0Y hmk
  have HN : Hid (n < 2 ^ 128) := hn
  have HP : Hid (BitsIs (bitL W n) w = BitsIs (bitL W n) w) := rfl
  go_loopw [6, 7, 8] (fun lo hi i wr => ∃ (t : Nat) (x : Int), t ≤ W ∧ lo = .int .u64 (loN (n / 2 ^ t) : Int) ∧ hi = .int .u64 (hiN (n / 2 ^ t) : Int) ∧ i = .int .i64 x ∧ Hid (x = (W : Int) - 1 - (t : Int)) ∧ RowAt wr g (celN (rowT W n t)) 3 ∧ Below w.heap.size w wr) (fun _ _ i _ => (intOf i + 1).toNat)
  case atStart => exact ⟨0, (W : Int) - 1, by omega, by simp, by simp, rfl, (by show _ = _; omega), r1.drew, below_drew hBY⟩
  case round =>
    obtain ⟨t, x, ht, rfl, rfl, rfl, HX, hr, hb⟩ := hrel
    clear r1 hBY
    by_cases hlt : t < W
    · obtain ⟨i, hi⟩ : ∃ i : Nat, i = W - 1 - t := ⟨_, rfl⟩
      obtain rfl : x = (i : Int) := by have := HX.out; omega
      have hxi : (i : Int) < (W : Int) := by omega
      have d0 : decide ((0 : Int) ≤ (i : Int)) = true := decide_eq_true (by omega)
      have hcell : wr.cell? ⟨g, i, none⟩ = some (.int .i64 ((rowT W n t)[i]'(by rw [rowT_len]; omega) : Int)) := by rw [hr.cell, celN_get]
      have hfz : wr.frozen? ⟨g, i, none⟩ = false := hr.frozen i
      have hm := half_num (n / 2 ^ t) (Nat.lt_of_le_of_lt (Nat.div_le_self _ _) HN.out)
      rw [Nat.div_div_eq_div_mul, ← Nat.pow_succ] at hm
      have hlo := loN_lt (n / 2 ^ t)
      have hhi := hiN_lt (Nat.lt_of_le_of_lt (Nat.div_le_self n (2 ^ t)) HN.out)
      have hbit : loN (n / 2 ^ t) % 2 = (n.testBit t).toNat := by rw [Nat.toNat_testBit]; unfold loN; omega
      have hset := rowT_set W n t hlt
      rw [← hi, ← hbit] at hset
      have HS : Hid (∀ W' : World, RowAt W' g (celN (rowT W n t)) 3 → RowAt (W'.setCell ⟨g, i, none⟩ (.int .i64 ((loN (n / 2 ^ t) % 2 : Nat) : Int))) g (celN (rowT W n (t + 1))) 3) := fun W' h => by
        have := h.set1 i (.int .i64 ((loN (n / 2 ^ t) % 2 : Nat) : Int))
        rw [celN_set, hset] at this
        exact this
      have HH1 : Hid (loN (n / 2 ^ t) / 2 + hiN (n / 2 ^ t) % 2 * 9223372036854775808 = loN (n / 2 ^ (t + 1))) := hm.1
      have HH2 : Hid (hiN (n / 2 ^ t) / 2 = hiN (n / 2 ^ (t + 1))) := hm.2
      generalize (rowT W n t)[i]'(by rw [rowT_len]; omega) = old at hcell
      clear hm hset hbit
      generalize loN (n / 2 ^ t) = lo at *
      generalize hiN (n / 2 ^ t) = hh at *
      have hloi : (lo : Int) ≤ 18446744073709551615 := by omega
      have hhii : (hh : Int) ≤ 18446744073709551615 := by omega
      have HR : Hid (RowAt wr g (celN (rowT W n t)) 3) := hr
      have HI : Hid (i = W - 1 - t) := hi
      clear hlo hhi hr hi
      go_wp2_with fail
      go_roundw
      case rel =>
        refine ⟨t + 1, (i : Int) - 1, by omega, ?_, ?_, rfl, (by show _ = _; have := HI.out; omega), ?_, ?_⟩
        · rw [← HH1.out]; go_num
        · rw [← HH2.out]; go_num
        · exact HS.out _ HR.out
        · exact bset hb (by omega)
      case measure => simp [intOf]
    · obtain rfl : t = W := by omega
      obtain rfl : x = -1 := by have := HX.out; omega
      rw [rowT_all] at hr
      have HR : Hid (RowAt wr g (celN (bitL t n)) 3) := hr
      clear hr
      go_wp2_with fail
      go_ret
      exact ⟨g, by rw [bitL_len]; rfl, hwg, HR.out, hb⟩
theorem of_step (m b : Nat) (hm : m < 2 ^ 128) (hb : b ≤ 1) : IntKind.u64.wrap (IntKind.u64.wrap (2 * (hiN m : Int)) + (loN m : Int) / 9223372036854775808) = (hiN ((2 * m + b) % 2 ^ 128) : Int) ∧ IntKind.u64.wrap (IntKind.u64.wrap (2 * (loN m : Int)) + (b : Int)) = (loN ((2 * m + b) % 2 ^ 128) : Int) := by
  rw [IntKind.wrap_u64, IntKind.wrap_u64, IntKind.wrap_u64, IntKind.wrap_u64]
  unfold hiN loN
  constructor <;> omega
set_option maxHeartbeats 2000000 in
set_option maxRecDepth 20000 in
theorem rof_any (l : List Nat) (g off cap : Nat) (w : World) (hl : l.length ≤ 1000000) (h1 : ∀ b ∈ l, b ≤ 1) (hc : ∀ j (hj : j < l.length), w.cell? ⟨g, off + j, none⟩ = some (.int .i64 (l[j] : Int))) (hgw : l ≠ [] → g < w.heap.size) : Calls Try.prog 76 #[.slice (some ⟨g, off, none⟩) l.length cap] w fun e w' => e = .returned (adV (ofL l)) ∧ Below w.heap.size w w' := by
  obtain ⟨X, hX⟩ : ∃ X, X = (w.alloc (.cells #[.int .u64 0, .int .u64 0] 25)).alloc (.cells #[.int .u64 0, .int .u64 0] 25) := ⟨_, rfl⟩
  have hB0 : Below w.heap.size w X := by rw [hX]; exact below_new (below_new (Below.refl _ _) _) _
  have r0 : RowAt X w.heap.size [.int .u64 0, .int .u64 0] 25 := by rw [hX]; exact (RowAt.new _ _ _).alloc _
  have r1 : RowAt X (w.heap.size + 1) [.int .u64 0, .int .u64 0] 25 := by rw [hX, ← World.size_alloc w (.cells #[.int .u64 0, .int .u64 0] 25)]; exact RowAt.new _ _ _
  obtain ⟨N, hN⟩ : ∃ N, N = l.length := ⟨_, rfl⟩
  have HN : Hid (N = l.length) := hN
  have HC : Hid (∀ j (hj : j < l.length), w.cell? ⟨g, off + j, none⟩ = some (.int .i64 (l[j] : Int))) := hc
  have H1 : Hid (∀ b ∈ l, b ≤ 1) := h1
  have HG : Hid (l ≠ [] → g < w.heap.size) := hgw
  have hNi : (N : Int) ≤ 1000000 := by omega
  rw [← hN]
  have HV : Hid (adV (ofL l) = .agg #[.int .u64 (hiN (ofL l) : Int), .int .u64 (loN (ofL l) : Int)]) := rfl
  generalize adV (ofL l) = V at HV ⊢
  clear hN hc h1 hl hgw
  go_enter Try.func76, Try.ntmps76
  go_upto_region 2 with fail
  rw [← hX]
  clear hX
  go_wp2_with fail
  go_loopw [9] (fun i wr => ∃ k : Nat, k ≤ N ∧ i = .int .i64 (k : Int) ∧ RowAt wr (w.heap.size + 1) [.int .u64 (hiN (ofL (l.take k)) : Int), .int .u64 (loN (ofL (l.take k)) : Int)] 25 ∧ RowAt wr w.heap.size [.int .u64 0, .int .u64 0] 25 ∧ Below w.heap.size w wr) (fun i _ => N - (intOf i).toNat)
  case atStart => exact ⟨0, by omega, rfl, by simpa [ofL, hiN, loN] using r1, r0, hB0⟩
  case round =>
    obtain ⟨k, hk, rfl, ra, rb, hb⟩ := hrel
    clear r0 r1 hB0
    by_cases hlt : k < N
    · have hkl : k < l.length := by rw [← HN.out]; exact hlt
      have hgw := HG.out (fun e => by rw [e] at hkl; simp at hkl)
      have hcell := (hb.cell (p := ⟨g, off + k, none⟩) hgw).trans (HC.out k hkl)
      have hb1 := H1.out _ (List.getElem_mem hkl)
      have hst := of_step (ofL (l.take k)) l[k] (ofL_lt _) hb1
      rw [← ofL_take l k hkl] at hst
      have hki : (k : Int) < (N : Int) := by omega
      generalize l[k] = b at *
      have hlo := loN_lt (ofL (l.take k))
      have hhi := hiN_lt (ofL_lt (l.take k))
      obtain ⟨q0, q1, qf⟩ := cells2 ra
      have HA : Hid (RowAt wr (w.heap.size + 1) [.int .u64 (hiN (ofL (l.take k)) : Int), .int .u64 (loN (ofL (l.take k)) : Int)] 25) := ra
      have HRb : Hid (RowAt wr w.heap.size [.int .u64 0, .int .u64 0] 25) := rb
      have HE1 : Hid (IntKind.u64.wrap (IntKind.u64.wrap (2 * (hiN (ofL (l.take k)) : Int)) + (loN (ofL (l.take k)) : Int) / 9223372036854775808) = (hiN (ofL (l.take (k + 1))) : Int)) := hst.1
      have HE2 : Hid (IntKind.u64.wrap (IntKind.u64.wrap (2 * (loN (ofL (l.take k)) : Int)) + (b : Int)) = (loN (ofL (l.take (k + 1))) : Int)) := hst.2
      clear hst ra rb
      generalize hiN (ofL (l.take k)) = hh at *
      generalize loN (ofL (l.take k)) = lo at *
      have hloi : (lo : Int) ≤ 18446744073709551615 := by omega
      have hhii : (hh : Int) ≤ 18446744073709551615 := by omega
      have hbi : (b : Int) ≤ 1 := by omega
      clear hlo hhi
      go_wp2_with fail
      go_roundw
      case rel =>
        refine ⟨k + 1, by omega, by go_num, ?_, (HRb.out.far1 (by omega) _ _).far1 (by omega) _ _, bset (bset hb (by omega)) (by omega)⟩
        have h := (HA.out.set1 0 (.int .u64 (IntKind.u64.wrap (IntKind.u64.wrap (2 * (hh : Int)) + (lo : Int) / 9223372036854775808)))).set1 1 (.int .u64 (IntKind.u64.wrap (IntKind.u64.wrap (2 * (lo : Int)) + (b : Int))))
        rw [← HE1.out, ← HE2.out]
        exact h
      case measure => simp [intOf]; omega
    · obtain rfl : k = N := by omega
      rw [show l.take k = l by rw [HN.out, List.take_length]] at ra
      obtain ⟨q0, q1, qf⟩ := cells2 ra
      obtain ⟨p0, p1, pf⟩ := cells2 rb
      generalize hiN (ofL l) = hh at *
      generalize loN (ofL l) = lo at *
      clear ra rb
      go_wp2_with fail
      (try simp only [Exit.inBlock, Exit.then])
      refine bodyPost_ret (v := .agg #[.int .u64 (hh : Int), .int .u64 (lo : Int)]) ?_ rfl ⟨by rw [HV.out], ?_⟩
      · rw [results_cell rfl]
        go_simp
      · repeat' (first | with_reducible exact hb | with_reducible apply below_new | with_reducible refine bset ?_ (by omega))
end Go.Proofs.Ytiemlaehhmlhmaa.Addr
namespace Go.Proofs.Ytiemlaehhmlhmaa.Addr
open Go.RowKit

theorem rof_row (W m g : Nat) (w : World) (hW : W ≤ 128) (hr : RowAt w g (celN (bitL W m)) 3) : Calls Try.prog 76 #[.slice (some ⟨g, 0, none⟩) W W] w fun e w' => e = .returned (adV (m % 2 ^ W)) ∧ Below w.heap.size w w' := by
  have h := rof_any (bitL W m) g 0 W w (by rw [bitL_len]; omega) (bitL_le W m) (fun j hj => by rw [Nat.zero_add, hr.cell, celN_get]) (fun _ => hr.lt)
  rw [bitL_len, ofL_bits W m hW] at h
  exact h
theorem right_four (n : Nat) : rightB false n = (decide (hiN n = 0) && decide (loN n < 4294967296)) := by
  unfold rightB hiN loN
  rw [← Bool.decide_and]
  exact decide_eq_decide.2 (by show n < 2 ^ 32 ↔ _; omega)
theorem right_six (n : Nat) (h : n < 2 ^ 128) : rightB true n = true := decide_eq_true h
set_option maxHeartbeats 1000000 in
theorem rright_any (six : Bool) (n : Nat) (w : World) (hn : n < 2 ^ 128) : Calls Try.prog 53 #[.bool six, adV n] w fun e w' => e = .returned (.bool (rightB six n)) ∧ Below w.heap.size w w' := by
  obtain ⟨X, hX⟩ : ∃ X, X = w.alloc (.cells #[.int .u64 (hiN n : Int), .int .u64 (loN n : Int)] 25) := ⟨_, rfl⟩
  have hB0 : Below w.heap.size w X := by rw [hX]; exact below_new (Below.refl _ _) _
  have r0 : RowAt X w.heap.size [.int .u64 (hiN n : Int), .int .u64 (loN n : Int)] 25 := by rw [hX]; exact RowAt.new _ _ _
  cases six
  · rw [right_four]
    unfold adV
    have hlt := loN_lt n
    generalize hiN n = h at *
    generalize loN n = l at *
    have hli : (l : Int) ≤ 18446744073709551615 := by omega
    obtain ⟨q0, q1, qf⟩ := cells2 r0
    clear hn r0 hlt
    by_cases h0 : h = 0
    · have h0' : ((h : Int) == 0) = true := by simpa using h0
      have HV : Hid ((decide (h = 0) && decide (l < 4294967296)) = decide ((l : Int) < 4294967296)) := by
        show _ = _
        rw [decide_eq_true h0, Bool.true_and]
        exact decide_eq_decide.2 (by omega)
      generalize (decide (h = 0) && decide (l < 4294967296)) = R at HV ⊢
      clear h0
      go_enter Try.func53, Try.ntmps53
      go_upto_region 1 with fail
      rw [← hX]
      clear hX
      go_wp2_with fail
      go_ret
      exact ⟨by rw [HV.out]; rfl, hB0⟩
    · have HV : Hid ((decide (h = 0) && decide (l < 4294967296)) = false) := by show _ = _; rw [decide_eq_false h0]; rfl
      generalize (decide (h = 0) && decide (l < 4294967296)) = R at HV ⊢
      have h0' : ((h : Int) == 0) = false := by simpa using h0
      go_enter Try.func53, Try.ntmps53
      go_upto_region 1 with fail
      rw [← hX]
      clear hX
      go_wp2_with fail
      go_ret
      exact ⟨by rw [HV.out]; rfl, hB0⟩
  · rw [right_six n hn]
    unfold adV
    clear hn r0
    go_enter Try.func53, Try.ntmps53
    go_upto_region 1 with fail
    rw [← hX]
    clear hX
    go_wp2_with fail
    go_ret
    exact ⟨rfl, hB0⟩
set_option maxHeartbeats 2000000 in
theorem rcmp_any (n m : Nat) (w : World) (hn : n < 2 ^ 128) (hm : m < 2 ^ 128) : Calls Try.prog 44 #[adV n, adV m] w fun e w' => e = .returned (.int .i64 (cmpN n m)) ∧ Below w.heap.size w w' := by
  have heq := fun w => ad_eql n m w
  have hgd := ad_guard
  obtain ⟨X, hX⟩ : ∃ X, X = (w.alloc (.cells #[.int .u64 (hiN n : Int), .int .u64 (loN n : Int)] 25)).alloc (.cells #[.int .u64 (hiN m : Int), .int .u64 (loN m : Int)] 25) := ⟨_, rfl⟩
  have hB0 : Below w.heap.size w X := by rw [hX]; exact below_new (below_new (Below.refl _ _) _) _
  have r0 : RowAt X w.heap.size [.int .u64 (hiN n : Int), .int .u64 (loN n : Int)] 25 := by rw [hX]; exact (RowAt.new _ _ _).alloc _
  have r1 : RowAt X (w.heap.size + 1) [.int .u64 (hiN m : Int), .int .u64 (loN m : Int)] 25 := by rw [hX, ← World.size_alloc w (.cells #[.int .u64 (hiN n : Int), .int .u64 (loN n : Int)] 25)]; exact RowAt.new _ _ _
  have e1 := hilo n
  have e2 := hilo m
  have l1 := loN_lt n
  have l2 := loN_lt m
  have u1 := hiN_lt hn
  have u2 := hiN_lt hm
  unfold adV at *
  generalize hiN n = a at *
  generalize loN n = c at *
  generalize hiN m = b at *
  generalize loN m = d at *
  have ai : (a : Int) ≤ 18446744073709551615 := by omega
  have bi : (b : Int) ≤ 18446744073709551615 := by omega
  have ci : (c : Int) ≤ 18446744073709551615 := by omega
  have di : (d : Int) ≤ 18446744073709551615 := by omega
  obtain ⟨q0, q1, qf⟩ := cells2 r0
  obtain ⟨p0, p1, pf⟩ := cells2 r1
  have HL : Hid (n < m ↔ a < b ∨ (a = b ∧ c < d)) := by show _ ↔ _; omega
  have HE : Hid (n = m ↔ (a = b ∧ c = d)) := by show _ ↔ _; omega
  have HC : Hid ((n < m → cmpN n m = -1) ∧ (n = m → cmpN n m = 0) ∧ (m < n → cmpN n m = 1)) := ⟨cmp_lt, fun h => by rw [h]; exact cmp_eq _, cmp_gt⟩
  clear hn hm e1 e2 l1 l2 u1 u2 r0 r1
  generalize hR : cmpN n m = R at *
  clear hR
  by_cases h1 : a < b
  · have d1 : decide ((a : Int) < (b : Int)) = true := decide_eq_true (by omega)
    have d1' : decide (a < b) = true := decide_eq_true h1
    have HV : Hid (R = -1) := HC.out.1 (HL.out.2 (.inl h1))
    rw [decide_eq_false (fun e => by have := HE.out.1 e; omega)] at heq
    clear HL HE HC
    (try clear he)
    go_enter Try.func44, Try.ntmps44
    go_upto_region 1 with fail
    rw [← hX]
    clear hX
    go_wp2_with fail
    go_ret
    exact ⟨by rw [HV.out]; rfl, hB0⟩
  have d1 : decide ((a : Int) < (b : Int)) = false := decide_eq_false (by omega)
  have d1' : decide (a < b) = false := decide_eq_false h1
  by_cases h2 : a = b
  · subst h2
    by_cases h3 : c < d
    · have d3 : decide ((c : Int) < (d : Int)) = true := decide_eq_true (by omega)
      have d3' : decide (c < d) = true := decide_eq_true h3
      have HV : Hid (R = -1) := HC.out.1 (HL.out.2 (.inr ⟨rfl, h3⟩))
      rw [decide_eq_false (fun e => by have := HE.out.1 e; omega)] at heq
      clear HL HE HC
      (try clear he)
      go_enter Try.func44, Try.ntmps44
      go_upto_region 1 with fail
      rw [← hX]
      clear hX
      go_wp2_with fail
      go_ret
      exact ⟨by rw [HV.out]; rfl, hB0⟩
    · have d3 : decide ((c : Int) < (d : Int)) = false := decide_eq_false (by omega)
      have d3' : decide (c < d) = false := decide_eq_false h3
      by_cases h4 : c = d
      · have he := HE.out.2 ⟨rfl, h4⟩
        clear h4
        have HV : Hid (R = 0) := HC.out.2.1 (he)
        rw [decide_eq_true he] at heq
        clear HL HE HC
        (try clear he)
        go_enter Try.func44, Try.ntmps44
        go_upto_region 1 with fail
        rw [← hX]
        clear hX
        go_wp2_with fail
        go_ret
        exact ⟨by rw [HV.out]; rfl, hB0⟩
      · have he : ¬ n = m := fun e => h4 (HE.out.1 e).2
        have hgt : m < n := by have := HL.out; omega
        have HV : Hid (R = 1) := HC.out.2.2 (hgt)
        rw [decide_eq_false he] at heq
        clear HL HE HC
        (try clear he)
        go_enter Try.func44, Try.ntmps44
        go_upto_region 1 with fail
        rw [← hX]
        clear hX
        go_wp2_with fail
        go_ret
        exact ⟨by rw [HV.out]; rfl, hB0⟩
  · have d2 : ((a : Int) == (b : Int)) = false := by rw [beq_eq_false_iff_ne]; omega
    have d2' : (a == b) = false := by rw [beq_eq_false_iff_ne]; exact h2
    have he : ¬ n = m := fun e => h2 (HE.out.1 e).1
    have hgt : m < n := by have := HL.out; omega
    have HV : Hid (R = 1) := HC.out.2.2 (hgt)
    rw [decide_eq_false he] at heq
    clear HL HE HC
    (try clear he)
    go_enter Try.func44, Try.ntmps44
    go_upto_region 1 with fail
    rw [← hX]
    clear hX
    go_wp2_with fail
    go_ret
    exact ⟨by rw [HV.out]; rfl, hB0⟩
def turn1E (six : Bool) (n : Nat) : Nat × Bool := if n = 2 ^ wideN six - 1 then (0, false) else (n + 1, true)
set_option maxHeartbeats 2000000 in
set_option maxRecDepth 20000 in
theorem turn1_any (six : Bool) (n : Nat) (w : World) (hn : n < 2 ^ wideN six) : Calls Try.prog 77 #[.bool six, adV n, .int .i64 1] w fun e w' => e = .returned (.tuple #[adV (turn1E six n).1, .bool (turn1E six n).2]) ∧ Below w.heap.size w w' := by
  have hWl := wideN_le six
  have hWg := wideN_ge six
  have h128 : (2 : Nat) ^ wideN six ≤ 2 ^ 128 := Nat.pow_le_pow_right (by decide) hWl
  have cb := fun w => rbits_any six n w (by omega)
  have HE : Hid (turn1E six n = if n = 2 ^ wideN six - 1 then (0, false) else (n + 1, true)) := rfl
  generalize turn1E six n = R at HE ⊢
  obtain ⟨W, hWd⟩ : ∃ W, W = wideN six := ⟨_, rfl⟩
  rw [← hWd] at cb hWl hWg HE hn h128
  clear hWd
  have HNW : Hid (n < 2 ^ W) := hn
  have HOF : Hid (∀ m g w, RowAt w g (celN (bitL W m)) 3 → Calls Try.prog 76 #[.slice (some ⟨g, 0, none⟩) W W] w fun e w' => e = .returned (adV (m % 2 ^ W)) ∧ Below w.heap.size w w') := fun m g w h => rof_row W m g w hWl h
  unfold BitsIs at cb
  rw [bitL_len] at cb
  obtain ⟨X, hX⟩ : ∃ X, X = (w.alloc (.cells #[.int .u64 (hiN n : Int), .int .u64 (loN n : Int)] 25)).alloc (.cells #[.int .u64 0, .int .u64 0] 25) := ⟨_, rfl⟩
  have hB0 : Below w.heap.size w X := by rw [hX]; exact below_new (below_new (Below.refl _ _) _) _
  have r1 : RowAt X (w.heap.size + 1) [.int .u64 0, .int .u64 0] 25 := by rw [hX, ← World.size_alloc w (.cells #[.int .u64 (hiN n : Int), .int .u64 (loN n : Int)] 25)]; exact RowAt.new _ _ _
  have hWi : (W : Int) ≤ 128 := by omega
  have hWi2 : (32 : Int) ≤ (W : Int) := by omega
  unfold adV at cb ⊢
  clear hn h128 hWg hWl
  go_enter Try.func77, Try.ntmps77
  go_wp2_with fail
  go_at_call 75; refine (cb _).mono ?_; rintro e w2 ⟨g, rfl, hgX, hrow, hb2⟩
  rw [← hX] at hb2 hgX
  have hlt0 := r1.lt
  have hgw : w.heap.size + 2 ≤ g := by
    have : X.heap.size = w.heap.size + 2 := by rw [hX]; simp
    omega
  have hB2 := below2 hB0 hb2
  have r1 := r1.below hb2
  clear hX cb hB0 hb2 hgX
  go_wp2_with fail
  go_loopw [9, 10] (fun i was wr => ∃ (t m : Nat) (x : Int), t ≤ W ∧ i = .int .i64 x ∧ Hid (x = (W : Int) - 1 - (t : Int)) ∧ Hid (∀ j, j < t → n.testBit j = true) ∧ Hid (∀ j, j < W → m.testBit j = if j < t then false else n.testBit j) ∧ RowAt wr g (celN (bitL W m)) 3 ∧ RowAt wr (w.heap.size + 1) [.int .u64 0, .int .u64 0] 25 ∧ Below w.heap.size w wr) (fun i _ _ => (intOf i + 1).toNat)
  case atStart => exact ⟨0, n, (W : Int) - 1, by omega, rfl, (by show _ = _; omega), (fun j hj => by omega), (fun j hj => by rw [if_neg (by omega)]), hrow, r1, hB2⟩
  case round =>
    obtain ⟨t, m, x, ht, rfl, HX, HT, HM, hr, ra, hb⟩ := hrel
    clear hrow r1 hB2
    by_cases hlt : t < W
    · obtain ⟨i, hi⟩ : ∃ i : Nat, i = W - 1 - t := ⟨_, rfl⟩
      obtain rfl : x = (i : Int) := by have := HX.out; omega
      have hxi : (i : Int) < (W : Int) := by omega
      have d0 : decide ((0 : Int) ≤ (i : Int)) = true := decide_eq_true (by omega)
      have hmt : m.testBit t = n.testBit t := by rw [HM.out t hlt, if_neg (by omega)]
      have hcell : wr.cell? ⟨g, i, none⟩ = some (.int .i64 ((n.testBit t).toNat : Int)) := by
        rw [hr.cell, celN_get _ _ (by rw [bitL_len]; omega), bitL_get W m i (by omega), show W - 1 - i = t by omega, hmt]
      have hfz : ∀ k, wr.frozen? ⟨g, k, none⟩ = false := hr.frozen
      cases hbt : n.testBit t with
      | true =>
        rw [hbt] at hcell
        simp only [Bool.toNat_true, Int.natCast_one] at hcell
        obtain ⟨m2, hm2, hm3⟩ := bitL_set W m t false hlt
        have hr2 := hr.set1 i (.int .i64 ((false.toNat : Nat) : Int))
        rw [celN_set, hi, hm2] at hr2
        have HR : Hid (RowAt (wr.setCell ⟨g, i, none⟩ (.int .i64 0)) g (celN (bitL W m2)) 3) := by rw [hi]; exact hr2
        have HA : Hid (RowAt (wr.setCell ⟨g, i, none⟩ (.int .i64 0)) (w.heap.size + 1) [.int .u64 0, .int .u64 0] 25) := ra.far1 (by omega) _ _
        have HT2 : Hid (∀ j, j < t + 1 → n.testBit j = true) := fun j hj => by
          by_cases hjt : j < t
          · exact HT.out j hjt
          · rw [show j = t by omega, hbt]
        have HM2 : Hid (∀ j, j < W → m2.testBit j = if j < t + 1 then false else n.testBit j) := fun j hj => by
          rw [hm3 j]
          by_cases hjt : j = t
          · rw [if_pos hjt, if_pos (by omega)]
          · rw [if_neg hjt, HM.out j hj]
            by_cases hj2 : j < t
            · rw [if_pos hj2, if_pos (by omega)]
            · rw [if_neg hj2, if_neg (by omega)]
        have HI : Hid (i = W - 1 - t) := hi
        clear hr hr2 hm2 hm3 ra hi hmt hbt HX HT HM
        go_wp2_with fail
        go_roundw
        case rel => exact ⟨t + 1, m2, (i : Int) - 1, by omega, rfl, (by show _ = _; have := HI.out; omega), HT2, HM2, HR.out, HA.out, bset hb (by omega)⟩
        case measure => simp [intOf]
      | false =>
        rw [hbt] at hcell
        simp only [Bool.toNat_false, Int.natCast_zero] at hcell
        obtain ⟨m2, hm2, hm3⟩ := bitL_set W m t true hlt
        have hr2 := hr.set1 i (.int .i64 ((true.toNat : Nat) : Int))
        rw [celN_set, hi, hm2] at hr2
        have hR : RowAt (wr.setCell ⟨g, i, none⟩ (.int .i64 1)) g (celN (bitL W m2)) 3 := by rw [hi]; exact hr2
        have HA : Hid (RowAt (wr.setCell ⟨g, i, none⟩ (.int .i64 1)) (w.heap.size + 1) [.int .u64 0, .int .u64 0] 25) := ra.far1 (by omega) _ _
        have hm3 : ∀ j, j < W → m2.testBit j = if j < t then false else if j = t then true else n.testBit j := fun j hj => by
          rw [hm3 j]
          by_cases hjt : j = t
          · rw [if_pos hjt, if_neg (by omega), if_pos hjt]
          · rw [if_neg hjt, HM.out j hj]
            by_cases hj2 : j < t
            · rw [if_pos hj2, if_pos hj2]
            · rw [if_neg hj2, if_neg hj2, if_neg hjt]
        have hnb := next_bits hlt HNW.out HT.out hbt hm3
        have HV : Hid (R = (m2 % 2 ^ W, true)) := by show _ = _; rw [HE.out, if_neg hnb.2, hnb.1]
        have cof := HOF.out m2 g _ hR
        have hbn : Below w.heap.size w (wr.setCell ⟨g, i, none⟩ (.int .i64 1)) := bset hb (by omega)
        unfold adV at cof
        have HF1 : Hid (hiN R.1 = hiN (m2 % 2 ^ W)) := by show _ = _; rw [HV.out]
        have HF2 : Hid (loN R.1 = loN (m2 % 2 ^ W)) := by show _ = _; rw [HV.out]
        have HF3 : Hid (R.2 = true) := by show _ = _; rw [HV.out]
        clear HV
        generalize hF : m2 % 2 ^ W = F at *
        generalize hiN F = Fh at *
        generalize loN F = Fl at *
        clear hr hr2 hm2 hm3 ra hi hmt hbt HX HT HM hnb hR hF
        obtain ⟨V, hV⟩ : ∃ V, V = wr.setCell ⟨g, i, none⟩ (.int .i64 1) := ⟨_, rfl⟩
        rw [← hV] at cof hbn HA
        go_wp2_with fail
        rw [← hV]
        clear hV
        go_at_call 76; refine cof.mono ?_; rintro e w4 ⟨rfl, hb4⟩
        have hW4 := below2 hbn hb4
        obtain ⟨q0, q1, qf⟩ := cells2 (HA.out.below hb4)
        clear cof HA hb4 hcell
        go_wp2_with fail
        (try simp only [Exit.inBlock, Exit.then])
        refine bodyPost_ret (v := .tuple #[.agg #[.int .u64 (Fh : Int), .int .u64 (Fl : Int)], .bool true]) ?_ rfl ⟨?_, ?_⟩
        · rw [results_cell_tmp rfl]
          go_simp
        · rw [HF1.out, HF2.out, HF3.out]
        · repeat' (first | with_reducible exact hW4 | with_reducible apply below_new | with_reducible refine bset ?_ (by omega))
    · obtain rfl : t = W := by omega
      obtain rfl : x = -1 := by have := HX.out; omega
      have HV : Hid (R = (0, false)) := by show _ = _; rw [HE.out, if_pos (ones_bits HNW.out HT.out)]
      obtain ⟨q0, q1, qf⟩ := cells2 ra
      clear hr ra HX HT HM
      go_wp2_with fail
      (try simp only [Exit.inBlock, Exit.then])
      refine bodyPost_ret (v := .tuple #[.agg #[.int .u64 0, .int .u64 0], .bool false]) ?_ rfl ⟨by rw [HV.out]; rfl, ?_⟩
      · rw [results_cell_tmp rfl]
        go_simp
      · repeat' (first | with_reducible exact hb | with_reducible apply below_new | with_reducible refine bset ?_ (by omega))
def turn0E (six : Bool) (n : Nat) : Nat × Bool := if n = 0 then (0, false) else (n - 1, true)
set_option maxHeartbeats 2000000 in
set_option maxRecDepth 20000 in
theorem turn0_any (six : Bool) (n : Nat) (w : World) (hn : n < 2 ^ wideN six) : Calls Try.prog 77 #[.bool six, adV n, .int .i64 0] w fun e w' => e = .returned (.tuple #[adV (turn0E six n).1, .bool (turn0E six n).2]) ∧ Below w.heap.size w w' := by
  have hWl := wideN_le six
  have hWg := wideN_ge six
  have h128 : (2 : Nat) ^ wideN six ≤ 2 ^ 128 := Nat.pow_le_pow_right (by decide) hWl
  have cb := fun w => rbits_any six n w (by omega)
  have HE : Hid (turn0E six n = if n = 0 then (0, false) else (n - 1, true)) := rfl
  generalize turn0E six n = R at HE ⊢
  obtain ⟨W, hWd⟩ : ∃ W, W = wideN six := ⟨_, rfl⟩
  rw [← hWd] at cb hWl hWg hn h128
  clear hWd
  have HNW : Hid (n < 2 ^ W) := hn
  have HOF : Hid (∀ m g w, RowAt w g (celN (bitL W m)) 3 → Calls Try.prog 76 #[.slice (some ⟨g, 0, none⟩) W W] w fun e w' => e = .returned (adV (m % 2 ^ W)) ∧ Below w.heap.size w w') := fun m g w h => rof_row W m g w hWl h
  unfold BitsIs at cb
  rw [bitL_len] at cb
  obtain ⟨X, hX⟩ : ∃ X, X = (w.alloc (.cells #[.int .u64 (hiN n : Int), .int .u64 (loN n : Int)] 25)).alloc (.cells #[.int .u64 0, .int .u64 0] 25) := ⟨_, rfl⟩
  have hB0 : Below w.heap.size w X := by rw [hX]; exact below_new (below_new (Below.refl _ _) _) _
  have r1 : RowAt X (w.heap.size + 1) [.int .u64 0, .int .u64 0] 25 := by rw [hX, ← World.size_alloc w (.cells #[.int .u64 (hiN n : Int), .int .u64 (loN n : Int)] 25)]; exact RowAt.new _ _ _
  have hWi : (W : Int) ≤ 128 := by omega
  have hWi2 : (32 : Int) ≤ (W : Int) := by omega
  unfold adV at cb ⊢
  clear hn h128 hWg hWl
  go_enter Try.func77, Try.ntmps77
  go_wp2_with fail
  go_at_call 75; refine (cb _).mono ?_; rintro e w2 ⟨g, rfl, hgX, hrow, hb2⟩
  rw [← hX] at hb2 hgX
  have hlt0 := r1.lt
  have hgw : w.heap.size + 2 ≤ g := by
    have : X.heap.size = w.heap.size + 2 := by rw [hX]; simp
    omega
  have hB2 := below2 hB0 hb2
  have r1 := r1.below hb2
  clear hX cb hB0 hb2 hgX
  go_wp2_with fail
  go_loopw [9, 10] (fun i was wr => ∃ (t m : Nat) (x : Int), t ≤ W ∧ i = .int .i64 x ∧ Hid (x = (W : Int) - 1 - (t : Int)) ∧ Hid (∀ j, j < t → n.testBit j = false) ∧ Hid (∀ j, j < W → m.testBit j = if j < t then true else n.testBit j) ∧ RowAt wr g (celN (bitL W m)) 3 ∧ RowAt wr (w.heap.size + 1) [.int .u64 0, .int .u64 0] 25 ∧ Below w.heap.size w wr) (fun i _ _ => (intOf i + 1).toNat)
  case atStart => exact ⟨0, n, (W : Int) - 1, by omega, rfl, (by show _ = _; omega), (fun j hj => by omega), (fun j hj => by rw [if_neg (by omega)]), hrow, r1, hB2⟩
  case round =>
    obtain ⟨t, m, x, ht, rfl, HX, HT, HM, hr, ra, hb⟩ := hrel
    clear hrow r1 hB2
    by_cases hlt : t < W
    · obtain ⟨i, hi⟩ : ∃ i : Nat, i = W - 1 - t := ⟨_, rfl⟩
      obtain rfl : x = (i : Int) := by have := HX.out; omega
      have hxi : (i : Int) < (W : Int) := by omega
      have d0 : decide ((0 : Int) ≤ (i : Int)) = true := decide_eq_true (by omega)
      have hmt : m.testBit t = n.testBit t := by rw [HM.out t hlt, if_neg (by omega)]
      have hcell : wr.cell? ⟨g, i, none⟩ = some (.int .i64 ((n.testBit t).toNat : Int)) := by
        rw [hr.cell, celN_get _ _ (by rw [bitL_len]; omega), bitL_get W m i (by omega), show W - 1 - i = t by omega, hmt]
      have hfz : ∀ k, wr.frozen? ⟨g, k, none⟩ = false := hr.frozen
      cases hbt : n.testBit t with
      | false =>
        rw [hbt] at hcell
        simp only [Bool.toNat_false, Int.natCast_zero] at hcell
        obtain ⟨m2, hm2, hm3⟩ := bitL_set W m t true hlt
        have hr2 := hr.set1 i (.int .i64 ((true.toNat : Nat) : Int))
        rw [celN_set, hi, hm2] at hr2
        have HR : Hid (RowAt (wr.setCell ⟨g, i, none⟩ (.int .i64 1)) g (celN (bitL W m2)) 3) := by rw [hi]; exact hr2
        have HA : Hid (RowAt (wr.setCell ⟨g, i, none⟩ (.int .i64 1)) (w.heap.size + 1) [.int .u64 0, .int .u64 0] 25) := ra.far1 (by omega) _ _
        have HT2 : Hid (∀ j, j < t + 1 → n.testBit j = false) := fun j hj => by
          by_cases hjt : j < t
          · exact HT.out j hjt
          · rw [show j = t by omega, hbt]
        have HM2 : Hid (∀ j, j < W → m2.testBit j = if j < t + 1 then true else n.testBit j) := fun j hj => by
          rw [hm3 j]
          by_cases hjt : j = t
          · rw [if_pos hjt, if_pos (by omega)]
          · rw [if_neg hjt, HM.out j hj]
            by_cases hj2 : j < t
            · rw [if_pos hj2, if_pos (by omega)]
            · rw [if_neg hj2, if_neg (by omega)]
        have HI : Hid (i = W - 1 - t) := hi
        clear hr hr2 hm2 hm3 ra hi hmt hbt HX HT HM
        go_wp2_with fail
        go_roundw
        case rel => exact ⟨t + 1, m2, (i : Int) - 1, by omega, rfl, (by show _ = _; have := HI.out; omega), HT2, HM2, HR.out, HA.out, bset hb (by omega)⟩
        case measure => simp [intOf]
      | true =>
        rw [hbt] at hcell
        simp only [Bool.toNat_true, Int.natCast_one] at hcell
        obtain ⟨m2, hm2, hm3⟩ := bitL_set W m t false hlt
        have hr2 := hr.set1 i (.int .i64 ((false.toNat : Nat) : Int))
        rw [celN_set, hi, hm2] at hr2
        have hR : RowAt (wr.setCell ⟨g, i, none⟩ (.int .i64 0)) g (celN (bitL W m2)) 3 := by rw [hi]; exact hr2
        have HA : Hid (RowAt (wr.setCell ⟨g, i, none⟩ (.int .i64 0)) (w.heap.size + 1) [.int .u64 0, .int .u64 0] 25) := ra.far1 (by omega) _ _
        have hm3 : ∀ j, j < W → m2.testBit j = if j < t then true else if j = t then false else n.testBit j := fun j hj => by
          rw [hm3 j]
          by_cases hjt : j = t
          · rw [if_pos hjt, if_neg (by omega), if_pos hjt]
          · rw [if_neg hjt, HM.out j hj]
            by_cases hj2 : j < t
            · rw [if_pos hj2, if_pos hj2]
            · rw [if_neg hj2, if_neg hj2, if_neg hjt]
        have hnb := prev_bits hlt HNW.out HT.out hbt hm3
        have HV : Hid (R = (m2 % 2 ^ W, true)) := by show _ = _; rw [HE.out, if_neg (by omega), show n - 1 = m2 % 2 ^ W by omega]
        have cof := HOF.out m2 g _ hR
        have hbn : Below w.heap.size w (wr.setCell ⟨g, i, none⟩ (.int .i64 0)) := bset hb (by omega)
        unfold adV at cof
        have HF1 : Hid (hiN R.1 = hiN (m2 % 2 ^ W)) := by show _ = _; rw [HV.out]
        have HF2 : Hid (loN R.1 = loN (m2 % 2 ^ W)) := by show _ = _; rw [HV.out]
        have HF3 : Hid (R.2 = true) := by show _ = _; rw [HV.out]
        clear HV
        generalize hF : m2 % 2 ^ W = F at *
        generalize hiN F = Fh at *
        generalize loN F = Fl at *
        clear hr hr2 hm2 hm3 ra hi hmt hbt HX HT HM hnb hR hF
        obtain ⟨V, hV⟩ : ∃ V, V = wr.setCell ⟨g, i, none⟩ (.int .i64 0) := ⟨_, rfl⟩
        rw [← hV] at cof hbn HA
        go_wp2_with fail
        rw [← hV]
        clear hV
        go_at_call 76; refine cof.mono ?_; rintro e w4 ⟨rfl, hb4⟩
        have hW4 := below2 hbn hb4
        obtain ⟨q0, q1, qf⟩ := cells2 (HA.out.below hb4)
        clear cof HA hb4 hcell
        go_wp2_with fail
        (try simp only [Exit.inBlock, Exit.then])
        refine bodyPost_ret (v := .tuple #[.agg #[.int .u64 (Fh : Int), .int .u64 (Fl : Int)], .bool true]) ?_ rfl ⟨?_, ?_⟩
        · rw [results_cell_tmp rfl]
          go_simp
        · rw [HF1.out, HF2.out, HF3.out]
        · repeat' (first | with_reducible exact hW4 | with_reducible apply below_new | with_reducible refine bset ?_ (by omega))
    · obtain rfl : t = W := by omega
      obtain rfl : x = -1 := by have := HX.out; omega
      have HV : Hid (R = (0, false)) := by show _ = _; rw [HE.out, if_pos (zero_bits HNW.out HT.out)]
      obtain ⟨q0, q1, qf⟩ := cells2 ra
      clear hr ra HX HT HM
      go_wp2_with fail
      (try simp only [Exit.inBlock, Exit.then])
      refine bodyPost_ret (v := .tuple #[.agg #[.int .u64 0, .int .u64 0], .bool false]) ?_ rfl ⟨by rw [HV.out]; rfl, ?_⟩
      · rw [results_cell_tmp rfl]
        go_simp
      · repeat' (first | with_reducible exact hb | with_reducible apply below_new | with_reducible refine bset ?_ (by omega))
set_option maxHeartbeats 2000000 in
theorem rnext_any (six : Bool) (n : Nat) (w : World) (hn : n < 2 ^ 128) : Calls Try.prog 43 #[.bool six, adV n] w fun e w' => e = .returned (.tuple #[adV (nextE six n).1, .int .i64 (nextE six n).2]) ∧ Below w.heap.size w w' := by
  have cr := fun w => rright_any six n w hn
  have hz : adV 0 = .agg #[.int .u64 0, .int .u64 0] := rfl
  obtain ⟨X, hX⟩ : ∃ X, X = (w.alloc (.cells #[.int .u64 (hiN n : Int), .int .u64 (loN n : Int)] 25)).alloc (.cells #[.int .u64 0, .int .u64 0] 25) := ⟨_, rfl⟩
  have hB0 : Below w.heap.size w X := by rw [hX]; exact below_new (below_new (Below.refl _ _) _) _
  have r0 : RowAt X w.heap.size [.int .u64 (hiN n : Int), .int .u64 (loN n : Int)] 25 := by rw [hX]; exact (RowAt.new _ _ _).alloc _
  have r1 : RowAt X (w.heap.size + 1) [.int .u64 0, .int .u64 0] 25 := by rw [hX, ← World.size_alloc w (.cells #[.int .u64 (hiN n : Int), .int .u64 (loN n : Int)] 25)]; exact RowAt.new _ _ _
  cases hr : rightB six n
  · rw [hr] at cr
    have e1 : nextE six n = (0, 2) := by unfold nextE; rw [hr]; rfl
    rw [e1]
    simp only [hz]
    unfold adV at *
    generalize hiN n = h at *
    generalize loN n = l at *
    clear hr e1 hn hz
    go_enter Try.func43, Try.ntmps43
    go_wp2_with fail
    go_at_call 53; refine (cr _).mono ?_; rintro e w2 ⟨rfl, hb2⟩
    rw [← hX] at hb2
    have hW := below2 hB0 hb2
    obtain ⟨q0, q1, qf⟩ := cells2 (r1.below hb2)
    clear hX cr r1 hB0 hb2
    go_wp2_with fail
    (try simp only [Exit.inBlock, Exit.then])
    refine bodyPost_ret (v := .tuple #[.agg #[.int .u64 0, .int .u64 0], .int .i64 2]) ?_ rfl ⟨rfl, ?_⟩
    · rw [results_cell_tmp rfl]
      go_simp
    · repeat' (first | with_reducible exact hW | with_reducible apply below_new | with_reducible refine bset ?_ (by omega))
  · rw [hr] at cr
    have ct := fun w => turn1_any six n w (of_decide_eq_true hr)
    by_cases hm : n = 2 ^ wideN six - 1
    · have e1 : nextE six n = (0, 3) := by unfold nextE; rw [hr, if_pos rfl, if_pos hm]
      have e2 : turn1E six n = (0, false) := by unfold turn1E; rw [if_pos hm]
      rw [e1]
      rw [e2] at ct
      simp only [hz] at ct ⊢
      unfold adV at *
      generalize hiN n = h at *
      generalize loN n = l at *
      clear hr e1 e2 hn hz hm
      go_enter Try.func43, Try.ntmps43
      go_wp2_with fail
      go_at_call 53; refine (cr _).mono ?_; rintro e w2 ⟨rfl, hb2⟩
      rw [← hX] at hb2
      have hW := below2 hB0 hb2
      have r0 := r0.below hb2
      have r1 := r1.below hb2
      obtain ⟨q0, q1, qf⟩ := cells2 r0
      clear hX cr hB0 hb2
      go_wp2_with fail
      go_at_call 77; refine (ct _).mono ?_; rintro e w3 ⟨rfl, hb3⟩
      clear q0 q1 qf
      obtain ⟨q0, q1, qf⟩ := cells2 (r1.below hb3)
      have l1 := (r1.below hb3).lt
      have hW := below2 hW hb3
      clear ct r0 r1 hb3
      go_wp2_with fail
      (try simp only [Exit.inBlock, Exit.then])
      refine bodyPost_ret (v := .tuple #[.agg #[.int .u64 0, .int .u64 0], .int .i64 3]) ?_ rfl ⟨rfl, ?_⟩
      · rw [results_cell_tmp rfl]
        go_simp
      · repeat' (first | with_reducible exact hW | with_reducible apply below_new | with_reducible refine bset ?_ (by omega))
    · have e1 : nextE six n = (n + 1, 0) := by unfold nextE; rw [hr, if_pos rfl, if_neg hm]
      have e2 : turn1E six n = (n + 1, true) := by unfold turn1E; rw [if_neg hm]
      rw [e1]
      rw [e2] at ct
      simp only at ct ⊢
      unfold adV at *
      generalize hiN (n + 1) = rh at *
      generalize loN (n + 1) = rl at *
      generalize hiN n = h at *
      generalize loN n = l at *
      clear hr e1 e2 hn hz hm
      go_enter Try.func43, Try.ntmps43
      go_wp2_with fail
      go_at_call 53; refine (cr _).mono ?_; rintro e w2 ⟨rfl, hb2⟩
      rw [← hX] at hb2
      have hW := below2 hB0 hb2
      have r0 := r0.below hb2
      have r1 := r1.below hb2
      obtain ⟨q0, q1, qf⟩ := cells2 r0
      clear hX cr hB0 hb2
      go_wp2_with fail
      go_at_call 77; refine (ct _).mono ?_; rintro e w3 ⟨rfl, hb3⟩
      clear q0 q1 qf
      obtain ⟨q0, q1, qf⟩ := cells2 (r1.below hb3)
      have l1 := (r1.below hb3).lt
      have hW := below2 hW hb3
      clear ct r0 r1 hb3
      go_wp2_with fail
      (try simp only [Exit.inBlock, Exit.then])
      refine bodyPost_ret (v := .tuple #[.agg #[.int .u64 (rh : Int), .int .u64 (rl : Int)], .int .i64 0]) ?_ rfl ⟨rfl, ?_⟩
      · rw [results_cell_tmp rfl]
        go_simp
      · repeat' (first | with_reducible exact hW | with_reducible apply below_new | with_reducible refine bset ?_ (by omega))
set_option maxHeartbeats 2000000 in
theorem rprev_any (six : Bool) (n : Nat) (w : World) (hn : n < 2 ^ 128) : Calls Try.prog 73 #[.bool six, adV n] w fun e w' => e = .returned (.tuple #[adV (prevE six n).1, .int .i64 (prevE six n).2]) ∧ Below w.heap.size w w' := by
  have cr := fun w => rright_any six n w hn
  have hz : adV 0 = .agg #[.int .u64 0, .int .u64 0] := rfl
  obtain ⟨X, hX⟩ : ∃ X, X = (w.alloc (.cells #[.int .u64 (hiN n : Int), .int .u64 (loN n : Int)] 25)).alloc (.cells #[.int .u64 0, .int .u64 0] 25) := ⟨_, rfl⟩
  have hB0 : Below w.heap.size w X := by rw [hX]; exact below_new (below_new (Below.refl _ _) _) _
  have r0 : RowAt X w.heap.size [.int .u64 (hiN n : Int), .int .u64 (loN n : Int)] 25 := by rw [hX]; exact (RowAt.new _ _ _).alloc _
  have r1 : RowAt X (w.heap.size + 1) [.int .u64 0, .int .u64 0] 25 := by rw [hX, ← World.size_alloc w (.cells #[.int .u64 (hiN n : Int), .int .u64 (loN n : Int)] 25)]; exact RowAt.new _ _ _
  cases hr : rightB six n
  · rw [hr] at cr
    have e1 : prevE six n = (0, 2) := by unfold prevE; rw [hr]; rfl
    rw [e1]
    simp only [hz]
    unfold adV at *
    generalize hiN n = h at *
    generalize loN n = l at *
    clear hr e1 hn hz
    go_enter Try.func73, Try.ntmps73
    go_wp2_with fail
    go_at_call 53; refine (cr _).mono ?_; rintro e w2 ⟨rfl, hb2⟩
    rw [← hX] at hb2
    have hW := below2 hB0 hb2
    obtain ⟨q0, q1, qf⟩ := cells2 (r1.below hb2)
    clear hX cr r1 hB0 hb2
    go_wp2_with fail
    (try simp only [Exit.inBlock, Exit.then])
    refine bodyPost_ret (v := .tuple #[.agg #[.int .u64 0, .int .u64 0], .int .i64 2]) ?_ rfl ⟨rfl, ?_⟩
    · rw [results_cell_tmp rfl]
      go_simp
    · repeat' (first | with_reducible exact hW | with_reducible apply below_new | with_reducible refine bset ?_ (by omega))
  · rw [hr] at cr
    have ct := fun w => turn0_any six n w (of_decide_eq_true hr)
    by_cases hm : n = 0
    · have e1 : prevE six n = (0, 3) := by unfold prevE; rw [hr, if_pos rfl, if_pos hm]
      have e2 : turn0E six n = (0, false) := by unfold turn0E; rw [if_pos hm]
      rw [e1]
      rw [e2] at ct
      simp only [hz] at ct ⊢
      unfold adV at *
      generalize hiN n = h at *
      generalize loN n = l at *
      clear hr e1 e2 hn hz hm
      go_enter Try.func73, Try.ntmps73
      go_wp2_with fail
      go_at_call 53; refine (cr _).mono ?_; rintro e w2 ⟨rfl, hb2⟩
      rw [← hX] at hb2
      have hW := below2 hB0 hb2
      have r0 := r0.below hb2
      have r1 := r1.below hb2
      obtain ⟨q0, q1, qf⟩ := cells2 r0
      clear hX cr hB0 hb2
      go_wp2_with fail
      go_at_call 77; refine (ct _).mono ?_; rintro e w3 ⟨rfl, hb3⟩
      clear q0 q1 qf
      obtain ⟨q0, q1, qf⟩ := cells2 (r1.below hb3)
      have l1 := (r1.below hb3).lt
      have hW := below2 hW hb3
      clear ct r0 r1 hb3
      go_wp2_with fail
      (try simp only [Exit.inBlock, Exit.then])
      refine bodyPost_ret (v := .tuple #[.agg #[.int .u64 0, .int .u64 0], .int .i64 3]) ?_ rfl ⟨rfl, ?_⟩
      · rw [results_cell_tmp rfl]
        go_simp
      · repeat' (first | with_reducible exact hW | with_reducible apply below_new | with_reducible refine bset ?_ (by omega))
    · have e1 : prevE six n = (n - 1, 0) := by unfold prevE; rw [hr, if_pos rfl, if_neg hm]
      have e2 : turn0E six n = (n - 1, true) := by unfold turn0E; rw [if_neg hm]
      rw [e1]
      rw [e2] at ct
      simp only at ct ⊢
      unfold adV at *
      generalize hiN (n - 1) = rh at *
      generalize loN (n - 1) = rl at *
      generalize hiN n = h at *
      generalize loN n = l at *
      clear hr e1 e2 hn hz hm
      go_enter Try.func73, Try.ntmps73
      go_wp2_with fail
      go_at_call 53; refine (cr _).mono ?_; rintro e w2 ⟨rfl, hb2⟩
      rw [← hX] at hb2
      have hW := below2 hB0 hb2
      have r0 := r0.below hb2
      have r1 := r1.below hb2
      obtain ⟨q0, q1, qf⟩ := cells2 r0
      clear hX cr hB0 hb2
      go_wp2_with fail
      go_at_call 77; refine (ct _).mono ?_; rintro e w3 ⟨rfl, hb3⟩
      clear q0 q1 qf
      obtain ⟨q0, q1, qf⟩ := cells2 (r1.below hb3)
      have l1 := (r1.below hb3).lt
      have hW := below2 hW hb3
      clear ct r0 r1 hb3
      go_wp2_with fail
      (try simp only [Exit.inBlock, Exit.then])
      refine bodyPost_ret (v := .tuple #[.agg #[.int .u64 (rh : Int), .int .u64 (rl : Int)], .int .i64 0]) ?_ rfl ⟨rfl, ?_⟩
      · rw [results_cell_tmp rfl]
        go_simp
      · repeat' (first | with_reducible exact hW | with_reducible apply below_new | with_reducible refine bset ?_ (by omega))
end Go.Proofs.Ytiemlaehhmlhmaa.Addr
namespace Go.Proofs.Ytiemlaehhmlhmaa.Addr
open Go.RowKit

theorem check_bits {p : Pf} (h1 : 0 ≤ p.len ∧ p.len ≤ (wideN p.six : Int)) (h2 : rightB p.six p.n = true) :
    ((∀ j, j < wideN p.six → p.len ≤ (j : Int) → p.n.testBit (wideN p.six - 1 - j) = false) → checkP p = 0) ∧ (∀ j, j < wideN p.six → p.len ≤ (j : Int) → p.n.testBit (wideN p.six - 1 - j) = true → checkP p = 2) := by
  have hk : kP p = wideN p.six - p.len.toNat := rfl
  constructor
  · intro h
    apply checkP_ok
    rw [okP_first h1 h2]
    apply decide_eq_true
    rw [first_eq, mod_zero_bits]
    intro j hj
    have := h (wideN p.six - 1 - j) (by omega) (by omega)
    rwa [show wideN p.six - 1 - (wideN p.six - 1 - j) = j by omega] at this
  · intro j hj hl hb
    apply checkP_bad
    rw [okP_first h1 h2]
    apply decide_eq_false
    rw [first_eq, mod_zero_bits]
    intro h
    have := h (wideN p.six - 1 - j) (by omega)
    rw [hb] at this
    simp at this
set_option maxHeartbeats 2000000 in
set_option maxRecDepth 20000 in
theorem rcheck_any (p : Pf) (w : World) (hl : -9223372036854775808 ≤ p.len ∧ p.len ≤ 9223372036854775807) (ha : p.n < 2 ^ 128) : Calls Try.prog 74 #[pfV p] w fun e w' => e = .returned (.int .i64 (checkP p)) ∧ Below w.heap.size w w' := by
  have cs := fun w => rwide_any p.six w
  have cr := fun w => rright_any p.six p.n w ha
  have cb := fun w => rbits_any p.six p.n w ha
  have hw : (wideN p.six : Int) ≤ 128 := by have := wideN_le p.six; omega
  have HB1 : Hid (¬ (0 ≤ p.len ∧ p.len ≤ (wideN p.six : Int)) → checkP p = 2) := fun h => checkP_bad (okP_len_bad h)
  have HB2 : Hid (rightB p.six p.n = false → checkP p = 2) := fun h => checkP_bad (okP_right h)
  have HB3 : Hid (0 ≤ p.len ∧ p.len ≤ (wideN p.six : Int) → rightB p.six p.n = true → ((∀ j, j < wideN p.six → p.len ≤ (j : Int) → p.n.testBit (wideN p.six - 1 - j) = false) → checkP p = 0) ∧ (∀ j, j < wideN p.six → p.len ≤ (j : Int) → p.n.testBit (wideN p.six - 1 - j) = true → checkP p = 2)) := check_bits
  unfold BitsIs at cb
  rw [bitL_len] at cb
  generalize checkP p = R at *
  generalize rightB p.six p.n = B at *
  obtain ⟨six, n, len⟩ := p
  simp only at *
  unfold pfV adV at *
  simp only at *
  generalize hiN n = h at *
  generalize loN n = l at *
  obtain ⟨W, hWd⟩ : ∃ W, W = wideN six := ⟨_, rfl⟩
  rw [← hWd] at cb cs hw HB1 HB3
  clear ha hWd
  obtain ⟨hl0, hl1⟩ := hl
  obtain ⟨X, hX⟩ : ∃ X, X = w.alloc (.cells #[.bool six, .int .u64 (h : Int), .int .u64 (l : Int), .int .i64 len] 27) := ⟨_, rfl⟩
  have hB0 : Below w.heap.size w X := by rw [hX]; exact below_new (Below.refl _ _) _
  have r1 : RowAt X w.heap.size [.bool six, .int .u64 (h : Int), .int .u64 (l : Int), .int .i64 len] 27 := by rw [hX]; exact RowAt.new _ _ _
  have q0 : ∀ p : Bl X, p.W.cell? ⟨w.heap.size, 0, none⟩ = some (.bool six) := fun p => (r1.below p.h).cell 0
  have q1 : ∀ p : Bl X, p.W.cell? ⟨w.heap.size, 1, none⟩ = some (.int .u64 (h : Int)) := fun p => (r1.below p.h).cell 1
  have q2 : ∀ p : Bl X, p.W.cell? ⟨w.heap.size, 2, none⟩ = some (.int .u64 (l : Int)) := fun p => (r1.below p.h).cell 2
  have q3 : ∀ p : Bl X, p.W.cell? ⟨w.heap.size, 3, none⟩ = some (.int .i64 len) := fun p => (r1.below p.h).cell 3
  by_cases h0 : len < 0
  · have d0 : decide (len < 0) = true := decide_eq_true h0
    have HV : Hid (R = 2) := HB1.out (by omega)
    clear HB1 HB2 HB3 cb
    go_enter Try.func74, Try.ntmps74
    go_wp2_with fail
    rw [← hX]
    clear hX
    haveI := bl_ne X
    refine wp_region_bl (by kernel_rfl) (by kernel_rfl) ?_
    repeat (quiet_step (first | (go_at_call 91; with_reducible exact bl_same (cs _)) | (go_at_call 53; with_reducible exact bl_call (cr _))))
    refine wpQuiet_nil ?_
    intro wq hw'
    obtain ⟨⟨wz, hq⟩, hw2⟩ := hw'
    subst hw2
    have hW := below2 hB0 hq
    go_wp2_with fail
    go_ret
    exact ⟨by rw [HV.out]; rfl, hW⟩
  have d0 : decide (len < 0) = false := decide_eq_false h0
  by_cases h1 : (W : Int) < len
  · have d1 : decide ((W : Int) < len) = true := decide_eq_true h1
    have HV : Hid (R = 2) := HB1.out (by omega)
    clear HB1 HB2 HB3 cb
    go_enter Try.func74, Try.ntmps74
    go_wp2_with fail
    rw [← hX]
    clear hX
    haveI := bl_ne X
    refine wp_region_bl (by kernel_rfl) (by kernel_rfl) ?_
    repeat (quiet_step (first | (go_at_call 91; with_reducible exact bl_same (cs _)) | (go_at_call 53; with_reducible exact bl_call (cr _))))
    refine wpQuiet_nil ?_
    intro wq hw'
    obtain ⟨⟨wz, hq⟩, hw2⟩ := hw'
    subst hw2
    have hW := below2 hB0 hq
    go_wp2_with fail
    go_ret
    exact ⟨by rw [HV.out]; rfl, hW⟩
  have d1 : decide ((W : Int) < len) = false := decide_eq_false h1
  cases B with
  | false =>
    have HV : Hid (R = 2) := HB2.out rfl
    clear HB1 HB2 HB3 cb
    go_enter Try.func74, Try.ntmps74
    go_wp2_with fail
    rw [← hX]
    clear hX
    haveI := bl_ne X
    refine wp_region_bl (by kernel_rfl) (by kernel_rfl) ?_
    repeat (quiet_step (first | (go_at_call 91; with_reducible exact bl_same (cs _)) | (go_at_call 53; with_reducible exact bl_call (cr _))))
    refine wpQuiet_nil ?_
    intro wq hw'
    obtain ⟨⟨wz, hq⟩, hw2⟩ := hw'
    subst hw2
    have hW := below2 hB0 hq
    go_wp2_with fail
    go_ret
    exact ⟨by rw [HV.out]; rfl, hW⟩
  | true =>
    obtain ⟨hA, hC⟩ := HB3.out ⟨by omega, by omega⟩ rfl
    have HA : Hid ((∀ j, j < W → len ≤ (j : Int) → n.testBit (W - 1 - j) = false) → R = 0) := hA
    have HC : Hid (∀ j, j < W → len ≤ (j : Int) → n.testBit (W - 1 - j) = true → R = 2) := hC
    clear HB1 HB2 HB3 hA hC
    go_enter Try.func74, Try.ntmps74
    go_wp2_with fail
    rw [← hX]
    clear hX
    haveI := bl_ne X
    refine wp_region_bl (by kernel_rfl) (by kernel_rfl) ?_
    repeat (quiet_step (first | (go_at_call 91; with_reducible exact bl_same (cs _)) | (go_at_call 53; with_reducible exact bl_call (cr _))))
    refine wpQuiet_nil ?_
    intro wq hw'
    obtain ⟨⟨wz, hq⟩, hw2⟩ := hw'
    subst hw2
    have hW := below2 hB0 hq
    have r2 := r1.below hq
    clear r1 q0 q1 q2 q3 cs cr this hq hB0
    obtain ⟨q0, q1, q2, q3, qf⟩ := cells4 r2
    go_wp2_with fail
    go_at_call 75; refine (cb _).mono ?_; rintro e w3 ⟨g, rfl, hg, hrow, hb3⟩
    have hW := below2 hW hb3
    have r3 := r2.below hb3
    have hcl : ∀ j, j < W → w3.cell? ⟨g, j, none⟩ = some (.int .i64 ((n.testBit (W - 1 - j)).toNat : Int)) := fun j hj => by
      rw [hrow.cell, celN_get _ _ (by rw [bitL_len]; exact hj), bitL_get W n j hj]
    have HCL : Hid (∀ j, j < W → w3.cell? ⟨g, j, none⟩ = some (.int .i64 ((n.testBit (W - 1 - j)).toNat : Int))) := hcl
    clear q0 q1 q2 q3 qf cb hg hrow hcl r2 hb3
    obtain ⟨q0, q1, q2, q3, qf⟩ := cells4 r3
    clear r3
    go_wp2_with fail
    go_loop [30] (fun i => ∃ k : Nat, k ≤ W ∧ i = .int .i64 (k : Int) ∧ Hid (∀ j, j < k → len ≤ (j : Int) → n.testBit (W - 1 - j) = false)) (fun i => W - (intOf i).toNat)
    case atStart => exact ⟨0, by omega, rfl, fun j hj => by omega⟩
    case round =>
      obtain ⟨k, hk, rfl, HK⟩ := hrel
      by_cases hlt : k < W
      · have hki : (k : Int) < (W : Int) := by omega
        have hc := HCL.out k hlt
        by_cases hlk : len ≤ (k : Int)
        · have dl : decide (len ≤ (k : Int)) = true := decide_eq_true hlk
          cases hbt : n.testBit (W - 1 - k) with
          | false =>
            rw [hbt] at hc
            simp only [Bool.toNat_false, Int.natCast_zero] at hc
            have HK2 : Hid (∀ j, j < k + 1 → len ≤ (j : Int) → n.testBit (W - 1 - j) = false) := fun j hj hjl => by
              by_cases hjk : j < k
              · exact HK.out j hjk hjl
              · rw [show j = k by omega, hbt]
            clear hbt
            go_wp2_with fail
            go_round
            case rel => exact ⟨k + 1, by omega, by go_num, HK2⟩
            case measure => simp [intOf]; omega
          | true =>
            rw [hbt] at hc
            simp only [Bool.toNat_true, Int.natCast_one] at hc
            have HV : Hid (R = 2) := HC.out k hlt hlk hbt
            clear hbt
            go_wp2_with fail
            go_ret
            exact ⟨by rw [HV.out]; rfl, hW⟩
        · have dl : decide (len ≤ (k : Int)) = false := decide_eq_false hlk
          have HK2 : Hid (∀ j, j < k + 1 → len ≤ (j : Int) → n.testBit (W - 1 - j) = false) := fun j hj hjl => by
            by_cases hjk : j < k
            · exact HK.out j hjk hjl
            · omega
          go_wp2_with fail
          go_round
          case rel => exact ⟨k + 1, by omega, by go_num, HK2⟩
          case measure => simp [intOf]; omega
      · obtain rfl : k = W := by omega
        have HV : Hid (R = 0) := HA.out HK.out
        clear HK
        go_wp2_with fail
        go_ret
        exact ⟨by rw [HV.out]; rfl, hW⟩
set_option maxHeartbeats 2000000 in
set_option maxRecDepth 20000 in
theorem rlast_any (p : Pf) (w : World) (hl : -9223372036854775808 ≤ p.len ∧ p.len ≤ 9223372036854775807) (ha : p.n < 2 ^ 128) : Calls Try.prog 41 #[pfV p] w fun e w' => e = .returned (.tuple #[adV (lastE p).1, .int .i64 (lastE p).2]) ∧ Below w.heap.size w w' := by
  have cc := fun w => rcheck_any p w hl ha
  obtain ⟨X, hX⟩ : ∃ X, X = (w.alloc (.cells #[.bool p.six, .int .u64 (hiN p.n : Int), .int .u64 (loN p.n : Int), .int .i64 p.len] 27)).alloc (.cells #[.int .u64 0, .int .u64 0] 25) := ⟨_, rfl⟩
  have hB0 : Below w.heap.size w X := by rw [hX]; exact below_new (below_new (Below.refl _ _) _) _
  have r0 : RowAt X w.heap.size [.bool p.six, .int .u64 (hiN p.n : Int), .int .u64 (loN p.n : Int), .int .i64 p.len] 27 := by rw [hX]; exact (RowAt.new _ _ _).alloc _
  have r1 : RowAt X (w.heap.size + 1) [.int .u64 0, .int .u64 0] 25 := by rw [hX, ← World.size_alloc w (.cells #[.bool p.six, .int .u64 (hiN p.n : Int), .int .u64 (loN p.n : Int), .int .i64 p.len] 27)]; exact RowAt.new _ _ _
  cases hok : okP p
  · have e1 : lastE p = (0, 2) := by unfold lastE; rw [hok]; rfl
    rw [e1]
    rw [checkP_bad hok] at cc
    have hz : adV 0 = .agg #[.int .u64 0, .int .u64 0] := rfl
    simp only [hz]
    unfold pfV at *
    generalize hiN p.n = h at *
    generalize loN p.n = l at *
    generalize p.six = six at *
    generalize p.len = len at *
    clear hok e1 ha hl hz
    go_enter Try.func41, Try.ntmps41
    go_wp2_with fail
    go_at_call 74; refine (cc _).mono ?_; rintro e w2 ⟨rfl, hb2⟩
    rw [← hX] at hb2
    have hW := below2 hB0 hb2
    obtain ⟨q0, q1, qf⟩ := cells2 (r1.below hb2)
    clear hX cc r1 hB0 hb2
    go_wp2_with fail
    (try simp only [Exit.inBlock, Exit.then])
    refine bodyPost_ret (v := .tuple #[.agg #[.int .u64 0, .int .u64 0], .int .i64 2]) ?_ rfl ⟨rfl, ?_⟩
    · rw [results_cell_tmp rfl]
      go_simp
    · repeat' (first | with_reducible exact hW | with_reducible apply below_new | with_reducible refine bset ?_ (by omega))
  · have e1 : lastE p = (p.n + freeN (kP p), 0) := by unfold lastE; rw [hok]; rfl
    rw [e1]
    rw [checkP_ok hok] at cc
    have cb := fun w => rbits_any p.six p.n w ha
    have hWl := wideN_le p.six
    have hle := (okP_iff.1 hok).1
    have hklen := okP_len hok
    have HLB : Hid (∀ m, (∀ j, j < wideN p.six → m.testBit j = if j < kP p then true else p.n.testBit j) → m % 2 ^ wideN p.six = p.n + freeN (kP p)) := fun m h => last_bits hklen.1 (okP_lt hok) (okP_zero hok) h
    have HOF : Hid (∀ m g w, RowAt w g (celN (bitL (wideN p.six) m)) 3 → Calls Try.prog 76 #[.slice (some ⟨g, 0, none⟩) (wideN p.six) (wideN p.six)] w fun e w' => e = .returned (adV (m % 2 ^ wideN p.six)) ∧ Below w.heap.size w w') := fun m g w h => rof_row _ m g w hWl h
    unfold BitsIs at cb
    rw [bitL_len] at cb
    obtain ⟨K, hK⟩ : ∃ K, K = kP p := ⟨_, rfl⟩
    rw [← hK] at HLB hklen ⊢
    have HV : Hid (adV (p.n + freeN K) = .agg #[.int .u64 (hiN (p.n + freeN K) : Int), .int .u64 (loN (p.n + freeN K) : Int)]) := rfl
    unfold pfV at *
    simp only
    generalize adV (p.n + freeN K) = V at HV ⊢
    obtain ⟨six, n, len⟩ := p
    simp only at *
    unfold adV at cb
    obtain ⟨W, hWd⟩ : ∃ W, W = wideN six := ⟨_, rfl⟩
    rw [← hWd] at cb hWl hle hklen HLB HOF
    obtain ⟨L, hL⟩ : ∃ L : Nat, len = (L : Int) := ⟨len.toNat, by omega⟩
    subst hL
    have hKL : K + L = W := by omega
    have HKL : Hid (K + L = W) := hKL
    have hLW : L ≤ W := by omega
    have hWi : (W : Int) ≤ 128 := by omega
    clear hok e1 ha hl hWd hK hklen hKL hle hWl
    go_enter Try.func41, Try.ntmps41
    go_wp2_with fail
    go_at_call 74; refine (cc _).mono ?_; rintro e w2 ⟨rfl, hb2⟩
    rw [← hX] at hb2
    have hs2 : w.heap.size + 2 ≤ X.heap.size := by rw [hX]; simp
    have hsX := hb2.size
    have hW := below2 hB0 hb2
    have r0 := r0.below hb2
    have r1 := r1.below hb2
    obtain ⟨q0, q1, q2, q3, qf⟩ := cells4 r0
    clear hX cc hB0 hb2
    go_wp2_with fail
    go_at_call 75; refine (cb _).mono ?_; rintro e w3 ⟨g, rfl, hg, hrow, hb3⟩
    have hgw : w.heap.size + 2 ≤ g := by omega
    have hW := below2 hW hb3
    have r0 := r0.below hb3
    have r1 := r1.below hb3
    clear q0 q1 q2 q3 qf cb hg hb3 hsX hs2
    obtain ⟨q0, q1, q2, q3, qf⟩ := cells4 r0
    go_wp2_with fail
    clear q0 q1 q2 q3 qf
    go_loopw [5] (fun i wr => ∃ (k m : Nat), L ≤ k ∧ k ≤ W ∧ i = .int .i64 (k : Int) ∧ Hid (∀ j, j < W → m.testBit j = if W - k ≤ j ∧ j < K then true else n.testBit j) ∧ RowAt wr g (celN (bitL W m)) 3 ∧ RowAt wr (w.heap.size + 1) [.int .u64 0, .int .u64 0] 25 ∧ Below w.heap.size w wr) (fun i _ => W - (intOf i).toNat)
    case atStart => exact ⟨L, n, Nat.le_refl _, hLW, rfl, (fun j hj => by rw [if_neg (by have := HKL.out; omega)]), hrow, r1, hW⟩
    case round =>
      obtain ⟨k, m, hLk, hk, rfl, HM, hr, ra, hb⟩ := hrel
      clear hrow r1 hW r0
      by_cases hlt : k < W
      · have hki : (k : Int) < (W : Int) := by omega
        have hcell : ∃ z : Int, wr.cell? ⟨g, k, none⟩ = some (.int .i64 z) := ⟨_, by rw [hr.cell, celN_get _ _ (by rw [bitL_len]; exact hlt)]⟩
        obtain ⟨z, hcell⟩ := hcell
        have hfz : wr.frozen? ⟨g, k, none⟩ = false := hr.frozen k
        obtain ⟨m2, hm2, hm3⟩ := bitL_set W m (W - 1 - k) true (by omega)
        have hr2 := hr.set1 k (.int .i64 ((true.toNat : Nat) : Int))
        rw [celN_set] at hr2
        rw [show W - 1 - (W - 1 - k) = k by omega] at hm2
        rw [hm2] at hr2
        have HR : Hid (RowAt (wr.setCell ⟨g, k, none⟩ (.int .i64 1)) g (celN (bitL W m2)) 3) := hr2
        have HA : Hid (RowAt (wr.setCell ⟨g, k, none⟩ (.int .i64 1)) (w.heap.size + 1) [.int .u64 0, .int .u64 0] 25) := ra.far1 (by omega) _ _
        have HM2 : Hid (∀ j, j < W → m2.testBit j = if W - (k + 1) ≤ j ∧ j < K then true else n.testBit j) := fun j hj => by
          have := HKL.out
          rw [hm3 j]
          by_cases hjt : j = W - 1 - k
          · rw [if_pos hjt, if_pos (by omega)]
          · rw [if_neg hjt, HM.out j hj]
            by_cases hj2 : W - k ≤ j ∧ j < K
            · rw [if_pos hj2, if_pos (by omega)]
            · rw [if_neg hj2, if_neg (by omega)]
        clear hr hr2 hm2 hm3 ra HM
        go_wp2_with fail
        go_roundw
        case rel => exact ⟨k + 1, m2, by omega, by omega, by go_num, HM2, HR.out, HA.out, bset hb (by omega)⟩
        case measure => simp [intOf]; omega
      · obtain rfl : k = W := by omega
        have hval := HLB.out m (fun j hj => by
          rw [HM.out j hj]
          by_cases hjk : j < K
          · rw [if_pos ⟨by omega, hjk⟩, if_pos hjk]
          · rw [if_neg (fun h => hjk h.2), if_neg hjk])
        have cof := HOF.out m g _ hr
        rw [hval] at cof
        unfold adV at cof
        generalize hiN (n + freeN K) = Fh at *
        generalize loN (n + freeN K) = Fl at *
        clear HM hval hr HLB HOF
        go_wp2_with fail
        go_at_call 76; refine cof.mono ?_; rintro e w4 ⟨rfl, hb4⟩
        have hW4 := below2 hb hb4
        obtain ⟨q0, q1, qf⟩ := cells2 (ra.below hb4)
        clear cof ra hb4
        go_wp2_with fail
        (try simp only [Exit.inBlock, Exit.then])
        refine bodyPost_ret (v := .tuple #[.agg #[.int .u64 (Fh : Int), .int .u64 (Fl : Int)], .int .i64 0]) ?_ rfl ⟨by rw [HV.out], ?_⟩
        · rw [results_cell_tmp rfl]
          go_simp
        · repeat' (first | with_reducible exact hW4 | with_reducible apply below_new | with_reducible refine bset ?_ (by omega))
end Go.Proofs.Ytiemlaehhmlhmaa.Addr
