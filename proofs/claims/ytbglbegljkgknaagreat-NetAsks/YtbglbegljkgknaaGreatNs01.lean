/- What the document's Wide, bits and of return. -/
import Derived.Test.YtbglbegljkgknaaGreatNq30
import Derived.Test.YtbglbegljkgknaaGreatNq01
import Derived.Test.YtbglbegljkgknaaGreatNq13
import Derived.OwnWalk
set_option linter.unusedVariables false
namespace Go.Proofs.YtbglbegljkgknaaGreat.Ord
open Go.RowKit
open Go.Proofs.YtbglbegljkgknaaGreat.Msg (Ev okE checkE evV evC FitE echeck_any cells12' gkeep gsetO results_cell_tmp1)
open Go.Proofs.YtbglbegljkgknaaGreat.Addr (RowAt below2 below_drew below_new bset RowAt.lt RowAt.cell RowAt.frozen RowAt.below RowAt.drew RowAt.new RowAt.alloc gdrew gset gbelow galloc grefl gfinal cells2 cells4 results_cell Bl bl_ne wp_region_bl bl_call bl_same)

theorem bad_some {s : St} (h : okS s = false) : s.router < 0 ∨ 1048576 < s.router ∨ (s.seq : Int) < 1 ∨ 1099511627776 < (s.seq : Int) ∨ s.time < 0 ∨ 1099511627776 < s.time := by
  unfold okS at h
  simp only [Bool.and_eq_false_iff, decide_eq_false_iff_not] at h
  omega
theorem good_all {s : St} (h : okS s = true) : ¬ s.router < 0 ∧ ¬ 1048576 < s.router ∧ ¬ (s.seq : Int) < 1 ∧ ¬ 1099511627776 < (s.seq : Int) ∧ ¬ s.time < 0 ∧ ¬ 1099511627776 < s.time := by
  unfold okS at h
  simp only [Bool.and_eq_true, decide_eq_true_eq] at h
  omega
set_option maxHeartbeats 8000000 in
set_option maxRecDepth 20000 in
theorem rcheck_any (l : List St) (v : Value) (w : World) (h : HasSts w v l) :
    Calls Tryz.prog 32 #[v] w fun e w' => e = .returned (.int .i64 (checkL l)) ∧ Below w.heap.size w w' := by
  obtain ⟨o, c, rfl, hc1, hc2⟩ := HasRow.slice h
  have HR : Hid (∀ wr : World, Below w.heap.size w wr → HasSts wr (.slice o l.length c) l) := fun wr hb => h.keep hb
  obtain ⟨n, hn⟩ : ∃ n, n = l.length := ⟨_, rfl⟩
  have HN : Hid (n = l.length) := hn
  rw [← hn] at HR hc1 ⊢
  have HC : Hid (checkL l = if (decide (n ≤ 64) && rise none l) then 0 else 2) := by show _ = _; unfold checkL okL; rw [← hn]
  generalize checkL l = R at HC ⊢
  clear h hn
  by_cases h64 : 64 < n
  · have HV : Hid (R = 2) := by show _ = _; rw [HC.out, decide_eq_false (by omega)]; rfl
    have q1 : decide ((64 : Int) < (n : Int)) = true := decide_eq_true (by omega)
    have q2 : decide (64 < n) = true := decide_eq_true h64
    clear HC HR
    go_enter Tryz.func32, Tryz.ntmps32
    go_wp2_with fail
    go_ret
    exact ⟨by rw [HV.out]; rfl, Below.refl _ _⟩
  · have HD : Hid (R = if rise none l then 0 else 2) := by show _ = _; rw [HC.out, decide_eq_true (by omega)]; rfl
    have hni : (n : Int) ≤ 64 := by omega
    have q1 : decide ((64 : Int) < (n : Int)) = false := decide_eq_false (by omega)
    have q2 : decide (64 < n) = false := decide_eq_false h64
    clear HC h64
    go_enter Tryz.func32, Tryz.ntmps32
    go_wp2_with fail
    go_loopw [10] (fun i wr => ∃ k : Nat, k ≤ n ∧ i = .int .i64 k ∧ Below w.heap.size w wr ∧ Hid (rise none l = rise (prevR l k) (l.drop k))) (fun i _ => n - (intOf i).toNat)
    case atStart => exact ⟨0, by omega, rfl, Below.refl _ _, (rfl : rise none l = _)⟩
    case round =>
      obtain ⟨k, hk, rfl, hB, HG⟩ := hrel
      have hh := HR.out _ hB
      by_cases hlt : k < n
      · have hkz : k < l.length := by rw [← HN.out]; exact hlt
        obtain ⟨g1, i1, rfl, hg1, a0, a1, a2, a3⟩ := HasSts.cell hh k hkz
        have hki : (k : Int) < (n : Int) := by omega
        have HB1 : Hid (okS l[k] = false → R = 2) := fun h => round_bad hkz HD.out HG.out h
        have HB2 : Hid (okS l[k] = true → k = 0 → rise none l = rise (prevR l 1) (l.drop 1)) := fun h h0 => round_first hkz HG.out h h0
        have HB3 : Hid (okS l[k] = true → ∀ (j : Nat) (hj : j < l.length), k = j + 1 → (decide (l[k].router ≤ l[j].router) = false → rise none l = rise (prevR l (k + 1)) (l.drop (k + 1))) ∧ (decide (l[k].router ≤ l[j].router) = true → R = 2)) := fun h j hj h0 => round_next hkz HD.out HG.out h h0 hj
        have HOK : Hid (okS l[k] = true → ¬ l[k].router < 0 ∧ ¬ 1048576 < l[k].router ∧ ¬ (l[k].seq : Int) < 1 ∧ ¬ 1099511627776 < (l[k].seq : Int) ∧ ¬ l[k].time < 0 ∧ ¬ 1099511627776 < l[k].time) := fun h => good_all h
        have HBD : Hid (okS l[k] = false → l[k].router < 0 ∨ 1048576 < l[k].router ∨ (l[k].seq : Int) < 1 ∨ 1099511627776 < (l[k].seq : Int) ∨ l[k].time < 0 ∨ 1099511627776 < l[k].time) := fun h => bad_some h
        generalize okS l[k] = B1 at HB1 HB2 HB3 HOK HBD
        generalize l[k].router = ra at a0 HB3 HOK HBD
        generalize (l[k].seq : Int) = rb at a1 HOK HBD
        generalize l[k].time = rc at a2 HOK HBD
        generalize l[k].up = ru at a3
        clear HG
        go_upto_region 6 with fail
        obtain ⟨X, hX⟩ : ∃ X, X = wr.alloc (.cells #[.int .i64 ra, .int .u64 rb, .int .i64 rc, .bool ru] 74) := ⟨_, rfl⟩
        have hbX : Below wr.heap.size wr X := by rw [hX]; exact below_new (Below.refl _ _) _
        have rx : RowAt X wr.heap.size [.int .i64 ra, .int .u64 rb, .int .i64 rc, .bool ru] 74 := by rw [hX]; exact RowAt.new _ _ _
        rw [← hX]
        have hBX := below2 hB hbX
        have hhX := hh.keep hbX
        clear hX
        obtain ⟨gs, hgs⟩ : ∃ g, g = wr.heap.size := ⟨_, rfl⟩
        rw [← hgs] at rx ⊢
        clear hgs a0 a1 a2 a3 hg1
        obtain ⟨x0, x1, x2, x3, xf⟩ := cells4 rx
        cases B1
        · have HV : Hid (R = 2) := HB1.out rfl
          have hbd := HBD.out rfl
          clear HB1 HB2 HB3 HD hh hhX HOK HBD rx
          have hd : ∀ P : Prop, [Decidable P] → P ∨ ¬ P := fun P _ => Decidable.em P
          by_cases d0 : ra < 0
          · replace d0 := decide_eq_true d0
            go_wp2_with fail
            go_ret
            exact ⟨by rw [HV.out]; rfl, hBX⟩
          by_cases d1 : 1048576 < ra
          · replace d0 := decide_eq_false d0
            replace d1 := decide_eq_true d1
            go_wp2_with fail
            go_ret
            exact ⟨by rw [HV.out]; rfl, hBX⟩
          by_cases d2 : rb < 1
          · replace d0 := decide_eq_false d0
            replace d1 := decide_eq_false d1
            replace d2 := decide_eq_true d2
            go_wp2_with fail
            go_ret
            exact ⟨by rw [HV.out]; rfl, hBX⟩
          by_cases d3 : 1099511627776 < rb
          · replace d0 := decide_eq_false d0
            replace d1 := decide_eq_false d1
            replace d2 := decide_eq_false d2
            replace d3 := decide_eq_true d3
            go_wp2_with fail
            go_ret
            exact ⟨by rw [HV.out]; rfl, hBX⟩
          by_cases d4 : rc < 0
          · replace d0 := decide_eq_false d0
            replace d1 := decide_eq_false d1
            replace d2 := decide_eq_false d2
            replace d3 := decide_eq_false d3
            replace d4 := decide_eq_true d4
            go_wp2_with fail
            go_ret
            exact ⟨by rw [HV.out]; rfl, hBX⟩
          have d5 : decide (1099511627776 < rc) = true := decide_eq_true (by omega)
          replace d0 := decide_eq_false d0
          replace d1 := decide_eq_false d1
          replace d2 := decide_eq_false d2
          replace d3 := decide_eq_false d3
          replace d4 := decide_eq_false d4
          clear hbd
          go_wp2_with fail
          go_ret
          exact ⟨by rw [HV.out]; rfl, hBX⟩
        · obtain ⟨d0, d1, d2, d3, d4, d5⟩ := HOK.out rfl
          replace d0 := decide_eq_false d0
          replace d1 := decide_eq_false d1
          replace d2 := decide_eq_false d2
          replace d3 := decide_eq_false d3
          replace d4 := decide_eq_false d4
          replace d5 := decide_eq_false d5
          clear HB1 HOK HBD
          go_upto_region 8 with fail
          clear d0 d1 d2 d3 d4 d5
          by_cases hk0 : k = 0
          · have HS1 : Hid (rise none l = rise (prevR l 1) (l.drop 1)) := HB2.out rfl hk0
            have hz1 : decide ((0 : Int) < (k : Int)) = false := decide_eq_false (by omega)
            have hz2 : decide (0 < k) = false := decide_eq_false (by omega)
            have HK : Hid (k = 0) := hk0
            clear hk0 HB2 HB3 hh hhX
            go_wp2_with fail
            go_quiet (fail)
            go_wp2_with fail
            go_roundw
            case rel => exact ⟨k + 1, by omega, by go_num, by first | exact hBX | exact below_drew hBX | exact below_drewN hBX _, by rw [HK.out]; exact HS1⟩
            case measure => simp [intOf]; omega
          · obtain ⟨j, hj⟩ : ∃ j, k = j + 1 := ⟨k - 1, by omega⟩
            have hj2 : j < l.length := by omega
            obtain ⟨g2, i2, e12, hg2, b0, _, _, _⟩ := HasSts.cell hhX j hj2
            injection e12 with e12
            injection e12 with e1 e2
            subst e1 e2
            obtain ⟨HN1, HN2⟩ := HB3.out rfl j hj2 hj
            have HN1 : Hid (decide (ra ≤ l[j].router) = false → rise none l = rise (prevR l (k + 1)) (l.drop (k + 1))) := HN1
            have HN2 : Hid (decide (ra ≤ l[j].router) = true → R = 2) := HN2
            generalize l[j].router = pr at b0 HN1 HN2
            have e1 : (k : Int) - 1 = (j : Int) := by omega
            have e2 : IntKind.i64.wrap (j : Int) = (j : Int) := by rw [IntKind.wrap_i64]; omega
            have hkp : decide ((0 : Int) < (k : Int)) = true := decide_eq_true (by omega)
            have hkp' : decide (0 < k) = true := decide_eq_true (by omega)
            have hjn : (j : Int) < (n : Int) := by omega
            clear hj hk0 HB2 HB3 hh hhX
            cases B2 : decide (ra ≤ pr)
            · have HS1 : Hid (rise none l = rise (prevR l (k + 1)) (l.drop (k + 1))) := HN1.out B2
              clear HN1 HN2
              go_wp2_with fail
              go_quiet (fail)
              go_wp2_with fail
              go_roundw
              case rel => exact ⟨k + 1, by omega, by go_num, by first | exact hBX | exact below_drew hBX | exact below_drewN hBX _, HS1⟩
              case measure => simp [intOf]; omega
            · have HV : Hid (R = 2) := HN2.out B2
              clear HN1 HN2 HD
              go_wp2_with fail
              go_quiet (fail)
              go_wp2_with fail
              go_ret
              exact ⟨by rw [HV.out]; rfl, by first | exact hBX | exact below_drew hBX | exact below_drewN hBX _⟩
      · obtain rfl : k = n := by omega
        have HV : Hid (R = 0) := by
          show _ = _
          rw [HD.out, HG.out, List.drop_of_length_le (by rw [← HN.out]; exact Nat.le_refl _)]
          unfold prevR
          split <;> rfl
        clear hh HG HD
        go_wp2
        go_ret
        exact ⟨by rw [HV.out]; rfl, hB⟩
end Go.Proofs.YtbglbegljkgknaaGreat.Ord
namespace Go.Proofs.YtbglbegljkgknaaGreat.Addr

/-- a number's last W bits, the highest first -/
def bitL (W n : Nat) : List Nat := (List.range W).map fun i => (n.testBit (W - 1 - i)).toNat
theorem bitL_len (W n : Nat) : (bitL W n).length = W := by simp [bitL]
theorem bitL_get (W n i : Nat) (h : i < W) : (bitL W n)[i]'(by rw [bitL_len]; exact h) = (n.testBit (W - 1 - i)).toNat := by simp [bitL]
theorem bitL_get? (W n i : Nat) (h : i < W) : (bitL W n)[i]? = some (n.testBit (W - 1 - i)).toNat := by simp [bitL, h]
theorem bitL_le (W n : Nat) : ∀ b ∈ bitL W n, b ≤ 1 := by
  intro b hb
  obtain ⟨i, _, rfl⟩ := List.mem_map.1 hb
  cases n.testBit (W - 1 - i) <;> decide
/-- the number of bits -/
def ofL (l : List Nat) : Nat := l.foldl (fun a b => (2 * a + b) % 2 ^ 128) 0
theorem ofL_snoc (l : List Nat) (b : Nat) : ofL (l ++ [b]) = (2 * ofL l + b) % 2 ^ 128 := by unfold ofL; rw [List.foldl_append]; rfl
theorem ofL_lt (l : List Nat) : ofL l < 2 ^ 128 := by
  rcases List.eq_nil_or_concat l with rfl | ⟨l2, b, rfl⟩
  · decide
  · rw [List.concat_eq_append, ofL_snoc]; exact Nat.mod_lt _ (by decide)
theorem ofL_take (l : List Nat) (k : Nat) (h : k < l.length) : ofL (l.take (k + 1)) = (2 * ofL (l.take k) + l[k]) % 2 ^ 128 := by
  rw [List.take_succ_eq_append_getElem h, ofL_snoc]
theorem bitL_succ (W n : Nat) : bitL (W + 1) n = bitL W (n / 2) ++ [n % 2] := by
  unfold bitL
  rw [List.range_succ, List.map_append]
  congr 1
  · apply List.map_congr_left
    intro i hi
    have hi2 : i < W := List.mem_range.1 hi
    rw [show W + 1 - 1 - i = (W - 1 - i) + 1 by omega, Nat.testBit_succ]
  · simp only [List.map_cons, List.map_nil]
    congr 1
    rw [show W + 1 - 1 - W = 0 by omega, Nat.toNat_testBit]
    simp
theorem ofL_bits (W n : Nat) (h : W ≤ 128) : ofL (bitL W n) = n % 2 ^ W := by
  induction W generalizing n with
  | zero => simp [bitL, ofL, Nat.mod_one]
  | succ W ih =>
    rw [bitL_succ, ofL_snoc, ih _ (by omega)]
    have hp := Nat.two_pow_pos W
    have hle : (2 : Nat) ^ (W + 1) ≤ 2 ^ 128 := Nat.pow_le_pow_right (by decide) h
    have e : (2 : Nat) ^ (W + 1) = 2 * 2 ^ W := by rw [Nat.pow_succ, Nat.mul_comm]
    rw [e] at *
    have hm := Nat.mod_mul (x := n) (a := 2) (b := 2 ^ W)
    have hlt := Nat.mod_lt (n / 2) hp
    rw [hm]
    rw [Nat.mod_eq_of_lt (by omega)]
    omega
/-- a row in which one bit is another one is the row of another number -/
theorem bitL_set (W n t : Nat) (b : Bool) (h : t < W) : ∃ m, (bitL W n).set (W - 1 - t) b.toNat = bitL W m ∧ ∀ j, m.testBit j = if j = t then b else n.testBit j := by
  have hB : n % 2 ^ t < 2 ^ t := Nat.mod_lt _ (Nat.two_pow_pos t)
  have key : ∀ j, (2 ^ t * (2 * (n / 2 ^ (t + 1)) + b.toNat) + n % 2 ^ t).testBit j = if j = t then b else n.testBit j := by
    intro j
    rw [Nat.testBit_two_pow_mul_add _ hB]
    by_cases hj : j < t
    · rw [if_pos hj, if_neg (by omega), Nat.testBit_mod_two_pow]
      simp [hj]
    · rw [if_neg hj]
      by_cases he : j = t
      · subst he
        rw [if_pos rfl, Nat.sub_self, Nat.testBit_zero]
        cases b <;> simp <;> omega
      · rw [if_neg he]
        obtain ⟨m, rfl⟩ : ∃ m, j = t + 1 + m := ⟨j - t - 1, by omega⟩
        rw [show t + 1 + m - t = m + 1 by omega, Nat.testBit_succ]
        have : (2 * (n / 2 ^ (t + 1)) + b.toNat) / 2 = n / 2 ^ (t + 1) := by cases b <;> simp <;> omega
        rw [this, Nat.testBit_div_two_pow]
        congr 1; omega
  refine ⟨_, ?_, key⟩
  apply List.ext_getElem
  · simp [bitL_len]
  · intro i h1 h2
    rw [bitL_len] at h2
    rw [List.getElem_set, bitL_get W n i h2, bitL_get W _ i h2, key]
    by_cases hi : W - 1 - t = i
    · rw [if_pos hi, if_pos (by omega)]
    · rw [if_neg hi, if_neg (by omega)]
theorem eq_of_bits {x y W : Nat} (hx : x < 2 ^ W) (hy : y < 2 ^ W) (h : ∀ j, j < W → x.testBit j = y.testBit j) : x = y := by
  apply Nat.eq_of_testBit_eq
  intro j
  by_cases hj : j < W
  · exact h j hj
  · have hle : (2 : Nat) ^ W ≤ 2 ^ j := Nat.pow_le_pow_right (by decide) (by omega)
    rw [Nat.testBit_lt_two_pow (by omega), Nat.testBit_lt_two_pow (by omega)]
theorem mod_zero_bits (n k : Nat) : n % 2 ^ k = 0 ↔ ∀ j, j < k → n.testBit j = false := by
  constructor
  · intro h j hj
    have := Nat.testBit_mod_two_pow n k j
    rw [h, Nat.zero_testBit] at this
    simpa [hj] using this.symm
  · intro h
    apply Nat.eq_of_testBit_eq
    intro j
    rw [Nat.testBit_mod_two_pow, Nat.zero_testBit]
    by_cases hj : j < k
    · simp [h j hj]
    · simp [hj]
theorem div_eq_bits {n m k W : Nat} (hn : n < 2 ^ W) (hm : m < 2 ^ W) : n / 2 ^ k = m / 2 ^ k ↔ ∀ j, k ≤ j → j < W → n.testBit j = m.testBit j := by
  constructor
  · intro h j h1 h2
    have e1 : (n / 2 ^ k).testBit (j - k) = n.testBit (j - k + k) := Nat.testBit_div_two_pow n (j - k)
    have e2 : (m / 2 ^ k).testBit (j - k) = m.testBit (j - k + k) := Nat.testBit_div_two_pow m (j - k)
    rw [show j - k + k = j by omega] at e1 e2
    rw [← e1, ← e2, h]
  · intro h
    apply Nat.eq_of_testBit_eq
    intro j
    rw [Nat.testBit_div_two_pow, Nat.testBit_div_two_pow]
    by_cases hj : j + k < W
    · exact h _ (by omega) hj
    · have hle : (2 : Nat) ^ W ≤ 2 ^ (j + k) := Nat.pow_le_pow_right (by decide) (by omega)
      rw [Nat.testBit_lt_two_pow (by omega), Nat.testBit_lt_two_pow (by omega)]
/-- the last bits are ones -/
theorem last_bits {n m k W : Nat} (hk : k ≤ W) (hn : n < 2 ^ W) (h0 : n % 2 ^ k = 0) (h : ∀ j, j < W → m.testBit j = if j < k then true else n.testBit j) : m % 2 ^ W = n + freeN k := by
  have hp := Nat.two_pow_pos k
  have hlast : n + 2 ^ k ≤ 2 ^ W := mult_room h0 (pow_mod _ _ hk) hp hn
  apply eq_of_bits (W := W) (Nat.mod_lt _ (Nat.two_pow_pos W)) (by unfold freeN; omega)
  intro j hj
  rw [Nat.testBit_mod_two_pow]
  have e : n + freeN k = 2 ^ k * (n / 2 ^ k) + (2 ^ k - 1) := by have := Nat.div_add_mod n (2 ^ k); unfold freeN; omega
  rw [e, Nat.testBit_two_pow_mul_add _ (by omega), Nat.testBit_two_pow_sub_one, h j hj]
  simp only [hj, decide_true, Bool.true_and]
  by_cases hjk : j < k
  · simp [hjk]
  · simp only [hjk, if_false]
    rw [Nat.testBit_div_two_pow, show j - k + k = j by omega]
/-- the bit at t is one more -/
theorem half_bits {n m t W : Nat} (ht : t < W) (hn : n < 2 ^ W) (h0 : n % 2 ^ (t + 1) = 0) (h : ∀ j, m.testBit j = if j = t then true else n.testBit j) : m % 2 ^ W = n + 2 ^ t := by
  have hp := Nat.two_pow_pos t
  have e2 : (2 : Nat) ^ (t + 1) = 2 ^ t + 2 ^ t := by rw [Nat.pow_succ]; omega
  have hlast : n + 2 ^ (t + 1) ≤ 2 ^ W := mult_room h0 (pow_mod _ _ ht) (Nat.two_pow_pos _) hn
  apply eq_of_bits (W := W) (Nat.mod_lt _ (Nat.two_pow_pos W)) (by omega)
  intro j hj
  rw [Nat.testBit_mod_two_pow, h j]
  have e : n + 2 ^ t = 2 ^ (t + 1) * (n / 2 ^ (t + 1)) + 2 ^ t := by have := Nat.div_add_mod n (2 ^ (t + 1)); omega
  rw [e, Nat.testBit_two_pow_mul_add _ (by omega), Nat.testBit_two_pow]
  simp only [hj, decide_true, Bool.true_and]
  by_cases hjt : j = t
  · subst hjt; simp
  · rw [if_neg hjt]
    by_cases hj1 : j < t + 1
    · rw [if_pos hj1, decide_eq_false (fun hc => hjt hc.symm)]
      exact (mod_zero_bits _ _).1 h0 j hj1
    · rw [if_neg hj1, Nat.testBit_div_two_pow, show j - (t + 1) + (t + 1) = j by omega]
/-- last bits that are ones, and the nought ahead of them, turned: one more -/
theorem next_bits {n m t W : Nat} (ht : t < W) (hn : n < 2 ^ W) (hl : ∀ j, j < t → n.testBit j = true) (h1 : n.testBit t = false) (h : ∀ j, j < W → m.testBit j = if j < t then false else if j = t then true else n.testBit j) : m % 2 ^ W = n + 1 ∧ n ≠ 2 ^ W - 1 := by
  have hp := Nat.two_pow_pos t
  have e2 : (2 : Nat) ^ (t + 1) = 2 ^ t + 2 ^ t := by rw [Nat.pow_succ]; omega
  have en : n = 2 ^ (t + 1) * (n / 2 ^ (t + 1)) + (2 ^ t - 1) := by
    have hd := Nat.div_add_mod n (2 ^ (t + 1))
    have hm : n % 2 ^ (t + 1) = 2 ^ t - 1 := by
      apply eq_of_bits (W := t + 1) (Nat.mod_lt _ (Nat.two_pow_pos _)) (by omega)
      intro j hj
      rw [Nat.testBit_mod_two_pow, Nat.testBit_two_pow_sub_one]
      simp only [hj, decide_true, Bool.true_and]
      by_cases hjt : j < t
      · rw [hl j hjt, decide_eq_true hjt]
      · rw [show j = t by omega, h1]; simp
    omega
  have hroom : 2 ^ (t + 1) * (n / 2 ^ (t + 1)) + 2 ^ (t + 1) ≤ 2 ^ W := by
    apply mult_room (q := 2 ^ (t + 1)) (Nat.mul_mod_right _ _) (pow_mod (t + 1) W ht) (Nat.two_pow_pos _)
    have := Nat.div_mul_le_self n (2 ^ (t + 1))
    rw [Nat.mul_comm] at this; omega
  constructor
  · have : m % 2 ^ W = 2 ^ (t + 1) * (n / 2 ^ (t + 1)) + 2 ^ t := by
      apply eq_of_bits (W := W) (Nat.mod_lt _ (Nat.two_pow_pos W)) (by omega)
      intro j hj
      rw [Nat.testBit_mod_two_pow, h j hj, Nat.testBit_two_pow_mul_add _ (by omega), Nat.testBit_two_pow]
      simp only [hj, decide_true, Bool.true_and]
      by_cases hjt : j < t
      · rw [if_pos hjt, if_pos (by omega), decide_eq_false (by omega)]
      · rw [if_neg hjt]
        by_cases he : j = t
        · rw [if_pos he, if_pos (by omega), decide_eq_true he.symm]
        · rw [if_neg he, if_neg (by omega), Nat.testBit_div_two_pow, show j - (t + 1) + (t + 1) = j by omega]
    omega
  · omega
theorem ones_bits {n W : Nat} (hn : n < 2 ^ W) (hl : ∀ j, j < W → n.testBit j = true) : n = 2 ^ W - 1 := by
  have hp := Nat.two_pow_pos W
  apply eq_of_bits hn (by omega)
  intro j hj
  rw [hl j hj, Nat.testBit_two_pow_sub_one, decide_eq_true hj]
/-- last bits that are noughts, and the one ahead of them, turned: one less -/
theorem prev_bits {n m t W : Nat} (ht : t < W) (hn : n < 2 ^ W) (hl : ∀ j, j < t → n.testBit j = false) (h1 : n.testBit t = true) (h : ∀ j, j < W → m.testBit j = if j < t then true else if j = t then false else n.testBit j) : m % 2 ^ W + 1 = n := by
  have hm : m % 2 ^ W < 2 ^ W := Nat.mod_lt _ (Nat.two_pow_pos W)
  have hb : ∀ j, j < W → (m % 2 ^ W).testBit j = if j < t then true else if j = t then false else n.testBit j := fun j hj => by
    rw [Nat.testBit_mod_two_pow, h j hj]; simp [hj]
  have := next_bits (n := m % 2 ^ W) (m := n) ht hm (fun j hj => by rw [hb j (by omega), if_pos hj]) (by rw [hb t ht, if_neg (by omega), if_pos rfl]) (fun j hj => by
    by_cases hjt : j < t
    · rw [if_pos hjt, hl j hjt]
    · rw [if_neg hjt]
      by_cases he : j = t
      · rw [if_pos he, he, h1]
      · rw [if_neg he, hb j hj, if_neg hjt, if_neg he])
  have e := this.1
  rw [Nat.mod_eq_of_lt hn] at e
  exact e.symm
theorem zero_bits {n W : Nat} (hn : n < 2 ^ W) (hl : ∀ j, j < W → n.testBit j = false) : n = 0 := by
  apply eq_of_bits hn (Nat.two_pow_pos W)
  intro j hj
  rw [hl j hj, Nat.zero_testBit]
end Go.Proofs.YtbglbegljkgknaaGreat.Addr
namespace Go.Proofs.YtbglbegljkgknaaGreat.Addr
open Go.RowKit

theorem rwide_any (six : Bool) (w : World) : Calls Tryz.prog 141 #[.bool six] w fun e w' => e = .returned (.int .i64 (wideN six : Int)) ∧ w' = w := by
  cases six
  · go_enter Tryz.func141, Tryz.ntmps141
    go_wp2
    go_ret
    exact ⟨rfl, rfl⟩
  · go_enter Tryz.func141, Tryz.ntmps141
    go_wp2
    go_ret
    exact ⟨rfl, rfl⟩
theorem info_int : (Tryz.prog.info? 3).map (fun i => (i.zero, i.size, i.bytes)) = some (some (.int .i64 0), 1, 8) := by kernel_rfl
theorem info_parts' {t : TypeId} {z : Option Value} {s b : Nat} (h : (Tryz.prog.info? t).map (fun i => (i.zero, i.size, i.bytes)) = some (z, s, b)) : ∃ i, Tryz.prog.info? t = some i ∧ i.zero = z ∧ i.size = s ∧ i.bytes = b := by
  cases hi : Tryz.prog.info? t with
  | none => rw [hi] at h; simp at h
  | some i => rw [hi] at h; simp at h; exact ⟨i, rfl, h.1, h.2.1, h.2.2⟩
def celN (l : List Nat) : List Value := l.map fun (b : Nat) => Value.int .i64 (b : Int)
theorem celN_len (l : List Nat) : (celN l).length = l.length := by simp [celN]
theorem celN_get (l : List Nat) (k : Nat) (h : k < l.length) : (celN l)[k]? = some (.int .i64 (l[k] : Int)) := by simp [celN, h]
theorem celN_set (l : List Nat) (k b : Nat) : (celN l).set k (.int .i64 (b : Int)) = celN (l.set k b) := by simp [celN, List.map_set]
/-- 'make([]int, n)' -/
theorem make_ints (w : World) (n : Nat) (h : n ≤ 1000000) (kl kc : IntKind) : (Instr.makeSlice 160 (.int kl (n : Int)) (.int kc (n : Int))).run Tryz.prog w = .ok (.slice (some ⟨w.heap.size, 0, none⟩) n n) (w.alloc (.cells (celN (List.replicate n 0)).toArray 3)) := by
  obtain ⟨i0, hi, hz0, hz1, hz2⟩ := info_parts' info_int
  have hr := run_make (P := Tryz.prog) w 160 3 i0 (.int .i64 0) Tryz.underlying160 hi hz0 kl kc n n (by omega) (Int.le_refl _) (by rw [hz2]; omega) (by omega)
  rw [hr, hz1, Int.toNat_natCast, Nat.mul_one]
  have e : madeCells (Value.int .i64 0).cells n = (celN (List.replicate n 0)).toArray := by
    apply Array.ext'
    refine (toList_madeCells_one (.int .i64 0) n).trans ?_
    simp [celN]
  rw [e]
/-- the row of bits, from the last one on, as far as t -/
def rowT (W n t : Nat) : List Nat := (List.range W).map fun j => if W - t ≤ j then (n.testBit (W - 1 - j)).toNat else 0
theorem rowT_len (W n t : Nat) : (rowT W n t).length = W := by simp [rowT]
theorem rowT_zero (W n : Nat) : rowT W n 0 = List.replicate W 0 := by
  apply List.ext_getElem
  · simp [rowT]
  · intro i h1 h2
    rw [rowT_len] at h1
    simp [rowT]; omega
theorem rowT_all (W n : Nat) : rowT W n W = bitL W n := by
  unfold rowT bitL
  apply List.map_congr_left
  intro j _
  rw [if_pos (by omega)]
theorem rowT_set (W n t : Nat) (h : t < W) : (rowT W n t).set (W - 1 - t) (n.testBit t).toNat = rowT W n (t + 1) := by
  apply List.ext_getElem
  · simp [rowT]
  · intro i h1 h2
    rw [rowT_len] at h2
    rw [List.getElem_set]
    by_cases hi : W - 1 - t = i
    · rw [if_pos hi]
      simp only [rowT, List.getElem_map, List.getElem_range]
      rw [if_pos (by omega), show W - 1 - i = t by omega]
    · rw [if_neg hi]
      simp only [rowT, List.getElem_map, List.getElem_range]
      by_cases h3 : W - t ≤ i
      · rw [if_pos h3, if_pos (by omega)]
      · rw [if_neg h3, if_neg (by omega)]
theorem half_num (m : Nat) (hm : m < 2 ^ 128) : loN m / 2 + hiN m % 2 * 9223372036854775808 = loN (m / 2) ∧ hiN m / 2 = hiN (m / 2) := by unfold loN hiN; omega
def BitsIs (L : List Nat) (w : World) (e : Ending) (w' : World) : Prop := ∃ g, e = .returned (.slice (some ⟨g, 0, none⟩) L.length L.length) ∧ w.heap.size ≤ g ∧ RowAt w' g (celN L) 3 ∧ Below w.heap.size w w'
set_option maxHeartbeats 2000000 in
set_option maxRecDepth 20000 in
theorem rbits_any (six : Bool) (n : Nat) (w : World) (hn : n < 2 ^ 128) : Calls Tryz.prog 142 #[.bool six, adV n] w (BitsIs (bitL (wideN six) n) w) := by
  have cw := fun w => rwide_any six w
  have hWl := wideN_le six
  have hWg := wideN_ge six
  obtain ⟨W, hWd⟩ : ∃ W, W = wideN six := ⟨_, rfl⟩
  rw [← hWd] at cw hWl hWg ⊢
  clear hWd
  have hmk := fun w => make_ints w W (by omega) .i64 .i64
  unfold adV
  obtain ⟨X, hX⟩ : ∃ X, X = w.alloc (.cells #[.int .u64 (hiN n : Int), .int .u64 (loN n : Int)] 31) := ⟨_, rfl⟩
  have hB0 : Below w.heap.size w X := by rw [hX]; exact below_new (Below.refl _ _) _
  have r0 : RowAt X w.heap.size [.int .u64 (hiN n : Int), .int .u64 (loN n : Int)] 31 := by rw [hX]; exact RowAt.new _ _ _
  obtain ⟨Y, hY⟩ : ∃ Y, Y = X.alloc (.cells (celN (List.replicate W 0)).toArray 3) := ⟨_, rfl⟩
  obtain ⟨g, hg⟩ : ∃ g, g = X.heap.size := ⟨_, rfl⟩
  have hmk := hmk X
  have r1 : RowAt Y g (celN (rowT W n 0)) 3 := by rw [hY, hg, rowT_zero]; exact RowAt.new _ _ _
  have hBY : Below w.heap.size w Y := by rw [hY]; exact below_new hB0 _
  have hwg : w.heap.size ≤ g := by rw [hg]; exact hB0.size
  have r0Y : RowAt Y w.heap.size [.int .u64 (hiN n : Int), .int .u64 (loN n : Int)] 31 := by rw [hY]; exact r0.alloc _
  have hWi : (W : Int) ≤ 128 := by omega
  have hWi2 : (32 : Int) ≤ (W : Int) := by omega
  go_enter Tryz.func142, Tryz.ntmps142
  go_wp2_with fail
  go_at_call 141; refine (cw _).mono ?_; rintro e w2 ⟨rfl, rfl⟩
  rw [← hX]
  clear hX hB0 r0
  go_upto_region 2 with fail
  rw [← hY, ← hg]
  clear hmk hY hg cw
  obtain ⟨q0, q1, qf⟩ := cells2 r0Y
  go_region
  go_wp2_with fail
  clear q0 q1 qf r0Y hmk
  have HN : Hid (n < 2 ^ 128) := hn
  have HP : Hid (BitsIs (bitL W n) w = BitsIs (bitL W n) w) := rfl
  go_loopw [6, 7, 8] (fun lo hi i wr => ∃ (t : Nat) (x : Int), t ≤ W ∧ lo = .int .u64 (loN (n / 2 ^ t) : Int) ∧ hi = .int .u64 (hiN (n / 2 ^ t) : Int) ∧ i = .int .i64 x ∧ Hid (x = (W : Int) - 1 - (t : Int)) ∧ RowAt wr g (celN (rowT W n t)) 3 ∧ Below w.heap.size w wr) (fun _ _ i _ => (intOf i + 1).toNat)
  case atStart => exact ⟨0, (W : Int) - 1, by omega, by simp, by simp, rfl, (by show _ = _; omega), r1.drew, below_drew hBY⟩
  case round =>
    obtain ⟨t, x, ht, rfl, rfl, rfl, HX, hr, hb⟩ := hrel
    clear r1 hBY
    by_cases hlt : t < W
    · obtain ⟨i, hi⟩ : ∃ i : Nat, i = W - 1 - t := ⟨_, rfl⟩
      obtain rfl : x = (i : Int) := by have := HX.out; omega
      have hxi : (i : Int) < (W : Int) := by omega
      have d0 : decide ((0 : Int) ≤ (i : Int)) = true := decide_eq_true (by omega)
      have hcell : wr.cell? ⟨g, i, none⟩ = some (.int .i64 ((rowT W n t)[i]'(by rw [rowT_len]; omega) : Int)) := by rw [hr.cell, celN_get]
      have hfz : wr.frozen? ⟨g, i, none⟩ = false := hr.frozen i
      have hm := half_num (n / 2 ^ t) (Nat.lt_of_le_of_lt (Nat.div_le_self _ _) HN.out)
      rw [Nat.div_div_eq_div_mul, ← Nat.pow_succ] at hm
      have hlo := loN_lt (n / 2 ^ t)
      have hhi := hiN_lt (Nat.lt_of_le_of_lt (Nat.div_le_self n (2 ^ t)) HN.out)
      have hbit : loN (n / 2 ^ t) % 2 = (n.testBit t).toNat := by rw [Nat.toNat_testBit]; unfold loN; omega
      have hset := rowT_set W n t hlt
      rw [← hi, ← hbit] at hset
      have HS : Hid (∀ W' : World, RowAt W' g (celN (rowT W n t)) 3 → RowAt (W'.setCell ⟨g, i, none⟩ (.int .i64 ((loN (n / 2 ^ t) % 2 : Nat) : Int))) g (celN (rowT W n (t + 1))) 3) := fun W' h => by
        have := h.set1 i (.int .i64 ((loN (n / 2 ^ t) % 2 : Nat) : Int))
        rw [celN_set, hset] at this
        exact this
      have HH1 : Hid (loN (n / 2 ^ t) / 2 + hiN (n / 2 ^ t) % 2 * 9223372036854775808 = loN (n / 2 ^ (t + 1))) := hm.1
      have HH2 : Hid (hiN (n / 2 ^ t) / 2 = hiN (n / 2 ^ (t + 1))) := hm.2
      generalize (rowT W n t)[i]'(by rw [rowT_len]; omega) = old at hcell
      clear hm hset hbit
      generalize loN (n / 2 ^ t) = lo at *
      generalize hiN (n / 2 ^ t) = hh at *
      have hloi : (lo : Int) ≤ 18446744073709551615 := by omega
      have hhii : (hh : Int) ≤ 18446744073709551615 := by omega
      have HR : Hid (RowAt wr g (celN (rowT W n t)) 3) := hr
      have HI : Hid (i = W - 1 - t) := hi
      clear hlo hhi hr hi
      go_wp2_with fail
      go_roundw
      case rel =>
        refine ⟨t + 1, (i : Int) - 1, by omega, ?_, ?_, rfl, (by show _ = _; have := HI.out; omega), ?_, ?_⟩
        · rw [← HH1.out]; go_num
        · rw [← HH2.out]; go_num
        · exact HS.out _ HR.out
        · exact bset hb (by omega)
      case measure => simp [intOf]
    · obtain rfl : t = W := by omega
      obtain rfl : x = -1 := by have := HX.out; omega
      rw [rowT_all] at hr
      have HR : Hid (RowAt wr g (celN (bitL t n)) 3) := hr
      clear hr
      go_wp2_with fail
      go_ret
      exact ⟨g, by rw [bitL_len]; rfl, hwg, HR.out, hb⟩
theorem of_step (m b : Nat) (hm : m < 2 ^ 128) (hb : b ≤ 1) : IntKind.u64.wrap (IntKind.u64.wrap (2 * (hiN m : Int)) + (loN m : Int) / 9223372036854775808) = (hiN ((2 * m + b) % 2 ^ 128) : Int) ∧ IntKind.u64.wrap (IntKind.u64.wrap (2 * (loN m : Int)) + (b : Int)) = (loN ((2 * m + b) % 2 ^ 128) : Int) := by
  rw [IntKind.wrap_u64, IntKind.wrap_u64, IntKind.wrap_u64, IntKind.wrap_u64]
  unfold hiN loN
  constructor <;> omega
end Go.Proofs.YtbglbegljkgknaaGreat.Addr
