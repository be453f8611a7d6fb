/- What the document's Right, Cmp, turned, Next and Prev return. -/
import Derived.Test.YtbglbegljkgknaaGreatNs01
set_option linter.unusedVariables false
namespace Go.Proofs.YtbglbegljkgknaaGreat.Addr
open Go.RowKit

theorem right_four (n : Nat) : rightB false n = (decide (hiN n = 0) && decide (loN n < 4294967296)) := by
  unfold rightB hiN loN
  rw [← Bool.decide_and]
  exact decide_eq_decide.2 (by show n < 2 ^ 32 ↔ _; omega)
theorem right_six (n : Nat) (h : n < 2 ^ 128) : rightB true n = true := decide_eq_true h
set_option maxHeartbeats 1000000 in
theorem rright_any (six : Bool) (n : Nat) (w : World) (hn : n < 2 ^ 128) : Calls Tryz.prog 40 #[.bool six, adV n] w fun e w' => e = .returned (.bool (rightB six n)) ∧ Below w.heap.size w w' := by
  obtain ⟨X, hX⟩ : ∃ X, X = w.alloc (.cells #[.int .u64 (hiN n : Int), .int .u64 (loN n : Int)] 31) := ⟨_, rfl⟩
  have hB0 : Below w.heap.size w X := by rw [hX]; exact below_new (Below.refl _ _) _
  have r0 : RowAt X w.heap.size [.int .u64 (hiN n : Int), .int .u64 (loN n : Int)] 31 := by rw [hX]; exact RowAt.new _ _ _
  cases six
  · rw [right_four]
    unfold adV
    have hlt := loN_lt n
    generalize hiN n = h at *
    generalize loN n = l at *
    have hli : (l : Int) ≤ 18446744073709551615 := by omega
    obtain ⟨q0, q1, qf⟩ := cells2 r0
    clear hn r0 hlt
    by_cases h0 : h = 0
    · have h0' : ((h : Int) == 0) = true := by simpa using h0
      have HV : Hid ((decide (h = 0) && decide (l < 4294967296)) = decide ((l : Int) < 4294967296)) := by
        show _ = _
        rw [decide_eq_true h0, Bool.true_and]
        exact decide_eq_decide.2 (by omega)
      generalize (decide (h = 0) && decide (l < 4294967296)) = R at HV ⊢
      clear h0
      go_enter Tryz.func40, Tryz.ntmps40
      go_upto_region 1 with fail
      rw [← hX]
      clear hX
      go_wp2_with fail
      go_ret
      exact ⟨by rw [HV.out]; rfl, hB0⟩
    · have HV : Hid ((decide (h = 0) && decide (l < 4294967296)) = false) := by show _ = _; rw [decide_eq_false h0]; rfl
      generalize (decide (h = 0) && decide (l < 4294967296)) = R at HV ⊢
      have h0' : ((h : Int) == 0) = false := by simpa using h0
      go_enter Tryz.func40, Tryz.ntmps40
      go_upto_region 1 with fail
      rw [← hX]
      clear hX
      go_wp2_with fail
      go_ret
      exact ⟨by rw [HV.out]; rfl, hB0⟩
  · rw [right_six n hn]
    unfold adV
    clear hn r0
    go_enter Tryz.func40, Tryz.ntmps40
    go_upto_region 1 with fail
    rw [← hX]
    clear hX
    go_wp2_with fail
    go_ret
    exact ⟨rfl, hB0⟩
set_option maxHeartbeats 2000000 in
theorem rcmp_any (n m : Nat) (w : World) (hn : n < 2 ^ 128) (hm : m < 2 ^ 128) : Calls Tryz.prog 117 #[adV n, adV m] w fun e w' => e = .returned (.int .i64 (cmpN n m)) ∧ Below w.heap.size w w' := by
  have heq := fun w => ad_eql n m w
  have hgd := ad_guard
  obtain ⟨X, hX⟩ : ∃ X, X = (w.alloc (.cells #[.int .u64 (hiN n : Int), .int .u64 (loN n : Int)] 31)).alloc (.cells #[.int .u64 (hiN m : Int), .int .u64 (loN m : Int)] 31) := ⟨_, rfl⟩
  have hB0 : Below w.heap.size w X := by rw [hX]; exact below_new (below_new (Below.refl _ _) _) _
  have r0 : RowAt X w.heap.size [.int .u64 (hiN n : Int), .int .u64 (loN n : Int)] 31 := by rw [hX]; exact (RowAt.new _ _ _).alloc _
  have r1 : RowAt X (w.heap.size + 1) [.int .u64 (hiN m : Int), .int .u64 (loN m : Int)] 31 := by rw [hX, ← World.size_alloc w (.cells #[.int .u64 (hiN n : Int), .int .u64 (loN n : Int)] 31)]; exact RowAt.new _ _ _
  have e1 := hilo n
  have e2 := hilo m
  have l1 := loN_lt n
  have l2 := loN_lt m
  have u1 := hiN_lt hn
  have u2 := hiN_lt hm
  unfold adV at *
  generalize hiN n = a at *
  generalize loN n = c at *
  generalize hiN m = b at *
  generalize loN m = d at *
  have ai : (a : Int) ≤ 18446744073709551615 := by omega
  have bi : (b : Int) ≤ 18446744073709551615 := by omega
  have ci : (c : Int) ≤ 18446744073709551615 := by omega
  have di : (d : Int) ≤ 18446744073709551615 := by omega
  obtain ⟨q0, q1, qf⟩ := cells2 r0
  obtain ⟨p0, p1, pf⟩ := cells2 r1
  have HL : Hid (n < m ↔ a < b ∨ (a = b ∧ c < d)) := by show _ ↔ _; omega
  have HE : Hid (n = m ↔ (a = b ∧ c = d)) := by show _ ↔ _; omega
  have HC : Hid ((n < m → cmpN n m = -1) ∧ (n = m → cmpN n m = 0) ∧ (m < n → cmpN n m = 1)) := ⟨cmp_lt, fun h => by rw [h]; exact cmp_eq _, cmp_gt⟩
  clear hn hm e1 e2 l1 l2 u1 u2 r0 r1
  generalize hR : cmpN n m = R at *
  clear hR
  by_cases h1 : a < b
  · have d1 : decide ((a : Int) < (b : Int)) = true := decide_eq_true (by omega)
    have d1' : decide (a < b) = true := decide_eq_true h1
    have HV : Hid (R = -1) := HC.out.1 (HL.out.2 (.inl h1))
    rw [decide_eq_false (fun e => by have := HE.out.1 e; omega)] at heq
    clear HL HE HC
    (try clear he)
    go_enter Tryz.func117, Tryz.ntmps117
    go_upto_region 1 with fail
    rw [← hX]
    clear hX
    go_wp2_with fail
    go_ret
    exact ⟨by rw [HV.out]; rfl, hB0⟩
  have d1 : decide ((a : Int) < (b : Int)) = false := decide_eq_false (by omega)
  have d1' : decide (a < b) = false := decide_eq_false h1
  by_cases h2 : a = b
  · subst h2
    by_cases h3 : c < d
    · have d3 : decide ((c : Int) < (d : Int)) = true := decide_eq_true (by omega)
      have d3' : decide (c < d) = true := decide_eq_true h3
      have HV : Hid (R = -1) := HC.out.1 (HL.out.2 (.inr ⟨rfl, h3⟩))
      rw [decide_eq_false (fun e => by have := HE.out.1 e; omega)] at heq
      clear HL HE HC
      (try clear he)
      go_enter Tryz.func117, Tryz.ntmps117
      go_upto_region 1 with fail
      rw [← hX]
      clear hX
      go_wp2_with fail
      go_ret
      exact ⟨by rw [HV.out]; rfl, hB0⟩
    · have d3 : decide ((c : Int) < (d : Int)) = false := decide_eq_false (by omega)
      have d3' : decide (c < d) = false := decide_eq_false h3
      by_cases h4 : c = d
      · have he := HE.out.2 ⟨rfl, h4⟩
        clear h4
        have HV : Hid (R = 0) := HC.out.2.1 (he)
        rw [decide_eq_true he] at heq
        clear HL HE HC
        (try clear he)
        go_enter Tryz.func117, Tryz.ntmps117
        go_upto_region 1 with fail
        rw [← hX]
        clear hX
        go_wp2_with fail
        go_ret
        exact ⟨by rw [HV.out]; rfl, hB0⟩
      · have he : ¬ n = m := fun e => h4 (HE.out.1 e).2
        have hgt : m < n := by have := HL.out; omega
        have HV : Hid (R = 1) := HC.out.2.2 (hgt)
        rw [decide_eq_false he] at heq
        clear HL HE HC
        (try clear he)
        go_enter Tryz.func117, Tryz.ntmps117
        go_upto_region 1 with fail
        rw [← hX]
        clear hX
        go_wp2_with fail
        go_ret
        exact ⟨by rw [HV.out]; rfl, hB0⟩
  · have d2 : ((a : Int) == (b : Int)) = false := by rw [beq_eq_false_iff_ne]; omega
    have d2' : (a == b) = false := by rw [beq_eq_false_iff_ne]; exact h2
    have he : ¬ n = m := fun e => h2 (HE.out.1 e).1
    have hgt : m < n := by have := HL.out; omega
    have HV : Hid (R = 1) := HC.out.2.2 (hgt)
    rw [decide_eq_false he] at heq
    clear HL HE HC
    (try clear he)
    go_enter Tryz.func117, Tryz.ntmps117
    go_upto_region 1 with fail
    rw [← hX]
    clear hX
    go_wp2_with fail
    go_ret
    exact ⟨by rw [HV.out]; rfl, hB0⟩
def turn1E (six : Bool) (n : Nat) : Nat × Bool := if n = 2 ^ wideN six - 1 then (0, false) else (n + 1, true)
def turn0E (six : Bool) (n : Nat) : Nat × Bool := if n = 0 then (0, false) else (n - 1, true)
end Go.Proofs.YtbglbegljkgknaaGreat.Addr
