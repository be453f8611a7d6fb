/- What the cutter's states and Check return. -/
import Derived.Test.YtkmchoipddaohaaCutBase
set_option linter.unusedVariables false
namespace Go.Proofs.Ytkmchoipddaohaa.Cut
open Go.RowKit

/-- a cutter as a value -/
def ctV (c : Ct) : Value := .agg #[strV c.rest, .bool c.bad, .int .i64 c.skip]
def FitC (c : Ct) : Prop := (c.rest.length : Int) ≤ 140737488351232 ∧ -9223372036854775808 ≤ c.skip ∧ c.skip ≤ 9223372036854775807
theorem index3 (x y z : Bool) (w : World) : (Instr.index 55 (.agg #[.bool x, .bool y, .bool z]) (.int .i64 0)).run Try.prog w = .ok (.bool x) w ∧ (Instr.index 55 (.agg #[.bool x, .bool y, .bool z]) (.int .i64 1)).run Try.prog w = .ok (.bool y) w ∧ (Instr.index 55 (.agg #[.bool x, .bool y, .bool z]) (.int .i64 2)).run Try.prog w = .ok (.bool z) w := by
  have h := Try.underlying55
  refine ⟨?_, ?_, ?_⟩
  all_goals
    simp [Instr.index, run_underlying h, asIntOf, go_sem]
    try rfl
theorem states_any (c : Ct) (w : World) : Calls Try.prog 20 #[ctV c] w fun e w' => e = .returned (.int .i64 (statesC c : Int)) ∧ Below w.heap.size w w' := by
  obtain ⟨r, b, s⟩ := c
  have HS : Hid (statesC ⟨r, b, s⟩ = (if r.isEmpty then 0 else 1) + (if b then 1 else 0) + (if 0 < s then 1 else 0)) := rfl
  generalize statesC ⟨r, b, s⟩ = R at HS ⊢
  unfold ctV strV
  simp only
  have hix := fun x y z W => (index3 x y z W).1
  have hiy := fun x y z W => (index3 x y z W).2.1
  have hiz := fun x y z W => (index3 x y z W).2.2
  have hB := below_new (Below.refl _ w) (.cells #[.string ⟨r.toArray⟩, .bool b, .int .i64 s] 23)
  cases hr : r.isEmpty <;> cases b <;> by_cases hs : 0 < s
  all_goals
    have HR := HS.out
    rw [hr] at HR
    simp only [hs, if_true, if_false, Bool.false_eq_true] at HR
    clear HS
    subst HR
    go_enter Try.func20, Try.ntmps20
    go_wp2
    refine wp_loop_rounds 4 ?_
    repeat any_goals (rw [rounds_succ]; go_wp2_with fail)
    go_ret
    exact ⟨rfl, hB⟩
set_option maxHeartbeats 1000000 in
theorem check_any (c : Ct) (w : World) (hf : FitC c) : Calls Try.prog 12 #[ctV c] w fun e w' => e = .returned (.int .i64 (checkC c)) ∧ Below w.heap.size w w' := by
  have cm := fun W => mayRest_any c.rest W (by have := hf.1; omega)
  have cs := fun W => states_any c W
  have HC : Hid (checkC c = if mayR c.rest && decide (0 ≤ c.skip ∧ c.skip ≤ 65535) && decide (statesC c ≤ 1) then 0 else 2) := rfl
  have hf2 := hf.2
  clear hf
  generalize checkC c = R at HC ⊢
  have hst : statesC c ≤ 3 := by unfold statesC; repeat' split
                                 all_goals omega
  generalize statesC c = S at *
  generalize mayR c.rest = M at *
  obtain ⟨r, b, s⟩ := c
  unfold ctV strV at *
  simp only at *
  generalize (⟨r.toArray⟩ : ByteArray) = z at *
  obtain ⟨X, hX⟩ : ∃ X, X = w.alloc (.cells #[.string z, .bool b, .int .i64 s] 23) := ⟨_, rfl⟩
  have hB0 : Below w.heap.size w X := by rw [hX]; exact below_new (Below.refl _ _) _
  have r0 : RowAt X w.heap.size [.string z, .bool b, .int .i64 s] 23 := by rw [hX]; exact RowAt.new _ _ _
  obtain ⟨x0, x1, x2, xf⟩ := cells3 r0
  have hSi : (S : Int) ≤ 3 := by omega
  cases M
  · have HV : Hid (R = 2) := by show _ = _; rw [HC.out]; rfl
    clear HC
    go_enter Try.func12, Try.ntmps12
    go_wp2_with fail
    rw [← hX]
    clear hX
    go_wp2_with fail
    go_at_call 19; refine (cm _).mono ?_; rintro e w1 ⟨rfl, hb1⟩
    go_wp2_with fail
    go_ret
    exact ⟨by rw [HV.out]; rfl, below2 hB0 hb1⟩
  · by_cases h0 : s < 0
    · have HV : Hid (R = 2) := by show _ = _; rw [HC.out, decide_eq_false (by omega)]; rfl
      have d0 : decide (s < 0) = true := decide_eq_true h0
      clear HC
      go_enter Try.func12, Try.ntmps12
      go_wp2_with fail
      rw [← hX]
      clear hX
      go_wp2_with fail
      go_at_call 19; refine (cm _).mono ?_; rintro e w1 ⟨rfl, hb1⟩
      obtain ⟨y0, y1, y2, yf⟩ := cells3 (r0.below hb1)
      go_wp2_with fail
      go_ret
      exact ⟨by rw [HV.out]; rfl, below2 hB0 hb1⟩
    · by_cases h1 : 65535 < s
      · have HV : Hid (R = 2) := by show _ = _; rw [HC.out, decide_eq_false (by omega)]; rfl
        have d0 : decide (s < 0) = false := decide_eq_false h0
        have d1 : decide (65535 < s) = true := decide_eq_true h1
        clear HC
        go_enter Try.func12, Try.ntmps12
        go_wp2_with fail
        rw [← hX]
        clear hX
        go_wp2_with fail
        go_at_call 19; refine (cm _).mono ?_; rintro e w1 ⟨rfl, hb1⟩
        obtain ⟨y0, y1, y2, yf⟩ := cells3 (r0.below hb1)
        go_wp2_with fail
        go_ret
        exact ⟨by rw [HV.out]; rfl, below2 hB0 hb1⟩
      · have HV : Hid (R = if decide (S ≤ 1) then 0 else 2) := by show _ = _; rw [HC.out, decide_eq_true (by omega)]; rfl
        have d0 : decide (s < 0) = false := decide_eq_false h0
        have d1 : decide (65535 < s) = false := decide_eq_false h1
        clear HC
        by_cases hS : 1 < S
        · have HW : Hid (R = 2) := by show _ = _; rw [HV.out, decide_eq_false (by omega)]; rfl
          have d2 : decide (1 < (S : Int)) = true := decide_eq_true (by omega)
          have d2' : decide (1 < S) = true := decide_eq_true (by omega)
          clear HV
          go_enter Try.func12, Try.ntmps12
          go_wp2_with fail
          rw [← hX]
          clear hX
          go_wp2_with fail
          go_at_call 19; refine (cm _).mono ?_; rintro e w1 ⟨rfl, hb1⟩
          obtain ⟨y0, y1, y2, yf⟩ := cells3 (r0.below hb1)
          have hb01 := below2 hB0 hb1
          clear hb1 hB0
          go_wp2_with fail
          go_at_call 20; refine (cs _).mono ?_; rintro e w2 ⟨rfl, hb2⟩
          go_wp2_with fail
          go_ret
          exact ⟨by rw [HW.out]; rfl, below2 hb01 hb2⟩
        · have HW : Hid (R = 0) := by show _ = _; rw [HV.out, decide_eq_true (by omega)]; rfl
          have d2 : decide (1 < (S : Int)) = false := decide_eq_false (by omega)
          have d2' : decide (1 < S) = false := decide_eq_false (by omega)
          clear HV
          go_enter Try.func12, Try.ntmps12
          go_wp2_with fail
          rw [← hX]
          clear hX
          go_wp2_with fail
          go_at_call 19; refine (cm _).mono ?_; rintro e w1 ⟨rfl, hb1⟩
          obtain ⟨y0, y1, y2, yf⟩ := cells3 (r0.below hb1)
          have hb01 := below2 hB0 hb1
          clear hb1 hB0
          go_wp2_with fail
          go_at_call 20; refine (cs _).mono ?_; rintro e w2 ⟨rfl, hb2⟩
          go_wp2_with fail
          go_ret
          exact ⟨by rw [HW.out]; rfl, below2 hb01 hb2⟩
end Go.Proofs.Ytkmchoipddaohaa.Cut
