/- What the document's Check, comes, Feed and Wrap return. -/
import Derived.Test.YtkmchoipddaohaaCutOpen
set_option linter.unusedVariables false
namespace Go.Proofs.Ytkmchoipddaohaa.Cut
open Go.RowKit
attribute [-go_sem] Builtin.append_

theorem mul_add (a b : Nat) : (256 : Int) * (a : Int) + (b : Int) = ((256 * a + b : Nat) : Int) := by omega
def OkP (c : Ct) : Prop := (c.rest = [] ∨ (c.rest.getD 0 0 = 245 ∧ (c.rest.length < 3 ∨ (1 ≤ toldN c.rest ∧ toldN c.rest ≤ 64 ∧ c.rest.length < 3 + toldN c.rest)))) ∧ (0 ≤ c.skip ∧ c.skip ≤ 65535) ∧ (c.rest ≠ [] → c.bad = false ∧ c.skip = 0) ∧ (c.bad = true → c.skip = 0)
theorem okP_iff (c : Ct) : okC c = true ↔ OkP c := by rw [okC_iff, mayR_iff]; rfl
theorem check_no {c : Ct} (h : ¬ OkP c) : checkC c = 2 := by
  unfold checkC
  cases ho : okC c
  · rfl
  · exact absurd ((okP_iff c).1 ho) h
theorem check_yes {c : Ct} (h : OkP c) : checkC c = 0 := by
  unfold checkC
  rw [(okP_iff c).2 h]; rfl
set_option maxHeartbeats 4000000 in
theorem rcheck_any (c : Ct) (w : World) (hf : FitC c) : Calls Try.prog 13 #[ctV c] w fun e w' => e = .returned (.int .i64 (checkC c)) ∧ Below w.heap.size w w' := by
  have HN : Hid (¬ OkP c → checkC c = 2) := check_no
  have HY : Hid (OkP c → checkC c = 0) := check_yes
  generalize checkC c = R at HN HY ⊢
  obtain ⟨r, b, s⟩ := c
  obtain ⟨hf1, hf2, hf3⟩ := hf
  unfold OkP at HN HY
  unfold ctV strV
  simp only at *
  have hB := below_new (Below.refl _ w) (.cells #[.string ⟨r.toArray⟩, .bool b, .int .i64 s] 23)
  by_cases h0 : s < 0
  · have HV : Hid (R = 2) := HN.out (by rintro ⟨_, h, _⟩; omega)
    have d0 : decide (s < 0) = true := decide_eq_true h0
    clear HN HY
    go_enter Try.func13, Try.ntmps13
    go_wp2
    go_ret
    exact ⟨by rw [HV.out]; rfl, hB⟩
  by_cases h1 : 65535 < s
  · have HV : Hid (R = 2) := HN.out (by rintro ⟨_, h, _⟩; omega)
    have d0 : decide (s < 0) = false := decide_eq_false h0
    have d1 : decide (65535 < s) = true := decide_eq_true h1
    clear HN HY
    go_enter Try.func13, Try.ntmps13
    go_wp2
    go_ret
    exact ⟨by rw [HV.out]; rfl, hB⟩
  have d0 : decide (s < 0) = false := decide_eq_false h0
  have d1 : decide (65535 < s) = false := decide_eq_false h1
  cases r with
  | nil =>
    cases b
    · have HV : Hid (R = 0) := HY.out ⟨.inl rfl, by omega, fun h => absurd rfl h, fun h => by cases h⟩
      clear HN HY
      by_cases hs : 0 < s
      all_goals
        go_enter Try.func13, Try.ntmps13
        go_wp2
        go_ret
        exact ⟨by rw [HV.out]; rfl, hB⟩
    · by_cases hs : 0 < s
      · have HV : Hid (R = 2) := HN.out (by rintro ⟨_, _, _, h⟩; have := h rfl; omega)
        clear HN HY
        go_enter Try.func13, Try.ntmps13
        go_wp2
        go_ret
        exact ⟨by rw [HV.out]; rfl, hB⟩
      · have HV : Hid (R = 0) := HY.out ⟨.inl rfl, by omega, fun h => absurd rfl h, fun _ => by omega⟩
        clear HN HY
        go_enter Try.func13, Try.ntmps13
        go_wp2
        go_ret
        exact ⟨by rw [HV.out]; rfl, hB⟩
  | cons x t =>
    obtain ⟨l, hl⟩ : ∃ l, l = x :: t := ⟨_, rfl⟩
    rw [← hl] at HN HY hf1 hB ⊢
    have hne : l ≠ [] := by rw [hl]; simp
    have hemp : l.isEmpty = false := by rw [hl]; rfl
    have hpos : 0 < l.length := by rw [hl]; simp
    have hposi : (0 : Int) < (l.length : Int) := by omega
    have e0 := byte_at l 0 (by rw [size_list]; exact hpos)
    clear hl
    by_cases hbs : b = true ∨ 0 < s
    · have HV : Hid (R = 2) := HN.out (by rintro ⟨_, _, h, _⟩; have h2 := h hne; rcases hbs with h3 | h3; rw [h3] at h2; cases h2.1; omega)
      clear HN HY hne e0
      cases b
      · have hs : 0 < s := by rcases hbs with h | h; cases h; exact h
        clear hbs
        go_enter Try.func13, Try.ntmps13
        go_wp2
        go_ret
        exact ⟨by rw [HV.out]; rfl, hB⟩
      · clear hbs
        by_cases hs : 0 < s
        all_goals
          go_enter Try.func13, Try.ntmps13
          go_wp2
          go_ret
          exact ⟨by rw [HV.out]; rfl, hB⟩
    · have hb : b = false := by cases b; rfl; exact absurd (.inl rfl) hbs
      have hs : s = 0 := by omega
      subst hb hs
      clear hbs h0 h1 d0 d1 hf2 hf3
      by_cases h2 : l.getD 0 0 = 245
      · have hq : (((l.getD 0 0).toNat : Int) != 245) = false := by rw [h2]; rfl
        by_cases h3 : l.length < 3
        · have HV : Hid (R = 0) := HY.out ⟨.inr ⟨h2, .inl h3⟩, by omega, fun _ => ⟨rfl, rfl⟩, fun h => by cases h⟩
          have d3 : decide ((3 : Int) ≤ (l.length : Int)) = false := decide_eq_false (by omega)
          have d3' : decide (3 ≤ l.length) = false := decide_eq_false (by omega)
          generalize l.getD 0 0 = y at *
          clear HN HY h2
          go_enter Try.func13, Try.ntmps13
          go_wp2
          go_ret
          exact ⟨by rw [HV.out]; rfl, hB⟩
        · have d3 : decide ((3 : Int) ≤ (l.length : Int)) = true := decide_eq_true (by omega)
          have d3' : decide (3 ≤ l.length) = true := decide_eq_true (by omega)
          have e1 := byte_at l 1 (by rw [size_list]; omega)
          have e2 := byte_at l 2 (by rw [size_list]; omega)
          have i1 : 1 < l.length := by omega
          have i2 : 2 < l.length := by omega
          have i1' : (1 : Int) < (l.length : Int) := by omega
          have i2' : (2 : Int) < (l.length : Int) := by omega
          have HT : Hid (toldN l = 256 * (l.getD 1 0).toNat + (l.getD 2 0).toNat) := rfl
          have hm := mul_add (l.getD 1 0).toNat (l.getD 2 0).toNat
          rw [← HT.out] at hm
          have b1 : ((l.getD 1 0).toNat : Int) ≤ 255 := by have := (l.getD 1 0).toNat_lt; omega
          have b2 : ((l.getD 2 0).toNat : Int) ≤ 255 := by have := (l.getD 2 0).toNat_lt; omega
          have htl := toldN_lt l
          clear HT
          generalize toldN l = T at *
          have hTi : (T : Int) ≤ 65535 := by omega
          generalize l.getD 0 0 = y at *
          generalize l.getD 1 0 = y1 at *
          generalize l.getD 2 0 = y2 at *
          obtain ⟨X, hX⟩ : ∃ X, X = w.alloc (.cells #[.string ⟨l.toArray⟩, .bool false, .int .i64 0] 23) := ⟨_, rfl⟩
          rw [← hX] at hB
          have r0 : RowAt X w.heap.size [.string ⟨l.toArray⟩, .bool false, .int .i64 0] 23 := by rw [hX]; exact RowAt.new _ _ _
          obtain ⟨x0, x1, x2, xf⟩ := cells3 r0
          have hlt := r0.lt
          by_cases hT : 1 ≤ T ∧ T ≤ 64 ∧ l.length < 3 + T
          · have HV : Hid (R = 0) := HY.out ⟨.inr ⟨h2, .inr hT⟩, by omega, fun _ => ⟨rfl, rfl⟩, fun h => by cases h⟩
            have t1 : decide ((T : Int) < 1) = false := decide_eq_false (by omega)
            have t2 : decide ((64 : Int) < (T : Int)) = false := decide_eq_false (by omega)
            have t3 : decide ((3 : Int) + (T : Int) ≤ (l.length : Int)) = false := decide_eq_false (by omega)
            have t1' : decide (T < 1) = false := decide_eq_false (by omega)
            have t2' : decide (64 < T) = false := decide_eq_false (by omega)
            clear HN HY h2 hT
            go_enter Try.func13, Try.ntmps13
            go_wp2_with fail
            rw [← hX]
            clear hX
            go_region
            go_wp2_with fail
            go_ret
            exact ⟨by rw [HV.out]; rfl, below_drew hB⟩
          · have HV : Hid (R = 2) := HN.out (by rintro ⟨h, _⟩; rcases h with h | ⟨_, h | h⟩; exact hne h; omega; exact hT h)
            clear HN HY h2
            by_cases g1 : T < 1
            · have t1 : decide ((T : Int) < 1) = true := decide_eq_true (by omega)
              have t1' : decide (T < 1) = true := decide_eq_true (by omega)
              clear hT
              go_enter Try.func13, Try.ntmps13
              go_wp2_with fail
              rw [← hX]
              clear hX
              go_region
              go_wp2_with fail
              go_ret
              exact ⟨by rw [HV.out]; rfl, below_drew hB⟩
            · have t1 : decide ((T : Int) < 1) = false := decide_eq_false (by omega)
              have t1' : decide (T < 1) = false := decide_eq_false (by omega)
              by_cases g2 : 64 < T
              · have t2 : decide ((64 : Int) < (T : Int)) = true := decide_eq_true (by omega)
                have t2' : decide (64 < T) = true := decide_eq_true (by omega)
                clear hT
                go_enter Try.func13, Try.ntmps13
                go_wp2_with fail
                rw [← hX]
                clear hX
                go_region
                go_wp2_with fail
                go_ret
                exact ⟨by rw [HV.out]; rfl, below_drew hB⟩
              · have t2 : decide ((64 : Int) < (T : Int)) = false := decide_eq_false (by omega)
                have t2' : decide (64 < T) = false := decide_eq_false (by omega)
                have t3 : decide ((3 : Int) + (T : Int) ≤ (l.length : Int)) = true := decide_eq_true (by omega)
                clear hT
                go_enter Try.func13, Try.ntmps13
                go_wp2_with fail
                rw [← hX]
                clear hX
                go_region
                go_wp2_with fail
                go_ret
                exact ⟨by rw [HV.out]; rfl, below_drew hB⟩
      · have HV : Hid (R = 2) := HN.out (by rintro ⟨h, _⟩; rcases h with h | ⟨h, _⟩; exact hne h; exact h2 h)
        have hq := byte_ne (l.getD 0 0) h2
        generalize l.getD 0 0 = y at *
        clear HN HY h2
        go_enter Try.func13, Try.ntmps13
        go_wp2
        go_ret
        exact ⟨by rw [HV.out]; rfl, hB⟩
theorem rwrap_any (l : List UInt8) (w : World) (hl : (l.length : Int) ≤ 140737488351232) :
    Calls Try.prog 10 #[.string ⟨l.toArray⟩] w fun e w' => e = .returned (.tuple #[strV (if fitN l.length then wrapL l else []), .int .i64 (if fitN l.length then 0 else 11)]) ∧ Below w.heap.size w w' := by
  have HF : Hid (fitN l.length = decide (1 ≤ l.length ∧ l.length ≤ 64)) := rfl
  have HW : Hid (wrapL l = [245, 0, UInt8.ofNat l.length] ++ l) := rfl
  have hcat := bytes_cat [245, 0, UInt8.ofNat l.length] l
  generalize wrapL l = R at HW ⊢
  generalize fitN l.length = B at HF ⊢
  unfold strV
  by_cases h1 : l.length < 1
  · obtain rfl : B = false := by rw [HF.out, decide_eq_false]; omega
    have d1 : decide ((l.length : Int) < 1) = true := decide_eq_true (by omega)
    have d1' : decide (l.length < 1) = true := decide_eq_true (by omega)
    clear hcat
    go_enter Try.func10, Try.ntmps10
    go_wp2_with fail
    go_ret2
    exact ⟨rfl, Below.refl _ _⟩
  have d1 : decide ((l.length : Int) < 1) = false := decide_eq_false (by omega)
  have d1' : decide (l.length < 1) = false := decide_eq_false (by omega)
  by_cases h2 : 64 < l.length
  · obtain rfl : B = false := by rw [HF.out, decide_eq_false]; omega
    have d2 : decide ((64 : Int) < (l.length : Int)) = true := decide_eq_true (by omega)
    have d2' : decide (64 < l.length) = true := decide_eq_true (by omega)
    clear hcat
    go_enter Try.func10, Try.ntmps10
    go_wp2_with fail
    go_ret2
    exact ⟨rfl, Below.refl _ _⟩
  · obtain rfl : B = true := by rw [HF.out, decide_eq_true]; omega
    have d2 : decide ((64 : Int) < (l.length : Int)) = false := decide_eq_false (by omega)
    have d2' : decide (64 < l.length) = false := decide_eq_false (by omega)
    have hi : (l.length : Int) ≤ 64 := by omega
    have hin : l.length ≤ 64 := by omega
    have hc3 := conv3 w l.length 0 5 (by omega) rfl
    rw [← HW.out] at hcat
    clear HW
    go_enter Try.func10, Try.ntmps10
    go_wp2_with fail
    go_ret2
    exact ⟨rfl, below_new (Below.refl _ _) _⟩
end Go.Proofs.Ytkmchoipddaohaa.Cut
