/- What the document's Check of manifests returns. -/
import Derived.Test.YtajcmgccclemdaaManRefM
import Derived.Test.YtajcmgccclemdaaManSame
set_option linter.unusedVariables false
namespace Go.Proofs.Ytajcmgccclemdaa.Man
open Go.RowKit Go.Shelf
open Go.Proofs.Ytajcmgccclemdaa.Page

theorem ret_int {a b : Int} (h : a = b) : Ending.returned (.int .i64 a) = .returned (.int .i64 b) := by rw [h]
theorem mayB_no {s mn : Int} {tg : Nat} {lb : Bool} (h : s < 0 ∨ 8 ≤ s ∨ (tg : Int) < 1 ∨ 4611686018427387904 < (tg : Int) ∨ mn < -1 ∨ 1048576 < mn) : mayB (s, tg, mn) lb = false := by
  rw [Bool.eq_false_iff]
  intro hc
  simp only [mayB, Bool.and_eq_true, Bool.or_eq_true, decide_eq_true_eq] at hc
  omega
theorem mayB_open {s mn : Int} {tg : Nat} {lb : Bool} (h : mn = -1) (hl : lb = false) : mayB (s, tg, mn) lb = false := by
  rw [Bool.eq_false_iff]
  intro hc
  simp only [mayB, Bool.and_eq_true, Bool.or_eq_true, decide_eq_true_eq, hl] at hc
  rcases hc.2 with h2 | h2
  · omega
  · exact absurd h2.2 (by simp)
theorem mayB_yes {s mn : Int} {tg : Nat} {lb : Bool} (h : ¬ s < 0 ∧ ¬ 8 ≤ s ∧ ¬ (tg : Int) < 1 ∧ ¬ 4611686018427387904 < (tg : Int) ∧ ¬ mn < -1 ∧ ¬ 1048576 < mn) (hl : mn = -1 → lb = true) : mayB (s, tg, mn) lb = true := by
  simp only [mayB, Bool.and_eq_true, Bool.or_eq_true, decide_eq_true_eq]
  refine ⟨⟨by omega, by omega⟩, ?_⟩
  by_cases hm : mn = -1
  · exact .inr ⟨hm, hl hm⟩
  · exact .inl (by omega)
set_option maxHeartbeats 4000000 in
set_option maxRecDepth 20000 in
theorem rmcheck_any (m : ManT) (v : Value) (w : World) (h : HasParts w v m.2) (hf : FitM m) :
    Calls Try.prog 15 #[.agg #[.int .u64 (m.1 : Int), v]] w fun e w' => e = .returned (.int .i64 (checkM m)) ∧ Below w.heap.size w w' := by
  obtain ⟨o, c, rfl, hl9, hc⟩ := h.form
  obtain ⟨e0, ps⟩ := m
  simp only at hl9 hc h ⊢
  have HF : Hid (∀ p ∈ ps, FitP p) := hf.2
  have he9 : (e0 : Int) ≤ 18446744073709551615 := by have := hf.1; simp only at this; omega
  have HCM : Hid (checkM (e0, ps) = if okM (e0, ps) = true then 0 else 2) := rfl
  have HOK : Hid (okM (e0, ps) = (decide (1 ≤ e0 ∧ e0 ≤ 4611686018427387904) && (decide (ps.length ≤ 8) && okP [] 0 ps))) := rfl
  obtain ⟨X, hX⟩ : ∃ X, X = w.alloc (.cells #[.int .u64 (e0 : Int), .slice o ps.length c] 25) := ⟨_, rfl⟩
  have hB0 : Below w.heap.size w X := by rw [hX]; exact (Below.refl _ w).alloc (Nat.le_refl _) _
  have mb : MBox X w.heap.size e0 (.slice o ps.length c) := by rw [hX]; exact RowAt.new w [_, _] _
  obtain ⟨n, hn⟩ : ∃ n, n = ps.length := ⟨_, rfl⟩
  have HN : Hid (n = ps.length) := hn
  have HC : Hid (∀ W, Below w.heap.size w W → HasParts W (.slice o n c) ps) := fun W hb => by rw [hn]; exact h.keep hb
  have hn9 : (n : Int) ≤ 9223372036854775807 := by omega
  simp only [← hn] at mb hX ⊢
  clear hc h hf hn hl9
  obtain ⟨m0, m1⟩ := mb.cells
  have HBAD : Hid ((decide (1 ≤ e0 ∧ e0 ≤ 4611686018427387904) && (decide (n ≤ 8) && okP [] 0 ps)) = false → checkM (e0, ps) = 2) := fun hb => by
    rw [HCM.out, HOK.out, ← HN.out, hb]; rfl
  have HGOOD : Hid ((decide (1 ≤ e0 ∧ e0 ≤ 4611686018427387904) && (decide (n ≤ 8) && okP [] 0 ps)) = true → checkM (e0, ps) = 0) := fun hb => by
    rw [HCM.out, HOK.out, ← HN.out, hb]; rfl
  generalize checkM (e0, ps) = R at HBAD HGOOD ⊢
  clear HCM HOK
  have hd : (decide ((e0 : Int) < 1) = true) ∨ (decide ((e0 : Int) < 1) = false ∧ decide (4611686018427387904 < (e0 : Int)) = true) ∨ (decide ((e0 : Int) < 1) = false ∧ decide (4611686018427387904 < (e0 : Int)) = false ∧ decide (8 < (n : Int)) = true) ∨ (decide ((e0 : Int) < 1) = false ∧ decide (4611686018427387904 < (e0 : Int)) = false ∧ decide (8 < (n : Int)) = false) := by
    simp only [decide_eq_true_eq, decide_eq_false_iff_not]; omega
  rcases hd with d1 | ⟨d1, d2⟩ | ⟨d1, d2, d3⟩ | ⟨d1, d2, d3⟩
  · have HR : Hid (R = 2) := HBAD.out (by simp only [decide_eq_true_eq] at d1; rw [decide_eq_false (by omega)]; rfl)
    go_enter Try.func15, Try.ntmps15
    go_upto_region 1 with fail
    rw [← hX]
    clear hX
    go_wp2
    go_ret
    exact ⟨ret_int HR.out.symm, hB0⟩
  · have HR : Hid (R = 2) := HBAD.out (by simp only [decide_eq_true_eq] at d2; rw [decide_eq_false (by omega)]; rfl)
    go_enter Try.func15, Try.ntmps15
    go_upto_region 1 with fail
    rw [← hX]
    clear hX
    go_wp2
    go_ret
    exact ⟨ret_int HR.out.symm, hB0⟩
  · have HR : Hid (R = 2) := HBAD.out (by simp only [decide_eq_true_eq] at d3; rw [decide_eq_false (p := n ≤ 8) (by omega)]; simp)
    go_enter Try.func15, Try.ntmps15
    go_upto_region 1 with fail
    rw [← hX]
    clear hX
    go_wp2
    go_ret
    exact ⟨ret_int HR.out.symm, hB0⟩
  · have hn8 : n ≤ 8 := by simp only [decide_eq_false_iff_not] at d3; omega
    have HB2 : Hid (okP [] 0 ps = false → R = 2) := fun hb => HBAD.out (by rw [hb]; simp)
    have HG2 : Hid (okP [] 0 ps = true → R = 0) := fun hb => HGOOD.out (by
      simp only [decide_eq_false_iff_not] at d1 d2
      rw [hb, decide_eq_true (p := n ≤ 8) hn8, decide_eq_true (by omega)]; rfl)
    clear HBAD HGOOD
    go_enter Try.func15, Try.ntmps15
    go_upto_region 1 with fail
    rw [← hX]
    clear hX
    go_wp2_with fail
    go_loopw [24] (fun i wr => ∃ k : Nat, k ≤ n ∧ i = .int .i64 k ∧ Below X.heap.size X wr ∧ Hid (okP [] 0 ps = okP (seenAt ps k) (aheadAt ps k) (ps.drop k))) (fun i _ => n - (intOf i).toNat)
    case atStart => exact ⟨0, by omega, rfl, Below.refl _ _, okP_from ps⟩
    case round =>
      obtain ⟨k, hk, rfl, hB, HO⟩ := hrel
      obtain ⟨m0, m1⟩ := MBox.cells (RowAt.below mb hB)
      by_cases hlt : k < n
      · have hkz : k < ps.length := by rw [← HN.out]; exact hlt
        obtain ⟨_, _, ef, _, hcs⟩ := (HC.out wr (below2 hB0 hB)).form
        injection ef with ef1 ef2 ef3
        clear ef2
        subst ef1; subst ef3
        obtain ⟨b, i, rfl, hbs, c0, c1, c2⟩ := hcs k hkz
        have HO2 : Hid (okP [] 0 ps = (mayB ps[k] (decide (k + 1 = n)) && (!((seenAt ps k).contains ps[k].1) && (decide (aheadAt ps k < ps[k].2.1) && okP (seenAt ps (k + 1)) (aheadAt ps (k + 1)) (ps.drop (k + 1)))))) := by
          show _ = _; rw [HO.out, okP_at ps k hkz, HN.out]
        have hfp := HF.out ps[k] (List.getElem_mem hkz)
        have HPK : Hid (∀ hh : k < ps.length, ps[k] = ps[k]) := fun _ => rfl
        generalize ps[k] = p at c0 c1 c2 HO2 hfp
        obtain ⟨s, tg, mn⟩ := p
        obtain ⟨hs9, ht9, hm9⟩ := hfp
        simp only at c0 c1 c2 HO2 hs9 ht9 hm9
        obtain ⟨Wa, hWa⟩ : ∃ Wa, Wa = wr.alloc (.cells #[.int .i64 s, .int .u64 (tg : Int), .int .i64 mn] 71) := ⟨_, rfl⟩
        have hBa : Below X.heap.size X Wa := by rw [hWa]; exact hB.alloc hB.size _
        obtain ⟨bp, hbp⟩ : ∃ bp, bp = wr.heap.size := ⟨_, rfl⟩
        have pb : RowAt Wa bp [.int .i64 s, .int .u64 (tg : Int), .int .i64 mn] 71 := by rw [hWa, hbp]; exact RowAt.new wr [_, _, _] _
        have hki : (k : Int) < (n : Int) := by omega
        have ht9i : (tg : Int) ≤ 18446744073709551615 := by omega
        go_upto_region 6 with fail
        rw [← hWa, ← hbp]
        have x0 : Wa.cell? ⟨bp, 0, none⟩ = some (.int .i64 s) := RowAt.cell pb 0
        have x1 : Wa.cell? ⟨bp, 1, none⟩ = some (.int .u64 (tg : Int)) := RowAt.cell pb 1
        have x2 : Wa.cell? ⟨bp, 2, none⟩ = some (.int .i64 mn) := RowAt.cell pb 2
        clear hWa hbp c0 c1 c2 m0 m1 hcs
        obtain ⟨m0, m1⟩ := MBox.cells (RowAt.below mb hBa)
        by_cases g1 : s < 0
        · have g1' : decide (s < 0) = true := by simpa using g1
          have HR : Hid (R = 2) := HB2.out (by rw [HO2.out, mayB_no (.inl g1)]; rfl)
          go_wp2
          go_ret
          exact ⟨ret_int HR.out.symm, below2 hB0 hBa⟩
        have g1' : decide (s < 0) = false := by simpa using g1
        by_cases g2 : 8 ≤ s
        · have g2' : decide (8 ≤ s) = true := by simpa using g2
          have HR : Hid (R = 2) := HB2.out (by rw [HO2.out, mayB_no (.inr (.inl g2))]; rfl)
          go_wp2
          go_ret
          exact ⟨ret_int HR.out.symm, below2 hB0 hBa⟩
        have g2' : decide (8 ≤ s) = false := by simpa using g2
        by_cases g3 : (tg : Int) < 1
        · have g3' : decide ((tg : Int) < 1) = true := by simpa using g3
          have HR : Hid (R = 2) := HB2.out (by rw [HO2.out, mayB_no (.inr (.inr (.inl g3)))]; rfl)
          go_wp2
          go_ret
          exact ⟨ret_int HR.out.symm, below2 hB0 hBa⟩
        have g3' : decide ((tg : Int) < 1) = false := by simpa using g3
        by_cases g4 : 4611686018427387904 < (tg : Int)
        · have g4' : decide (4611686018427387904 < (tg : Int)) = true := by simpa using g4
          have HR : Hid (R = 2) := HB2.out (by rw [HO2.out, mayB_no (.inr (.inr (.inr (.inl g4))))]; rfl)
          go_wp2
          go_ret
          exact ⟨ret_int HR.out.symm, below2 hB0 hBa⟩
        have g4' : decide (4611686018427387904 < (tg : Int)) = false := by simpa using g4
        by_cases g5 : mn < -1
        · have g5' : decide (mn < -1) = true := by simpa using g5
          have HR : Hid (R = 2) := HB2.out (by rw [HO2.out, mayB_no (.inr (.inr (.inr (.inr (.inl g5)))))]; rfl)
          go_wp2
          go_ret
          exact ⟨ret_int HR.out.symm, below2 hB0 hBa⟩
        have g5' : decide (mn < -1) = false := by simpa using g5
        by_cases g6 : 1048576 < mn
        · have g6' : decide (1048576 < mn) = true := by simpa using g6
          have HR : Hid (R = 2) := HB2.out (by rw [HO2.out, mayB_no (.inr (.inr (.inr (.inr (.inr g6)))))]; rfl)
          go_wp2
          go_ret
          exact ⟨ret_int HR.out.symm, below2 hB0 hBa⟩
        have g6' : decide (1048576 < mn) = false := by simpa using g6
        go_upto_region 8 with fail
        have HYES : Hid ((mn = -1 → k + 1 = n) → mayB (s, tg, mn) (decide (k + 1 = n)) = true) := fun hh => mayB_yes ⟨g1, g2, g3, g4, g5, g6⟩ (fun hm => decide_eq_true (hh hm))
        have HNO : Hid (mn = -1 → k + 1 ≠ n → mayB (s, tg, mn) (decide (k + 1 = n)) = false) := fun hm hh => mayB_open hm (decide_eq_false hh)
        have HT1 : Hid (1 ≤ tg) := by show _ ≤ _; omega
        clear g1 g2 g3 g4 g5 g6 g1' g2' g3' g4' g5' g6' d1 d2 d3
        obtain ⟨BD, hBD⟩ : ∃ BD : Bool, BD = ((decide (mn = -1) && !decide (k + 1 = n)) || (decide (0 < k) && decide (tg ≤ aheadAt ps k))) := ⟨_, rfl⟩
        have HBD : Hid (BD = ((decide (mn = -1) && !decide (k + 1 = n)) || (decide (0 < k) && decide (tg ≤ aheadAt ps k)))) := hBD
        clear hBD
        have ewn : IntKind.i64.wrap ((n : Int) - 1) = (n : Int) - 1 := by rw [IntKind.wrap_i64]; omega
        go_cut [83] (fun v wc => v = .bool BD ∧ Below Wa.heap.size Wa wc)
        case first =>
          clear HO2 HYES HNO HO HB2 HG2
          by_cases hm : mn = -1
          · subst hm
            by_cases hl : k + 1 = n
            · have e2 : ((k : Int) != (n : Int) - 1) = false := by rw [bne_eq_false_iff_eq]; omega
              have HHL : Hid (k + 1 = n) := hl
              clear hl
              by_cases hk0 : k = 0
              · have e3 : decide ((0 : Int) < (k : Int)) = false := by rw [decide_eq_false_iff_not]; omega
                have e3n : decide (0 < k) = false := by rw [decide_eq_false_iff_not]; omega
                have HV : Hid (BD = false) := by show _ = _; rw [HBD.out, decide_eq_false (p := 0 < k) (by omega)]; simp [HHL.out]
                clear hk0
                go_quiet (fail)
                go_wp2_with fail
                go_meet
                exact ⟨by rw [HV.out], below_drewN (Below.refl _ _) _⟩
              · obtain ⟨q, hq⟩ : ∃ q, k = q + 1 := ⟨k - 1, by omega⟩
                obtain ⟨_, _, ef, _, hcs⟩ := (HC.out Wa (below2 hB0 hBa)).form
                injection ef with ef1 ef2 ef3
                have hqp : q < ps.length := by omega
                clear ef2
                obtain ⟨b', i', eb, _, y0, y1, y2⟩ := hcs q hqp
                rw [← ef1] at eb
                injection eb with eb
                injection eb with eb1 eb2
                subst eb1; subst eb2
                have HAH : Hid (aheadAt ps k = ps[q].2.1) := by show _ = _; rw [hq]; exact aheadAt_succ ps q hqp
                obtain ⟨pt, hpt⟩ : ∃ pt, pt = ps[q].2.1 := ⟨_, rfl⟩
                rw [← hpt] at y1 HAH
                have e3 : decide ((0 : Int) < (k : Int)) = true := by rw [decide_eq_true_iff]; omega
                have e3n : decide (0 < k) = true := by rw [decide_eq_true_iff]; omega
                have ewq : (k : Int) - 1 = (q : Int) := by omega
                have ewq2 : IntKind.i64.wrap (q : Int) = (q : Int) := by rw [IntKind.wrap_i64]; omega
                have hji : (q : Int) < (n : Int) := by omega
                (try clear ef1)
                (try clear ef3)
                clear hcs y0 y2 hpt hqp hq hk0
                by_cases ht : tg ≤ pt
                · have e4 : decide ((tg : Int) ≤ (pt : Int)) = true := by rw [decide_eq_true_iff]; omega
                  have e4n : decide (tg ≤ pt) = true := by rw [decide_eq_true_iff]; omega
                  have HV : Hid (BD = true) := by show _ = _; rw [HBD.out, HAH.out, decide_eq_true (p := 0 < k) (by simpa using e3), decide_eq_true ht]; simp
                  go_quiet (fail)
                  go_wp2_with fail
                  go_meet
                  exact ⟨by rw [HV.out], below_drewN (Below.refl _ _) _⟩
                · have e4 : decide ((tg : Int) ≤ (pt : Int)) = false := by rw [decide_eq_false_iff_not]; omega
                  have e4n : decide (tg ≤ pt) = false := by rw [decide_eq_false_iff_not]; omega
                  have HV : Hid (BD = false) := by show _ = _; rw [HBD.out, HAH.out, decide_eq_false (p := tg ≤ pt) ht]; simp [HHL.out]
                  go_quiet (fail)
                  go_wp2_with fail
                  go_meet
                  exact ⟨by rw [HV.out], below_drewN (Below.refl _ _) _⟩
            · have e2 : ((k : Int) != (n : Int) - 1) = true := by rw [bne_iff_ne]; omega
              have HV : Hid (BD = true) := by show _ = _; rw [HBD.out, decide_eq_false hl]; simp
              clear hl
              go_quiet (fail)
              go_wp2_with fail
              go_meet
              exact ⟨by rw [HV.out], below_drewN (Below.refl _ _) _⟩
          · have e1 : (mn == -1) = false := by simpa using hm
            by_cases hk0 : k = 0
            · have e3 : decide ((0 : Int) < (k : Int)) = false := by rw [decide_eq_false_iff_not]; omega
              have e3n : decide (0 < k) = false := by rw [decide_eq_false_iff_not]; omega
              have HV : Hid (BD = false) := by show _ = _; rw [HBD.out, decide_eq_false (p := 0 < k) (by omega)]; simp [hm]
              clear hk0
              go_quiet (fail)
              go_wp2_with fail
              go_meet
              exact ⟨by rw [HV.out], below_drewN (Below.refl _ _) _⟩
            · obtain ⟨q, hq⟩ : ∃ q, k = q + 1 := ⟨k - 1, by omega⟩
              obtain ⟨_, _, ef, _, hcs⟩ := (HC.out Wa (below2 hB0 hBa)).form
              injection ef with ef1 ef2 ef3
              have hqp : q < ps.length := by omega
              clear ef2
              obtain ⟨b', i', eb, _, y0, y1, y2⟩ := hcs q hqp
              rw [← ef1] at eb
              injection eb with eb
              injection eb with eb1 eb2
              subst eb1; subst eb2
              have HAH : Hid (aheadAt ps k = ps[q].2.1) := by show _ = _; rw [hq]; exact aheadAt_succ ps q hqp
              obtain ⟨pt, hpt⟩ : ∃ pt, pt = ps[q].2.1 := ⟨_, rfl⟩
              rw [← hpt] at y1 HAH
              have e3 : decide ((0 : Int) < (k : Int)) = true := by rw [decide_eq_true_iff]; omega
              have e3n : decide (0 < k) = true := by rw [decide_eq_true_iff]; omega
              have ewq : (k : Int) - 1 = (q : Int) := by omega
              have ewq2 : IntKind.i64.wrap (q : Int) = (q : Int) := by rw [IntKind.wrap_i64]; omega
              have hji : (q : Int) < (n : Int) := by omega
              (try clear ef1)
              (try clear ef3)
              clear hcs y0 y2 hpt hqp hq hk0
              by_cases ht : tg ≤ pt
              · have e4 : decide ((tg : Int) ≤ (pt : Int)) = true := by rw [decide_eq_true_iff]; omega
                have e4n : decide (tg ≤ pt) = true := by rw [decide_eq_true_iff]; omega
                have HV : Hid (BD = true) := by show _ = _; rw [HBD.out, HAH.out, decide_eq_true (p := 0 < k) (by simpa using e3), decide_eq_true ht]; simp
                go_quiet (fail)
                go_wp2_with fail
                go_meet
                exact ⟨by rw [HV.out], below_drewN (Below.refl _ _) _⟩
              · have e4 : decide ((tg : Int) ≤ (pt : Int)) = false := by rw [decide_eq_false_iff_not]; omega
                have e4n : decide (tg ≤ pt) = false := by rw [decide_eq_false_iff_not]; omega
                have HV : Hid (BD = false) := by show _ = _; rw [HBD.out, HAH.out, decide_eq_false (p := tg ≤ pt) ht]; simp [hm]
                go_quiet (fail)
                go_wp2_with fail
                go_meet
                exact ⟨by rw [HV.out], below_drewN (Below.refl _ _) _⟩
        case rest =>
          obtain ⟨rfl, hbc⟩ := hcut
          have hBc := below2 hBa hbc
          have pbc := RowAt.below pb hbc
          cases BD
          · have HNB : Hid (¬ (mn = -1 ∧ k + 1 ≠ n) ∧ ¬ (0 < k ∧ tg ≤ aheadAt ps k)) := by
              have h1 := HBD.out.symm
              rw [Bool.or_eq_false_iff] at h1
              constructor
              · rintro ⟨ha, hb⟩; rw [decide_eq_true ha, decide_eq_false hb] at h1; simp at h1
              · rintro ⟨ha, hb⟩; rw [decide_eq_true ha, decide_eq_true hb] at h1; simp at h1
            have HAT : Hid (aheadAt ps k < tg) := by
              by_cases hk0 : k = 0
              · subst hk0
                show (0 : Nat) < tg
                exact HT1.out
              · have := HNB.out.2; show _ < _; omega
            have HM1 : Hid (mayB (s, tg, mn) (decide (k + 1 = n)) = true) := HYES.out (fun hm => by have := HNB.out.1; omega)
            obtain ⟨_, _, ef, hnc, hcm⟩ := Disk.HasRow.slice (HC.out wc (below2 hB0 hBc))
            injection ef with ef1 ef2 ef3
            clear ef2
            subst ef3
            (try clear ef1)
            clear HYES HNO HBD m0 m1 x0 x1 x2
            obtain ⟨m0, m1⟩ := MBox.cells (RowAt.below mb hBc)
            have hkc : (k : Int) ≤ (c : Int) := by omega
            have hci : (c : Int) ≤ 9223372036854775807 := by omega
            go_wp2_with fail
            go_loopw [89] (fun i wr => ∃ l : Nat, l ≤ k ∧ i = .int .i64 l ∧ Below wc.heap.size wc wr ∧ Hid ((ps.take l).any (fun q => q.1 == s) = false)) (fun i _ => k - (intOf i).toNat)
            case atStart => exact ⟨0, by omega, rfl, Below.refl _ _, rfl⟩
            case round =>
              obtain ⟨l, hl, rfl, hBl, HL⟩ := hrel
              have hBx := below2 hBc hBl
              by_cases hll : l < k
              · obtain ⟨_, _, ef, _, hcs⟩ := (HC.out wr (below2 hB0 hBx)).form
                injection ef with ef1 ef2 ef3
                have hlp : l < ps.length := by omega
                clear ef2
                obtain ⟨b', i', eb, _, y0, y1, y2⟩ := hcs l hlp
                rw [← ef1] at eb
                injection eb with eb
                injection eb with eb1 eb2
                subst eb1; subst eb2
                have HTK : Hid (ps.take (l + 1) = ps.take l ++ [ps[l]]) := List.take_succ_eq_append_getElem hlp
                have HIN : Hid (ps[l] ∈ ps.take k) := List.mem_take_iff_getElem.2 ⟨l, by omega, rfl⟩
                generalize ps[l] = q at y0 y1 y2 HTK HIN
                obtain ⟨s2, t2, n2⟩ := q
                simp only at y0 y1 y2
                obtain ⟨Wq, hWq⟩ : ∃ Wq, Wq = wr.alloc (.cells #[.int .i64 s2, .int .u64 (t2 : Int), .int .i64 n2] 71) := ⟨_, rfl⟩
                have hBq : Below wc.heap.size wc Wq := by rw [hWq]; exact hBl.alloc hBl.size _
                obtain ⟨bq, hbq⟩ : ∃ bq, bq = wr.heap.size := ⟨_, rfl⟩
                have qb : RowAt Wq bq [.int .i64 s2, .int .u64 (t2 : Int), .int .i64 n2] 71 := by rw [hWq, hbq]; exact RowAt.new wr [_, _, _] _
                have hli : (l : Int) < (k : Int) := by omega
                (try clear ef1)
                (try clear ef3)
                clear hcs hlp
                go_upto_region 13 with fail
                rw [← hWq, ← hbq]
                have z0 : Wq.cell? ⟨bq, 0, none⟩ = some (.int .i64 s2) := RowAt.cell qb 0
                have z1 : Wq.cell? ⟨bp, 0, none⟩ = some (.int .i64 s) := RowAt.cell (RowAt.below pbc hBq) 0
                clear hWq hbq y0 y1 y2 qb
                by_cases hss : s2 = s
                · have e5 : (s2 == s) = true := by simpa using hss
                  have HR : Hid (R = 2) := HB2.out (by
                    have h5 : (ps.take k).any (fun q => q.1 == s) = true := List.any_eq_true.2 ⟨_, HIN.out, by simpa using hss⟩
                    rw [HO2.out, seenAt_has, h5]; simp)
                  clear hss
                  go_wp2
                  go_ret
                  exact ⟨ret_int HR.out.symm, below2 hB0 (below2 hBc hBq)⟩
                · have e5 : (s2 == s) = false := by simpa using hss
                  have HL2 : Hid ((ps.take (l + 1)).any (fun q => q.1 == s) = false) := by
                    show _ = _
                    rw [HTK.out, List.any_append, HL.out]; simpa using hss
                  clear hss
                  go_wp2_with fail
                  go_roundw
                  case rel => exact ⟨l + 1, by omega, by go_num, hBq, HL2⟩
                  case measure => simp [intOf]; omega
              · obtain rfl : l = k := by omega
                have HO3 : Hid (okP [] 0 ps = okP (seenAt ps (l + 1)) (aheadAt ps (l + 1)) (ps.drop (l + 1))) := by
                  show _ = _
                  have h4 : decide (aheadAt ps l < tg) = true := decide_eq_true_iff.2 HAT.out
                  rw [HO2.out, HM1.out, seenAt_has, HL.out, h4]; simp
                go_wp2_with fail
                go_roundw
                case rel => exact ⟨l + 1, by omega, by go_num, hBx, HO3⟩
                case measure => simp [intOf]; omega
          · have HR : Hid (R = 2) := HB2.out (by
              have h1 := HBD.out.symm
              rw [Bool.or_eq_true] at h1
              rcases h1 with h1 | h1
              · rw [Bool.and_eq_true, decide_eq_true_iff, Bool.not_eq_true', decide_eq_false_iff_not] at h1
                rw [HO2.out, HNO.out h1.1 h1.2]; rfl
              · rw [Bool.and_eq_true, decide_eq_true_iff, decide_eq_true_iff] at h1
                rw [HO2.out, decide_eq_false (p := aheadAt ps k < tg) (by omega)]; simp)
            go_wp2
            go_ret
            exact ⟨ret_int HR.out.symm, below2 hB0 hBc⟩
      · obtain rfl : k = n := by omega
        have HR : Hid (R = 0) := HG2.out (by rw [HO.out, HN.out, List.drop_length]; rfl)
        go_wp2
        go_ret
        exact ⟨ret_int HR.out.symm, below2 hB0 hB⟩
end Go.Proofs.Ytajcmgccclemdaa.Man
