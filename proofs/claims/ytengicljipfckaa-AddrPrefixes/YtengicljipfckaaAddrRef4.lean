/- What the document's Has, Covers and Halves return. -/
import Derived.Test.YtengicljipfckaaAddrRef3
set_option linter.unusedVariables false
namespace Go.Proofs.Ytengicljipfckaa.Addr
open Go.RowKit

theorem has_bits {p : Pf} {a : Nat} (hok : okP p = true) (hr : rightB p.six a = true) :
    ((∀ j, j < p.len.toNat → p.n.testBit (wideN p.six - 1 - j) = a.testBit (wideN p.six - 1 - j)) → hasB p p.six a = true) ∧ (∀ j, j < p.len.toNat → p.n.testBit (wideN p.six - 1 - j) ≠ a.testBit (wideN p.six - 1 - j) → hasB p p.six a = false) := by
  have hk : kP p = wideN p.six - p.len.toNat := rfl
  have hle := (okP_iff.1 hok).1
  have ha : a < 2 ^ wideN p.six := of_decide_eq_true hr
  have hn := okP_lt hok
  have h0 := okP_zero hok
  have key : firstN (kP p) a = p.n ↔ p.n / 2 ^ kP p = a / 2 ^ kP p := by
    unfold firstN
    have h1 := Nat.div_add_mod a (2 ^ kP p)
    have h2 := Nat.div_add_mod p.n (2 ^ kP p)
    constructor
    · intro h
      have : 2 ^ kP p * (p.n / 2 ^ kP p) = 2 ^ kP p * (a / 2 ^ kP p) := by omega
      exact Nat.eq_of_mul_eq_mul_left (Nat.two_pow_pos _) this
    · intro h
      rw [h] at h2
      omega
  have hb := div_eq_bits (k := kP p) hn ha
  unfold hasB
  rw [hok, hr]
  simp only [decide_true, Bool.true_and]
  constructor
  · intro h
    apply decide_eq_true
    rw [key, hb]
    intro j h1 h2
    have := h (wideN p.six - 1 - j) (by omega)
    rwa [show wideN p.six - 1 - (wideN p.six - 1 - j) = j by omega] at this
  · intro j hj hne
    apply decide_eq_false
    rw [key, hb]
    intro h
    exact hne (h _ (by omega) (by omega))
set_option maxHeartbeats 4000000 in
set_option maxRecDepth 20000 in
theorem rhas_any (p : Pf) (six : Bool) (a : Nat) (w : World) (hl : -9223372036854775808 ≤ p.len ∧ p.len ≤ 9223372036854775807) (hn : p.n < 2 ^ 128) (ha : a < 2 ^ 128) : Calls Try.prog 23 #[pfV p, .bool six, adV a] w fun e w' => e = .returned (.bool (hasB p six a)) ∧ Below w.heap.size w w' := by
  have cc := fun w => rcheck_any p w hl hn
  have cr := fun w => rright_any six a w ha
  obtain ⟨X, hX⟩ : ∃ X, X = (w.alloc (.cells #[.bool p.six, .int .u64 (hiN p.n : Int), .int .u64 (loN p.n : Int), .int .i64 p.len] 33)).alloc (.cells #[.int .u64 (hiN a : Int), .int .u64 (loN a : Int)] 24) := ⟨_, rfl⟩
  have hB0 : Below w.heap.size w X := by rw [hX]; exact below_new (below_new (Below.refl _ _) _) _
  have r0 : RowAt X w.heap.size [.bool p.six, .int .u64 (hiN p.n : Int), .int .u64 (loN p.n : Int), .int .i64 p.len] 33 := by rw [hX]; exact (RowAt.new _ _ _).alloc _
  have r1 : RowAt X (w.heap.size + 1) [.int .u64 (hiN a : Int), .int .u64 (loN a : Int)] 24 := by rw [hX, ← World.size_alloc w (.cells #[.bool p.six, .int .u64 (hiN p.n : Int), .int .u64 (loN p.n : Int), .int .i64 p.len] 33)]; exact RowAt.new _ _ _
  cases hok : okP p
  · rw [checkP_bad hok] at cc
    rw [has_bad hok]
    clear hok
    unfold pfV adV at *
    generalize hiN p.n = h at *
    generalize loN p.n = l at *
    generalize hiN a = ah at *
    generalize loN a = al at *
    generalize p.six = sx at *
    generalize p.len = len at *
    clear hl hn ha cr
    go_enter Try.func23, Try.ntmps23
    go_wp2_with fail
    go_at_call 21; refine (cc _).mono ?_; rintro e w2 ⟨rfl, hb2⟩
    rw [← hX] at hb2
    have hW := below2 hB0 hb2
    clear hX cc hB0 r0 r1 hb2
    go_wp2_with fail
    go_ret
    exact ⟨rfl, hW⟩
  rw [checkP_ok hok] at cc
  by_cases hs : p.six = six
  · subst hs
    cases hr : rightB p.six a
    · rw [hr] at cr
      rw [has_wrong hr]
      clear hr hok
      unfold pfV adV at *
      generalize hiN p.n = h at *
      generalize loN p.n = l at *
      generalize hiN a = ah at *
      generalize loN a = al at *
      generalize p.six = sx at *
      generalize p.len = len at *
      clear hl hn ha
      go_enter Try.func23, Try.ntmps23
      go_wp2_with fail
      go_at_call 21; refine (cc _).mono ?_; rintro e w2 ⟨rfl, hb2⟩
      rw [← hX] at hb2
      have hW := below2 hB0 hb2
      obtain ⟨q0, q1, q2, q3, qf⟩ := cells4 (r0.below hb2)
      obtain ⟨p0, p1, pf⟩ := cells2 (r1.below hb2)
      clear hX cc hB0 r0 r1 hb2
      go_wp2_with fail
      go_at_call 13; refine (cr _).mono ?_; rintro e w3 ⟨rfl, hb3⟩
      have hW := below2 hW hb3
      clear cr
      go_wp2_with fail
      go_ret
      exact ⟨rfl, hW⟩
    · rw [hr] at cr
      obtain ⟨hA, hC⟩ := has_bits hok hr
      have c1 := fun w => rbits_any p.six p.n w hn
      have c2 := fun w => rbits_any p.six a w ha
      unfold BitsIs at c1 c2
      rw [bitL_len] at c1 c2
      have hle := (okP_iff.1 hok).1
      have hWl := wideN_le p.six
      generalize hasB p p.six a = R at *
      obtain ⟨sx, n, len⟩ := p
      simp only at *
      obtain ⟨W, hWd⟩ : ∃ W, W = wideN sx := ⟨_, rfl⟩
      rw [← hWd] at c1 c2 hA hC hle hWl
      obtain ⟨L, hL⟩ : ∃ L : Nat, len = (L : Int) := ⟨len.toNat, by omega⟩
      subst hL
      rw [Int.toNat_natCast] at hA hC
      have hLW : L ≤ W := by omega
      have hWi : (W : Int) ≤ 128 := by omega
      have HA : Hid ((∀ j, j < L → n.testBit (W - 1 - j) = a.testBit (W - 1 - j)) → R = true) := hA
      have HC : Hid (∀ j, j < L → n.testBit (W - 1 - j) ≠ a.testBit (W - 1 - j) → R = false) := hC
      clear hr hok hA hC hl hn ha hWd hle
      unfold pfV adV at *
      simp only at *
      generalize hiN n = h at *
      generalize loN n = l at *
      generalize hiN a = ah at *
      generalize loN a = al at *
      go_enter Try.func23, Try.ntmps23
      go_wp2_with fail
      go_at_call 21; refine (cc _).mono ?_; rintro e w2 ⟨rfl, hb2⟩
      rw [← hX] at hb2
      have hW := below2 hB0 hb2
      have r0 := r0.below hb2
      have r1 := r1.below hb2
      obtain ⟨q0, q1, q2, q3, qf⟩ := cells4 r0
      obtain ⟨p0, p1, pf⟩ := cells2 r1
      clear hX cc hB0 hb2
      go_wp2_with fail
      go_at_call 13; refine (cr _).mono ?_; rintro e w3 ⟨rfl, hb3⟩
      have hW := below2 hW hb3
      have r0 := r0.below hb3
      have r1 := r1.below hb3
      clear q0 q1 q2 q3 qf p0 p1 pf cr hb3
      go_upto_region 3 with fail
      have HSK : Hid (∀ V, Below w3.heap.size w3 V → (V.cell? ⟨w.heap.size, 1, none⟩ = some (.int .u64 (h : Int)) ∧ V.cell? ⟨w.heap.size, 2, none⟩ = some (.int .u64 (l : Int)) ∧ V.cell? ⟨w.heap.size + 1, 0, none⟩ = some (.int .u64 (ah : Int)) ∧ V.cell? ⟨w.heap.size + 1, 1, none⟩ = some (.int .u64 (al : Int)))) := fun V hb => ⟨(r0.below hb).cell 1, (r0.below hb).cell 2, (r1.below hb).cell 0, (r1.below hb).cell 1⟩
      have HR0 : Hid (∀ V, Below w3.heap.size w3 V → V.cell? ⟨w.heap.size, 3, none⟩ = some (.int .i64 (L : Int))) := fun V hb => (r0.below hb).cell 3
      go_cut [7, 8] (fun x y wc => ∃ g1 g2, x = .slice (some ⟨g1, 0, none⟩) W W ∧ y = .slice (some ⟨g2, 0, none⟩) W W ∧ RowAt wc g1 (celN (bitL W n)) 3 ∧ RowAt wc g2 (celN (bitL W a)) 3 ∧ Below w3.heap.size w3 wc)
      case first =>
        have hbA : Below w3.heap.size w3 w3 := Below.refl _ _
        clear r0 r1 HR0
        go_region_held3 (fun w' => w'.cell? ⟨w.heap.size, 1, none⟩ = some (.int .u64 (h : Int)) ∧ w'.cell? ⟨w.heap.size, 2, none⟩ = some (.int .u64 (l : Int)) ∧ w'.cell? ⟨w.heap.size + 1, 0, none⟩ = some (.int .u64 (ah : Int)) ∧ w'.cell? ⟨w.heap.size + 1, 1, none⟩ = some (.int .u64 (al : Int)))
          (first
            | (refine HSK.out _ ?_
               repeat' (first | with_reducible exact hbA | with_reducible apply below_drew)))
          (first
            | (go_at_call 34; with_reducible refine (c1 _).mono ?_; rintro e w4 ⟨g1, rfl, hg1, hrow1, hb4⟩
               have hbN : Below w3.heap.size w3 w4 := below2 (by repeat' (first | with_reducible exact hbA | with_reducible apply below_drew)) hb4
               clear hbA hb4 hg1
               have hbA := hbN
               clear hbN)
            | (go_at_call 34; with_reducible refine (c2 _).mono ?_; rintro e w5 ⟨g2, rfl, hg2, hrow2, hb5⟩
               have hbN : Below w3.heap.size w3 w5 := below2 (by repeat' (first | with_reducible exact hbA | with_reducible apply below_drew)) hb5
               have hrow1' := hrow1.below hb5
               clear hbA hb5 hg2
               have hbA := hbN
               clear hbN))
        go_wp2_with fail
        go_meet
        exact ⟨g1, g2, rfl, rfl, hrow1', hrow2, hbA⟩
      case rest =>
        obtain ⟨g1, g2, rfl, rfl, hrow1, hrow2, hbc⟩ := hcut
        have hW := below2 hW hbc
        have q3 := HR0.out wc hbc
        have HC1 : Hid (∀ j, j < W → wc.cell? ⟨g1, j, none⟩ = some (.int .i64 ((n.testBit (W - 1 - j)).toNat : Int))) := fun j hj => by
          rw [hrow1.cell, celN_get _ _ (by rw [bitL_len]; exact hj), bitL_get W n j hj]
        have HC2 : Hid (∀ j, j < W → wc.cell? ⟨g2, j, none⟩ = some (.int .i64 ((a.testBit (W - 1 - j)).toNat : Int))) := fun j hj => by
          rw [hrow2.cell, celN_get _ _ (by rw [bitL_len]; exact hj), bitL_get W a j hj]
        have HQ3 : Hid (∀ V : World, V.heap = wc.heap → V.cell? ⟨w.heap.size, 3, none⟩ = some (.int .i64 (L : Int))) := fun V hV => by rw [← q3]; unfold World.cell?; rw [hV]
        clear hrow1 hrow2 hbc HSK HR0 r0 r1 c1 c2 q3
        go_wp2_with fail
        go_loopw [9] (fun i wr => ∃ k : Nat, k ≤ L ∧ i = .int .i64 (k : Int) ∧ Hid (∀ j, j < k → n.testBit (W - 1 - j) = a.testBit (W - 1 - j)) ∧ wr.heap = wc.heap ∧ Below w.heap.size w wr) (fun i _ => L - (intOf i).toNat)
        case atStart => exact ⟨0, by omega, rfl, (fun j hj => by omega), rfl, hW⟩
        case round =>
          obtain ⟨k, hk, rfl, HK, hh, hb⟩ := hrel
          clear hW
          have q3 := HQ3.out wr hh
          by_cases hlt : k < L
          · have hki : (k : Int) < (L : Int) := by omega
            have hkw : (k : Int) < (W : Int) := by omega
            have e1 : wr.cell? ⟨g1, k, none⟩ = some (.int .i64 ((n.testBit (W - 1 - k)).toNat : Int)) := by rw [← HC1.out k (by omega)]; unfold World.cell?; rw [hh]
            have e2 : wr.cell? ⟨g2, k, none⟩ = some (.int .i64 ((a.testBit (W - 1 - k)).toNat : Int)) := by rw [← HC2.out k (by omega)]; unfold World.cell?; rw [hh]
            have HH : Hid (wr.heap = wc.heap) := hh
            by_cases heq : n.testBit (W - 1 - k) = a.testBit (W - 1 - k)
            · have HK2 : Hid (∀ j, j < k + 1 → n.testBit (W - 1 - j) = a.testBit (W - 1 - j)) := fun j hj => by
                by_cases hjk : j < k
                · exact HK.out j hjk
                · rw [show j = k by omega]; exact heq
              rw [heq] at e1
              generalize ((a.testBit (W - 1 - k)).toNat : Int) = z at e1 e2
              clear hh heq
              go_wp2_with fail
              go_region
              go_wp2_with fail
              go_roundw
              case rel => exact ⟨k + 1, by omega, by go_num, HK2, HH.out, below_drew hb⟩
              case measure => simp [intOf]; omega
            · have HV : Hid (R = false) := HC.out k hlt heq
              have hzne : (((n.testBit (W - 1 - k)).toNat : Int) != ((a.testBit (W - 1 - k)).toNat : Int)) = true := by
                revert heq; cases n.testBit (W - 1 - k) <;> cases a.testBit (W - 1 - k) <;> simp
              generalize ((n.testBit (W - 1 - k)).toNat : Int) = y at e1 hzne
              generalize ((a.testBit (W - 1 - k)).toNat : Int) = z at e2 hzne
              clear hh heq
              go_wp2_with fail
              go_region
              go_wp2_with fail
              go_ret
              exact ⟨by rw [HV.out]; rfl, below_drew hb⟩
          · obtain rfl : k = L := by omega
            have HV : Hid (R = true) := HA.out HK.out
            clear HK hh
            go_wp2_with fail
            go_ret
            exact ⟨by rw [HV.out]; rfl, hb⟩
  · have hs2 : (p.six != six) = true := by simpa using hs
    have HV : hasB p six a = false := by unfold hasB; rw [decide_eq_false hs]; simp
    rw [HV]
    clear HV hok
    have hs3 : six = !p.six := by revert hs; cases six <;> cases p.six <;> simp
    subst hs3
    unfold pfV adV at *
    generalize hiN p.n = h at *
    generalize loN p.n = l at *
    generalize hiN a = ah at *
    generalize loN a = al at *
    generalize p.six = sx at *
    generalize p.len = len at *
    clear hl hn ha cr hs hs2
    go_enter Try.func23, Try.ntmps23
    go_wp2_with fail
    go_at_call 21; refine (cc _).mono ?_; rintro e w2 ⟨rfl, hb2⟩
    rw [← hX] at hb2
    have hW := below2 hB0 hb2
    obtain ⟨q0, q1, q2, q3, qf⟩ := cells4 (r0.below hb2)
    clear hX cc hB0 r0 r1 hb2
    go_wp2_with fail
    go_ret
    exact ⟨rfl, hW⟩
end Go.Proofs.Ytengicljipfckaa.Addr
