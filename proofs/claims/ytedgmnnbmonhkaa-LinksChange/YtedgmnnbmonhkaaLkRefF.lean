/- The document's Peers of links, walked. -/
import Derived.Test.YtedgmnnbmonhkaaLkRefE
set_option linter.unusedVariables false
namespace Go.Proofs.Ytedgmnnbmonhkaa.Lk
open Go.RowKit
open Go.Proofs.Ytedgmnnbmonhkaa.Addr (RowAt below2 below_drew below_new bset RowAt.lt RowAt.cell RowAt.frozen RowAt.below RowAt.drew RowAt.new RowAt.alloc cells2 RowAt.gkeep)
attribute [-go_sem] Builtin.append_
set_option maxHeartbeats 8000000 in
set_option maxRecDepth 20000 in
theorem rpeers_any (l : List Lk) (v : Value) (w : World) (hl : HasLks w v l) :
    Calls Try.prog 18 #[v] w fun e w' => ∃ u, e = .returned (.tuple #[u, .int .i64 (checkL l)]) ∧ HasInts w' u (peersO l) ∧ Below w.heap.size w w' := by
  obtain ⟨o, c, rfl, hc1, hc2⟩ := HasRow.slice hl
  have cc := fun W (hb : Below w.heap.size w W) => rcheck_any l _ W (hl.keep hb)
  have hck : checkL l = if okL l then 0 else 2 := rfl
  rw [hck] at cc ⊢
  cases hok : okL l
  · have hP : peersO l = [] := by unfold peersO; rw [hok]; rfl
    rw [hok] at cc
    simp only [Bool.false_eq_true, if_false] at cc ⊢
    rw [hP]
    go_enter Try.func18, Try.ntmps18
    go_wp2_with fail
    go_at_call 13; refine (cc _ (Below.refl _ _)).mono ?_; rintro e w1 ⟨rfl, hb1⟩
    go_wp2_with fail
    go_ret2
    exact ⟨_, rfl, hasRow_nil _ 1, hb1⟩
  have hlen := okL_len hok
  have hP : peersO l = peersL l := by unfold peersO; rw [hok]; rfl
  rw [hok] at cc
  simp only [if_true] at cc ⊢
  rw [hP]
  have HR : Hid (∀ wr : World, Below w.heap.size w wr → HasLks wr (.slice o l.length c) l) := fun wr hb => hl.keep hb
  obtain ⟨n, hn⟩ : ∃ n, n = l.length := ⟨_, rfl⟩
  have HN : Hid (n = l.length) := hn
  rw [← hn] at HR hc1 hlen cc ⊢
  have hni : (n : Int) ≤ 32 := by omega
  clear hl hn hP hck
  go_enter Try.func18, Try.ntmps18
  go_wp2_with fail
  go_at_call 13; refine (cc _ (Below.refl _ _)).mono ?_; rintro e w1 ⟨rfl, hb1⟩
  have H0 : Hid (w1.ownsRow w.heap.size 3 1 (.slice none 0 0) (peersL (l.take 0)).length (intCs (peersL (l.take 0))) ∧ Below w.heap.size w w1) := ⟨by have h0 := World.ownsRow_nil w1 w.heap.size 3 1; rw [List.take_zero]; exact h0, hb1⟩
  clear hb1 cc
  go_wp2_with fail
  go_loopw [4, 13] (fun u q wr => ∃ k : Nat, k ≤ n ∧ q = .int .i64 k ∧ Hid (wr.ownsRow w.heap.size 3 1 u (peersL (l.take k)).length (intCs (peersL (l.take k))) ∧ Below w.heap.size w wr)) (fun _ q _ => n - (Go.RowKit.intOf q).toNat)
  case atStart => exact ⟨0, by omega, rfl, H0⟩
  case round =>
    obtain ⟨k, hk, rfl, HI⟩ := hrel
    by_cases hlt : k < n
    · have hkz : k < l.length := by rw [← HN.out]; exact hlt
      obtain ⟨g1, i1, rfl, hg1, a0, a1⟩ := HasLks.cell (HR.out _ HI.out.2) k hkz
      have HS : Hid (peersL (l.take (k + 1)) = insP l[k].peer (peersL (l.take k))) := peers_snoc l k hkz
      have HU : Hid ((peersL (l.take k)).Pairwise (· < ·)) := peers_up _
      have HL : Hid ((peersL (l.take k)).length ≤ 32) := by
        have := peers_len (l.take k)
        rw [List.length_take] at this
        show _ ≤ _
        omega
      have hki : (k : Int) < (n : Int) := by omega
      generalize l[k].iface = ra at a0
      generalize l[k].peer = p at a1 HS
      generalize peersL (l.take k) = O at HI HS HU HL
      obtain ⟨hO, hbr⟩ := HI.out
      clear HI hg1
      obtain ⟨o1, c1, rfl, hq1, hq2⟩ := HasRow.slice (hasRow_own hO)
      go_upto_region 7 with fail
      obtain ⟨X, hX⟩ : ∃ X, X = wr.alloc (.cells #[.int .i64 ra, .int .i64 p] 24) := ⟨_, rfl⟩
      have hbX : Below wr.heap.size wr X := by rw [hX]; exact below_new (Below.refl _ _) _
      have r0 : RowAt X wr.heap.size [.int .i64 ra, .int .i64 p] 24 := by rw [hX]; exact RowAt.new _ _ _
      rw [← hX]
      have hgo : (Value.slice o1 O.length c1).ownBlock ≠ some wr.heap.size := fun e => by have := (hO.lt _ e).2; omega
      replace hO := own_below hO hbX
      have hbw : Below w.heap.size w X := below2 hbr hbX
      clear hX hbX a0 a1 hbr
      generalize wr.heap.size = gs at r0 hgo ⊢
      have HO : Hid (X.ownsRow w.heap.size 3 1 (.slice o1 O.length c1) O.length (intCs O)) := hO
      have hm := HL.out
      obtain ⟨m, hmd⟩ : ∃ m, m = O.length := ⟨_, rfl⟩
      have HM : Hid (m = O.length) := hmd
      have H1 : Hid (∀ j (h : j < O.length), m ≤ j → p < O[j]) := fun j h hj => by omega
      have hwB : w.heap.size ≤ X.heap.size := hbw.size
      rw [← hmd] at hm hq1 ⊢
      have hmi : (m : Int) ≤ 32 := by omega
      clear hO hmd
      go_wp2_with fail
      go_loopw [7] (fun q wr2 => ∃ i : Nat, i ≤ m ∧ q = .int .i64 i ∧ Hid (∀ j (h : j < O.length), i ≤ j → p < O[j]) ∧ Below X.heap.size X wr2) (fun q _ => (Go.RowKit.intOf q).toNat)
      case atStart => exact ⟨m, Nat.le_refl _, rfl, H1, Below.refl _ _⟩
      case round =>
        obtain ⟨i, hi, rfl, HJ, hbJ⟩ := hrel
        have r2 := RowAt.below r0 hbJ
        obtain ⟨y0, y1, yf⟩ := cells2 r2
        have hli : (i : Int) ≤ 32 := by omega
        by_cases hi0 : 0 < i
        · obtain ⟨b2, i2, rfl, _, b1⟩ := HasInts.cell (l := O) (show HasInts wr (.slice o1 O.length c1) O from hasRow_own (own_below HO.out hbJ)) (i - 1) (by have := HM.out; omega)
          have hip : (0 : Int) < (i : Int) := by omega
          have hsub : (i : Int) - 1 = ((i - 1 : Nat) : Int) := by omega
          have hlt1 : ((i - 1 : Nat) : Int) < (m : Int) := by omega
          have HQ : Hid (∀ h : i - 1 < O.length, O[i - 1] = O[i - 1]) := fun _ => rfl
          generalize hq : O[i - 1]'(by have := HM.out; omega) = q at b1
          have HQ2 : Hid (∀ h : i - 1 < O.length, O[i - 1] = q) := fun _ => hq
          clear HQ hq
          have HBQ : Hid (∀ W : World, Below X.heap.size X W → W.cell? ⟨b2, i2 + (i - 1), none⟩ = some (.int .i64 q)) := fun W hb => by
            obtain ⟨b3, i3, e3, _, c3⟩ := HasInts.cell (l := O) (show HasInts W (.slice (some ⟨b2, i2, none⟩) O.length c1) O from hasRow_own (own_below HO.out hb)) (i - 1) (by have := HM.out; omega)
            injection e3 with e3
            injection e3 with e31 e32
            subst e31 e32
            rw [HQ2.out] at c3
            exact c3
          go_wp2_with fail
          go_quiet (fail)
          obtain ⟨Y, hY⟩ : ∃ Y, Y = wr.drewN nq := ⟨_, rfl⟩
          have hbY : Below X.heap.size X Y := by rw [hY]; exact below_drewN hbJ _
          rw [← hY]
          clear hY b1 y0 y1 yf r2
          by_cases hpq : p < q
          · have hd : decide (p < q) = true := decide_eq_true hpq
            have HJ2 : Hid (∀ j (h : j < O.length), i - 1 ≤ j → p < O[j]) := fun j h hj => by
              by_cases e : j = i - 1
              · subst e; rw [HQ2.out]; exact hpq
              · exact HJ.out j h (by omega)
            go_wp2_with fail
            go_roundw
            case rel => exact ⟨i - 1, by omega, by first | rfl | (rw [← hsub]) | go_num, HJ2, hbY⟩
            case measure => simp [Go.RowKit.intOf]; omega
          · have hd : decide (p < q) = false := decide_eq_false hpq
            have hcq := HBQ.out Y hbY
            have r2 := RowAt.below r0 hbY
            obtain ⟨y0, y1, yf⟩ := cells2 r2
            go_wp2_with fail
            go_quiet (fail)
            obtain ⟨Z, hZ⟩ : ∃ Z, Z = Y.drewN nq := ⟨_, rfl⟩
            have hbZ : Below X.heap.size X Z := by rw [hZ]; exact below_drewN hbY _
            rw [← hZ]
            clear hZ hbY hcq y0 y1 yf r2 HBQ
            have r2 := RowAt.below r0 hbZ
            by_cases hqp : q = p
            · have hqe : (q == p) = true := by simpa using hqp
              have HF : Hid (Z.ownsRow w.heap.size 3 1 (.slice (some ⟨b2, i2, none⟩) m c1) (peersL (l.take (k + 1))).length (intCs (peersL (l.take (k + 1)))) ∧ Below w.heap.size w Z) := by
                have hmem : p ∈ O := by rw [← hqp, ← HQ2.out (by have := HM.out; omega)]; exact List.getElem_mem _
                rw [HS.out, insP_in p O HU.out hmem, HM.out]
                exact ⟨own_below HO.out hbZ, hbw.trans (Below.mono hbZ hwB)⟩
              clear hqp
              go_wp2_with fail
              go_roundw
              case rel => exact ⟨k + 1, by omega, by go_num, by first | exact HF | simpa using HF⟩
              case measure => simp [Go.RowKit.intOf]; omega
            · have hqe : (q == p) = false := beq_eq_false_iff_ne.2 hqp
              have HA : Hid (∀ j (h : j < O.length), j < i → O[j] < p) := fun j h hj => by
                have h1 := HQ2.out (by have := HM.out; omega)
                by_cases e : j = i - 1
                · subst e; omega
                · have h2 := List.pairwise_iff_getElem.1 HU.out j (i - 1) h (by have := HM.out; omega) (by omega)
                  omega
              have HE : Hid (peersL (l.take (k + 1)) = O.take i ++ p :: O.drop i) := by
                show _ = _
                rw [HS.out, insP_at p O i (by have := HM.out; omega) HJ.out HA.out]
              obtain ⟨g, cap, W2, W3, hrun, hcp1, hcp2, hcp, ⟨z, hz⟩, hfz, hown, hBg, hbW3, hBW3, htt⟩ := put_ints (w0 := w) (W := Z) (B := w.heap.size) (O := O) p i (by have := HM.out; omega) (own_below HO.out hbZ) (Nat.le_trans hwB hbZ.size) (hbw.trans (Below.mono hbZ hwB)) (by have := HM.out; omega)
              rw [← HM.out] at hrun hcp1 hcp
              obtain ⟨r3, hgg⟩ := htt gs _ _ r2 hgo (by decide)
              have HF : Hid ((W3.setCell ⟨g, i, none⟩ (.int .i64 p)).ownsRow w.heap.size 3 1 (.slice (some ⟨g, 0, none⟩) (m + 1) cap) (peersL (l.take (k + 1))).length (intCs (peersL (l.take (k + 1)))) ∧ Below w.heap.size w (W3.setCell ⟨g, i, none⟩ (.int .i64 p))) := by
                rw [HE.out, show (O.take i ++ p :: O.drop i).length = m + 1 by have := HM.out; simp; omega]
                refine ⟨?_, bset hbW3 hBg⟩
                have h9 := hown
                rw [← HM.out] at h9
                exact h9
              obtain ⟨y0, y1, yf⟩ := cells2 r3
              clear htt r2 r3 hown hbW3 hBW3 HE HO HJ hbZ
              have mixed : Try.prog.follows Departure.mixedOrders = true := by kernel_rfl
              have hw1 : IntKind.i64.wrap ((i : Int) + 1) = (i : Int) + 1 := by rw [IntKind.wrap_i64]; omega
              have hb1 : (0 : Int) ≤ (i : Int) + 1 := by omega
              have hle1 : (i : Int) + 1 ≤ (m : Int) + 1 := by omega
              have hle2 : (i : Int) ≤ (m : Int) + 1 := by omega
              have him : i ≤ m := by omega
              have htn : ((i : Int) + 1).toNat = i + 1 := by omega
              have hci : ¬ cap = i := by omega
              have hlt2 : (i : Int) < (m : Int) + 1 := by omega
              go_wp2_with fail
              by_cases hcapi : cap = i + 1
              · subst hcapi
                have hm0 : m - i = 0 := by omega
                have hq := hcp 35 3 0 (by have := HM.out; intro h; omega)
                go_region_law_o (refine copy_step rfl _ _ 35 35 rfl (by simp [Act.eval, Act.put, hm0]) (by simp [Act.eval, Act.put]) hq ?_)
                go_wp2_with fail
                go_roundw
                case rel => exact ⟨k + 1, by omega, by go_num, by first | exact HF | simpa using HF⟩
                case measure => simp [Go.RowKit.intOf]; omega
              · have hq := hcp 35 3 (i + 1) (fun _ => rfl)
                go_region_law_o (refine copy_step rfl _ _ 35 35 rfl (by simp [Act.eval, Act.put]) (by simp [Act.eval, Act.put]) hq ?_)
                go_wp2_with fail
                go_roundw
                case rel => exact ⟨k + 1, by omega, by go_num, by first | exact HF | simpa using HF⟩
                case measure => simp [Go.RowKit.intOf]; omega
        · have hip : ¬ ((0 : Int) < (i : Int)) := by omega
          have HA : Hid (∀ j (h : j < O.length), j < i → O[j] < p) := fun j h hj => by omega
          go_wp2_with fail
          go_quiet (fail)
          obtain ⟨Y, hY⟩ : ∃ Y, Y = wr.drewN nq := ⟨_, rfl⟩
          have hbY : Below X.heap.size X Y := by rw [hY]; exact below_drewN hbJ _
          rw [← hY]
          clear hY y0 y1 yf r2
          have r2 := RowAt.below r0 hbY
          obtain ⟨y0, y1, yf⟩ := cells2 r2
          go_wp2_with fail
          go_quiet (fail)
          obtain ⟨Z, hZ⟩ : ∃ Z, Z = Y.drewN nq := ⟨_, rfl⟩
          have hbZ : Below X.heap.size X Z := by rw [hZ]; exact below_drewN hbY _
          rw [← hZ]
          clear hZ hbY y0 y1 yf r2
          have r2 := RowAt.below r0 hbZ
          have HE : Hid (peersL (l.take (k + 1)) = O.take i ++ p :: O.drop i) := by
            show _ = _
            rw [HS.out, insP_at p O i (by have := HM.out; omega) HJ.out HA.out]
          obtain ⟨g, cap, W2, W3, hrun, hcp1, hcp2, hcp, ⟨z, hz⟩, hfz, hown, hBg, hbW3, hBW3, htt⟩ := put_ints (w0 := w) (W := Z) (B := w.heap.size) (O := O) p i (by have := HM.out; omega) (own_below HO.out hbZ) (Nat.le_trans hwB hbZ.size) (hbw.trans (Below.mono hbZ hwB)) (by have := HM.out; omega)
          rw [← HM.out] at hrun hcp1 hcp
          obtain ⟨r3, hgg⟩ := htt gs _ _ r2 hgo (by decide)
          have HF : Hid ((W3.setCell ⟨g, i, none⟩ (.int .i64 p)).ownsRow w.heap.size 3 1 (.slice (some ⟨g, 0, none⟩) (m + 1) cap) (peersL (l.take (k + 1))).length (intCs (peersL (l.take (k + 1)))) ∧ Below w.heap.size w (W3.setCell ⟨g, i, none⟩ (.int .i64 p))) := by
            rw [HE.out, show (O.take i ++ p :: O.drop i).length = m + 1 by have := HM.out; simp; omega]
            refine ⟨?_, bset hbW3 hBg⟩
            have h9 := hown
            rw [← HM.out] at h9
            exact h9
          obtain ⟨y0, y1, yf⟩ := cells2 r3
          clear htt r2 r3 hown hbW3 hBW3 HE HO HJ hbZ
          have mixed : Try.prog.follows Departure.mixedOrders = true := by kernel_rfl
          have hw1 : IntKind.i64.wrap ((i : Int) + 1) = (i : Int) + 1 := by rw [IntKind.wrap_i64]; omega
          have hb1 : (0 : Int) ≤ (i : Int) + 1 := by omega
          have hle1 : (i : Int) + 1 ≤ (m : Int) + 1 := by omega
          have hle2 : (i : Int) ≤ (m : Int) + 1 := by omega
          have him : i ≤ m := by omega
          have htn : ((i : Int) + 1).toNat = i + 1 := by omega
          have hci : ¬ cap = i := by omega
          have hlt2 : (i : Int) < (m : Int) + 1 := by omega
          go_wp2_with fail
          by_cases hcapi : cap = i + 1
          · subst hcapi
            have hm0 : m - i = 0 := by omega
            have hq := hcp 35 3 0 (by have := HM.out; intro h; omega)
            go_region_law_o (refine copy_step rfl _ _ 35 35 rfl (by simp [Act.eval, Act.put, hm0]) (by simp [Act.eval, Act.put]) hq ?_)
            go_wp2_with fail
            go_roundw
            case rel => exact ⟨k + 1, by omega, by go_num, by first | exact HF | simpa using HF⟩
            case measure => simp [Go.RowKit.intOf]; omega
          · have hq := hcp 35 3 (i + 1) (fun _ => rfl)
            go_region_law_o (refine copy_step rfl _ _ 35 35 rfl (by simp [Act.eval, Act.put]) (by simp [Act.eval, Act.put]) hq ?_)
            go_wp2_with fail
            go_roundw
            case rel => exact ⟨k + 1, by omega, by go_num, by first | exact HF | simpa using HF⟩
            case measure => simp [Go.RowKit.intOf]; omega
    · have hkn : decide ((k : Int) < (n : Int)) = false := decide_eq_false (by omega)
      have hte : l.take k = l := by have := HN.out; exact List.take_of_length_le (by omega)
      have HF : Hid (HasInts wr u4 (peersL l) ∧ Below w.heap.size w wr) := by rw [hte] at HI; exact ⟨hasRow_own HI.out.1, HI.out.2⟩
      clear hte HI
      go_wp2_with fail
      go_ret2
      exact ⟨_, rfl, HF.out.1, HF.out.2⟩
end Go.Proofs.Ytedgmnnbmonhkaa.Lk
