/- For every disk and every crash: spoorlaw03.DiskTorn returns true, and changes nothing that was there. No condition. -/
import Derived.Test.YtakcfmgaaopkmaaRows
import Derived.Test.YtakcfmgaaopkmaaDiskLives
import Derived.Test.YtakcfmgaaopkmaaMathTorn
import Derived.Test.YtakcfmgaaopkmaaDiskOpen
import Derived.ProofKit
import Derived.OpenShut
import Derived.ShutString
import Derived.SizedLaws
set_option linter.unusedVariables false
namespace Go.Proofs.Ytakcfmgaaopkmaa
namespace diskTorn
open Go.ChangeShapes Go.WideShapes Go.ChangeAt Go.RowKit
open Go.ChangeMaps (open_string shut_string)
open Go.Proofs.Ytakcfmgaaopkmaa.Disk

theorem own : ownKnob Try.prog.godebug = none := by kernel_rfl
theorem laidOut : laidOutB Try.prog = true := by kernel_rfl
theorem str_eq (a b : List UInt8) : ((⟨a.toArray⟩ : ByteArray).toList == (⟨b.toArray⟩ : ByteArray).toList) = (a == b) := by
  rw [Bool.eq_iff_iff]; simp [ByteArray.toList_eq]
theorem byte_eq (a b : UInt8) : ((a.toNat : Int) == (b.toNat : Int)) = (a == b) := by
  rw [Bool.eq_iff_iff]
  simp only [beq_iff_eq]
  constructor
  · intro h; exact UInt8.toNat_inj.1 (by omega)
  · intro h; rw [h]

set_option maxHeartbeats 4000000 in
set_option maxRecDepth 20000 in
theorem walk (v0 : Value) (D0 : Dk) (v1 : Value) (z1 : List Bool) (a2 a3 : Int) (w : World) (b0 : HasDk w v0 D0) (f0 : Fits D0) (b1 : HasRow w v1 1 z1.length (z1.map Value.bool)) (b2 : -9223372036854775808 ≤ a2 ∧ a2 ≤ 9223372036854775807) (b3 : -9223372036854775808 ≤ a3 ∧ a3 ≤ 9223372036854775807) :
    Calls Try.prog 6 #[v0, v1, .int .i64 a2, .int .i64 a3] w fun e w' => e = .returned (.bool true) ∧ Below w.heap.size w w' := by
  have hv : ∀ w, Calls Try.prog 16 #[] w fun e w' => e = .returned (.bool true) ∧ Below w.heap.size w w' := lives_any
  obtain ⟨so, sc, co, cc, rfl, hs, hc⟩ := b0.parts
  obtain ⟨ko, kc, rfl, hk1, hk2⟩ := HasRow.slice b1
  have cck := fun w' (hb : Below w.heap.size w w') => check_any D0 _ w' (b0.keep hb) f0
  obtain ⟨W0, hW0⟩ : ∃ W0, W0 = w.alloc (.cells #[.slice so D0.secs.length sc, .slice co D0.cache.length cc, .int .i64 D0.fuse, .bool D0.off] 25) := ⟨_, rfl⟩
  have vb0 : VBox W0 w.heap.size (.slice so D0.secs.length sc) (.slice co D0.cache.length cc) (.int .i64 D0.fuse) (.bool D0.off) := by rw [hW0]; exact heap_alloc_new _ _
  have hB0 : Below w.heap.size w W0 := by rw [hW0]; exact (Below.refl _ w).alloc (Nat.le_refl _) _
  by_cases hok : okB D0 = true
  · have hOK := ok_of hok
    rw [checkE_ok hok] at cck
    by_cases hfew : D0.cache.length ≤ 50
    · have hfew' : decide ((50 : Int) < (D0.cache.length : Int)) = false := by simp; omega
      have ccr := fun w' (hb : Below w.heap.size w w') => (crash_fn D0 _ (.slice ko z1.length kc) z1 a2 a3 w' (b0.keep hb) f0 (b1.keep' hb) b2 b3).mono (fun e w' h => back_of h)
      rw [outD_ok hOK] at ccr
      have HW : Hid (∀ k, k < D0.secs.length → wholeB (D0.secs.getD k []) ((settleF (partN z1 a2 a3) 0 D0.secs D0.cache).getD k []) D0.cache k D0.cache.length = true ∨ ∃ t : Nat, a2 = (t : Int) ∧ ∃ ht : t < D0.cache.length, D0.cache[t].1 = (k : Int)) := fun k hk => torn_whole hOK z1 a2 a3 k hk
      have HBy : Hid (∀ k i, k < D0.secs.length → i < 128 → byteB ((D0.secs.getD k []).getD i 0) (((settleF (partN z1 a2 a3) 0 D0.secs D0.cache).getD k []).getD i 0) D0.cache k i D0.cache.length = true) := fun k i hk hi => torn_bytes hOK _ (partN_le z1 a2 a3) k i hk hi
      have HE8 : Hid (∀ z ∈ settleF (partN z1 a2 a3) 0 D0.secs D0.cache, z.length = 128) := settleF_all _ (partN_le z1 a2 a3) D0.cache 0 D0.secs hOK.whole hOK.puts
      have HEl : Hid ((settleF (partN z1 a2 a3) 0 D0.secs D0.cache).length = D0.secs.length) := settleF_len _ _ _ _
      have HC8 : Hid (∀ p ∈ D0.cache, p.2.length = 128) := fun p hp => (hOK.puts p hp).2
      have HS8 : Hid (∀ z ∈ D0.secs, z.length = 128) := hOK.whole
      have hnl := hOK.many
      unfold crashD at ccr
      unfold Back at ccr
      simp only at ccr
      rw [HEl.out] at ccr
      have HSS : Hid (∀ wr, Below w.heap.size w wr → HasStrs wr (.slice so D0.secs.length sc) D0.secs ∧ HasPuts wr (.slice co D0.cache.length cc) D0.cache) := fun wr hb => ⟨hs.keep hb, hc.keep hb⟩
      generalize settleF (partN z1 a2 a3) 0 D0.secs D0.cache = SE at *
      clear hs hc b0 f0 b1 hok hOK
      go_enter Try.func6, Try.ntmps6
      go_wp2_with fail
      rw [← hW0]
      go_at_call 16; refine (hv _).mono ?_; rintro e w1 ⟨rfl, hb⟩
      have hW := below2 hB0 hb
      have vb1 := vb0.below hb
      obtain ⟨q0, q1, q2, q3, qf⟩ := vb1.cells
      clear hW0
      go_wp2_with fail
      go_at_call 18; refine (cck _ hW).mono ?_; rintro e w2 ⟨rfl, hb2⟩
      have hW2 := below2 hW hb2
      have vb2 := vb1.below hb2
      obtain ⟨r0, r1, r2, r3, rf⟩ := vb2.cells
      go_wp2_with fail
      go_at_call 20; refine (ccr _ hW2).mono ?_; rintro e w3 ⟨so3, sc3, co3, cc3, rfl, hs3, hc3, hb3⟩
      simp only [List.length_nil] at hc3 ⊢
      obtain ⟨W3, hW3⟩ : ∃ W3, W3 = w3.alloc (.cells #[.slice so3 D0.secs.length sc3, .slice co3 0 cc3, .int .i64 (-1), .bool false] 25) := ⟨_, rfl⟩
      have hbn : Below w3.heap.size w3 W3 := by rw [hW3]; exact (Below.refl _ _).alloc (Nat.le_refl _) _
      have vbe : VBox W3 w3.heap.size (.slice so3 D0.secs.length sc3) (.slice co3 0 cc3) (.int .i64 (-1)) (.bool false) := by rw [hW3]; exact heap_alloc_new _ _
      have hs3' := hs3.keep hbn
      have hb23 := below2 hb3 hbn
      have hW3' := below2 hW2 hb23
      have vb3 := vb2.below hb23
      go_upto_region 6 with fail
      rw [← hW3]
      obtain ⟨t0, t1, t2, t3, tf⟩ := vbe.cells
      obtain ⟨u0, u1, u2, u3, uf⟩ := vb3.cells
      clear hW3 q0 q1 q2 q3 qf r0 r1 r2 r3 rf hs3 hc3
      go_wp2_with fail
      have HV3 : Hid (VBox W3 w.heap.size (.slice so D0.secs.length sc) (.slice co D0.cache.length cc) (.int .i64 D0.fuse) (.bool D0.off)) := vb3
      have HSE : Hid (HasStrs W3 (.slice so3 D0.secs.length sc3) SE) := hs3'
      clear t0 t1 t2 t3 tf u0 u1 u2 u3 uf vb3 hs3' vb0 vb1 vb2 vbe
      obtain ⟨n, hn⟩ : ∃ n, n = D0.secs.length := ⟨_, rfl⟩
      obtain ⟨m, hm⟩ : ∃ m, m = D0.cache.length := ⟨_, rfl⟩
      have HN : Hid (n = D0.secs.length) := hn
      have HMm : Hid (m = D0.cache.length) := hm
      simp only [← hn, ← hm] at HV3 HSE HSS hnl hfew ⊢
      clear hn hm
      go_loopw [68] (fun i wr => ∃ k : Nat, k ≤ n ∧ i = .int .i64 k ∧ Below W3.heap.size W3 wr) (fun i _ => n - (intOf i).toNat)
      case atStart => exact ⟨0, by omega, rfl, Below.refl _ _⟩
      case round =>
        obtain ⟨k, hk, rfl, hB⟩ := hrel
        obtain ⟨wa, hwa⟩ : ∃ wa, wa = wr := ⟨_, rfl⟩
        subst hwa
        by_cases hlt : k < n
        · have hkz : k < D0.secs.length := by rw [← HN.out]; exact hlt
          have hke : k < SE.length := by rw [HEl.out]; exact hkz
          have hBw := hW3'.trans (hB.mono hW3'.size)
          obtain ⟨g1, i1, rfl, hg1, c1⟩ := HasStrs.cell (HSE.out.keep hB) k hke
          obtain ⟨g2, i2, rfl, hg2, c2⟩ := HasStrs.cell (HSS.out _ hBw).1 k hkz
          obtain ⟨u0, u1, u2, u3, uf⟩ := (HV3.out.below hB).cells
          have hWk := HW.out k hkz
          have hBk := fun i => HBy.out k i hkz
          have hs8 := HE8.out SE[k] (List.getElem_mem hke)
          have ho8 := HS8.out D0.secs[k] (List.getElem_mem hkz)
          rw [show SE.getD k [] = SE[k] from by simp [hke], show D0.secs.getD k [] = D0.secs[k] from by simp [hkz]] at hWk
          simp only [show SE.getD k [] = SE[k] from by simp [hke], show D0.secs.getD k [] = D0.secs[k] from by simp [hkz]] at hBk
          generalize SE[k] = s at c1 hWk hBk hs8
          generalize D0.secs[k] = o at c2 hWk hBk ho8
          unfold strV at c1 c2
          have HST : Hid (((⟨s.toArray⟩ : ByteArray).toList == (⟨o.toArray⟩ : ByteArray).toList) = wholeB o s D0.cache k 0) := by show _ = _; rw [str_eq]; simp [wholeB]
          have HSI : Hid (∀ p : List UInt8, ((⟨p.toArray⟩ : ByteArray).toList == (⟨s.toArray⟩ : ByteArray).toList) = (p == s)) := fun p => str_eq p s
          have hS8 : (⟨s.toArray⟩ : ByteArray).size = 128 := by rw [size_list]; exact hs8
          have hO8 : (⟨o.toArray⟩ : ByteArray).size = 128 := by rw [size_list]; exact ho8
          have HSG : Hid (∀ i (hi : i < 128), (⟨s.toArray⟩ : ByteArray)[i]'(by rw [hS8]; exact hi) = s.getD i 0) := fun i hi => by
            have : i < s.length := by omega
            show s.toArray[i]'_ = _
            simp [this]
          have HOG : Hid (∀ i (hi : i < 128), (⟨o.toArray⟩ : ByteArray)[i]'(by rw [hO8]; exact hi) = o.getD i 0) := fun i hi => by
            have : i < o.length := by omega
            show o.toArray[i]'_ = _
            simp [this]
          have HWk : Hid (wholeB o s D0.cache k D0.cache.length = true ∨ ∃ t : Nat, a2 = (t : Int) ∧ ∃ ht : t < D0.cache.length, D0.cache[t].1 = (k : Int)) := hWk
          have HBk : Hid (∀ i, i < 128 → byteB (o.getD i 0) (s.getD i 0) D0.cache k i D0.cache.length = true) := hBk
          clear hWk hBk hs8 ho8
          generalize (⟨s.toArray⟩ : ByteArray) = S at *
          generalize (⟨o.toArray⟩ : ByteArray) = O at *
          obtain ⟨B0, hB0'⟩ : ∃ B0, B0 = (S.toList == O.toList) := ⟨_, rfl⟩
          have HB0 : Hid (B0 = wholeB o s D0.cache k 0) := by rw [hB0']; exact HST.out
          have hB00 := hB0'.symm
          clear hB0' HST
          go_wp2_with fail
          go_loopw [13, 83] (fun b i wr2 => ∃ (j : Nat) (B : Bool), j ≤ m ∧ i = .int .i64 j ∧ b = .bool B ∧ B = wholeB o s D0.cache k j ∧ Below wa.heap.size wa wr2) (fun _ i _ => m - (intOf i).toNat)
          case atStart => exact ⟨0, B0, by omega, rfl, rfl, HB0.out, Below.refl _ _⟩
          case round =>
            obtain ⟨j, BB, hj, rfl, rfl, hBB, hB2⟩ := hrel
            obtain ⟨wr2, hwr2⟩ : ∃ wr2, wr2 = wr := ⟨_, rfl⟩
            subst hwr2
            by_cases hjm : j < m
            · have hjz : j < D0.cache.length := by rw [← HMm.out]; exact hjm
              have hBw2 := hBw.trans (hB2.mono hBw.size)
              obtain ⟨g3, i3, rfl, hg3, d1, d2⟩ := HasPuts.cell (HSS.out _ hBw2).2 j hjz
              have HWS : Hid _ := wholeB_succ o s D0.cache k j hjz
              generalize D0.cache[j] = p at d1 d2 HWS
              obtain ⟨pa, pd⟩ := p
              simp only at d1 d2 HWS
              have HBB : Hid (BB = wholeB o s D0.cache k j) := hBB
              have hpS := HSI.out pd
              unfold strV at d2
              generalize (⟨pd.toArray⟩ : ByteArray) = PD at d2 hpS
              obtain ⟨Y, hY⟩ : ∃ Y, Y = (pd == s) := ⟨_, rfl⟩
              rw [← hY] at hpS HWS
              obtain ⟨X, hX⟩ : ∃ X, X = (pa == (k : Int)) := ⟨_, rfl⟩
              rw [← hX] at HWS
              rw [← HBB.out] at HWS
              have hX' := hX.symm
              clear hBB hY hX HBB
              have hal := hB2.alloc hB2.size (.cells #[.int .i64 pa, .string PD] 44)
              cases BB with
              | true =>
                go_wp2_with fail
                go_roundw
                case rel => exact ⟨j + 1, true, by omega, by go_num, rfl, by rw [HWS.out]; rfl, hal⟩
                case measure => simp [intOf]; omega
              | false =>
                cases X with
                | true =>
                  go_wp2_with fail
                  go_roundw
                  case rel => exact ⟨j + 1, Y, by omega, by go_num, rfl, by rw [HWS.out]; rfl, hal⟩
                  case measure => simp [intOf]; omega
                | false =>
                  go_wp2_with fail
                  go_roundw
                  case rel => exact ⟨j + 1, false, by omega, by go_num, rfl, by rw [HWS.out]; rfl, hal⟩
                  case measure => simp [intOf]; omega
            · obtain rfl : j = m := by omega
              have HBB : Hid (BB = wholeB o s D0.cache k D0.cache.length) := by rw [hBB, HMm.out]; rfl
              clear hBB
              have hB3 : Below W3.heap.size W3 wr2 := hB.trans (hB2.mono hB.size)
              have hBw3 := hBw.trans (hB2.mono hBw.size)
              have HV4 : Hid (VBox wr2 w.heap.size (.slice (some ⟨g2, i2, none⟩) n sc) (.slice co j cc) (.int .i64 D0.fuse) (.bool D0.off)) := HV3.out.below hB3
              obtain ⟨x0, x1, x2, x3, xf⟩ := HV4.out.cells
              have hfin : BB = true ∨ (BB = false ∧ ∃ (t : Nat) (g4 i4 : Nat), a2 = (t : Int) ∧ t < j ∧ co = some ⟨g4, i4, none⟩ ∧ wr2.cell? ⟨g4, i4 + t * 2, none⟩ = some (.int .i64 (k : Int))) := by
                cases hb : BB with
                | true => exact .inl rfl
                | false =>
                  right
                  refine ⟨rfl, ?_⟩
                  rcases HWk.out with h | ⟨t, e1, ht, e2⟩
                  · rw [HBB.out, h] at hb; cases hb
                  · obtain ⟨g4, i4, e3, _, e4, _⟩ := HasPuts.cell (HSS.out _ hBw3).2 t ht
                    rw [e2] at e4
                    exact ⟨t, g4, i4, e1, by rw [HMm.out]; exact ht, e3, e4⟩
              clear HBB
              have hc2w : ∀ wr3, Below wr2.heap.size wr2 wr3 → wr3.cell? ⟨g2, i2 + k, none⟩ = some (.string O) := fun wr3 hb => by
                have h1 := (hb.cell (p := ⟨g2, i2 + k, none⟩) (Nat.lt_of_lt_of_le hg2 hB2.size))
                rw [h1, (hB2.cell (p := ⟨g2, i2 + k, none⟩) hg2)]; exact c2
              rcases hfin with rfl | ⟨rfl, t, g4, i4, ha2, htj, rfl, hct⟩
              · go_wp2_with fail
                go_loopw [126] (fun i wr3 => ∃ q : Nat, q ≤ 128 ∧ i = .int .i64 q ∧ Below wr2.heap.size wr2 wr3) (fun i _ => 128 - (intOf i).toNat)
                case atStart => exact ⟨0, by omega, rfl, Below.refl _ _⟩
                case round =>
                  obtain ⟨q, hq, rfl, hB4⟩ := hrel
                  obtain ⟨wr3, hwr3⟩ : ∃ wr3, wr3 = wr := ⟨_, rfl⟩
                  subst hwr3
                  by_cases hq8 : q < 128
                  · have hqS : q < S.size := by omega
                    have hqO : q < O.size := by omega
                    have cO := hc2w _ hB4
                    obtain ⟨y0, y1, y2, y3, yf⟩ := (HV4.out.below hB4).cells
                    have hki : (k : Int) < (n : Int) := by omega
                    have hqi : (q : Int) < 128 := by omega
                    have hbS := HSG.out q hq8
                    have hbO := HOG.out q hq8
                    have HB1 : Hid (((S[q].toNat : Int) == (O[q].toNat : Int)) = byteB (o.getD q 0) (s.getD q 0) D0.cache k q 0) := by show _ = _; rw [byte_eq, hbS, hbO]; simp [byteB]
                    have HSq : Hid (S[q] = s.getD q 0) := hbS
                    have hfb := HBk.out q hq8
                    have HFB : Hid (byteB (o.getD q 0) (s.getD q 0) D0.cache k q D0.cache.length = true) := hfb
                    clear hbS hbO hfb
                    go_wp2_with fail
                    go_quiet (fail)
                    go_wp2_with fail
                    go_loopw [17, 143] (fun b i wr4 => ∃ (jj : Nat) (B : Bool), jj ≤ j ∧ i = .int .i64 jj ∧ b = .bool B ∧ B = byteB (o.getD q 0) (s.getD q 0) D0.cache k q jj ∧ Below wr2.heap.size wr2 wr4) (fun _ i _ => j - (intOf i).toNat)
                    case atStart => exact ⟨0, _, by omega, rfl, rfl, HB1.out, by first | exact hB4 | exact hB4.drew | exact below_drewN hB4 _⟩
                    case round =>
                      obtain ⟨jj, BB, hjj, rfl, rfl, hBB, hB5⟩ := hrel
                      obtain ⟨wr4, hwr4⟩ : ∃ wr4, wr4 = wr := ⟨_, rfl⟩
                      subst hwr4
                      by_cases hjm : jj < j
                      · have hjz : jj < D0.cache.length := by rw [← HMm.out]; exact hjm
                        have hBw5 := hBw3.trans (hB5.mono hBw3.size)
                        obtain ⟨g3, i3, hco, hg3, d1, d2⟩ := HasPuts.cell (HSS.out _ hBw5).2 jj hjz
                        subst hco
                        have HWS : Hid _ := byteB_succ (o.getD q 0) (s.getD q 0) D0.cache k q jj hjz
                        have hp8 := HC8.out D0.cache[jj] (List.getElem_mem hjz)
                        generalize D0.cache[jj] = p at d1 d2 HWS hp8
                        obtain ⟨pa, pd⟩ := p
                        simp only at d1 d2 HWS hp8
                        rw [← hBB] at HWS
                        have hP8 : (⟨pd.toArray⟩ : ByteArray).size = 128 := by rw [size_list]; exact hp8
                        have hqP : q < (⟨pd.toArray⟩ : ByteArray).size := by omega
                        have hPq : (⟨pd.toArray⟩ : ByteArray)[q] = pd.getD q 0 := by
                          have : q < pd.length := by omega
                          show pd.toArray[q]'_ = _
                          simp [this]
                        have HYY : Hid ((((⟨pd.toArray⟩ : ByteArray)[q].toNat : Int) == (S[q].toNat : Int)) = (pd.getD q 0 == s.getD q 0)) := by show _ = _; rw [byte_eq, hPq, HSq.out]
                        unfold strV at d2
                        generalize (⟨pd.toArray⟩ : ByteArray) = PD at d2 hP8 hqP HYY
                        obtain ⟨X, hX⟩ : ∃ X, X = (pa == (k : Int)) := ⟨_, rfl⟩
                        rw [← hX] at HWS
                        have hX' := hX.symm
                        clear hBB hX hPq hp8
                        have hal := hB5.alloc hB5.size (.cells #[.int .i64 pa, .string PD] 44)
                        cases BB with
                        | true =>
                          go_wp2_with fail
                          go_quiet (fail)
                          go_wp2_with fail
                          go_roundw
                          case rel => exact ⟨jj + 1, true, by omega, by go_num, rfl, by rw [HWS.out]; rfl, by first | exact hal | exact hal.drew | exact below_drewN hal _⟩
                          case measure => simp [intOf]; omega
                        | false =>
                          cases X with
                          | true =>
                            go_wp2_with fail
                            go_quiet (fail)
                            go_wp2_with fail
                            go_roundw
                            case rel => exact ⟨jj + 1, _, by omega, by go_num, rfl, by rw [HWS.out, HYY.out]; rfl, by first | exact hal | exact hal.drew | exact below_drewN hal _⟩
                            case measure => simp [intOf]; omega
                          | false =>
                            go_wp2_with fail
                            go_quiet (fail)
                            go_wp2_with fail
                            go_roundw
                            case rel => exact ⟨jj + 1, false, by omega, by go_num, rfl, by rw [HWS.out]; rfl, by first | exact hal | exact hal.drew | exact below_drewN hal _⟩
                            case measure => simp [intOf]; omega
                      · obtain rfl : jj = j := by omega
                        have e1 : BB = true := by rw [hBB, HMm.out]; exact HFB.out
                        subst e1
                        clear hBB
                        go_wp2_with fail
                        go_roundw
                        case rel => exact ⟨q + 1, by omega, by go_num, hB5⟩
                        case measure => simp [intOf]; omega
                  · obtain rfl : q = 128 := by omega
                    go_wp2_with fail
                    go_roundw
                    case rel => exact ⟨k + 1, by omega, by go_num, hB3.trans (hB4.mono hB3.size)⟩
                    case measure => simp [intOf]; omega
              · have z1' : decide (a2 < 0) = false := by rw [ha2]; simp
                have z2' : decide ((j : Int) ≤ a2) = false := by rw [ha2]; simp; omega
                have z3' : 0 ≤ a2 ∧ a2 < (j : Int) := by omega
                have z4' : a2.toNat = t := by omega
                rw [← z4'] at hct
                clear ha2 z4'
                go_wp2_with fail
                go_loopw [126] (fun i wr3 => ∃ q : Nat, q ≤ 128 ∧ i = .int .i64 q ∧ Below wr2.heap.size wr2 wr3) (fun i _ => 128 - (intOf i).toNat)
                case atStart => exact ⟨0, by omega, rfl, Below.refl _ _⟩
                case round =>
                  obtain ⟨q, hq, rfl, hB4⟩ := hrel
                  obtain ⟨wr3, hwr3⟩ : ∃ wr3, wr3 = wr := ⟨_, rfl⟩
                  subst hwr3
                  by_cases hq8 : q < 128
                  · have hqS : q < S.size := by omega
                    have hqO : q < O.size := by omega
                    have cO := hc2w _ hB4
                    obtain ⟨y0, y1, y2, y3, yf⟩ := (HV4.out.below hB4).cells
                    have hki : (k : Int) < (n : Int) := by omega
                    have hqi : (q : Int) < 128 := by omega
                    have hbS := HSG.out q hq8
                    have hbO := HOG.out q hq8
                    have HB1 : Hid (((S[q].toNat : Int) == (O[q].toNat : Int)) = byteB (o.getD q 0) (s.getD q 0) D0.cache k q 0) := by show _ = _; rw [byte_eq, hbS, hbO]; simp [byteB]
                    have HSq : Hid (S[q] = s.getD q 0) := hbS
                    have hfb := HBk.out q hq8
                    have HFB : Hid (byteB (o.getD q 0) (s.getD q 0) D0.cache k q D0.cache.length = true) := hfb
                    clear hbS hbO hfb
                    go_wp2_with fail
                    go_quiet (fail)
                    go_wp2_with fail
                    go_loopw [17, 143] (fun b i wr4 => ∃ (jj : Nat) (B : Bool), jj ≤ j ∧ i = .int .i64 jj ∧ b = .bool B ∧ B = byteB (o.getD q 0) (s.getD q 0) D0.cache k q jj ∧ Below wr2.heap.size wr2 wr4) (fun _ i _ => j - (intOf i).toNat)
                    case atStart => exact ⟨0, _, by omega, rfl, rfl, HB1.out, by first | exact hB4 | exact hB4.drew | exact below_drewN hB4 _⟩
                    case round =>
                      obtain ⟨jj, BB, hjj, rfl, rfl, hBB, hB5⟩ := hrel
                      obtain ⟨wr4, hwr4⟩ : ∃ wr4, wr4 = wr := ⟨_, rfl⟩
                      subst hwr4
                      by_cases hjm : jj < j
                      · have hjz : jj < D0.cache.length := by rw [← HMm.out]; exact hjm
                        have hBw5 := hBw3.trans (hB5.mono hBw3.size)
                        obtain ⟨g3, i3, hco, hg3, d1, d2⟩ := HasPuts.cell (HSS.out _ hBw5).2 jj hjz
                        injection hco with hco; injection hco with hc1 hc2; subst hc1; subst hc2
                        have HWS : Hid _ := byteB_succ (o.getD q 0) (s.getD q 0) D0.cache k q jj hjz
                        have hp8 := HC8.out D0.cache[jj] (List.getElem_mem hjz)
                        generalize D0.cache[jj] = p at d1 d2 HWS hp8
                        obtain ⟨pa, pd⟩ := p
                        simp only at d1 d2 HWS hp8
                        rw [← hBB] at HWS
                        have hP8 : (⟨pd.toArray⟩ : ByteArray).size = 128 := by rw [size_list]; exact hp8
                        have hqP : q < (⟨pd.toArray⟩ : ByteArray).size := by omega
                        have hPq : (⟨pd.toArray⟩ : ByteArray)[q] = pd.getD q 0 := by
                          have : q < pd.length := by omega
                          show pd.toArray[q]'_ = _
                          simp [this]
                        have HYY : Hid ((((⟨pd.toArray⟩ : ByteArray)[q].toNat : Int) == (S[q].toNat : Int)) = (pd.getD q 0 == s.getD q 0)) := by show _ = _; rw [byte_eq, hPq, HSq.out]
                        unfold strV at d2
                        generalize (⟨pd.toArray⟩ : ByteArray) = PD at d2 hP8 hqP HYY
                        obtain ⟨X, hX⟩ : ∃ X, X = (pa == (k : Int)) := ⟨_, rfl⟩
                        rw [← hX] at HWS
                        have hX' := hX.symm
                        clear hBB hX hPq hp8
                        have hal := hB5.alloc hB5.size (.cells #[.int .i64 pa, .string PD] 44)
                        cases BB with
                        | true =>
                          go_wp2_with fail
                          go_quiet (fail)
                          go_wp2_with fail
                          go_roundw
                          case rel => exact ⟨jj + 1, true, by omega, by go_num, rfl, by rw [HWS.out]; rfl, by first | exact hal | exact hal.drew | exact below_drewN hal _⟩
                          case measure => simp [intOf]; omega
                        | false =>
                          cases X with
                          | true =>
                            go_wp2_with fail
                            go_quiet (fail)
                            go_wp2_with fail
                            go_roundw
                            case rel => exact ⟨jj + 1, _, by omega, by go_num, rfl, by rw [HWS.out, HYY.out]; rfl, by first | exact hal | exact hal.drew | exact below_drewN hal _⟩
                            case measure => simp [intOf]; omega
                          | false =>
                            go_wp2_with fail
                            go_quiet (fail)
                            go_wp2_with fail
                            go_roundw
                            case rel => exact ⟨jj + 1, false, by omega, by go_num, rfl, by rw [HWS.out]; rfl, by first | exact hal | exact hal.drew | exact below_drewN hal _⟩
                            case measure => simp [intOf]; omega
                      · obtain rfl : jj = j := by omega
                        have e1 : BB = true := by rw [hBB, HMm.out]; exact HFB.out
                        subst e1
                        clear hBB
                        go_wp2_with fail
                        go_roundw
                        case rel => exact ⟨q + 1, by omega, by go_num, hB5⟩
                        case measure => simp [intOf]; omega
                  · obtain rfl : q = 128 := by omega
                    go_wp2_with fail
                    go_roundw
                    case rel => exact ⟨k + 1, by omega, by go_num, hB3.trans (hB4.mono hB3.size)⟩
                    case measure => simp [intOf]; omega
        · go_wp2
          go_ret
          exact ⟨rfl, hW3'.trans (hB.mono hW3'.size)⟩
    · have hfew' : decide ((50 : Int) < (D0.cache.length : Int)) = true := by simp; omega
      clear hs hc b0 f0 b1 hok hOK hfew
      go_enter Try.func6, Try.ntmps6
      go_wp2_with fail
      rw [← hW0]
      go_at_call 16; refine (hv _).mono ?_; rintro e w1 ⟨rfl, hb⟩
      have hW := below2 hB0 hb
      have vb1 := vb0.below hb
      obtain ⟨q0, q1, q2, q3, qf⟩ := vb1.cells
      clear hW0
      go_wp2_with fail
      go_at_call 18; refine (cck _ hW).mono ?_; rintro e w2 ⟨rfl, hb2⟩
      obtain ⟨r0, r1, r2, r3, rf⟩ := (vb1.below hb2).cells
      go_wp2
      go_ret
      exact ⟨rfl, below2 hW hb2⟩
  · have hok' : okB D0 = false := by simpa using hok
    rw [checkE_bad hok'] at cck
    clear hs hc b0 f0 b1 hok hok'
    go_enter Try.func6, Try.ntmps6
    go_wp2_with fail
    rw [← hW0]
    go_at_call 16; refine (hv _).mono ?_; rintro e w1 ⟨rfl, hb⟩
    have hW := below2 hB0 hb
    have vb1 := vb0.below hb
    obtain ⟨q0, q1, q2, q3, qf⟩ := vb1.cells
    clear hW0
    go_wp2_with fail
    go_at_call 18; refine (cck _ hW).mono ?_; rintro e w2 ⟨rfl, hb2⟩
    go_wp2
    go_ret
    exact ⟨rfl, below2 hW hb2⟩

set_option maxRecDepth 100000 in
theorem lifted (os : Os) (started : os.Started) (H : Type) (enc : TypeId × Value → H) :
    ReturnsInHanded {} Try.checked os 6 .any (Rows.diskTornSpec.pre6 enc Try.prog Try.f6 Rows.diskTornRow.domain false) (Rows.diskTornSpec.post enc Try.prog Try.f6 false true false false) := by
  refine returnsInHanded_of_change_sized (C := Try.checked) own started (by kernel_rfl) Try.func6
    (ChangeSpec.witness6 (enc := enc) (C := Try.checked) false ⟨#[], #[.agg #[.slice none 0 0, .slice none 0 0, .int .i64 0, .bool false], .slice none 0 0, .int .i64 0, .int .i64 0], []⟩ 8 (by kernel_rfl) (by kernel_rfl) (by kernel_rfl) (by kernel_rfl)) ?_
  intro W base args ds gs before hval0 hW _ hsz0 _
  have hsz : (DataW.weightsEach Try.prog (Try.f6.params.toList ++ Rows.diskTornSpec.plain.varTypes Try.prog) (ds ++ gs)).all (· ≤ reachBytes) = true := hsz0
  clear hsz0
  have hval : ∀ (j : Nat) t v, Try.f6.params[j]? = some t → args[j]? = some v → Value.okWide Try.prog W .any base t v := hval0
  have hW' := hW
  obtain ⟨p, q, hA0, hV, rfl, hfz, hnd⟩ := hW
  have hA : DataW.TrodAll enc Try.prog W 0 (fun _ => true) true Try.f6.params.toList args.toList ds p := hA0
  rw [Try.params6] at hA hval hsz
  obtain ⟨v0, vs0, d0, ds0, p0, q0, hargs, rfl, rfl, h0, r0⟩ := trodAll_cons hA
  obtain ⟨v1, vs1, d1, ds1, p1, q1, rfl, rfl, rfl, h1, r1⟩ := trodAll_cons r0
  obtain ⟨v2, vs2, d2, ds2, p2, q2, rfl, rfl, rfl, h2, r2⟩ := trodAll_cons r1
  obtain ⟨v3, vs3, d3, ds3, p3, q3, rfl, rfl, rfl, h3, r3⟩ := trodAll_cons r2
  obtain ⟨rfl, rfl, rfl⟩ := trodAll_nil r3
  obtain rfl : args = #[v0, v1, v2, v3] := by cases args; simp_all
  obtain ⟨rfl, rfl⟩ := trodVars_none hV
  have k0 := h0
  have lt0 : ∀ x ∈ p0, x.block < W.heap.size := by obtain ⟨m, hm⟩ := k0; exact DataW.trod_lt m _ _ _ hm
  obtain ⟨D0, b0, f0⟩ := Disk.open_disk (hval 0 25 v0 rfl rfl) h0
  obtain ⟨a1, len1, cap1, rfl⟩ := okWide_slice Try.underlying37 (hval 1 37 v1 rfl rfl)
  have k1 := h1
  have lt1 : ∀ x ∈ p1, x.block < W.heap.size := by obtain ⟨m, hm⟩ := k1; exact DataW.trod_lt m _ _ _ hm
  obtain ⟨fuel1, hf1⟩ := h1
  obtain ⟨z1, b1⟩ := Disk.open_bools_row hf1
  obtain ⟨a2, rfl, rfl, rfl, w2⟩ := open_int Try.underlying3 (hval 2 3 v2 rfl rfl) h2
  have b2 : -9223372036854775808 ≤ a2 ∧ a2 ≤ 9223372036854775807 := by simpa [Lit.wf, IntKind.min, IntKind.max, IntKind.signed, IntKind.bits] using w2
  obtain ⟨a3, rfl, rfl, rfl, w3⟩ := open_int Try.underlying3 (hval 3 3 v3 rfl rfl) h3
  have b3 : -9223372036854775808 ≤ a3 ∧ a3 ≤ 9223372036854775807 := by simpa [Lit.wf, IntKind.min, IntKind.max, IntKind.signed, IntKind.bits] using w3
  clear hA0 hval0
  refine (walk v0 D0 (.slice a1 len1 cap1) z1 a2 a3 W b0 f0 b1 b2 b3).mono fun e W' ⟨he, bel⟩ => ?_
  subst he
  exact ⟨_, rfl, _, _, _, [], _, [], hW', trodAll_mk1 (shut_bool Try.underlying4 _), (trodAll_cons_mk (Below.trod laidOut (by kernel_rfl) (of_decide_eq_true (by kernel_rfl)) k0 bel lt0) (trodAll_cons_mk (Below.trod laidOut (by kernel_rfl) (of_decide_eq_true (by kernel_rfl)) k1 bel lt1) (trodAll_cons_mk (shut_int Try.underlying3 w2) (trodAll_cons_mk (shut_int Try.underlying3 w3) trodAll_mk0)))), rfl, bel.frame _, fun h => by cases h⟩

theorem over : Rows.diskTornRow.holds Try.pinned (OpenSpec.ofChange Rows.diskTornSpec) :=
  OpenClaim.holds_of_wide 6 Try.f6 rfl rfl rfl rfl rfl rfl rfl ⟨rfl, rfl, rfl, rfl, rfl⟩ rfl rfl rfl rfl rfl (by kernel_rfl) Try.func6 (by kernel_rfl)
    (of_decide_eq_true (by kernel_rfl)) (by unfold Func.isWrapper; first | (rw [if_pos (by decide +kernel)]; kernel_rfl) | (rw [if_neg (by decide +kernel)]; exact ⟨rfl, rfl⟩))
    (fun os started H enc _ => lifted os started H enc)
end diskTorn
theorem dtorn_holds : Rows.DiskTornSaid := diskTorn.over
#print axioms dtorn_holds
end Go.Proofs.Ytakcfmgaaopkmaa
