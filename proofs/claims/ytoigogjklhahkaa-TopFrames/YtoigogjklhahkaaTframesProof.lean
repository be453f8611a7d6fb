/- For every row of texts, every number, and every way of a crash: spoortop.TopFrames returns true, and changes nothing that was there. No condition. -/
import Derived.Test.YtoigogjklhahkaaRows
import Derived.Test.YtoigogjklhahkaaTopFrM
import Derived.Test.YtoigogjklhahkaaTopBegins
import Derived.Test.YtoigogjklhahkaaMathCut
import Derived.Test.YtoigogjklhahkaaDiskVar
import Derived.Test.YtoigogjklhahkaaDiskOpen
import Derived.Deep.Strs
import Derived.Deep.RegionHeld
import Derived.ProofKit
import Derived.OpenShut
import Derived.ShutString
import Derived.SizedLaws
set_option linter.unusedVariables false
namespace Go.Proofs.Ytoigogjklhahkaa
namespace topFrames
open Go.ChangeShapes Go.WideShapes Go.ChangeAt Go.RowKit
open Go.ChangeMaps (open_string shut_string)
open Go.Proofs.Ytoigogjklhahkaa.Frame
open Go.Proofs.Ytoigogjklhahkaa.Disk (Dk VDk VBox HasRow Back back_of Laid chunk padN laid_make laid_flush laid_step laid_both laid_crash laid_held pad_rest pad_lt pad_all chunk_len chunk_take flushD writeD crashD makeD outD outD_ok allH Fits fits_ok Ok heldD held_ok)

theorem own : ownKnob Try.prog.godebug = none := by kernel_rfl
theorem laidOut : laidOutB Try.prog = true := by kernel_rfl
def szOf : Value → Nat
  | .string s => s.size
  | _ => 0
theorem cut_text (t : List UInt8) (a b : Nat) : (⟨t.toArray⟩ : ByteArray).extract a (a + b) = ⟨((t.drop a).take b).toArray⟩ := by
  apply ByteArray.ext
  simp [ByteArray.data_extract, List.extract_eq_take_drop]
theorem take_len {zs : List (List UInt8)} {k : Nat} (hk : k < zs.length) : catL (zs.take (k + 1)) = catL (zs.take k) ++ frameL zs[k] := by
  rw [List.take_succ_eq_append_getElem hk, catL_snoc]
/-- up to where sectors were flushed, if there is such a place -/
def upK (F : Int) (n : Nat) : Nat := if 0 ≤ F ∧ F < (n : Int) then F.toNat else 0
theorem upK_le (F : Int) (n : Nat) : upK F n ≤ n ∧ (upK F n = 0 ∨ upK F n + 1 ≤ n) := by
  unfold upK; split <;> omega
set_option maxHeartbeats 16000000 in
set_option maxRecDepth 20000 in
theorem core (zs : List (List UInt8)) (len : Nat) (F : Int) (keep : List Bool) (torn bytes : Int) (lo ko : Option Addr) (lc kc : Nat) (w : World)
    (HZ : Hid (∀ j (h : j < zs.length), ∃ b i, lo = some ⟨b, i, none⟩ ∧ w.cell? ⟨b, i + j, none⟩ = some (strV zs[j]) ∧ b < w.heap.size)) (HL : Hid (len = zs.length)) (HZ9 : Hid (∀ z ∈ zs, z.length ≤ 9223372036854775807)) (hl9 : (len : Int) ≤ 9223372036854775807)
    (hF : -9223372036854775808 ≤ F ∧ F ≤ 9223372036854775807)
    (HK : Hid (HasRow w (.slice ko keep.length kc) 1 keep.length (keep.map Value.bool))) (ht : -9223372036854775808 ≤ torn ∧ torn ≤ 9223372036854775807) (hbt : -9223372036854775808 ≤ bytes ∧ bytes ≤ 9223372036854775807) :
    Calls Try.prog 3 #[.slice lo len lc, .int .i64 F, .slice ko keep.length kc, .int .i64 torn, .int .i64 bytes] w fun e w' => e = .returned (.bool true) ∧ Below w.heap.size w w' := by
  obtain ⟨kl, hkl⟩ : ∃ n, n = keep.length := ⟨_, rfl⟩
  have HKL : Hid (kl = keep.length) := hkl
  rw [← hkl]
  have HBT : Hid ((-9223372036854775808 ≤ torn ∧ torn ≤ 9223372036854775807) ∧ (-9223372036854775808 ≤ bytes ∧ bytes ≤ 9223372036854775807)) := ⟨ht, hbt⟩
  clear hkl ht hbt
  go_enter Try.func3, Try.ntmps3
  go_wp2_with fail
  go_at_call 4; refine (Frame.begins_any _).mono ?_; rintro e w1 ⟨rfl, hb1⟩
  go_wp2_with fail
  go_loopw [11, 35] (fun s i wr => ∃ (k : Nat) (A : ByteArray), k ≤ len ∧ k ≤ 10 ∧ i = .int .i64 k ∧ s = .string A ∧ A.size ≤ 41020 ∧ Hid (A = ⟨(catL (zs.take k)).toArray⟩ ∧ ∀ z ∈ zs.take k, z.length ≤ 4096) ∧ Below w.heap.size w wr) (fun _ i _ => len - (intOf i).toNat)
  case atStart => exact ⟨0, ⟨#[]⟩, by omega, by omega, rfl, rfl, by decide, ⟨by simp [catL], by simp⟩, hb1⟩
  case round =>
    obtain ⟨k, A, hk, hk10, rfl, rfl, hA9, HA, hB⟩ := hrel
    clear hb1
    by_cases hlt : k < len
    · have hkz : k < zs.length := by rw [← HL.out]; exact hlt
      obtain ⟨b, i, rfl, hcell, hbs⟩ := HZ.out k hkz
      have hc2 := (hB.cell (p := ⟨b, i + k, none⟩) hbs).trans hcell
      have hz9 := HZ9.out zs[k] (List.getElem_mem hkz)
      have HT : Hid (catL (zs.take (k + 1)) = catL (zs.take k) ++ frameL zs[k]) := take_len hkz
      have HM : Hid (zs[k].length ≤ 4096 → ∀ z ∈ zs.take (k + 1), z.length ≤ 4096) := fun hh z hz => by
        rw [List.take_succ_eq_append_getElem hkz, List.mem_append, List.mem_singleton] at hz
        rcases hz with hz | rfl
        · exact HA.out.2 z hz
        · exact hh
      have HC9 : Hid (zs[k].length ≤ 4096 → k < 10 → (catL (zs.take (k + 1))).length ≤ 41020) := fun hh h10 => by
        have := catL_le (zs.take (k + 1)) (HM.out hh)
        rw [List.length_take] at this
        omega
      unfold strV at hc2
      generalize zs[k] = z at hc2 hz9 HT HM HC9
      have hki : (k : Int) < (len : Int) := by omega
      clear hcell
      by_cases h4 : z.length ≤ 4096
      · have cp := fun W => put_ok z W h4
        by_cases h10 : k < 10
        · have h10i : decide ((10 : Int) ≤ (k : Int)) = false := by rw [decide_eq_false_iff_not]; omega
          have h10n : decide (10 ≤ k) = false := by rw [decide_eq_false_iff_not]; omega
          obtain ⟨Fr, hFr⟩ : ∃ X : ByteArray, X = ⟨(frameL z).toArray⟩ := ⟨_, rfl⟩
          rw [← hFr] at cp
          have hfz : Fr.size ≤ 4102 := by rw [hFr, size_list]; exact frameL_le z h4
          have HAA : Hid (A ++ Fr = ⟨(catL (zs.take (k + 1))).toArray⟩) := by
            show _ = _
            rw [HA.out.1, hFr, str_app, HT.out]
          have hsz : (A ++ Fr).size ≤ 41020 := by rw [HAA.out, size_list]; exact HC9.out h4 h10
          have HM2 := HM.out h4
          have HMM : Hid (∀ z ∈ zs.take (k + 1), z.length ≤ 4096) := HM2
          have n1 : ¬ 9223372036854775807 < A.size + Fr.size := by omega
          have HSZ : Hid ((A ++ Fr).size ≤ 41020) := hsz
          clear hFr HM HC9 HT HM2 hsz
          generalize (⟨z.toArray⟩ : ByteArray) = Zb at hc2 cp
          go_wp2_with fail
          go_at_call 5; refine (cp _).mono ?_; rintro e w2 ⟨rfl, hb2⟩
          have hB2 := below2 hB hb2
          clear cp hc2 hb2
          go_wp2_with fail
          go_roundw
          case rel => exact ⟨k + 1, A ++ Fr, by omega, by omega, by go_num, rfl, HSZ.out, ⟨HAA.out, HMM.out⟩, hB2⟩
          case measure => simp [intOf]; omega
        · have h10i : decide ((10 : Int) ≤ (k : Int)) = true := by rw [decide_eq_true_iff]; omega
          have h10n : decide (10 ≤ k) = true := by rw [decide_eq_true_iff]; omega
          generalize (⟨(frameL z).toArray⟩ : ByteArray) = Fr at cp
          generalize (⟨z.toArray⟩ : ByteArray) = Zb at hc2 cp
          clear HM HC9 HT
          go_wp2_with fail
          go_at_call 5; refine (cp _).mono ?_; rintro e w2 ⟨rfl, hb2⟩
          have hB2 := below2 hB hb2
          clear cp hc2 hb2
          go_wp2
          go_ret
          exact ⟨rfl, hB2⟩
      · have cp := fun W => put_long ⟨z.toArray⟩ W (by rw [size_list]; omega) (by rw [size_list]; exact hz9)
        generalize (⟨z.toArray⟩ : ByteArray) = Zb at hc2 cp
        clear HM HC9 HT
        go_wp2_with fail
        go_at_call 5; refine (cp _).mono ?_; rintro e w2 ⟨rfl, hb2⟩
        have hB2 := below2 hB hb2
        clear cp hc2 hb2
        go_wp2
        go_ret
        exact ⟨rfl, hB2⟩
    · obtain rfl : len = k := by omega
      have HCS : Hid (A = ⟨(catL zs).toArray⟩ ∧ (∀ z ∈ zs, z.length ≤ 4096) ∧ zs.length ≤ 10) := by
        have h1 := HA.out
        rw [HL.out, List.take_length] at h1
        exact ⟨h1.1, h1.2, by rw [← HL.out]; exact hk10⟩
      clear HA
      obtain ⟨m, hm⟩ : ∃ m, m = (catL zs).length := ⟨_, rfl⟩
      have HM : Hid (m = (catL zs).length) := hm
      have HAZ : Hid (A.size = m) := by show _ = _; rw [HCS.out.1, size_list, hm]
      have hm9 : m ≤ 41020 := by rw [← HAZ.out]; exact hA9
      clear hm
      go_wp2_with fail
      go_loopw [16] (fun s wr => ∃ (j : Nat) (T : ByteArray), j ≤ padN m ∧ s = .string T ∧ T.size ≤ 41200 ∧ Hid (T.size = m + j ∧ T = ⟨(catL zs ++ List.replicate j 0).toArray⟩) ∧ Below w.heap.size w wr) (fun s _ => 50000 - szOf s)
      case atStart => exact ⟨0, A, by omega, rfl, by omega, ⟨HAZ.out, by rw [HCS.out.1]; simp⟩, hB⟩
      case round =>
        obtain ⟨j, T, hj, rfl, hT9, HT, hB⟩ := hrel
        have hpl := pad_lt m
        have hpr := pad_rest m j hj
        by_cases hjp : j = padN m
        · have hr1 : ((T.size : Int) % 128 != 0) = false := by rw [bne_eq_false_iff_eq]; have := HT.out.1; omega
          have hr2 : ((T.size : Int).tmod 128 != 0) = false := by rw [bne_eq_false_iff_eq, Int.tmod_eq_emod_of_nonneg (by omega)]; have := HT.out.1; omega
          have hr3 : (T.size : Int) % 128 = 0 := by have := HT.out.1; omega
          have hr4 : (T.size % 128 != 0) = false := by rw [bne_eq_false_iff_eq]; have := HT.out.1; omega
          obtain ⟨n, hn1, hn2, hn3⟩ := pad_all m
          have HN : Hid (m + padN m = 128 * n ∧ (0 < m → 128 * (n - 1) < m ∧ 1 ≤ n) ∧ (m = 0 → n = 0)) := ⟨hn1, hn2, hn3⟩
          obtain ⟨t, ht⟩ : ∃ t : List UInt8, t = catL zs ++ List.replicate j 0 := ⟨_, rfl⟩
          have HTT : Hid (T = ⟨t.toArray⟩ ∧ T.size = 128 * n ∧ t.length = 128 * n ∧ t.take m = catL zs) := by
            have h1 := HT.out
            have h3 : T.size = 128 * n := by rw [h1.1, hjp]; exact hn1
            refine ⟨by rw [h1.2, ht], h3, ?_, ?_⟩
            · have : (⟨t.toArray⟩ : ByteArray).size = T.size := by rw [h1.2, ht]
              rw [size_list] at this
              omega
            · rw [ht, List.take_left' HM.out.symm]
          have hn400 : n ≤ 400 := by have := HTT.out.2.1; omega
          have hq1 : (T.size : Int) / 128 = (n : Int) := by have := HTT.out.2.1; omega
          have hq2 : (T.size : Int).tdiv 128 = (n : Int) := by rw [Int.tdiv_eq_ediv_of_nonneg (by omega)]; exact hq1
          have hq3 : T.size / 128 = n := by have := HTT.out.2.1; omega
          have hw1 : IntKind.i64.wrap ((n : Int) + 1) = (n : Int) + 1 := by rw [IntKind.wrap_i64]; omega
          have cmk := fun W => (Disk.make_fn ((n : Int) + 1) W (by omega)).mono (fun e w' h => back_of h)
          have HLD : Hid (Laid t n F 0 (makeD ((n : Int) + 1)).1) := laid_make t n F (by omega)
          rw [show (makeD ((n : Int) + 1)).2 = 0 from (Disk.ok_make (by omega)).2.1] at cmk
          generalize (makeD ((n : Int) + 1)).1 = D0 at cmk HLD
          unfold Back at cmk
          clear ht hn1 hn2 hn3 hjp hpr hpl HT hj
          go_wp2_with fail
          go_at_call 6; refine (cmk _).mono ?_; rintro e w3 ⟨s1, s2, s3, s4, rfl, hs3, hc3, hb3⟩
          obtain ⟨X, hX⟩ : ∃ X, X = w3.alloc (.cells #[.slice s1 D0.secs.length s2, .slice s3 D0.cache.length s4, .int .i64 D0.fuse, .bool D0.off] 30) := ⟨_, rfl⟩
          obtain ⟨bd, hbd⟩ : ∃ b, b = w3.heap.size := ⟨_, rfl⟩
          have hbX : Below w3.heap.size w3 X := by rw [hX]; exact (Below.refl _ _).alloc (Nat.le_refl _) _
          have VD : Hid (VDk X bd D0 ∧ w.heap.size ≤ bd) := by
            have := (below2 hB hb3).size
            exact ⟨by rw [hX, hbd]; exact VDk.new hs3 hc3, by omega⟩
          have hB := below2 hB (below2 hb3 hbX)
          go_upto_region 17 with fail
          rw [← hX, ← hbd]
          clear hX hbd hbX hb3 hs3 hc3 cmk hr1 hr2 hr3 hr4
          by_cases h100 : 100 < n
          · have h1i : decide ((100 : Int) < (n : Int)) = true := by rw [decide_eq_true_iff]; omega
            have h1n : decide (100 < n) = true := by rw [decide_eq_true_iff]; omega
            clear VD HLD
            go_wp2
            go_ret
            exact ⟨rfl, hB⟩
          · have h1i : decide ((100 : Int) < (n : Int)) = false := by rw [decide_eq_false_iff_not]; omega
            have h1n : decide (100 < n) = false := by rw [decide_eq_false_iff_not]; omega
            have hn100 : n ≤ 100 := by omega
            have hni : (n : Int) ≤ 100 := by omega
            clear h100
            go_wp2_with fail
            go_loopw [74] (fun i wr => ∃ (k : Nat) (D : Dk), k ≤ n ∧ i = .int .i64 k ∧ Hid (VDk wr bd D ∧ Laid t n F k D) ∧ Below w.heap.size w wr) (fun i _ => n - (intOf i).toNat)
            case atStart => exact ⟨0, D0, by omega, rfl, ⟨VD.out.1, HLD.out⟩, hB⟩
            case round =>
              obtain ⟨k, D, hk2, rfl, HV, hB⟩ := hrel
              clear HLD
              have hbd0 := VD.out.2
              by_cases hlt2 : k < n
              · have hki : (k : Int) < (n : Int) := by omega
                have k1 : ∀ W, (Instr.slice 9 (.string T) (some (.int .i64 (128 * (k : Int)))) (some (.int .i64 (128 * (k : Int) + 128))) none).run Try.prog W = .ok (.string ⟨(chunk t k).toArray⟩) W := by
                  intro W
                  rw [slice_lh W T Try.underlying9 _ _ (by omega) (by omega) (by have := HTT.out.2.1; omega), show (128 * (k : Int)).toNat = 128 * k by omega, show (128 * (k : Int) + 128).toNat = 128 * k + 128 by omega, HTT.out.1, cut_text]
                  rfl
                have hw2 : IntKind.i64.wrap (128 * (k : Int)) = 128 * (k : Int) := by rw [IntKind.wrap_i64]; omega
                have hw3 : IntKind.i64.wrap (128 * (k : Int) + 128) = 128 * (k : Int) + 128 := by rw [IntKind.wrap_i64]; omega
                obtain ⟨s1, s2, s3, s4, vb, hs, hc⟩ := HV.out.1
                obtain ⟨q0, q1, q2, q3, qf⟩ := vb.cells
                have hLk := HV.out.2
                by_cases hkF : (k : Int) = F
                · have hkF1 : ((k : Int) == F) = true := by rw [beq_iff_eq]; exact hkF
                  have HST : Hid (Laid t n F (k + 1) (writeD (flushD D).1 (k : Int) (chunk t k)).1) := laid_both hLk hkF HTT.out.2.2.1 hlt2 (by omega)
                  have hfok : Ok (flushD D).1 := Disk.flush_ok hLk.ok
                  have hff : (flushD D).1.fuse ≤ 9223372036854775807 := Disk.flush_fuse (by rw [hLk.fuse]; decide)
                  have cf := (Disk.flush_fn D _ wr ⟨_, _, rfl, hs, hc⟩ (fits_ok hLk.ok (by rw [hLk.fuse]; decide))).mono (fun e w' h => back_of h)
                  rw [outD_ok hLk.ok] at cf
                  generalize flushD D = rf at cf HST hfok hff
                  obtain ⟨D1, y1⟩ := rf
                  unfold Back at cf
                  simp only at cf HST hfok hff
                  have HW : Hid (∀ W v, Disk.HasDk W v D1 → Calls Try.prog 8 #[v, .int .i64 (k : Int), Disk.strV (chunk t k)] W (Back (writeD D1 (k : Int) (chunk t k)).1 (writeD D1 (k : Int) (chunk t k)).2 W)) := fun W v hv => by
                    have := (Disk.write_fn D1 v (k : Int) (chunk t k) W hv (fits_ok hfok hff) (by omega) (by rw [chunk_len HTT.out.2.2.1 hlt2]; decide)).mono (fun e w' h => back_of h)
                    rw [outD_ok hfok] at this
                    exact this
                  have HVB : Hid (VDk wr bd D) := HV.out.1
                  have HKF : Hid ((k : Int) = F) := hkF
                  clear hLk HV hfok hff hkF
                  go_wp2_with fail
                  go_at_call 7; refine cf.mono ?_; rintro e w5 ⟨b1, b2, b3, b4, rfl, hs5, hc5, hb5⟩
                  obtain ⟨W5, hW5⟩ : ∃ W5, W5 = (((w5.setCell ⟨bd, 0, none⟩ (.slice b1 D1.secs.length b2)).setCell ⟨bd, 1, none⟩ (.slice b3 D1.cache.length b4)).setCell ⟨bd, 2, none⟩ (.int .i64 D1.fuse)).setCell ⟨bd, 3, none⟩ (.bool D1.off) := ⟨_, rfl⟩
                  have V5 : Hid (VDk W5 bd D1) := by rw [hW5]; exact (HVB.out.below hb5).store hs5 hc5
                  have hB5 : Below w.heap.size w W5 := by rw [hW5]; exact Disk.set4_below (below2 hB hb5) hbd0 _ _ _ _
                  have vb5 := vb.below hb5
                  clear q0 q1 q2 q3 qf vb hs hc cf hs5 hc5 hb5 HVB
                  obtain ⟨q0, q1, q2, q3, qf⟩ := vb5.cells
                  go_upto_region 24 with fail
                  rw [← hW5]
                  clear hW5 q0 q1 q2 q3 qf vb5
                  obtain ⟨s1, s2, s3, s4, vb, hs, hc⟩ := V5.out
                  obtain ⟨q0, q1, q2, q3, qf⟩ := vb.cells
                  have cw := HW.out W5.drew _ ⟨_, _, rfl, hs.keep ((Below.refl _ _).drew), hc.keep ((Below.refl _ _).drew)⟩
                  unfold Disk.strV at cw
                  generalize (⟨(chunk t k).toArray⟩ : ByteArray) = Ck at k1 cw
                  generalize writeD D1 (k : Int) (chunk t k) = r at cw HST
                  obtain ⟨D2, y2⟩ := r
                  unfold Back at cw
                  simp only at cw HST
                  clear HW
                  go_region_with ((go_at_call 8; refine cw.mono ?_; rintro e w6 ⟨a1, a2, a3, a4, rfl, hs6, hc6, hb6⟩; have hb6' : Below W5.heap.size W5 w6 := below2 ((Below.refl _ _).drew) hb6; obtain ⟨g0, g1, g2, g3, gf⟩ := (vb.below hb6').cells))
                  all_goals (have VN : Hid (VDk ((((w6.setCell ⟨bd, 0, none⟩ (.slice a1 D2.secs.length a2)).setCell ⟨bd, 1, none⟩ (.slice a3 D2.cache.length a4)).setCell ⟨bd, 2, none⟩ (.int .i64 D2.fuse)).setCell ⟨bd, 3, none⟩ (.bool D2.off)) bd D2) := (V5.out.below hb6').store hs6 hc6)
                  all_goals (have hBN := Disk.set4_below (below2 hB5 hb6') hbd0 (.slice a1 D2.secs.length a2) (.slice a3 D2.cache.length a4) (.int .i64 D2.fuse) (.bool D2.off))
                  all_goals go_wp2_with fail
                  all_goals go_roundw
                  all_goals first
                    | (case rel => exact ⟨k + 1, D2, by omega, by go_num, ⟨VN.out, HST.out⟩, hBN⟩)
                    | (case measure => simp [intOf]; omega)
                · have hkF1 : ((k : Int) == F) = false := by rw [beq_eq_false_iff_ne]; exact hkF
                  have HST : Hid (Laid t n F (k + 1) (writeD D (k : Int) (chunk t k)).1) := laid_step hLk hkF HTT.out.2.2.1 hlt2 (by omega)
                  have cw := (Disk.write_fn D _ (k : Int) (chunk t k) wr.drew ⟨_, _, rfl, hs.keep ((Below.refl _ _).drew), hc.keep ((Below.refl _ _).drew)⟩ (fits_ok hLk.ok (by rw [hLk.fuse]; decide)) (by omega) (by rw [chunk_len HTT.out.2.2.1 hlt2]; decide)).mono (fun e w' h => back_of h)
                  rw [outD_ok hLk.ok] at cw
                  unfold Disk.strV at cw
                  generalize (⟨(chunk t k).toArray⟩ : ByteArray) = Ck at k1 cw
                  generalize writeD D (k : Int) (chunk t k) = r at cw HST
                  obtain ⟨D2, y2⟩ := r
                  unfold Back at cw
                  simp only at cw HST
                  have HVB : Hid (VDk wr bd D) := HV.out.1
                  clear hLk HV
                  go_upto_region 24 with fail
                  go_region_with ((go_at_call 8; refine cw.mono ?_; rintro e w6 ⟨a1, a2, a3, a4, rfl, hs6, hc6, hb6⟩; have hb6' : Below wr.heap.size wr w6 := below2 ((Below.refl _ _).drew) hb6; obtain ⟨g0, g1, g2, g3, gf⟩ := (vb.below hb6').cells))
                  all_goals (have VN : Hid (VDk ((((w6.setCell ⟨bd, 0, none⟩ (.slice a1 D2.secs.length a2)).setCell ⟨bd, 1, none⟩ (.slice a3 D2.cache.length a4)).setCell ⟨bd, 2, none⟩ (.int .i64 D2.fuse)).setCell ⟨bd, 3, none⟩ (.bool D2.off)) bd D2) := (HVB.out.below hb6').store hs6 hc6)
                  all_goals (have hBN := Disk.set4_below (below2 hB hb6') hbd0 (.slice a1 D2.secs.length a2) (.slice a3 D2.cache.length a4) (.int .i64 D2.fuse) (.bool D2.off))
                  all_goals go_wp2_with fail
                  all_goals go_roundw
                  all_goals first
                    | (case rel => exact ⟨k + 1, D2, by omega, by go_num, ⟨VN.out, HST.out⟩, hBN⟩)
                    | (case measure => simp [intOf]; omega)
              · obtain rfl : k = n := by omega
                obtain ⟨s1, s2, s3, s4, vb, hs, hc⟩ := HV.out.1
                obtain ⟨q0, q1, q2, q3, qf⟩ := vb.cells
                have hLk := HV.out.2
                have ccr := (Disk.crash_fn D _ (.slice ko keep.length kc) keep torn bytes wr ⟨_, _, rfl, hs, hc⟩ (fits_ok hLk.ok (by rw [hLk.fuse]; decide)) (HasRow.keep' HK.out hB) HBT.out.1 HBT.out.2).mono (fun e w' h => back_of h)
                rw [outD_ok hLk.ok, ← HKL.out] at ccr
                have hGok : Ok (crashD D keep torn bytes).1 := Disk.crash_ok hLk.ok keep torn bytes
                have HGF : Hid (Fits (crashD D keep torn bytes).1) := fits_ok hGok (by show (-1 : Int) ≤ _; decide)
                have HGL : Hid ((allH (crashD D keep torn bytes).1).length = k + 1 ∧ (0 ≤ F → F < (k : Int) → ∀ j : Nat, (j : Int) < F → (allH (crashD D keep torn bytes).1)[j]? = some (chunk t j))) := ⟨laid_held hLk keep torn bytes, fun h0 h1 j hj => laid_crash hLk keep torn bytes h0 h1 j hj⟩
                have hy0 : (crashD D keep torn bytes).2 = 0 := rfl
                have HGO : Hid (Ok (crashD D keep torn bytes).1) := hGok
                generalize crashD D keep torn bytes = r at ccr HGF HGL hy0 HGO
                obtain ⟨G, y⟩ := r
                unfold Back at ccr
                simp only at ccr HGF HGL hy0 HGO
                subst hy0
                have HVB : Hid (VDk wr bd D) := HV.out.1
                clear hLk HV hGok
                go_wp2_with fail
                go_at_call 9; refine ccr.mono ?_; rintro e w5 ⟨b1, b2, b3, b4, rfl, hs5, hc5, hb5⟩
                obtain ⟨W5, hW5⟩ : ∃ W5, W5 = (((w5.setCell ⟨bd, 0, none⟩ (.slice b1 G.secs.length b2)).setCell ⟨bd, 1, none⟩ (.slice b3 G.cache.length b4)).setCell ⟨bd, 2, none⟩ (.int .i64 G.fuse)).setCell ⟨bd, 3, none⟩ (.bool G.off) := ⟨_, rfl⟩
                have V5 : Hid (VDk W5 bd G) := by rw [hW5]; exact (HVB.out.below hb5).store hs5 hc5
                have hB5 : Below w.heap.size w W5 := by rw [hW5]; exact Disk.set4_below (below2 hB hb5) hbd0 _ _ _ _
                have vb5 := vb.below hb5
                clear q0 q1 q2 q3 qf vb hs hc ccr hs5 hc5 hb5 HVB
                obtain ⟨q0, q1, q2, q3, qf⟩ := vb5.cells
                go_upto_region 27 with fail
                rw [← hW5]
                clear hW5 q0 q1 q2 q3 qf vb5
                obtain ⟨s1, s2, s3, s4, vb, hs, hc⟩ := V5.out
                obtain ⟨q0, q1, q2, q3, qf⟩ := vb.cells
                have chd := Disk.held_fn G _ W5 ⟨_, _, rfl, hs, hc⟩ HGF.out
                rw [held_ok HGO.out] at chd
                unfold Disk.StrsIs at chd
                simp only at chd
                generalize allH G = Hl at chd HGL
                go_wp2_with fail
                go_at_call 10; refine chd.mono ?_; rintro e w7 ⟨u, rfl, hhs, hb7⟩
                obtain ⟨ho, hcap, rfl, hh1, hh2⟩ := HasRow.slice hhs
                have hB7 := below2 hB5 hb7
                have HHS : Hid (∀ W, Below w7.heap.size w7 W → Disk.HasStrs W (.slice ho Hl.length hcap) Hl) := fun W hb => hhs.keep hb
                rw [HGL.out.1]
                clear q0 q1 q2 q3 qf vb hs hc chd V5 hb7 HGF HGO hhs
                have hw9 : IntKind.i64.wrap ((k : Int) + 1) = (k : Int) + 1 := by rw [IntKind.wrap_i64]; omega
                obtain ⟨K, hK⟩ : ∃ K, K = upK F k := ⟨_, rfl⟩
                have HKK : Hid (K = upK F k) := hK
                have hKle := upK_le F k
                rw [← hK] at hKle
                have HKF : Hid (0 < K → 0 ≤ F ∧ F < (k : Int) ∧ (K : Int) = F) := fun h0 => by
                  rw [hK] at h0 ⊢
                  unfold upK at h0 ⊢
                  split at h0
                  · rename_i hh; rw [if_pos hh]; omega
                  · omega
                have HKC : Hid (0 ≤ F → F < (k : Int) → (K : Int) = F) := fun h0 h1 => by
                  rw [hK]; unfold upK; rw [if_pos ⟨h0, h1⟩]; omega
                clear hK
                go_wp2_with fail
                go_loopw [24, 25] (fun s i wr => ∃ (q : Nat) (B : ByteArray), q ≤ K ∧ i = .int .i64 q ∧ s = .string B ∧ B.size ≤ 41200 ∧ Hid (B = ⟨(t.take (128 * q)).toArray⟩) ∧ Below w7.heap.size w7 wr) (fun _ i _ => K - (intOf i).toNat)
                case atStart => exact ⟨0, ⟨#[]⟩, by omega, rfl, rfl, by decide, by show _ = _; simp, Below.refl _ _⟩
                case round =>
                  obtain ⟨q, B, hq, rfl, rfl, hB9, HB, hBq⟩ := hrel
                  by_cases hqK : q < K
                  · obtain ⟨hF0, hF1, hKF⟩ := HKF.out (by omega)
                    have c1 : decide ((q : Int) < (k : Int)) = true := by rw [decide_eq_true_iff]; omega
                    have c1n : decide (q < k) = true := by rw [decide_eq_true_iff]; omega
                    have c2 : decide (F < (k : Int)) = true := by rw [decide_eq_true_iff]; omega
                    have c3 : decide ((q : Int) < F) = true := by rw [decide_eq_true_iff]; omega
                    have hqH : q < Hl.length := by rw [HGL.out.1]; omega
                    have hch := HGL.out.2 hF0 hF1 q (by omega)
                    obtain ⟨_, b, i, rfl, hbs, hcs⟩ := HasRow.at (HHS.out wr hBq) (by omega)
                    have hcell := hcs q (by omega)
                    rw [List.getElem?_map, hch] at hcell
                    simp only [Option.map_some] at hcell
                    unfold Disk.strV at hcell
                    obtain ⟨Ck, hCk⟩ : ∃ X : ByteArray, X = ⟨(chunk t q).toArray⟩ := ⟨_, rfl⟩
                    rw [← hCk] at hcell
                    have hCz : Ck.size ≤ 128 := by rw [hCk, size_list, chunk_len HTT.out.2.2.1 (by omega)]; omega
                    have HBB : Hid (B ++ Ck = ⟨(t.take (128 * (q + 1))).toArray⟩) := by
                      show _ = _
                      rw [HB.out, hCk, str_app, chunk_take]
                    have hBz : (B ++ Ck).size ≤ 41200 := by
                      rw [HBB.out, size_list, List.length_take, HTT.out.2.2.1]
                      have := HTT.out.2.1
                      omega
                    have HBZ : Hid ((B ++ Ck).size ≤ 41200) := hBz
                    have n1 : ¬ 9223372036854775807 < B.size + Ck.size := by omega
                    have hqi : (q : Int) < (k : Int) + 1 := by omega
                    have hqn : q < k + 1 := by omega
                    clear hcs hch hCk hBz hKF hF0 hF1
                    go_wp2_with fail
                    go_roundw
                    case rel => exact ⟨q + 1, B ++ Ck, by omega, by go_num, rfl, HBZ.out, HBB.out, hBq⟩
                    case measure => simp [intOf]; omega
                  · obtain rfl : q = K := by omega
                    have hcond : (decide ((q : Int) < (k : Int)) = false ∧ decide (q < k) = false) ∨ (decide ((q : Int) < (k : Int)) = true ∧ decide (q < k) = true ∧ decide (F < (k : Int)) = false) ∨ (decide ((q : Int) < (k : Int)) = true ∧ decide (q < k) = true ∧ decide (F < (k : Int)) = true ∧ decide ((q : Int) < F) = false) := by
                      simp only [decide_eq_true_eq, decide_eq_false_iff_not]
                      have h1 := HKC.out
                      have h2 := HKF.out
                      omega
                    have hq128 : 128 * q ≤ m := by have := HN.out; omega
                    obtain ⟨c, hc⟩ : ∃ c, c = (catL zs).take (128 * q) := ⟨_, rfl⟩
                    have hBc : B = ⟨c.toArray⟩ := by
                      rw [HB.out, hc, ← HTT.out.2.2.2, List.take_take, Nat.min_eq_left hq128]
                    have hclen : c.length = 128 * q := by rw [hc, List.length_take, ← HM.out]; omega
                    have hall := all_cut zs HCS.out.2.1 (128 * q)
                    obtain ⟨j', hj'⟩ : ∃ j', j' = cutN zs (128 * q) := ⟨_, rfl⟩
                    have hjl := cutN_le zs (128 * q)
                    rw [← hj', ← hc] at hall
                    rw [← hj'] at hjl
                    have htl : (zs.take j').length = j' := by rw [List.length_take]; omega
                    have cal := fun W => all_any c W (by omega) (by rw [hall]; show (zs.take j').length ≤ _; rw [htl]; have := HCS.out.2.2; omega)
                    rw [hall] at cal
                    simp only at cal
                    rw [htl, ← hBc] at cal
                    generalize (c.length : Int) - ((c.drop (catL (zs.take j')).length).length : Int) = U at cal
                    have hBz : B.size = 128 * q := by rw [hBc, size_list, hclen]
                    have x1 : A.extract 0 B.size = B := by
                      rw [hBz, extract_take, HCS.out.1, hBc, hc]
                    have hle1 : B.size ≤ A.size := by rw [hBz, HAZ.out]; exact hq128
                    have hle2 : (B.size : Int) ≤ (A.size : Int) := by omega
                    have hmin : min (A.size : Int) (B.size : Int) = (B.size : Int) := by omega
                    have hjn : j' ≤ len := by rw [HL.out]; exact hjl
                    have hjd : decide ((len : Int) < (j' : Int)) = false := by rw [decide_eq_false_iff_not]; omega
                    have hjd2 : decide (len < j') = false := by rw [decide_eq_false_iff_not]; omega
                    have HJ : Hid (j' ≤ zs.length ∧ (zs.take j').length = j') := ⟨hjl, htl⟩
                    have hUU : (U != U) = false := by simp
                    have hB := below2 hB7 hBq
                    have hBz9 : B.size ≤ 41200 := hB9
                    clear hall hj' hc hclen hBz hBc HHS hB7 hBq HB hjl htl HGL HKF HKC HKK hKle HN HTT HM hq hq128
                    rcases hcond with ⟨d1, d2⟩ | ⟨d1, d2, d3⟩ | ⟨d1, d2, d3, d4⟩
                    all_goals
                      go_wp2_with fail
                      go_at_call 11; refine (cal _).mono ?_; rintro e w8 ⟨v8, rfl, o8, hb8⟩
                      have r8 := has_own (zs := zs.take j') (by rw [HJ.out.2]; exact o8)
                      obtain ⟨mo, mc, hv8, hm8⟩ := r8
                      rw [HJ.out.2] at hv8
                      subst hv8
                      have hB := below2 hB hb8
                      go_wp2_with fail
                      go_at_call 11; refine (cal _).mono ?_; rintro e w9 ⟨v9, rfl, o9, hb9⟩
                      have r9 := has_own (zs := zs.take j') (by rw [HJ.out.2]; exact o9)
                      obtain ⟨no, nc, hv9, _⟩ := r9
                      rw [HJ.out.2] at hv9
                      subst hv9
                      have hB := below2 hB hb9
                      have HM9 : Hid (∀ p (hp : p < j'), ∃ b i, mo = some ⟨b, i, none⟩ ∧ w9.cell? ⟨b, i + p, none⟩ = some (strV (zs[p]'(by have := HJ.out.1; omega))) ∧ b < w9.heap.size) := fun p hp => by
                        obtain ⟨b, i, e1, e2, e3⟩ := hm8 p (by rw [HJ.out.2]; exact hp)
                        refine ⟨b, i, e1, ?_, Nat.lt_of_lt_of_le e3 hb9.size⟩
                        rw [hb9.cell (p := ⟨b, i + p, none⟩) e3, e2, List.getElem_take]
                      clear hm8 o8 o9 hb8 hb9 cal
                      go_wp2_with fail
                      go_loopw [185] (fun i wr => ∃ p : Nat, p ≤ j' ∧ i = .int .i64 p ∧ Below w9.heap.size w9 wr) (fun i _ => j' - (intOf i).toNat)
                      case atStart => exact ⟨0, by omega, rfl, Below.refl _ _⟩
                      case round =>
                        obtain ⟨p, hp, rfl, hBp⟩ := hrel
                        by_cases hpj : p < j'
                        · obtain ⟨b1, i1, rfl, e2, e3⟩ := HM9.out p hpj
                          obtain ⟨b2, i2, rfl, e5, e6⟩ := HZ.out p (by have := HJ.out.1; omega)
                          have r1 := (hBp.cell (p := ⟨b1, i1 + p, none⟩) e3).trans e2
                          have r2 := ((below2 hB hBp).cell (p := ⟨b2, i2 + p, none⟩) e6).trans e5
                          unfold strV at r1 r2
                          generalize (⟨(zs[p]'(by have := HJ.out.1; omega)).toArray⟩ : ByteArray) = P at r1 r2
                          have hpi : (p : Int) < (j' : Int) := by omega
                          have hpl : (p : Int) < (len : Int) := by omega
                          have hpl2 : p < len := by omega
                          clear e2 e5
                          go_wp2_with fail
                          go_quiet (fail)
                          go_wp2
                          go_roundw
                          case rel => exact ⟨p + 1, by omega, by go_num, by first | exact hBp | exact hBp.drew | exact below_drewN hBp _⟩
                          case measure => simp [intOf]; omega
                        · go_wp2
                          go_ret
                          exact ⟨rfl, below2 hB hBp⟩
        · have hr1 : ((T.size : Int) % 128 != 0) = true := by rw [bne_iff_ne]; have := HT.out.1; omega
          have hr2 : ((T.size : Int).tmod 128 != 0) = true := by rw [bne_iff_ne, Int.tmod_eq_emod_of_nonneg (by omega)]; have := HT.out.1; omega
          have hr3 : ¬ ((T.size : Int) % 128 = 0) := by have := HT.out.1; omega
          have hr4 : (T.size % 128 != 0) = true := by rw [bne_iff_ne]; have := HT.out.1; omega
          have hr5 : ¬ (T.size % 128 = 0) := by have := HT.out.1; omega
          have n1 : ¬ 9223372036854775807 < T.size + 1 := by omega
          have HT2 : Hid ((T ++ ⟨#[0]⟩).size = m + (j + 1) ∧ (T ++ ⟨#[0]⟩ : ByteArray) = ⟨(catL zs ++ List.replicate (j + 1) 0).toArray⟩) := by
            have e : (T ++ ⟨#[0]⟩ : ByteArray) = ⟨(catL zs ++ List.replicate (j + 1) 0).toArray⟩ := by
              rw [HT.out.2, show (⟨#[0]⟩ : ByteArray) = ⟨([0] : List UInt8).toArray⟩ from rfl, str_app, List.replicate_succ', List.append_assoc]
            exact ⟨by rw [e, size_list, List.length_append, List.length_replicate, HM.out], e⟩
          have HS9 : Hid ((T ++ ⟨#[0]⟩).size ≤ 41200 ∧ (T ++ ⟨#[0]⟩).size = T.size + 1) := by
            have h1 := HT2.out.1
            have h2 := HT.out.1
            exact ⟨by omega, by omega⟩
          go_wp2_with fail
          go_roundw
          case rel => exact ⟨j + 1, _, by omega, rfl, HS9.out.1, HT2, hB⟩
          case measure => simp only [szOf]; have := HS9.out.2; omega
theorem walk (a0 : Option Addr) (len0 cap0 : Nat) (z0 : List (List UInt8)) (a1 : Int) (v2 : Value) (z2 : List Bool) (a3 a4 : Int) (w : World) (b0 : IsStrs w a0 len0 cap0 z0) (b1 : -9223372036854775808 ≤ a1 ∧ a1 ≤ 9223372036854775807)
    (b2 : HasRow w v2 1 z2.length (z2.map Value.bool)) (b3 : -9223372036854775808 ≤ a3 ∧ a3 ≤ 9223372036854775807) (b4 : -9223372036854775808 ≤ a4 ∧ a4 ≤ 9223372036854775807) :
    Calls Try.prog 3 #[.slice a0 len0 cap0, .int .i64 a1, v2, .int .i64 a3, .int .i64 a4] w fun e w' => e = .returned (.bool true) ∧ Below w.heap.size w w' := by
  obtain ⟨ko, kc, rfl, _, _⟩ := HasRow.slice b2
  obtain ⟨⟨o, c, e, hc⟩, hlen, hlc, hcm, hz9⟩ := b0
  injection e with e1 e2 e3
  subst e1
  exact core z0 len0 a1 z2 a3 a4 a0 ko cap0 kc w hc hlen hz9 (by omega) b1 b2 b3 b4

set_option maxRecDepth 100000 in
theorem lifted (os : Os) (started : os.Started) (H : Type) (enc : TypeId × Value → H) :
    ReturnsInHanded {} Try.checked os 3 .any (Rows.topFramesSpec.pre6 enc Try.prog Try.f3 Rows.topFramesRow.domain false) (Rows.topFramesSpec.post enc Try.prog Try.f3 false true false false) := by
  refine returnsInHanded_of_change_sized (C := Try.checked) own started (by kernel_rfl) Try.func3
    (ChangeSpec.witness6 (enc := enc) (C := Try.checked) false ⟨#[], #[.slice none 0 0, .int .i64 0, .slice none 0 0, .int .i64 0, .int .i64 0], []⟩ 8 (by kernel_rfl) (by kernel_rfl) (by kernel_rfl) (by kernel_rfl)) ?_
  intro W base args ds gs before hval0 hW _ hsz0 _
  have hsz : (DataW.weightsEach Try.prog (Try.f3.params.toList ++ Rows.topFramesSpec.plain.varTypes Try.prog) (ds ++ gs)).all (· ≤ reachBytes) = true := hsz0
  clear hsz0
  have hval : ∀ (j : Nat) t v, Try.f3.params[j]? = some t → args[j]? = some v → Value.okWide Try.prog W .any base t v := hval0
  have hW' := hW
  obtain ⟨p, q, hA0, hV, rfl, hfz, hnd⟩ := hW
  have hA : DataW.TrodAll enc Try.prog W 0 (fun _ => true) true Try.f3.params.toList args.toList ds p := hA0
  rw [Try.params3] at hA hval hsz
  obtain ⟨v0, vs0, d0, ds0, p0, q0, hargs, rfl, rfl, h0, r0⟩ := trodAll_cons hA
  obtain ⟨v1, vs1, d1, ds1, p1, q1, rfl, rfl, rfl, h1, r1⟩ := trodAll_cons r0
  obtain ⟨v2, vs2, d2, ds2, p2, q2, rfl, rfl, rfl, h2, r2⟩ := trodAll_cons r1
  obtain ⟨v3, vs3, d3, ds3, p3, q3, rfl, rfl, rfl, h3, r3⟩ := trodAll_cons r2
  obtain ⟨v4, vs4, d4, ds4, p4, q4, rfl, rfl, rfl, h4, r4⟩ := trodAll_cons r3
  obtain ⟨rfl, rfl, rfl⟩ := trodAll_nil r4
  obtain rfl : args = #[v0, v1, v2, v3, v4] := by cases args; simp_all
  obtain ⟨rfl, rfl⟩ := trodVars_none hV
  obtain ⟨a0, len0, cap0, rfl⟩ := okWide_slice Try.underlying22 (hval 0 22 v0 rfl rfl)
  have k0 := h0
  have lt0 : ∀ x ∈ p0, x.block < W.heap.size := by obtain ⟨m, hm⟩ := k0; exact DataW.trod_lt m _ _ _ hm
  obtain ⟨z0, b0⟩ : ∃ zs, IsStrs W a0 len0 cap0 zs := by
    obtain ⟨fuel, hf⟩ := h0
    rcases Go.Deep.open_strs Try.underlying22 Try.underlying9 (by kernel_rfl) hf with ⟨hcs, _⟩ | ⟨x, l, c, m, Sx, hcs, _, hl, hm, hmm, _, hr⟩
    · simp [Value.cells] at hcs
      obtain ⟨rfl, rfl, rfl⟩ := hcs
      exact ⟨[], isStrs_nil W⟩
    · simp [Value.cells] at hcs
      obtain ⟨rfl, rfl, rfl⟩ := hcs
      exact ⟨_, isStrs_of hl hm (fun i hi => hr i (by rw [hmm]; split <;> omega))⟩
  obtain ⟨a1, rfl, rfl, rfl, w1⟩ := open_int Try.underlying3 (hval 1 3 v1 rfl rfl) h1
  have b1 : -9223372036854775808 ≤ a1 ∧ a1 ≤ 9223372036854775807 := by simpa [Lit.wf, IntKind.min, IntKind.max, IntKind.signed, IntKind.bits] using w1
  obtain ⟨a2, len2, cap2, rfl⟩ := okWide_slice Try.underlying23 (hval 2 23 v2 rfl rfl)
  have k2 := h2
  have lt2 : ∀ x ∈ p2, x.block < W.heap.size := by obtain ⟨m, hm⟩ := k2; exact DataW.trod_lt m _ _ _ hm
  obtain ⟨fuel2, hf2⟩ := h2
  obtain ⟨z2, b2⟩ := Disk.open_bools_row hf2
  obtain ⟨a3, rfl, rfl, rfl, w3⟩ := open_int Try.underlying3 (hval 3 3 v3 rfl rfl) h3
  have b3 : -9223372036854775808 ≤ a3 ∧ a3 ≤ 9223372036854775807 := by simpa [Lit.wf, IntKind.min, IntKind.max, IntKind.signed, IntKind.bits] using w3
  obtain ⟨a4, rfl, rfl, rfl, w4⟩ := open_int Try.underlying3 (hval 4 3 v4 rfl rfl) h4
  have b4 : -9223372036854775808 ≤ a4 ∧ a4 ≤ 9223372036854775807 := by simpa [Lit.wf, IntKind.min, IntKind.max, IntKind.signed, IntKind.bits] using w4
  clear hA0 hval0
  refine (walk a0 len0 cap0 z0 a1 (.slice a2 len2 cap2) z2 a3 a4 W b0 b1 b2 b3 b4).mono fun e W' ⟨he, bel⟩ => ?_
  subst he
  exact ⟨_, rfl, _, _, _, [], _, [], hW', trodAll_mk1 (shut_bool Try.underlying4 _), (trodAll_cons_mk (Below.trod laidOut (by kernel_rfl) (of_decide_eq_true (by kernel_rfl)) k0 bel lt0) (trodAll_cons_mk (shut_int Try.underlying3 w1) (trodAll_cons_mk (Below.trod laidOut (by kernel_rfl) (of_decide_eq_true (by kernel_rfl)) k2 bel lt2) (trodAll_cons_mk (shut_int Try.underlying3 w3) (trodAll_cons_mk (shut_int Try.underlying3 w4) trodAll_mk0))))), rfl, bel.frame _, fun h => by cases h⟩

theorem over : Rows.topFramesRow.holds Try.pinned (OpenSpec.ofChange Rows.topFramesSpec) :=
  OpenClaim.holds_of_wide 3 Try.f3 rfl rfl rfl rfl rfl rfl rfl ⟨rfl, rfl, rfl, rfl, rfl⟩ rfl rfl rfl rfl rfl (by kernel_rfl) Try.func3 (by kernel_rfl)
    (of_decide_eq_true (by kernel_rfl)) (by unfold Func.isWrapper; first | (rw [if_pos (by decide +kernel)]; kernel_rfl) | (rw [if_neg (by decide +kernel)]; exact ⟨rfl, rfl⟩))
    (fun os started H enc _ => lifted os started H enc)
end topFrames
theorem tframes_holds : Rows.TopFramesSaid := topFrames.over
#print axioms tframes_holds
end Go.Proofs.Ytoigogjklhahkaa
