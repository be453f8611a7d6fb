/- For every tag, text, fuse, and way of a crash: spoortop.TopPages returns true, and changes nothing that was there. No condition. -/
import Derived.Test.YtajcmgccclemdabRows
import Derived.Test.YtajcmgccclemdabTopPgM
import Derived.Test.YtajcmgccclemdabTopBegins
import Derived.Test.YtajcmgccclemdabPageJoin
import Derived.Test.YtajcmgccclemdabPageSplit
import Derived.Test.YtajcmgccclemdabManFresh
import Derived.Test.YtajcmgccclemdabDiskVar
import Derived.Test.YtajcmgccclemdabDiskOpen
import Derived.ProofKit
import Derived.OpenShut
import Derived.ShutString
import Derived.SizedLaws
set_option linter.unusedVariables false
namespace Go.Proofs.Ytajcmgccclemdab
namespace topPages
open Go.ChangeShapes Go.WideShapes Go.ChangeAt Go.RowKit
open Go.ChangeMaps (open_string shut_string)
open Go.Proofs.Ytajcmgccclemdab.Page
open Go.Proofs.Ytajcmgccclemdab.Man
open Go.Proofs.Ytajcmgccclemdab.Disk (Dk VDk VBox HasRow Back back_of flushD writeD crashD makeD outD outD_ok allH Fits fits_ok Ok heldD held_ok set4_below set4_grown)

theorem own : ownKnob Try.prog.godebug = none := by kernel_rfl
theorem laidOut : laidOutB Try.prog = true := by kernel_rfl
theorem vdk_fuse {W : World} {b : Nat} {d : Dk} (h : VDk W b d) (f : Int) : VDk (W.setCell ⟨b, 2, none⟩ (.int .i64 f)) b ⟨d.secs, d.cache, f, d.off⟩ := by
  have hn := h.ne
  obtain ⟨so, sc, co, cc, h1, h2, h3⟩ := h
  have hg : W.grownBy (W.setCell ⟨b, 2, none⟩ (.int .i64 f)) (some b) := grown_cell _ _ _ _
  exact ⟨so, sc, co, cc, heap_setCell_same W b 2 _ _ _ h1, h2.box hn hg, h3.box hn hg⟩
def m0 (c : Nat) : ManT := (1, [(0, 1, (c : Int))])
theorem m0_ok (c : Nat) (h : c ≤ 30) : okM (m0 c) = true := by
  unfold m0 okM okP okP mayB
  simp
  omega
theorem m0_fit (c : Nat) (h : c ≤ 30) : FitM (m0 c) := ⟨by show 1 < _; decide, fun p hp => by
  obtain rfl : p = (0, 1, (c : Int)) := by simpa [m0] using hp
  exact ⟨by show -9223372036854775808 ≤ (0 : Int) ∧ (0 : Int) ≤ _; decide, by show 1 < _; decide, by simp only; omega⟩⟩
theorem m0_has (W : World) (c : Nat) : HasParts (W.alloc (.cells #[.int .i64 0, .int .u64 1, .int .i64 (c : Int)] 54)) (.slice (some ⟨W.heap.size, 0, none⟩) 1 1) (m0 c).2 := by
  have hr := RowAt.new W (partCs (m0 c).2) 54
  refine ⟨rfl, .inr ⟨_, _, rfl, Nat.le_refl _, by decide, fun _ => ⟨rfl, by simp⟩, fun j hj => ?_⟩⟩
  rw [addr_add, Nat.zero_add]
  exact hr.cell j
/-- a row from its third place on -/
theorem has_drop2 {W : World} {b i cap : Nat} {zs : List (List UInt8)} (h : Disk.HasStrs W (.slice (some ⟨b, i, none⟩) zs.length cap) zs) (h2 : 2 ≤ zs.length) (n k : Nat) (hn : n = zs.length - 2) : HasStrs W (.slice (some ⟨b, i + 2, none⟩) n k) (zs.drop 2) := by
  refine ⟨_, _, by rw [List.length_drop, hn], fun j hj => ?_⟩
  rw [List.length_drop] at hj
  obtain ⟨_, b', i', e, hlt, hc⟩ := HasRow.at h (by omega)
  injection e with e; injection e with e1 e2; subst e1; subst e2
  refine ⟨b, i + 2, rfl, ?_, hlt⟩
  have := hc (2 + j) (by omega)
  rw [show i + 2 + j = i + (2 + j) by omega, this, List.getElem?_map, List.getElem?_eq_getElem (by omega), List.getElem_drop]
  rfl
theorem pages_len (t : Nat) (l : List UInt8) : ∀ z ∈ splitL t l, z.length = 128 := fun z hz => by
  obtain ⟨k, hk, rfl⟩ := List.mem_iff_getElem.1 hz
  rw [splitL_at]
  exact pageL_len _ _ (pieceL_len l k)
set_option maxHeartbeats 16000000 in
set_option maxRecDepth 20000 in
theorem core (t : Nat) (l : List UInt8) (f : Int) (keep : List Bool) (torn bytes : Int) (ko : Option Addr) (kc : Nat) (w : World) (ht9 : t < 18446744073709551616) (hl9 : l.length ≤ 140737488351232) (hf : -9223372036854775808 ≤ f ∧ f ≤ 9223372036854775807)
    (HK : Hid (HasRow w (.slice ko keep.length kc) 1 keep.length (keep.map Value.bool))) (ht : -9223372036854775808 ≤ torn ∧ torn ≤ 9223372036854775807) (hbt : -9223372036854775808 ≤ bytes ∧ bytes ≤ 9223372036854775807) :
    Calls Try.prog 6 #[.int .u64 (t : Int), .string ⟨l.toArray⟩, .int .i64 f, .slice ko keep.length kc, .int .i64 torn, .int .i64 bytes] w fun e w' => e = .returned (.bool true) ∧ Below w.heap.size w w' := by
  obtain ⟨kl, hkl⟩ : ∃ n, n = keep.length := ⟨_, rfl⟩
  have HKL : Hid (kl = keep.length) := hkl
  rw [← hkl]
  have HBT : Hid ((-9223372036854775808 ≤ torn ∧ torn ≤ 9223372036854775807) ∧ (-9223372036854775808 ≤ bytes ∧ bytes ≤ 9223372036854775807)) := ⟨ht, hbt⟩
  have hti : (t : Int) ≤ 18446744073709551615 := by omega
  have csp := fun W => split_any t l W ht9 (by omega)
  unfold RowsIs at csp
  have HT9 : Hid (t < 18446744073709551616) := ht9
  clear hkl ht hbt ht9
  by_cases hbad : (splitR t l).2 ≠ 0
  · have hy2 : ((splitR t l).2 != 0) = true := by simpa using hbad
    generalize splitR t l = sr at csp hy2
    obtain ⟨P, y⟩ := sr
    simp only at csp hy2
    generalize (⟨l.toArray⟩ : ByteArray) = Lb at csp ⊢
    clear hbad HK HBT
    go_enter Try.func6, Try.ntmps6
    go_wp2_with fail
    go_at_call 15; refine (Frame.begins_any _).mono ?_; rintro e w1 ⟨rfl, hb1⟩
    go_wp2_with fail
    go_at_call 20; refine (csp _).mono ?_; rintro e w2 ⟨v, rfl, o2, hb2⟩
    have hB := below2 hb1 hb2
    go_wp2
    go_ret
    exact ⟨rfl, hB⟩
  · have hsr : splitR t l = (splitL t l, 0) ∧ 1 ≤ t ∧ t ≤ 4611686018427387904 ∧ l.length ≤ 14208 := by
      unfold splitR at hbad ⊢
      split at hbad
      · exact absurd (by decide) hbad
      · rename_i h1
        split at hbad
        · rename_i h2; rw [if_neg h1, if_pos h2]; exact ⟨rfl, by omega, by omega, h2⟩
        · exact absurd (by decide) hbad
    obtain ⟨hsr, ht1, ht2, hl2⟩ := hsr
    rw [hsr] at csp
    simp only at csp
    clear hbad hsr
    have hsl := splitL_len t l
    have HTL : Hid (1 ≤ t ∧ t ≤ 4611686018427387904 ∧ l.length ≤ 14208) := ⟨ht1, ht2, hl2⟩
    obtain ⟨P, hP⟩ : ∃ P, P = splitL t l := ⟨_, rfl⟩
    have HP : Hid (P = splitL t l ∧ (∀ z ∈ P, z.length = 128) ∧ P.length = cntL l) := ⟨hP, by rw [hP]; exact pages_len t l, by rw [hP, hsl]⟩
    obtain ⟨c, hc⟩ : ∃ c, c = P.length := ⟨_, rfl⟩
    have HC : Hid (c = P.length) := hc
    have hc9 : c ≤ 200 := by rw [hc, HP.out.2.2]; unfold cntL; omega
    rw [← hP] at csp
    have csp2 : ∀ W, Calls Try.prog 20 #[.int .u64 (t : Int), .string ⟨l.toArray⟩] W fun e w' => ∃ lo lc, e = .returned (.tuple #[.slice lo c lc, .int .i64 0]) ∧ HasStrs w' (.slice lo c lc) P ∧ Below W.heap.size W w' := fun W => by
      refine (csp W).mono ?_
      rintro e w' ⟨v, rfl, o2, hb⟩
      have h2 := has_own o2
      obtain ⟨lo, lc, ev, _⟩ := h2
      refine ⟨lo, lc, by rw [ev, hc], by rw [hc, ← ev]; exact has_own o2, hb⟩
    obtain ⟨Lb, hLb⟩ : ∃ X : ByteArray, X = ⟨l.toArray⟩ := ⟨_, rfl⟩
    have HLB : Hid (Lb = ⟨l.toArray⟩) := hLb
    rw [← hLb] at csp2 ⊢
    clear csp hP hc hsl ht1 ht2 hl2 hLb
    by_cases h30 : 30 < c
    · have h30i : decide ((30 : Int) < (c : Int)) = true := by rw [decide_eq_true_iff]; omega
      have h30n : decide (30 < c) = true := by rw [decide_eq_true_iff]; omega
      go_enter Try.func6, Try.ntmps6
      go_wp2_with fail
      go_at_call 15; refine (Frame.begins_any _).mono ?_; rintro e w1 ⟨rfl, hb1⟩
      go_wp2_with fail
      go_at_call 20; refine (csp2 _).mono ?_; rintro e w2 ⟨lo, lc, rfl, hls, hb2⟩
      have hB := below2 hb1 hb2
      clear hls
      go_wp2
      go_ret
      exact ⟨rfl, hB⟩
    · have h30i : decide ((30 : Int) < (c : Int)) = false := by rw [decide_eq_false_iff_not]; omega
      have h30n : decide (30 < c) = false := by rw [decide_eq_false_iff_not]; omega
      have hc30 : c ≤ 30 := by omega
      have hci : (c : Int) ≤ 30 := by omega
      clear h30 hc9
      have cmk := fun W => (Disk.make_fn 40 W (by omega)).mono (fun e w' h => back_of h)
      rw [show (makeD 40).2 = 0 from rfl] at cmk
      unfold Back at cmk
      have HWR : Hid (Wr P 0 ⟨(makeD 40).1.secs, (makeD 40).1.cache, max f (-1), (makeD 40).1.off⟩) := wr_make P (max f (-1)) (by omega) (by omega)
      generalize (makeD 40).1 = D0 at cmk HWR
      go_enter Try.func6, Try.ntmps6
      go_wp2_with fail
      go_at_call 15; refine (Frame.begins_any _).mono ?_; rintro e w1 ⟨rfl, hb1⟩
      go_wp2_with fail
      go_at_call 20; refine (csp2 _).mono ?_; rintro e w2 ⟨lo, lc, rfl, hls, hb2⟩
      have hB := below2 hb1 hb2
      clear csp2 hb1 hb2
      go_wp2_with fail
      go_at_call 8; refine (cmk _).mono ?_; rintro e w3 ⟨s1, s2, s3, s4, rfl, hs3, hc3, hb3⟩
      obtain ⟨X, hX⟩ : ∃ X, X = w3.alloc (.cells #[.slice s1 D0.secs.length s2, .slice s3 D0.cache.length s4, .int .i64 D0.fuse, .bool D0.off] 28) := ⟨_, rfl⟩
      obtain ⟨bd, hbd⟩ : ∃ b, b = w3.heap.size := ⟨_, rfl⟩
      have hbX : Below w3.heap.size w3 X := by rw [hX]; exact (Below.refl _ _).alloc (Nat.le_refl _) _
      have VX : VDk X bd D0 := by rw [hX, hbd]; exact VDk.new hs3 hc3
      have hb3X := below2 hb3 hbX
      have hbd0 : w.heap.size ≤ bd := by have := (below2 hB hb3).size; omega
      have hbd2 : w2.heap.size ≤ bd := by have := hb3.size; omega
      have HLS : Hid (∀ W, Below w2.heap.size w2 W → HasStrs W (.slice lo c lc) P) := fun W hb => hls.keep hb
      have hBX := below2 hB hb3X
      go_upto_region 7 with fail
      rw [← hX, ← hbd]
      clear hX hbd hbX hb3 hs3 hc3 cmk hls
      have VXX := VX
      obtain ⟨u1, u2, u3, u4, vb, _, _⟩ := VXX
      obtain ⟨q0, q1, q2, q3, qf⟩ := vb.cells
      obtain ⟨W1, hW1⟩ : ∃ W1, W1 = X.setCell ⟨bd, 2, none⟩ (.int .i64 (max f (-1))) := ⟨_, rfl⟩
      have V1 : Hid (VDk W1 bd ⟨D0.secs, D0.cache, max f (-1), D0.off⟩) := by rw [hW1]; exact vdk_fuse VX (max f (-1))
      have hB1 : Below w.heap.size w W1 := by rw [hW1]; exact hBX.setCell (p := ⟨bd, 2, none⟩) hbd0 _
      have hB2 : Below w2.heap.size w2 W1 := by rw [hW1]; exact hb3X.setCell (p := ⟨bd, 2, none⟩) hbd2 _
      go_upto_region 8 with fail
      rw [← hW1]
      clear hW1 q0 q1 q2 q3 qf vb hBX hb3X
      go_wp2_with fail
      go_loopw [17, 58] (fun no i wr => ∃ (k : Nat) (D : Dk) (y : Int), k ≤ c ∧ i = .int .i64 k ∧ no = .int .i64 y ∧ Hid (VDk wr bd D ∧ ((y = 0 ∧ Wr P k D) ∨ (y = 9 ∧ Gone D))) ∧ Below w.heap.size w wr ∧ Below w2.heap.size w2 wr) (fun _ i _ => c - (intOf i).toNat)
      case atStart => exact ⟨0, _, 0, by omega, rfl, rfl, ⟨V1.out, .inl ⟨rfl, HWR.out⟩⟩, hB1, hB2⟩
      case round =>
        obtain ⟨k, D, y, hk, rfl, rfl, HV, hB, hB2⟩ := hrel
        clear HWR V1 hB1
        by_cases hlt : k < c
        · have hkz : k < P.length := by rw [← HC.out]; exact hlt
          obtain ⟨o, cp, eo, hcs⟩ := HLS.out wr hB2
          injection eo with eo1 eo2 eo3
          obtain ⟨b, i, eb, hcell, hbs⟩ := hcs k hkz
          rw [← eo1] at eb
          subst eb
          clear eo1 eo2 eo3 hcs
          unfold Page.strV at hcell
          have hki : (k : Int) < (c : Int) := by omega
          have hv := HV.out
          rcases hv with ⟨hv1, ⟨rfl, hwr⟩ | ⟨rfl, hgo⟩⟩
          · have hww := wr_write hwr hkz (by rw [← HC.out]; exact hc30) HP.out.2.1
            have hzl := HP.out.2.1 P[k] (List.getElem_mem hkz)
            obtain ⟨s1, s2, s3, s4, vb, hs, hc⟩ := hv1
            obtain ⟨q0, q1, q2, q3, qf⟩ := vb.cells
            have cw := (Disk.write_fn D _ ((2 + k : Nat) : Int) P[k] wr ⟨_, _, rfl, hs, hc⟩ (fits_ok hwr.ok hwr.fuse) (by omega) (by omega)).mono (fun e w' h => back_of h)
            rw [outD_ok hwr.ok] at cw
            unfold Disk.strV at cw
            generalize writeD D ((2 + k : Nat) : Int) P[k] = r at cw hww
            obtain ⟨D2, y2⟩ := r
            unfold Back at cw
            simp only at cw hww
            rw [show ((2 + k : Nat) : Int) = 2 + (k : Int) by omega] at cw
            generalize (⟨(P[k]).toArray⟩ : ByteArray) = Pk at cw hcell
            have hw2 : IntKind.i64.wrap (2 + (k : Int)) = 2 + (k : Int) := by rw [IntKind.wrap_i64]; omega
            have HWW : Hid ((y2 = 0 ∧ Wr P (k + 1) D2) ∨ (y2 = 9 ∧ Gone D2)) := hww
            have HVB : Hid (VDk wr bd D) := HV.out.1
            clear hww hwr HV
            go_wp2_with fail
            go_at_call 17; refine cw.mono ?_; rintro e w6 ⟨a1, a2, a3, a4, rfl, hs6, hc6, hb6⟩
            obtain ⟨g0, g1, g2, g3, gf⟩ := (vb.below hb6).cells
            have VN : Hid (VDk ((((w6.setCell ⟨bd, 0, none⟩ (.slice a1 D2.secs.length a2)).setCell ⟨bd, 1, none⟩ (.slice a3 D2.cache.length a4)).setCell ⟨bd, 2, none⟩ (.int .i64 D2.fuse)).setCell ⟨bd, 3, none⟩ (.bool D2.off)) bd D2) := (HVB.out.below hb6).store hs6 hc6
            have hBN := set4_below (below2 hB hb6) hbd0 (.slice a1 D2.secs.length a2) (.slice a3 D2.cache.length a4) (.int .i64 D2.fuse) (.bool D2.off)
            have hBN2 := set4_below (below2 hB2 hb6) hbd2 (.slice a1 D2.secs.length a2) (.slice a3 D2.cache.length a4) (.int .i64 D2.fuse) (.bool D2.off)
            clear q0 q1 q2 q3 qf vb hs hc cw hs6 hc6 hb6 HVB hcell
            go_wp2_with fail
            go_roundw
            case rel => exact ⟨k + 1, D2, y2, by omega, by go_num, rfl, ⟨VN.out, HWW.out⟩, hBN, hBN2⟩
            case measure => simp [intOf]; omega
          · go_wp2_with fail
            go_roundw
            case rel => exact ⟨k + 1, D, 9, by omega, by go_num, rfl, ⟨hv1, .inr ⟨rfl, hgo⟩⟩, hB, hB2⟩
            case measure => simp [intOf]; omega
        · obtain rfl : c = k := by omega
          have HMO : Hid (okM (m0 c) = true ∧ FitM (m0 c)) := ⟨m0_ok c hc30, m0_fit c hc30⟩
          have HCN : Hid (cntL l ≤ 30) := by show _ ≤ _; rw [← HP.out.2.2, ← HC.out]; exact hc30
          have hv := HV.out
          have HVB : Hid (VDk wr bd D) := HV.out.1
          clear HV hB2 hlt
          rcases hv with ⟨hv1, ⟨rfl, hwr⟩ | ⟨rfl, hgo⟩⟩
          any_goals
            have hEN := gone_crash hgo keep torn bytes
            obtain ⟨W5, hW5⟩ : ∃ W, W = wr := ⟨_, rfl⟩
            obtain ⟨D5, hD5⟩ : ∃ X, X = D := ⟨_, rfl⟩
            have V5 : Hid (VDk W5 bd D5) := by rw [hW5, hD5]; exact hv1
            have HOK5 : Hid (Ok D5 ∧ D5.fuse ≤ 9223372036854775807) := by rw [hD5]; exact ⟨hgo.ok, hgo.fuse⟩
            have hB5 : Below w.heap.size w W5 := by rw [hW5]; exact hB
            rw [← hD5] at hEN
            go_upto_region 19 with fail
            rw [← hW5]
            clear hD5 hW5 hv1 hgo hB HVB
          any_goals
            have hwr : Wr P P.length D := by rw [← HC.out]; exact hwr
            have hfl := wr_flush hwr
            obtain ⟨s1, s2, s3, s4, vb, hs, hc⟩ := hv1
            obtain ⟨q0, q1, q2, q3, qf⟩ := vb.cells
            have cf := (Disk.flush_fn D _ wr ⟨_, _, rfl, hs, hc⟩ (fits_ok hwr.ok hwr.fuse)).mono (fun e w' h => back_of h)
            rw [outD_ok hwr.ok] at cf
            generalize flushD D = rf at cf hfl
            obtain ⟨D1, y1⟩ := rf
            unfold Back at cf
            simp only at cf hfl
            have HFL : Hid ((y1 = 0 ∧ Fl P D1) ∨ (y1 = 9 ∧ Gone D1)) := hfl
            clear hfl hwr
            go_wp2_with fail
            go_at_call 10; refine cf.mono ?_; rintro e w4 ⟨b1, b2, b3, b4, rfl, hs4, hc4, hb4⟩
            obtain ⟨W4, hW4⟩ : ∃ W4, W4 = (((w4.setCell ⟨bd, 0, none⟩ (.slice b1 D1.secs.length b2)).setCell ⟨bd, 1, none⟩ (.slice b3 D1.cache.length b4)).setCell ⟨bd, 2, none⟩ (.int .i64 D1.fuse)).setCell ⟨bd, 3, none⟩ (.bool D1.off) := ⟨_, rfl⟩
            have V4 : Hid (VDk W4 bd D1) := by rw [hW4]; exact (HVB.out.below hb4).store hs4 hc4
            have hB4 : Below w.heap.size w W4 := by rw [hW4]; exact set4_below (below2 hB hb4) hbd0 _ _ _ _
            have vb4 := vb.below hb4
            clear q0 q1 q2 q3 qf vb hs hc cf hs4 hc4 hb4 HVB hB
            obtain ⟨q0, q1, q2, q3, qf⟩ := vb4.cells
            go_upto_region 17 with fail
            rw [← hW4]
            clear hW4 q0 q1 q2 q3 qf vb4
            have hfl := HFL.out
            clear HFL
            rcases hfl with ⟨rfl, hFl⟩ | ⟨rfl, hgo⟩
            any_goals
              have hEN := gone_crash hgo keep torn bytes
              obtain ⟨W5, hW5⟩ : ∃ W, W = W4 := ⟨_, rfl⟩
              obtain ⟨D5, hD5⟩ : ∃ X, X = D1 := ⟨_, rfl⟩
              have V5 : Hid (VDk W5 bd D5) := by rw [hW5, hD5]; exact V4.out
              have HOK5 : Hid (Ok D5 ∧ D5.fuse ≤ 9223372036854775807) := by rw [hD5]; exact ⟨hgo.ok, hgo.fuse⟩
              have hB5 : Below w.heap.size w W5 := by rw [hW5]; exact hB4
              rw [← hD5] at hEN
              go_upto_region 19 with fail
              rw [← hW5]
              clear hD5 hW5 hgo hB4 V4
            any_goals
              have hFl2 := hFl
              rw [HP.out.1] at hFl2
              have hsv := fl_save hFl2 HMO.out.1 rfl
              obtain ⟨s1, s2, s3, s4, vb, hs, hc⟩ := V4.out
              obtain ⟨q0, q1, q2, q3, qf⟩ := vb.cells
              have hbY : Below W4.heap.size W4 (W4.alloc (.cells #[.int .i64 0, .int .u64 1, .int .i64 (c : Int)] 54)) := (Below.refl _ _).alloc (Nat.le_refl _) _
              have csv := (save_any D1 (m0 c) _ _ (W4.alloc (.cells #[.int .i64 0, .int .u64 1, .int .i64 (c : Int)] 54)) ⟨_, _, rfl, hs.keep hbY, hc.keep hbY⟩ (fits_ok hFl.ok hFl.fuse) (m0_has W4 c) HMO.out.2 (fun hk W v h => Disk.fresh_any D1 v W h hk)).mono (fun e w' h => back_of h)
              generalize saveM D1 (m0 c) = rs at csv hsv
              obtain ⟨D2, y2⟩ := rs
              unfold Back at csv
              simp only at csv hsv
              rw [show ((m0 c).1 : Int) = 1 from rfl] at csv
              have HSV : Hid (((y2 = 0 ∧ D2.cache = [] ∧ D2.secs = D1.secs.set 1 (sectL (m0 c)) ∧ Ok D2 ∧ D2.fuse ≤ 9223372036854775807) ∨ (y2 = 9 ∧ D2.cache = [(1, sectL (m0 c))] ∧ D2.secs = D1.secs ∧ Ok D2 ∧ D2.fuse ≤ 9223372036854775807)) ∧ Fl (splitL t l) D1) := ⟨hsv, hFl2⟩
              clear hsv hFl hFl2
              go_wp2_with fail
              go_at_call 21; refine csv.mono ?_; rintro e w5 ⟨a1, a2, a3, a4, rfl, hs5, hc5, hb5⟩
              have hb45 := below2 hbY hb5
              obtain ⟨W5, hW5⟩ : ∃ W5, W5 = (((w5.setCell ⟨bd, 0, none⟩ (.slice a1 D2.secs.length a2)).setCell ⟨bd, 1, none⟩ (.slice a3 D2.cache.length a4)).setCell ⟨bd, 2, none⟩ (.int .i64 D2.fuse)).setCell ⟨bd, 3, none⟩ (.bool D2.off) := ⟨_, rfl⟩
              have V5 : Hid (VDk W5 bd D2) := by rw [hW5]; exact (V4.out.below hb45).store hs5 hc5
              have hB5 : Below w.heap.size w W5 := by rw [hW5]; exact set4_below (below2 hB4 hb45) hbd0 _ _ _ _
              have vb5 := vb.below hb45
              clear q0 q1 q2 q3 qf vb hs hc csv hs5 hc5 hb5 hbY hb45 V4 hB4
              obtain ⟨q0, q1, q2, q3, qf⟩ := vb5.cells
              go_upto_region 19 with fail
              rw [← hW5]
              clear hW5 q0 q1 q2 q3 qf vb5
              obtain ⟨D5, hD5⟩ : ∃ X, X = D2 := ⟨_, rfl⟩
              rw [← hD5] at V5
              have HOK5 : Hid (Ok D5 ∧ D5.fuse ≤ 9223372036854775807) := by
                rw [hD5]
                rcases HSV.out.1 with ⟨_, _, _, h1, h2⟩ | ⟨_, _, _, h1, h2⟩ <;> exact ⟨h1, h2⟩
              have hend : (y2 = 0 ∧ EndL t l (m0 c) (crashD D5 keep torn bytes).1) ∨ (y2 = 9 ∧ (EndL t l (m0 c) (crashD D5 keep torn bytes).1 ∨ EndN (crashD D5 keep torn bytes).1)) := by
                rw [hD5]
                obtain ⟨t1, t2, t3⟩ := HTL.out
                rcases HSV.out.1 with ⟨h0, h1, h2, h3, _⟩ | ⟨h0, h1, h2, h3, _⟩
                · exact .inl ⟨h0, sv_crash HSV.out.2 HMO.out.1 t1 t2 t3 HCN.out h3 h1 h2 keep torn bytes⟩
                · exact .inr ⟨h0, pw_crash HSV.out.2 HMO.out.1 rfl t1 t2 t3 HCN.out h3 h1 h2 keep torn bytes⟩
              clear hD5 HSV
              rcases hend with ⟨rfl, hEL⟩ | ⟨rfl, hEL | hEN⟩
          all_goals
            obtain ⟨G, hG⟩ : ∃ G, G = (crashD D5 keep torn bytes).1 := ⟨_, rfl⟩
            have hcr : crashD D5 keep torn bytes = (G, 0) := by rw [hG]; rfl
            have hcom : Ok G ∧ G.fuse ≤ 9223372036854775807 ∧ (allH G).length = 40 := by
              rw [hG]
              first | exact ⟨hEN.ok, hEN.fuse, hEN.len⟩ | exact ⟨hEL.ok, hEL.fuse, hEL.len⟩
            obtain ⟨s1, s2, s3, s4, vb, hs, hc⟩ := V5.out
            obtain ⟨q0, q1, q2, q3, qf⟩ := vb.cells
            have ccr := (Disk.crash_fn D5 _ (.slice ko keep.length kc) keep torn bytes W5 ⟨_, _, rfl, hs, hc⟩ (fits_ok HOK5.out.1 HOK5.out.2) (HasRow.keep' HK.out hB5) HBT.out.1 HBT.out.2).mono (fun e w' h => back_of h)
            rw [outD_ok HOK5.out.1, hcr, ← HKL.out] at ccr
            unfold Back at ccr
            simp only at ccr
            have HCOM : Hid (Ok G ∧ G.fuse ≤ 9223372036854775807 ∧ (allH G).length = 40) := hcom
            have HEND : Hid (EndN G ∨ EndL t l (m0 c) G) := by
              rw [hG]
              first | exact .inl hEN | exact .inr hEL
            first
              | (have HX : Hid (EndN G) := by rw [hG]; exact hEN
                 clear hEN)
              | (have HX : Hid (EndL t l (m0 c) G) := by rw [hG]; exact hEL
                 clear hEL)
            clear hG hcr hcom
            go_wp2_with fail
            go_at_call 11; refine ccr.mono ?_; rintro e w6 ⟨b1, b2, b3, b4, rfl, hs6, hc6, hb6⟩
            obtain ⟨W6, hW6⟩ : ∃ W6, W6 = (((w6.setCell ⟨bd, 0, none⟩ (.slice b1 G.secs.length b2)).setCell ⟨bd, 1, none⟩ (.slice b3 G.cache.length b4)).setCell ⟨bd, 2, none⟩ (.int .i64 G.fuse)).setCell ⟨bd, 3, none⟩ (.bool G.off) := ⟨_, rfl⟩
            have V6 : Hid (VDk W6 bd G) := by rw [hW6]; exact (V5.out.below hb6).store hs6 hc6
            have hB6 : Below w.heap.size w W6 := by rw [hW6]; exact set4_below (below2 hB5 hb6) hbd0 _ _ _ _
            have vb6 := vb.below hb6
            clear q0 q1 q2 q3 qf vb hs hc ccr hs6 hc6 hb6 V5 hB5
            obtain ⟨q0, q1, q2, q3, qf⟩ := vb6.cells
            go_upto_region 22 with fail
            rw [← hW6]
            clear hW6 q0 q1 q2 q3 qf vb6
            obtain ⟨s1, s2, s3, s4, vb, hs, hc⟩ := V6.out
            obtain ⟨q0, q1, q2, q3, qf⟩ := vb.cells
            have cl := load_any G _ W6 ⟨_, _, rfl, hs, hc⟩ (fits_ok HCOM.out.1 HCOM.out.2.1)
            obtain ⟨ml, hml⟩ : ∃ x, x = loadM G := ⟨_, rfl⟩
            rw [← hml] at cl
            have HML : Hid (ml = loadM G) := hml
            clear hml
            unfold ManIs at cl
            go_wp2_with fail
            go_at_call 22; refine cl.mono ?_; rintro e w7 ⟨v7, rfl, hxp, hb7⟩
            obtain ⟨xo, xc, rfl, _, _⟩ := hxp.form
            obtain ⟨X7, hX7⟩ : ∃ X, X = w7.alloc (.cells #[.int .u64 (ml.1.1 : Int), .slice xo ml.1.2.length xc] 57) := ⟨_, rfl⟩
            obtain ⟨bx, hbx⟩ : ∃ b, b = w7.heap.size := ⟨_, rfl⟩
            have hbX7 : Below w7.heap.size w7 X7 := by rw [hX7]; exact (Below.refl _ _).alloc (Nat.le_refl _) _
            have hb77 := below2 hb7 hbX7
            have MX : Hid (MBox X7 bx ml.1.1 (.slice xo ml.1.2.length xc)) := by rw [hX7, hbx]; exact RowAt.new w7 [_, _] _
            have HXP : Hid (HasParts X7 (.slice xo ml.1.2.length xc) ml.1.2) := hxp.keep hbX7
            have V7 : Hid (VDk X7 bd G) := V6.out.below hb77
            have hB7 := below2 hB6 hb77
            go_upto_region 23 with fail
            rw [← hX7, ← hbx]
            clear hX7 hbx hbX7 hb77 hb7 hxp cl q0 q1 q2 q3 qf vb hs hc V6 hB6
            obtain ⟨s1, s2, s3, s4, vb, hs, hc⟩ := V7.out
            obtain ⟨q0, q1, q2, q3, qf⟩ := vb.cells
            have chd := Disk.held_fn G _ X7 ⟨_, _, rfl, hs, hc⟩ (fits_ok HCOM.out.1 HCOM.out.2.1)
            rw [held_ok HCOM.out.1] at chd
            unfold Disk.StrsIs at chd
            simp only at chd
            go_wp2_with fail
            go_at_call 18; refine chd.mono ?_; rintro e w8 ⟨u, rfl, hhs, hb8⟩
            obtain ⟨ho, hcap, rfl, hh1, hh2⟩ := HasRow.slice hhs
            have hB8 := below2 hB7 hb8
            have MX : Hid (MBox w8 bx ml.1.1 (.slice xo ml.1.2.length xc)) := RowAt.below MX.out hb8
            have HXP : Hid (HasParts w8 (.slice xo ml.1.2.length xc) ml.1.2) := HXP.out.keep hb8
            have HHS : Hid (Disk.HasStrs w8 (.slice ho (allH G).length hcap) (allH G)) := hhs
            rw [HCOM.out.2.2]
            clear q0 q1 q2 q3 qf vb hs hc chd V7 hb8 hB7 hhs
            first
              | (have h3 : ml.2 = 3 := by rw [HML.out, HX.out.load]
                 rw [h3]
                 clear h3 MX HXP HHS
                 go_wp2
                 go_ret
                 exact ⟨rfl, hB8⟩)
              | (have h3 : ml = (m0 c, 0) := by rw [HML.out]; exact EndL.load HX.out
                 have h31 : ml.1 = m0 c := by rw [h3]
                 have h32 : ml.2 = 0 := by rw [h3]
                 rw [h32]
                 have m1 : w8.cell? ⟨bx, 1, none⟩ = some (.slice xo 1 xc) := by
                   have := (MBox.cells MX.out).2
                   rw [h31] at this
                   exact this
                 have hbx8 : bx < w8.heap.size := RowAt.lt MX.out
                 obtain ⟨xo2, xc2, ex, _, hpc⟩ := HXP.out.form
                 injection ex with ex1 ex2 ex3
                 rw [h31] at hpc
                 obtain ⟨pb, pi, epb, hpl, _, _, hp2⟩ := hpc 0 (by show 0 < 1; omega)
                 rw [← ex1] at epb
                 subst epb
                 have hp2 : w8.cell? ⟨pb, pi + 2, none⟩ = some (.int .i64 (c : Int)) := hp2
                 have hhl := HHS.out
                 obtain ⟨_, hb9, hi9, eho, _, _⟩ := HasRow.at hhl (by rw [HCOM.out.2.2]; omega)
                 subst eho
                 have hcap40 : 40 ≤ hcap := by rw [← HCOM.out.2.2]; exact hh1
                 have hcapi : (40 : Int) ≤ (hcap : Int) := by omega
                 have hcapj : (hcap : Int) ≤ 9223372036854775807 := by omega
                 have HJ := EndL.join HX.out
                 have hlz := HTL.out.2.2
                 have cj : ∀ K, Calls Try.prog 23 #[.slice (some ⟨hb9, hi9 + 2, none⟩) 38 K, .int .u64 (t : Int)] w8 fun e w' => e = .returned (.tuple #[.string Lb, .int .i64 (c : Int)]) ∧ Below w8.heap.size w8 w' := fun K => by
                   have h9 := join_any (.slice (some ⟨hb9, hi9 + 2, none⟩) 38 K) ((allH G).drop 2) t w8 (has_drop2 hhl (by rw [HCOM.out.2.2]; omega) 38 K (by rw [HCOM.out.2.2])) HT9.out (by rw [List.length_drop, HCOM.out.2.2]; omega)
                     (fun z hz => by rw [Disk.allH_whole HCOM.out.1 z (List.mem_of_mem_drop hz)]; omega) (by rw [HJ]; show l.length ≤ _; omega)
                   rw [HJ] at h9
                   simp only at h9
                   rw [← HLB.out, ← HP.out.2.2, ← HC.out] at h9
                   exact h9
                 have hLL : (Lb.toList == Lb.toList) = true := by simp
                 clear hhl HJ hlz ex1 ex2 ex3 hpc h3 h31 h32 MX HXP HHS hh1
                 go_wp2_with fail
                 go_at_call 23; refine (cj _).mono ?_; rintro e w9 ⟨rfl, hb99⟩
                 have hB9 := below2 hB8 hb99
                 have m1 := (hb99.cell (p := ⟨bx, 1, none⟩) hbx8).trans m1
                 have hp2 := (hb99.cell (p := ⟨pb, pi + 2, none⟩) hpl).trans hp2
                 clear cj hb99
                 go_wp2
                 go_ret
                 exact ⟨rfl, hB9⟩)
theorem walk (a0 : Int) (a1 : ByteArray) (a2 : Int) (v3 : Value) (z3 : List Bool) (a4 a5 : Int) (w : World) (b0 : 0 ≤ a0 ∧ a0 ≤ 18446744073709551615) (b1 : a1.size ≤ 140737488351232) (b2 : -9223372036854775808 ≤ a2 ∧ a2 ≤ 9223372036854775807)
    (b3 : HasRow w v3 1 z3.length (z3.map Value.bool)) (b4 : -9223372036854775808 ≤ a4 ∧ a4 ≤ 9223372036854775807) (b5 : -9223372036854775808 ≤ a5 ∧ a5 ≤ 9223372036854775807) :
    Calls Try.prog 6 #[.int .u64 a0, .string a1, .int .i64 a2, v3, .int .i64 a4, .int .i64 a5] w fun e w' => e = .returned (.bool true) ∧ Below w.heap.size w w' := by
  obtain ⟨ko, kc, rfl, _, _⟩ := HasRow.slice b3
  obtain ⟨l, rfl, hl⟩ := Frame.str_list a1
  obtain ⟨t, rfl⟩ := Int.eq_ofNat_of_zero_le b0.1
  exact core t l a2 z3 a4 a5 ko kc w (by omega) (by omega) b2 b3 b4 b5

set_option maxRecDepth 100000 in
theorem lifted (os : Os) (started : os.Started) (H : Type) (enc : TypeId × Value → H) :
    ReturnsInHanded {} Try.checked os 6 .any (Rows.topPagesSpec.pre6 enc Try.prog Try.f6 Rows.topPagesRow.domain false) (Rows.topPagesSpec.post enc Try.prog Try.f6 false true false false) := by
  refine returnsInHanded_of_change_sized (C := Try.checked) own started (by kernel_rfl) Try.func6
    (ChangeSpec.witness6 (enc := enc) (C := Try.checked) false ⟨#[], #[.int .u64 0, .string ByteArray.empty, .int .i64 0, .slice none 0 0, .int .i64 0, .int .i64 0], []⟩ 8 (by kernel_rfl) (by kernel_rfl) (by kernel_rfl) (by kernel_rfl)) ?_
  intro W base args ds gs before hval0 hW _ hsz0 _
  have hsz : (DataW.weightsEach Try.prog (Try.f6.params.toList ++ Rows.topPagesSpec.plain.varTypes Try.prog) (ds ++ gs)).all (· ≤ reachBytes) = true := hsz0
  clear hsz0
  have hval : ∀ (j : Nat) t v, Try.f6.params[j]? = some t → args[j]? = some v → Value.okWide Try.prog W .any base t v := hval0
  have hW' := hW
  obtain ⟨p, q, hA0, hV, rfl, hfz, hnd⟩ := hW
  have hA : DataW.TrodAll enc Try.prog W 0 (fun _ => true) true Try.f6.params.toList args.toList ds p := hA0
  rw [Try.params6] at hA hval hsz
  obtain ⟨v0, vs0, d0, ds0, p0, q0, hargs, rfl, rfl, h0, r0⟩ := trodAll_cons hA
  obtain ⟨v1, vs1, d1, ds1, p1, q1, rfl, rfl, rfl, h1, r1⟩ := trodAll_cons r0
  obtain ⟨v2, vs2, d2, ds2, p2, q2, rfl, rfl, rfl, h2, r2⟩ := trodAll_cons r1
  obtain ⟨v3, vs3, d3, ds3, p3, q3, rfl, rfl, rfl, h3, r3⟩ := trodAll_cons r2
  obtain ⟨v4, vs4, d4, ds4, p4, q4, rfl, rfl, rfl, h4, r4⟩ := trodAll_cons r3
  obtain ⟨v5, vs5, d5, ds5, p5, q5, rfl, rfl, rfl, h5, r5⟩ := trodAll_cons r4
  obtain ⟨rfl, rfl, rfl⟩ := trodAll_nil r5
  obtain rfl : args = #[v0, v1, v2, v3, v4, v5] := by cases args; simp_all
  obtain ⟨rfl, rfl⟩ := trodVars_none hV
  obtain ⟨a0, rfl, rfl, rfl, w0⟩ := open_int Try.underlying34 (hval 0 34 v0 rfl rfl) h0
  have b0 : 0 ≤ a0 ∧ a0 ≤ 18446744073709551615 := by simpa [Lit.wf, IntKind.min, IntKind.max, IntKind.signed, IntKind.bits] using w0
  obtain ⟨a1, rfl, rfl, rfl, w1⟩ := open_string Try.underlying9 (hval 1 9 v1 rfl rfl) h1
  have b1 : a1.size ≤ 140737488351232 := by
    have := sized_string hsz (j := 1) (t := 9) rfl rfl
    simpa [reachBytes] using this
  obtain ⟨a2, rfl, rfl, rfl, w2⟩ := open_int Try.underlying3 (hval 2 3 v2 rfl rfl) h2
  have b2 : -9223372036854775808 ≤ a2 ∧ a2 ≤ 9223372036854775807 := by simpa [Lit.wf, IntKind.min, IntKind.max, IntKind.signed, IntKind.bits] using w2
  obtain ⟨a3, len3, cap3, rfl⟩ := okWide_slice Try.underlying23 (hval 3 23 v3 rfl rfl)
  have k3 := h3
  have lt3 : ∀ x ∈ p3, x.block < W.heap.size := by obtain ⟨m, hm⟩ := k3; exact DataW.trod_lt m _ _ _ hm
  obtain ⟨fuel3, hf3⟩ := h3
  obtain ⟨z3, b3⟩ := Disk.open_bools_row hf3
  obtain ⟨a4, rfl, rfl, rfl, w4⟩ := open_int Try.underlying3 (hval 4 3 v4 rfl rfl) h4
  have b4 : -9223372036854775808 ≤ a4 ∧ a4 ≤ 9223372036854775807 := by simpa [Lit.wf, IntKind.min, IntKind.max, IntKind.signed, IntKind.bits] using w4
  obtain ⟨a5, rfl, rfl, rfl, w5⟩ := open_int Try.underlying3 (hval 5 3 v5 rfl rfl) h5
  have b5 : -9223372036854775808 ≤ a5 ∧ a5 ≤ 9223372036854775807 := by simpa [Lit.wf, IntKind.min, IntKind.max, IntKind.signed, IntKind.bits] using w5
  clear hA0 hval0
  refine (walk a0 a1 a2 (.slice a3 len3 cap3) z3 a4 a5 W b0 b1 b2 b3 b4 b5).mono fun e W' ⟨he, bel⟩ => ?_
  subst he
  exact ⟨_, rfl, _, _, _, [], _, [], hW', trodAll_mk1 (shut_bool Try.underlying4 _), (trodAll_cons_mk (shut_int Try.underlying34 w0) (trodAll_cons_mk (shut_string Try.underlying9 w1) (trodAll_cons_mk (shut_int Try.underlying3 w2) (trodAll_cons_mk (Below.trod laidOut (by kernel_rfl) (of_decide_eq_true (by kernel_rfl)) k3 bel lt3) (trodAll_cons_mk (shut_int Try.underlying3 w4) (trodAll_cons_mk (shut_int Try.underlying3 w5) trodAll_mk0)))))), rfl, bel.frame _, fun h => by cases h⟩

theorem over : Rows.topPagesRow.holds Try.pinned (OpenSpec.ofChange Rows.topPagesSpec) :=
  OpenClaim.holds_of_wide 6 Try.f6 rfl rfl rfl rfl rfl rfl rfl ⟨rfl, rfl, rfl, rfl, rfl⟩ rfl rfl rfl rfl rfl (by kernel_rfl) Try.func6 (by kernel_rfl)
    (of_decide_eq_true (by kernel_rfl)) (by unfold Func.isWrapper; first | (rw [if_pos (by decide +kernel)]; kernel_rfl) | (rw [if_neg (by decide +kernel)]; exact ⟨rfl, rfl⟩))
    (fun os started H enc _ => lifted os started H enc)
end topPages
theorem tpages_holds : Rows.TopPagesSaid := topPages.over
#print axioms tpages_holds
end Go.Proofs.Ytajcmgccclemdab
