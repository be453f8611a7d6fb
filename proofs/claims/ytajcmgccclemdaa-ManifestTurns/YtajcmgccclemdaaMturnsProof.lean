/- For all rows of rows of parts, fuses, and ways of a crash: spoorlaw06.ManifestTurns returns true, and changes nothing that was there. No condition. -/
import Derived.Test.YtajcmgccclemdaaRows
import Derived.Test.YtajcmgccclemdaaManTurnB
import Derived.Test.YtajcmgccclemdaaManLives
import Derived.ProofKit
import Derived.OpenShut
import Derived.ShutString
import Derived.SizedLaws
set_option linter.unusedVariables false
namespace Go.Proofs.Ytajcmgccclemdaa
namespace manifestTurns
open Go.ChangeShapes Go.WideShapes Go.ChangeAt Go.RowKit
open Go.Proofs.Ytajcmgccclemdaa.Page
open Go.Proofs.Ytajcmgccclemdaa.Man
open Go.Proofs.Ytajcmgccclemdaa.Disk (VDk back_of Back Dk HasDk Fits VBox HasStrs HasPuts HasRow outD crashD makeD Ok outD_ok)

theorem own : ownKnob Try.prog.godebug = none := by kernel_rfl
theorem laidOut : laidOutB Try.prog = true := by kernel_rfl
theorem save_fuse {d : Dk} {m : ManT} (h : d.fuse ≤ 9223372036854775807) : (saveM d m).1.fuse ≤ 9223372036854775807 := by
  unfold saveM
  split
  · split
    · split
      · unfold outD
        split
        · exact Disk.flush_fuse (Disk.write_fuse h _ _)
        · show (0 : Int) ≤ _; decide
      · exact Disk.write_fuse h _ _
    · exact h
  · show (0 : Int) ≤ _; decide
/-- what is loaded is the newest one -/
theorem turn_load {d : Dk} {was : ManT} (h : Turn d was) : loadM d = (was, if was.1 = 0 then 3 else 0) := by
  rw [h.load]
  by_cases hz : was.1 = 0
  · rw [if_pos hz, if_pos hz, (h.m0 hz).1]
  · rw [if_neg hz, if_neg hz]
theorem turn_len {d : Dk} {was : ManT} (h : Turn d was) : was.2.length ≤ 8 := by
  by_cases hz : was.1 = 0
  · rw [(h.m0 hz).1]; simp
  · have h1 := h.m1 hz
    have := (okM_parts (get_ok (s := d.secs.getD (was.1 % 2) []) (by rw [h1])).1).2.1
    rw [h1] at this; exact this
theorem load_c {d : Dk} {was : ManT} (h : Turn d was) (hf : Fits d) (W : World) (v : Value) (hv : HasDk W v d) :
    Calls Try.prog 18 #[v] W fun e w' => ∃ xo xc, e = .returned (.tuple #[.agg #[.int .u64 (was.1 : Int), .slice xo was.2.length xc], .int .i64 (if was.1 = 0 then 3 else 0)]) ∧ HasParts w' (.slice xo was.2.length xc) was.2 ∧ Below W.heap.size W w' := by
  refine (load_any d v W hv hf).mono ?_
  rw [turn_load h]
  rintro e w' ⟨v, rfl, hp, hb⟩
  obtain ⟨xo, xc, rfl, _, _⟩ := hp.form
  exact ⟨xo, xc, rfl, hp, hb⟩
set_option maxHeartbeats 16000000 in
set_option maxRecDepth 20000 in
theorem core (zs : List (List PartT)) (A : Nat → Option Addr) (C : Nat → Nat) (fs : List Int) (keep : List Bool) (torn bytes : Int) (lo fo ko : Option Addr) (lc fc kc : Nat) (w : World)
    (HT : Hid (∀ k (hk : k < zs.length), ∃ b i, lo = some ⟨b, i, none⟩ ∧ b < w.heap.size ∧ w.cell? ⟨b, i + k, none⟩ = some (.slice (A k) zs[k].length (C k)) ∧ HasParts w (.slice (A k) zs[k].length (C k)) zs[k]))
    (HFP : Hid (∀ ps ∈ zs, ∀ p ∈ ps, FitP p)) (hn9 : zs.length ≤ 9223372036854775807) (hf9 : fs.length ≤ 9223372036854775807)
    (HFS : Hid (∀ k (hk : k < fs.length), ∃ b i, fo = some ⟨b, i, none⟩ ∧ b < w.heap.size ∧ w.cell? ⟨b, i + k, none⟩ = some (.int .i64 fs[k]) ∧ -9223372036854775808 ≤ fs[k] ∧ fs[k] ≤ 9223372036854775807))
    (HK : Hid (HasRow w (.slice ko keep.length kc) 1 keep.length (keep.map Value.bool))) (ht : -9223372036854775808 ≤ torn ∧ torn ≤ 9223372036854775807) (hbt : -9223372036854775808 ≤ bytes ∧ bytes ≤ 9223372036854775807) :
    Calls Try.prog 5 #[.slice lo zs.length lc, .slice fo fs.length fc, .slice ko keep.length kc, .int .i64 torn, .int .i64 bytes] w fun e w' => e = .returned (.bool true) ∧ Below w.heap.size w w' := by
  obtain ⟨n, hn⟩ : ∃ n, n = zs.length := ⟨_, rfl⟩
  have HN : Hid (n = zs.length) := hn
  obtain ⟨fl, hfl⟩ : ∃ n, n = fs.length := ⟨_, rfl⟩
  have HFL : Hid (fl = fs.length) := hfl
  obtain ⟨kl, hkl⟩ : ∃ n, n = keep.length := ⟨_, rfl⟩
  have HKL : Hid (kl = keep.length) := hkl
  rw [← hn] at hn9 ⊢
  rw [← hfl] at hf9 ⊢
  rw [← hkl]
  have hni : (n : Int) ≤ 9223372036854775807 := by omega
  have hfi : (fl : Int) ≤ 9223372036854775807 := by omega
  have HBT : Hid ((-9223372036854775808 ≤ torn ∧ torn ≤ 9223372036854775807) ∧ (-9223372036854775808 ≤ bytes ∧ bytes ≤ 9223372036854775807)) := ⟨ht, hbt⟩
  have cmk := fun W => (Disk.make_fn 3 W (by omega)).mono (fun e w' h => back_of h)
  have HTM : Hid (Turn (makeD 3).1 (0, []) ∧ (makeD 3).1.fuse = -1) := ⟨turn_make, rfl⟩
  rw [show (makeD 3).2 = 0 from rfl] at cmk
  unfold Back at cmk
  generalize (makeD 3).1 = D0 at cmk HTM
  clear hn hfl hkl hn9 hf9 ht hbt
  go_enter Try.func5, Try.ntmps5
  go_wp2_with fail
  go_at_call 13; refine (Man.lives_any _).mono ?_; rintro e w1 ⟨rfl, hb1⟩
  go_wp2_with fail
  go_at_call 23; refine (cmk _).mono ?_; rintro e w2 ⟨s1, s2, s3, s4, rfl, hs2, hc2, hb2⟩
  obtain ⟨X, hX⟩ : ∃ X, X = (w2.alloc (.cells #[.slice s1 D0.secs.length s2, .slice s3 D0.cache.length s4, .int .i64 D0.fuse, .bool D0.off] 38)).alloc (.cells #[.int .u64 0, .slice none 0 0] 25) := ⟨_, rfl⟩
  obtain ⟨bd, hbd⟩ : ∃ b, b = w2.heap.size := ⟨_, rfl⟩
  have hbw : w2.heap.size + 1 = bd + 1 := by rw [hbd]
  have HTA : Hid (TAt w X bd (bd + 1) D0 (0, []) none 0) := by
    have hB := below2 hb1 hb2
    refine ⟨?_, ?_, Disk.hasRow_nil _ _, ?_, by have := hB.size; omega, by have := hB.size; omega, by omega⟩
    · rw [hX, hbd]; exact (VDk.new hs2 hc2).below ((Below.refl _ _).alloc (Nat.le_refl _) _)
    · have := RowAt.new (w2.alloc (.cells #[.slice s1 D0.secs.length s2, .slice s3 D0.cache.length s4, .int .i64 D0.fuse, .bool D0.off] 38)) [.int .u64 0, .slice none 0 0] 25
      rw [World.size_alloc, List.toArray, ← hX, hbw] at this
      exact this
    · rw [hX]; exact below2 hB (((Below.refl _ _).alloc (Nat.le_refl _) _).alloc (by simp) _)
  go_upto_region 5 with fail
  rw [← hX, ← hbd]
  clear hX hbd hbw hs2 hc2 hb1 hb2 cmk
  go_wp2_with fail
  go_loopw [32] (fun i wr => ∃ (k : Nat) (D : Dk) (was : ManT) (o : Option Addr) (c : Nat), k ≤ n ∧ i = .int .i64 k ∧ Hid (TAt w wr bd (bd + 1) D was o c) ∧ Hid (Turn D was ∧ D.fuse = -1)) (fun i _ => n - (intOf i).toNat)
  case atStart => exact ⟨0, D0, (0, []), none, 0, by omega, rfl, HTA, HTM⟩
  case round =>
    obtain ⟨k, D, was, o, c, hk, rfl, HT1, HT2⟩ := hrel
    clear HTA HTM
    by_cases hlt : k < n
    · have hkz : k < zs.length := by rw [← HN.out]; exact hlt
      obtain ⟨b, i, rfl, hbs, hcell, hpk⟩ := HT.out k hkz
      have hcell2 := (HT1.out.below.cell (p := ⟨b, i + k, none⟩) hbs).trans hcell
      have hki : (k : Int) < (n : Int) := by omega
      by_cases h30 : k = 30
      · have h30i : ((k : Int) == 30) = true := by rw [beq_iff_eq]; omega
        have hBf := HT1.out.below
        subst h30
        clear hcell HT1 HT2 hpk HT
        go_wp2
        go_ret
        exact ⟨rfl, hBf⟩
      · have h30i : ((k : Int) == 30) = false := by rw [beq_eq_false_iff_ne]; omega
        have h30n : ¬ ((k : Int) = 30) := by omega
        have hle := HT2.out.1.le
        have hwi : (was.1 : Int) ≤ 4611686018427387904 := by omega
        have hfp := HFP.out _ (List.getElem_mem hkz)
        have HPK : Hid (HasParts w (.slice (A k) zs[k].length (C k)) zs[k]) := hpk
        have HFK : Hid (FitM (was.1 + 1, zs[k])) := ⟨by simp only; omega, hfp⟩
        generalize zs[k] = ps at hcell2 HPK HFK
        generalize A k = ao at hcell2 HPK
        generalize C k = ac at hcell2 HPK
        clear hcell hpk hfp h30
        obtain ⟨m0, m1⟩ := HT1.out.box.cells
        obtain ⟨X1, hX1⟩ : ∃ X, X = wr.alloc (.cells #[.int .u64 ((was.1 : Int) + 1), .slice ao ps.length ac] 25) := ⟨_, rfl⟩
        obtain ⟨bm, hbm⟩ : ∃ b, b = wr.heap.size := ⟨_, rfl⟩
        have hbX : Below wr.heap.size wr X1 := by rw [hX1]; exact (Below.refl _ _).alloc (Nat.le_refl _) _
        have MB : Hid (MBox X1 bm (was.1 + 1) (.slice ao ps.length ac)) := by
          rw [hX1, hbm]
          have := RowAt.new wr [.int .u64 ((was.1 : Int) + 1), .slice ao ps.length ac] 25
          exact this
        have hbm0 : w.heap.size ≤ bm ∧ bd < bm ∧ bd + 1 < bm := by
          have := RowAt.lt HT1.out.box
          have := HT1.out.below.size
          omega
        have HT1 : Hid (TAt w X1 bd (bd + 1) D was o c) := HT1.out.keep hbX
        have HBM : Hid (w.heap.size ≤ bm ∧ bd < bm ∧ bd + 1 < bm) := hbm0
        go_upto_region 10 with fail
        rw [← hX1, ← hbm]
        clear hX1 hbm hbX m0 m1 hcell2 hbm0
        obtain ⟨m0, m1⟩ := MBox.cells MB.out
        have hm1 : ((was.1 + 1 : Nat) : Int) = (was.1 : Int) + 1 := by omega
        rw [hm1] at m0
        have cck := check_any (was.1 + 1, ps) (.slice ao ps.length ac) X1 (HPK.out.keep HT1.out.below) HFK.out
        simp only at cck
        rw [hm1] at cck
        cases hok : okM (was.1 + 1, ps)
        · rw [checkM_bad hok] at cck
          clear hok
          go_wp2_with fail
          go_at_call 14; refine cck.mono ?_; rintro e w3 ⟨rfl, hb3⟩
          have HT1 : Hid (TAt w w3 bd (bd + 1) D was o c) := HT1.out.keep hb3
          clear cck m0 m1 MB hb3
          go_wp2_with fail
          go_roundw
          case rel => exact ⟨k + 1, D, was, o, c, by omega, by go_num, HT1, HT2⟩
          case measure => simp [intOf]; omega
        · rw [checkM_ok hok] at cck
          have HOK : Hid (okM (was.1 + 1, ps) = true) := hok
          clear hok
          go_wp2_with fail
          go_at_call 14; refine cck.mono ?_; rintro e w3 ⟨rfl, hb3⟩
          have HT1 : Hid (TAt w w3 bd (bd + 1) D was o c) := HT1.out.keep hb3
          have MB : Hid (MBox w3 bm (was.1 + 1) (.slice ao ps.length ac)) := RowAt.below MB.out hb3
          clear cck m0 m1 hb3
          -- how much power there is
          have hfuse : ∃ (F : Int) (W1 : World), (-1 ≤ F ∧ F ≤ 9223372036854775807) ∧ Hid (TAt w W1 bd (bd + 1) ⟨D.secs, D.cache, F, D.off⟩ was o c ∧ MBox W1 bm (was.1 + 1) (.slice ao ps.length ac)) ∧
              ((¬ k < fl ∧ W1 = w3.setCell ⟨bd, 2, none⟩ (.int .i64 (-1))) ∨
               (k < fl ∧ ∃ (f : Int) (bf jf : Nat), fo = some ⟨bf, jf, none⟩ ∧ bf < w.heap.size ∧ w.cell? ⟨bf, jf + k, none⟩ = some (.int .i64 f) ∧ W1 = (w3.setCell ⟨bd, 2, none⟩ (.int .i64 (-1))).setCell ⟨bd, 2, none⟩ (.int .i64 (max f (-1))))) := by
            have hT := HT1.out.fuse (-1)
            have hM : MBox (w3.setCell ⟨bd, 2, none⟩ (.int .i64 (-1))) bm (was.1 + 1) (.slice ao ps.length ac) := RowAt.grown' MB.out (grown_cell _ _ _ _) (by have := HBM.out; omega)
            by_cases hkf : k < fl
            · obtain ⟨bf, jf, e1, e2, e3, e4, e5⟩ := HFS.out k (by rw [← HFL.out]; exact hkf)
              refine ⟨max fs[k] (-1), _, by omega, ⟨hT.fuse _, RowAt.grown' hM (grown_cell _ _ _ _) (by have := HBM.out; omega)⟩, .inr ⟨hkf, _, bf, jf, e1, e2, e3, rfl⟩⟩
            · exact ⟨-1, _, by omega, ⟨hT, hM⟩, .inl ⟨hkf, rfl⟩⟩
          obtain ⟨F, W1, hF, HW1, hway⟩ := hfuse
          obtain ⟨u1, u2, u3, u4, vb, _, _⟩ := HT1.out.disk
          obtain ⟨q0, q1, q2, q3, qf⟩ := vb.cells
          have HB3 : Hid (Below w.heap.size w w3) := HT1.out.below
          have hbdl : Hid (w.heap.size ≤ bd) := HT1.out.d0
          have hgo : True := trivial
          refine hway.elim ?wayA ?wayB
          case' wayA =>
            rintro ⟨hkf, hW1⟩
            have hkf1 : decide ((k : Int) < (fl : Int)) = false := by rw [decide_eq_false_iff_not]; omega
            have hkf2 : decide (k < fl) = false := by rw [decide_eq_false_iff_not]; exact hkf
            have hkf3 : ¬ ((k : Int) < (fl : Int)) := by omega
            clear hway
            go_upto_region 14 with fail
            rw [← hW1]
            clear hW1 hkf hkf1 hkf2 hkf3
          case' wayB =>
            rintro ⟨hkf, f, bf, jf, rfl, hbf, hcf, hW1⟩
            have hkfi : (k : Int) < (fl : Int) := by omega
            have hcf2 : (w3.setCell ⟨bd, 2, none⟩ (.int .i64 (-1))).cell? ⟨bf, jf + k, none⟩ = some (.int .i64 f) := ((HB3.out.setCell (p := ⟨bd, 2, none⟩) hbdl.out _).cell (p := ⟨bf, jf + k, none⟩) hbf).trans hcf
            have vb2 : ∀ j, (w3.setCell ⟨bd, 2, none⟩ (.int .i64 (-1))).frozen? ⟨bd, j, none⟩ = false := fun j => by
              have := heap_setCell_same w3 bd 2 _ _ (.int .i64 (-1)) vb
              simp [World.frozen?, this]
            clear hway
            go_upto_region 14 with fail
            rw [← hW1]
            clear hW1 hkf hkfi hcf hcf2 vb2 hbf
          all_goals
            obtain ⟨hT1, hM1⟩ := HW1.out
            clear q0 q1 q2 q3 qf vb HB3 HT1 MB hgo HW1
            have hTu : Turn ⟨D.secs, D.cache, F, D.off⟩ was := HT2.out.1.fuse F hF.1
            obtain ⟨D1, hD1⟩ : ∃ D1, D1 = (⟨D.secs, D.cache, F, D.off⟩ : Dk) := ⟨_, rfl⟩
            rw [← hD1] at hT1 hTu
            have hf1 : D1.fuse ≤ 9223372036854775807 := by rw [hD1]; exact hF.2
            have hfit1 : Fits D1 := Disk.fits_ok hTu.ok hf1
            clear hD1
            obtain ⟨s1, s2, s3, s4, vb, hs, hc⟩ := hT1.disk
            obtain ⟨q0, q1, q2, q3, qf⟩ := vb.cells
            obtain ⟨m0, m1⟩ := hM1.cells
            rw [hm1] at m0
            have csv := (save_any D1 (was.1 + 1, ps) _ (.slice ao ps.length ac) W1 ⟨_, _, rfl, hs, hc⟩ hfit1 (HPK.out.keep hT1.below) HFK.out (fun hk W v h => Disk.fresh_any D1 v W h hk)).mono (fun e w' h => back_of h)
            have hsave := hTu.save HOK.out rfl
            have hfs := save_fuse (m := (was.1 + 1, ps)) hf1
            simp only at csv
            rw [hm1] at csv
            generalize saveM D1 (was.1 + 1, ps) = r at csv hsave hfs
            obtain ⟨E, y⟩ := r
            unfold Back at csv
            simp only at csv hsave hfs
            have HTU : Hid (Turn D1 was) := hTu
            have HSV : Hid ((y = 0 ∧ Turn E (was.1 + 1, ps)) ∨ (y = 9 ∧ Ok E ∧ E.secs = D1.secs ∧ E.cache = [((((was.1 + 1) % 2 : Nat) : Int), sectL (was.1 + 1, ps))])) := hsave
            have HFE : Hid (E.fuse ≤ 9223372036854775807) := hfs
            clear hTu hsave hfs hf1 hfit1
            go_wp2_with fail
            go_at_call 20; refine csv.mono ?_; rintro e w4 ⟨a1, a2, a3, a4, rfl, hs4, hc4, hb4⟩
            obtain ⟨X4, hX4⟩ : ∃ X, X = w4.alloc (.cells #[.slice a1 E.secs.length a2, .slice a3 E.cache.length a4, .int .i64 E.fuse, .bool E.off] 38) := ⟨_, rfl⟩
            obtain ⟨be, hbe⟩ : ∃ b, b = w4.heap.size := ⟨_, rfl⟩
            have hbX : Below w4.heap.size w4 X4 := by rw [hX4]; exact (Below.refl _ _).alloc (Nat.le_refl _) _
            have VE : Hid (VDk X4 be E) := by rw [hX4, hbe]; exact VDk.new hs4 hc4
            have HBE : Hid (w.heap.size ≤ be ∧ bd < be ∧ bd + 1 < be ∧ bm < be) := by
              have h1 := RowAt.lt hM1
              have h2 := hb4.size
              have h3 := HBM.out
              show _ ∧ _
              omega
            have HT4 : Hid (TAt w X4 bd (bd + 1) D1 was o c) := hT1.keep (below2 hb4 hbX)
            have MB : Hid (MBox X4 bm (was.1 + 1) (.slice ao ps.length ac)) := RowAt.below hM1 (below2 hb4 hbX)
            go_upto_region 15 with fail
            rw [← hX4, ← hbe]
            clear hX4 hbe hbX hb4 hs4 hc4 hs hc vb q0 q1 q2 q3 qf m0 m1 csv hT1 hM1
            have hsv := HSV.out
            rcases hsv with ⟨hy, hTE⟩ | ⟨hy, hEok, hEs, hEc⟩
            any_goals
              have hTE' := hTE
              clear hTE'
              subst hy
              obtain ⟨m0, m1⟩ := MBox.cells MB.out
              rw [hm1] at m0
              obtain ⟨p0, p1⟩ := HT4.out.box.cells
              have pf0 := RowAt.frozen HT4.out.box 0
              have pf1 := RowAt.frozen HT4.out.box 1
              obtain ⟨W5, hW5⟩ : ∃ W5, W5 = (X4.setCell ⟨bd + 1, 0, none⟩ (.int .u64 ((was.1 : Int) + 1))).setCell ⟨bd + 1, 1, none⟩ (.slice ao ps.length ac) := ⟨_, rfl⟩
              have HT5 : Hid (TAt w W5 bd (bd + 1) D1 (was.1 + 1, ps) ao ac) := by
                have := HT4.out.was (m := (was.1 + 1, ps)) HPK.out
                simp only at this
                rw [hm1, ← hW5] at this
                exact this
              have VE5 : Hid (VDk W5 be E) := by
                rw [hW5]; exact far_was VE.out HT4.out.box (by have := HBE.out; omega) _ _
              have HTu5 : Hid (Turn E (was.1 + 1, ps)) := hTE
              go_upto_region 24 with fail
              rw [← hW5]
              clear hW5 m0 m1 p0 p1 pf0 pf1 hTE HT4 VE MB
              obtain ⟨E5, hE5⟩ : ∃ E5, E5 = E := ⟨_, rfl⟩
              obtain ⟨was5, hw5⟩ : ∃ x : ManT, x = (was.1 + 1, ps) := ⟨_, rfl⟩
              obtain ⟨o5, ho5⟩ : ∃ x, x = ao := ⟨_, rfl⟩
              obtain ⟨c5, hc5'⟩ : ∃ x, x = ac := ⟨_, rfl⟩
              rw [← hE5] at VE5 HTu5
              rw [← hw5] at HTu5
              rw [← hw5, ← ho5, ← hc5'] at HT5
              clear hE5 hw5 ho5 hc5'
            any_goals
              have hEok' := hEok
              clear hEok'
              subst hy
              have hcr := HTU.out.crash HOK.out rfl hEok hEs hEc keep torn bytes
              have hfitE : Fits E := Disk.fits_ok hEok HFE.out
              obtain ⟨s1, s2, s3, s4, vb, hs, hc⟩ := VE.out
              obtain ⟨q0, q1, q2, q3, qf⟩ := vb.cells
              have ccr := (Disk.crash_fn E _ (.slice ko keep.length kc) keep torn bytes X4 ⟨_, _, rfl, hs, hc⟩ hfitE (Disk.HasRow.keep' HK.out HT4.out.below) HBT.out.1 HBT.out.2).mono (fun e w' h => back_of h)
              rw [outD_ok hEok] at ccr
              rw [← HKL.out] at ccr
              have hok6 : Ok (crashD E keep torn bytes).1 := Disk.crash_ok hEok keep torn bytes
              have hf6 : (crashD E keep torn bytes).1.fuse = -1 := rfl
              have hy6 : (crashD E keep torn bytes).2 = 0 := rfl
              generalize crashD E keep torn bytes = r at ccr hcr hok6 hf6 hy6
              obtain ⟨G, y6⟩ := r
              unfold Back at ccr
              simp only at ccr hcr hok6 hf6 hy6
              have hfit6 : Fits G := Disk.fits_ok hok6 (by rw [hf6]; decide)
              have HCR : Hid (Turn G (was.1 + 1, ps) ∨ Turn G was) := hcr
              have HG : Hid (Fits G) := hfit6
              have hy60 : y6 = 0 := hy6
              clear hcr hok6 hf6 hy6 hfit6 hfitE hEok hEs hEc
              subst hy60
              go_wp2_with fail
              go_at_call 24; refine ccr.mono ?_; rintro e w5 ⟨b1, b2, b3, b4, rfl, hs5, hc5, hb5⟩
              have VE : Hid (VDk w5 be E) := VE.out.below hb5
              have HT4 : Hid (TAt w w5 bd (bd + 1) D1 was o c) := HT4.out.keep hb5
              have MB : Hid (MBox w5 bm (was.1 + 1) (.slice ao ps.length ac)) := RowAt.below MB.out hb5
              obtain ⟨W6, hW6⟩ : ∃ W6, W6 = (((w5.setCell ⟨be, 0, none⟩ (.slice b1 G.secs.length b2)).setCell ⟨be, 1, none⟩ (.slice b3 G.cache.length b4)).setCell ⟨be, 2, none⟩ (.int .i64 G.fuse)).setCell ⟨be, 3, none⟩ (.bool G.off) := ⟨_, rfl⟩
              have VG : Hid (VDk W6 be G) := by rw [hW6]; exact VE.out.store hs5 hc5
              have HT6 : Hid (TAt w W6 bd (bd + 1) D1 was o c) := by
                rw [hW6]; exact HT4.out.beside VE.out HBE.out.1 (by have := HBE.out; omega) (by have := HBE.out; omega) _ _ _ _
              have MB6 : Hid (MBox W6 bm (was.1 + 1) (.slice ao ps.length ac)) := by
                rw [hW6]; exact RowAt.grown' MB.out (Disk.set4_grown _ _ _ _ _ _) (by have := HBE.out; omega)
              clear q0 q1 q2 q3 qf vb hs hc
              obtain ⟨_, _, _, _, vb, _, _⟩ := VE.out
              obtain ⟨q0, q1, q2, q3, qf⟩ := vb.cells
              go_upto_region 21 with fail
              rw [← hW6]
              clear hW6 q0 q1 q2 q3 qf vb ccr hs5 hc5 hb5 VE HT4 MB
              obtain ⟨s1, s2, s3, s4, vb, hs, hc⟩ := VG.out
              obtain ⟨q0, q1, q2, q3, qf⟩ := vb.cells
              have hcr := HCR.out
              rcases hcr with hTG | hTW
              any_goals
                have hTG' := hTG
                clear hTG'
                have cl := load_c hTG HG.out W6 _ ⟨_, _, rfl, hs, hc⟩
                simp only at cl
                rw [if_neg (show ¬ was.1 + 1 = 0 by omega), hm1] at cl
                go_wp2_with fail
                go_at_call 18; refine cl.mono ?_; rintro e w7 ⟨xo, xc, rfl, hxp, hb7⟩
                obtain ⟨X7, hX7⟩ : ∃ X, X = w7.alloc (.cells #[.int .u64 ((was.1 : Int) + 1), .slice xo ps.length xc] 25) := ⟨_, rfl⟩
                obtain ⟨bx, hbx⟩ : ∃ b, b = w7.heap.size := ⟨_, rfl⟩
                have hbX : Below w7.heap.size w7 X7 := by rw [hX7]; exact (Below.refl _ _).alloc (Nat.le_refl _) _
                have hb := below2 hb7 hbX
                have MX : MBox X7 bx (was.1 + 1) (.slice xo ps.length xc) := by
                  rw [hX7, hbx]
                  have := RowAt.new w7 [.int .u64 ((was.1 : Int) + 1), .slice xo ps.length xc] 25
                  exact this
                have hxp := hxp.keep hbX
                have VG : Hid (VDk X7 be G) := VG.out.below hb
                have HT7 : Hid (TAt w X7 bd (bd + 1) D1 was o c) := HT6.out.keep hb
                have MB7 : Hid (MBox X7 bm (was.1 + 1) (.slice ao ps.length ac)) := RowAt.below MB6.out hb
                go_upto_region 22 with fail
                rw [← hX7, ← hbx]
                clear hX7 hbx hbX hb hb7 cl q0 q1 q2 q3 qf vb hs hc HT6 MB6
                obtain ⟨m0, m1⟩ := MBox.cells MB7.out
                obtain ⟨x0, x1⟩ := MX.cells
                rw [hm1] at m0 x0
                have csm := msame_any (was.1 + 1, ps) _ _ X7 hxp (HPK.out.keep HT7.out.below) HFK.out.1 (okM_parts HOK.out).2.1
                simp only at csm
                rw [hm1] at csm
                go_wp2_with fail
                go_at_call 16; refine csm.mono ?_; rintro e w8 ⟨rfl, hb8⟩
                have VG : Hid (VDk w8 be G) := VG.out.below hb8
                have HT8 : Hid (TAt w w8 bd (bd + 1) D1 was o c) := HT7.out.keep hb8
                have MB8 : Hid (MBox w8 bm (was.1 + 1) (.slice ao ps.length ac)) := RowAt.below MB7.out hb8
                clear csm m0 m1 x0 x1 MX hxp HT7 MB7 hb8
                obtain ⟨m0, m1⟩ := MBox.cells MB8.out
                rw [hm1] at m0
                obtain ⟨p0, p1⟩ := HT8.out.box.cells
                have pf0 := RowAt.frozen HT8.out.box 0
                have pf1 := RowAt.frozen HT8.out.box 1
                obtain ⟨W5, hW5⟩ : ∃ W5, W5 = (w8.setCell ⟨bd + 1, 0, none⟩ (.int .u64 ((was.1 : Int) + 1))).setCell ⟨bd + 1, 1, none⟩ (.slice ao ps.length ac) := ⟨_, rfl⟩
                have HT5 : Hid (TAt w W5 bd (bd + 1) D1 (was.1 + 1, ps) ao ac) := by
                  have := HT8.out.was (m := (was.1 + 1, ps)) HPK.out
                  simp only at this
                  rw [hm1, ← hW5] at this
                  exact this
                have VE5 : Hid (VDk W5 be G) := by
                  rw [hW5]; exact far_was VG.out HT8.out.box (by have := HBE.out; omega) _ _
                have HTu5 : Hid (Turn G (was.1 + 1, ps)) := hTG
                go_upto_region 24 with fail
                rw [← hW5]
                clear hW5 m0 m1 p0 p1 pf0 pf1 hTG HT8 VG MB8
                obtain ⟨E5, hE5⟩ : ∃ E5, E5 = G := ⟨_, rfl⟩
                obtain ⟨was5, hw5⟩ : ∃ x : ManT, x = (was.1 + 1, ps) := ⟨_, rfl⟩
                obtain ⟨o5, ho5⟩ : ∃ x, x = ao := ⟨_, rfl⟩
                obtain ⟨c5, hc5'⟩ : ∃ x, x = ac := ⟨_, rfl⟩
                rw [← hE5] at VE5 HTu5
                rw [← hw5] at HTu5
                rw [← hw5, ← ho5, ← hc5'] at HT5
                clear hE5 hw5 ho5 hc5'
              any_goals
                have hTG := hTW
                clear hTW
                have cl := load_c hTG HG.out W6 _ ⟨_, _, rfl, hs, hc⟩
                have hcsn := fun W v u (h1 : HasParts W v was.2) (h2 : HasParts W u ps) => msame_not was (was.1 + 1, ps) v u W h1 h2 (by omega) (by simp only; omega) (by simp only; omega)
                simp only at hcsn
                rw [hm1] at hcsn
                go_wp2_with fail
                go_at_call 18; refine cl.mono ?_; rintro e w7 ⟨xo, xc, rfl, hxp, hb7⟩
                obtain ⟨X7, hX7⟩ : ∃ X, X = w7.alloc (.cells #[.int .u64 (was.1 : Int), .slice xo was.2.length xc] 25) := ⟨_, rfl⟩
                obtain ⟨bx, hbx⟩ : ∃ b, b = w7.heap.size := ⟨_, rfl⟩
                have hbX : Below w7.heap.size w7 X7 := by rw [hX7]; exact (Below.refl _ _).alloc (Nat.le_refl _) _
                have hb := below2 hb7 hbX
                have MX : MBox X7 bx was.1 (.slice xo was.2.length xc) := by rw [hX7, hbx]; exact RowAt.new w7 [_, _] _
                have hxp := hxp.keep hbX
                have VG : Hid (VDk X7 be G) := VG.out.below hb
                have HT7 : Hid (TAt w X7 bd (bd + 1) D1 was o c) := HT6.out.keep hb
                have MB7 : Hid (MBox X7 bm (was.1 + 1) (.slice ao ps.length ac)) := RowAt.below MB6.out hb
                go_upto_region 22 with fail
                rw [← hX7, ← hbx]
                clear hX7 hbx hbX hb hb7 cl q0 q1 q2 q3 qf vb hs hc HT6 MB6
                obtain ⟨m0, m1⟩ := MBox.cells MB7.out
                obtain ⟨x0, x1⟩ := MX.cells
                rw [hm1] at m0
                have hem := Decidable.em (was.1 = 0)
                rcases hem with hz | hzn
                any_goals
                  have hzy : (if was.1 = 0 then (3 : Int) else 0) = 3 := if_pos hz
                  rw [hzy]
                  clear hz hzy hcsn
                  obtain ⟨W5, hW5⟩ : ∃ W5, W5 = X7 := ⟨_, rfl⟩
                  have HT5 : Hid (TAt w W5 bd (bd + 1) D1 was o c) := by rw [hW5]; exact HT7.out
                  have VE5 : Hid (VDk W5 be G) := by rw [hW5]; exact VG.out
                  have HTu5 : Hid (Turn G was) := hTG
                  go_upto_region 24 with fail
                  rw [← hW5]
                  clear hW5 m0 m1 x0 x1 MX hxp hTG HT7 VG MB7
                  obtain ⟨E5, hE5⟩ : ∃ E5, E5 = G := ⟨_, rfl⟩
                  obtain ⟨was5, hw5⟩ : ∃ x : ManT, x = was := ⟨_, rfl⟩
                  obtain ⟨o5, ho5⟩ : ∃ x, x = o := ⟨_, rfl⟩
                  obtain ⟨c5, hc5'⟩ : ∃ x, x = c := ⟨_, rfl⟩
                  rw [← hE5] at VE5 HTu5
                  rw [← hw5] at HTu5
                  rw [← hw5, ← ho5, ← hc5'] at HT5
                  clear hE5 hw5 ho5 hc5'
                any_goals
                  have hzy : (if was.1 = 0 then (3 : Int) else 0) = 0 := if_neg hzn
                  rw [hzy]
                  clear hzn hzy
                  have csm := hcsn X7 _ _ hxp (HPK.out.keep HT7.out.below)
                  go_wp2_with fail
                  go_at_call 16; refine csm.mono ?_; rintro e W5 ⟨rfl, hb8⟩
                  have VE5 : Hid (VDk W5 be G) := VG.out.below hb8
                  have HT5 : Hid (TAt w W5 bd (bd + 1) D1 was o c) := HT7.out.keep hb8
                  have HTu5 : Hid (Turn G was) := hTG
                  clear csm m0 m1 x0 x1 MX hxp HT7 MB7 hb8 hcsn VG hTG
                  go_upto_region 24 with fail
                  obtain ⟨E5, hE5⟩ : ∃ E5, E5 = G := ⟨_, rfl⟩
                  obtain ⟨was5, hw5⟩ : ∃ x : ManT, x = was := ⟨_, rfl⟩
                  obtain ⟨o5, ho5⟩ : ∃ x, x = o := ⟨_, rfl⟩
                  obtain ⟨c5, hc5'⟩ : ∃ x, x = c := ⟨_, rfl⟩
                  rw [← hE5] at VE5 HTu5
                  rw [← hw5] at HTu5
                  rw [← hw5, ← ho5, ← hc5'] at HT5
                  clear hE5 hw5 ho5 hc5'
            all_goals
              have hTA := HT5.out
              have HB5 : Hid (Below w.heap.size w W5) := hTA.below
              obtain ⟨s1, s2, s3, s4, vb, hs, hc⟩ := VE5.out
              obtain ⟨q0, q1, q2, q3, qf⟩ := vb.cells
              obtain ⟨t1, t2, t3, t4, vd, _, _⟩ := hTA.disk
              obtain ⟨d0, d1, d2, d3, df⟩ := vd.cells
              have hT6 := (hTA.store hs hc).fuse (-1)
              obtain ⟨W7, hW7⟩ : ∃ W, W = ((((W5.setCell ⟨bd, 0, none⟩ (.slice s1 E5.secs.length s2)).setCell ⟨bd, 1, none⟩ (.slice s3 E5.cache.length s4)).setCell ⟨bd, 2, none⟩ (.int .i64 E5.fuse)).setCell ⟨bd, 3, none⟩ (.bool E5.off)).setCell ⟨bd, 2, none⟩ (.int .i64 (-1)) := ⟨_, rfl⟩
              rw [← hW7] at hT6
              have hTu := HTu5.out.fuse (-1) (by decide)
              obtain ⟨D7, hD7⟩ : ∃ D7, D7 = (⟨E5.secs, E5.cache, -1, E5.off⟩ : Dk) := ⟨_, rfl⟩
              rw [← hD7] at hT6 hTu
              have hf7 : D7.fuse = -1 := by rw [hD7]
              have HF7 : Hid (Turn D7 was5 ∧ D7.fuse = -1) := ⟨hTu, hf7⟩
              have HT7 : Hid (TAt w W7 bd (bd + 1) D7 was5 o5 c5) := hT6
              have vd4 : ∀ j, ((((W5.setCell ⟨bd, 0, none⟩ (.slice s1 E5.secs.length s2)).setCell ⟨bd, 1, none⟩ (.slice s3 E5.cache.length s4)).setCell ⟨bd, 2, none⟩ (.int .i64 E5.fuse)).setCell ⟨bd, 3, none⟩ (.bool E5.off)).frozen? ⟨bd, j, none⟩ = false := fun j => ((vd.set _ _ _ _).cells.2.2.2.2) j
              clear hTA hT6 hTu hD7 hf7
              go_upto_region 26 with fail
              rw [← hW7]
              clear hW7 q0 q1 q2 q3 qf d0 d1 d2 d3 df vd4 vb vd hs hc HT5 VE5 HTu5 HB5
              obtain ⟨s1, s2, s3, s4, vb, hs, hc⟩ := HT7.out.disk
              obtain ⟨q0, q1, q2, q3, qf⟩ := vb.cells
              have cl := load_c HF7.out.1 (Disk.fits_ok HF7.out.1.ok (by rw [HF7.out.2]; decide)) W7 _ ⟨_, _, rfl, hs, hc⟩
              have h8 := turn_len HF7.out.1
              have hle5 := HF7.out.1.le
              have hle5i : (was5.1 : Int) ≤ 4611686018427387904 := by omega
              have HSM : Hid (∀ W v u, HasParts W v was5.2 → HasParts W u was5.2 → Calls Try.prog 16 #[.agg #[.int .u64 (was5.1 : Int), v], .agg #[.int .u64 (was5.1 : Int), u]] W fun e w' => e = .returned (.bool true) ∧ Below W.heap.size W w') := fun W v u h1 h2 => msame_any was5 v u W h1 h2 (by omega) h8
              go_wp2_with fail
              go_at_call 18; refine cl.mono ?_; rintro e w9 ⟨xo, xc, rfl, hxp, hb9⟩
              obtain ⟨X9, hX9⟩ : ∃ X, X = w9.alloc (.cells #[.int .u64 (was5.1 : Int), .slice xo was5.2.length xc] 25) := ⟨_, rfl⟩
              obtain ⟨bx, hbx⟩ : ∃ b, b = w9.heap.size := ⟨_, rfl⟩
              have hbX : Below w9.heap.size w9 X9 := by rw [hX9]; exact (Below.refl _ _).alloc (Nat.le_refl _) _
              have hb := below2 hb9 hbX
              have MX : MBox X9 bx was5.1 (.slice xo was5.2.length xc) := by rw [hX9, hbx]; exact RowAt.new w9 [_, _] _
              have hxp := hxp.keep hbX
              have HT9 : Hid (TAt w X9 bd (bd + 1) D7 was5 o5 c5) := HT7.out.keep hb
              go_upto_region 27 with fail
              rw [← hX9, ← hbx]
              clear hX9 hbx hbX hb hb9 cl q0 q1 q2 q3 qf vb hs hc HT7
              obtain ⟨x0, x1⟩ := MX.cells
              obtain ⟨p0, p1⟩ := HT9.out.box.cells
              have csm := HSM.out X9 _ _ hxp (HT9.out.parts.keep HT9.out.below)
              have hem := Decidable.em (was5.1 = 0)
              rcases hem with hz | hzn
              any_goals
                have hzy : (if was5.1 = 0 then (3 : Int) else 0) = 3 := if_pos hz
                rw [hzy]
                have hd1 : decide ((0 : Int) < (was5.1 : Int)) = false := by rw [decide_eq_false_iff_not]; omega
                have hd2 : decide (0 < was5.1) = false := by rw [decide_eq_false_iff_not]; omega
                clear hzy hz
              any_goals
                have hzy : (if was5.1 = 0 then (3 : Int) else 0) = 0 := if_neg hzn
                rw [hzy]
                have hd1 : decide ((0 : Int) < (was5.1 : Int)) = true := by rw [decide_eq_true_iff]; omega
                have hd2 : decide (0 < was5.1) = true := by rw [decide_eq_true_iff]; omega
                clear hzy hzn
              all_goals go_wp2_with fail
              all_goals (go_at_call 16; refine csm.mono ?_; rintro e w10 ⟨rfl, hb10⟩)
              all_goals (have HT10 : Hid (TAt w w10 bd (bd + 1) D7 was5 o5 c5) := HT9.out.keep hb10)
              all_goals clear csm x0 x1 p0 p1 MX hxp HT9 hb10 HSM
              all_goals go_wp2_with fail
              all_goals go_roundw
              all_goals first
                | (case rel => exact ⟨k + 1, D7, was5, o5, c5, by omega, by go_num, HT10, HF7⟩)
                | (case measure => simp [intOf]; omega)
    · obtain rfl : k = n := by omega
      have hBf := HT1.out.below
      clear HT1 HT2
      go_wp2
      go_ret
      exact ⟨rfl, hBf⟩
theorem walk (v0 : Value) (z0 : List (List PartT)) (A0 : Nat → Option Addr) (C0 : Nat → Nat) (v1 : Value) (z1 : List Int) (v2 : Value) (z2 : List Bool) (a3 a4 : Int) (w : World) (b0 : HasTab w v0 z0 A0 C0) (f0 : ∀ ps ∈ z0, ∀ p ∈ ps, FitP p)
    (b1 : HasRow w v1 1 z1.length (z1.map (Value.int .i64))) (f1 : ∀ n ∈ z1, -9223372036854775808 ≤ n ∧ n ≤ 9223372036854775807) (b2 : HasRow w v2 1 z2.length (z2.map Value.bool)) (b3 : -9223372036854775808 ≤ a3 ∧ a3 ≤ 9223372036854775807) (b4 : -9223372036854775808 ≤ a4 ∧ a4 ≤ 9223372036854775807) :
    Calls Try.prog 5 #[v0, v1, v2, .int .i64 a3, .int .i64 a4] w fun e w' => e = .returned (.bool true) ∧ Below w.heap.size w w' := by
  obtain ⟨lo, lc, rfl, hn9, hT⟩ := b0
  obtain ⟨fo, fc, rfl, h1, h2⟩ := HasRow.slice b1
  obtain ⟨ko, kc, rfl, _, _⟩ := HasRow.slice b2
  refine core z0 A0 C0 z1 z2 a3 a4 lo fo ko lc fc kc w hT f0 hn9 (by omega) (fun k hk => ?_) b2 b3 b4
  obtain ⟨_, b, i, e1, e2, e3⟩ := HasRow.at b1 (by omega)
  have := e3 k (by omega)
  refine ⟨b, i, e1, e2, ?_, f1 _ (List.getElem_mem hk)⟩
  rw [this]; simp [hk]

set_option maxRecDepth 100000 in
theorem lifted (os : Os) (started : os.Started) (H : Type) (enc : TypeId × Value → H) :
    ReturnsInHanded {} Try.checked os 5 .any (Rows.manifestTurnsSpec.pre6 enc Try.prog Try.f5 Rows.manifestTurnsRow.domain false) (Rows.manifestTurnsSpec.post enc Try.prog Try.f5 false true false false) := by
  refine returnsInHanded_of_change_sized (C := Try.checked) own started (by kernel_rfl) Try.func5
    (ChangeSpec.witness6 (enc := enc) (C := Try.checked) false ⟨#[], #[.slice none 0 0, .slice none 0 0, .slice none 0 0, .int .i64 0, .int .i64 0], []⟩ 8 (by kernel_rfl) (by kernel_rfl) (by kernel_rfl) (by kernel_rfl)) ?_
  intro W base args ds gs before hval0 hW _ hsz0 _
  have hsz : (DataW.weightsEach Try.prog (Try.f5.params.toList ++ Rows.manifestTurnsSpec.plain.varTypes Try.prog) (ds ++ gs)).all (· ≤ reachBytes) = true := hsz0
  clear hsz0
  have hval : ∀ (j : Nat) t v, Try.f5.params[j]? = some t → args[j]? = some v → Value.okWide Try.prog W .any base t v := hval0
  have hW' := hW
  obtain ⟨p, q, hA0, hV, rfl, hfz, hnd⟩ := hW
  have hA : DataW.TrodAll enc Try.prog W 0 (fun _ => true) true Try.f5.params.toList args.toList ds p := hA0
  rw [Try.params5] at hA hval hsz
  obtain ⟨v0, vs0, d0, ds0, p0, q0, hargs, rfl, rfl, h0, r0⟩ := trodAll_cons hA
  obtain ⟨v1, vs1, d1, ds1, p1, q1, rfl, rfl, rfl, h1, r1⟩ := trodAll_cons r0
  obtain ⟨v2, vs2, d2, ds2, p2, q2, rfl, rfl, rfl, h2, r2⟩ := trodAll_cons r1
  obtain ⟨v3, vs3, d3, ds3, p3, q3, rfl, rfl, rfl, h3, r3⟩ := trodAll_cons r2
  obtain ⟨v4, vs4, d4, ds4, p4, q4, rfl, rfl, rfl, h4, r4⟩ := trodAll_cons r3
  obtain ⟨rfl, rfl, rfl⟩ := trodAll_nil r4
  obtain rfl : args = #[v0, v1, v2, v3, v4] := by cases args; simp_all
  obtain ⟨rfl, rfl⟩ := trodVars_none hV
  obtain ⟨a0, len0, cap0, rfl⟩ := okWide_slice Try.underlying45 (hval 0 45 v0 rfl rfl)
  have k0 := h0
  have lt0 : ∀ x ∈ p0, x.block < W.heap.size := by obtain ⟨m, hm⟩ := k0; exact DataW.trod_lt m _ _ _ hm
  obtain ⟨fuel0, hf0⟩ := h0
  obtain ⟨z0, A0, C0, b0, f0⟩ := Man.open_parts_tab hf0
  obtain ⟨a1, len1, cap1, rfl⟩ := okWide_slice Try.underlying46 (hval 1 46 v1 rfl rfl)
  have k1 := h1
  have lt1 : ∀ x ∈ p1, x.block < W.heap.size := by obtain ⟨m, hm⟩ := k1; exact DataW.trod_lt m _ _ _ hm
  obtain ⟨fuel1, hf1⟩ := h1
  obtain ⟨z1, b1, f1⟩ := Man.open_ints_row hf1
  obtain ⟨a2, len2, cap2, rfl⟩ := okWide_slice Try.underlying47 (hval 2 47 v2 rfl rfl)
  have k2 := h2
  have lt2 : ∀ x ∈ p2, x.block < W.heap.size := by obtain ⟨m, hm⟩ := k2; exact DataW.trod_lt m _ _ _ hm
  obtain ⟨fuel2, hf2⟩ := h2
  obtain ⟨z2, b2⟩ := Disk.open_bools_row hf2
  obtain ⟨a3, rfl, rfl, rfl, w3⟩ := open_int Try.underlying3 (hval 3 3 v3 rfl rfl) h3
  have b3 : -9223372036854775808 ≤ a3 ∧ a3 ≤ 9223372036854775807 := by simpa [Lit.wf, IntKind.min, IntKind.max, IntKind.signed, IntKind.bits] using w3
  obtain ⟨a4, rfl, rfl, rfl, w4⟩ := open_int Try.underlying3 (hval 4 3 v4 rfl rfl) h4
  have b4 : -9223372036854775808 ≤ a4 ∧ a4 ≤ 9223372036854775807 := by simpa [Lit.wf, IntKind.min, IntKind.max, IntKind.signed, IntKind.bits] using w4
  clear hA0 hval0
  refine (walk (.slice a0 len0 cap0) z0 A0 C0 (.slice a1 len1 cap1) z1 (.slice a2 len2 cap2) z2 a3 a4 W b0 f0 b1 f1 b2 b3 b4).mono fun e W' ⟨he, bel⟩ => ?_
  subst he
  exact ⟨_, rfl, _, _, _, [], _, [], hW', trodAll_mk1 (shut_bool Try.underlying4 _), (trodAll_cons_mk (Below.trod laidOut (by kernel_rfl) (of_decide_eq_true (by kernel_rfl)) k0 bel lt0) (trodAll_cons_mk (Below.trod laidOut (by kernel_rfl) (of_decide_eq_true (by kernel_rfl)) k1 bel lt1) (trodAll_cons_mk (Below.trod laidOut (by kernel_rfl) (of_decide_eq_true (by kernel_rfl)) k2 bel lt2) (trodAll_cons_mk (shut_int Try.underlying3 w3) (trodAll_cons_mk (shut_int Try.underlying3 w4) trodAll_mk0))))), rfl, bel.frame _, fun h => by cases h⟩

theorem over : Rows.manifestTurnsRow.holds Try.pinned (OpenSpec.ofChange Rows.manifestTurnsSpec) :=
  OpenClaim.holds_of_wide 5 Try.f5 rfl rfl rfl rfl rfl rfl rfl ⟨rfl, rfl, rfl, rfl, rfl⟩ rfl rfl rfl rfl rfl (by kernel_rfl) Try.func5 (by kernel_rfl)
    (of_decide_eq_true (by kernel_rfl)) (by unfold Func.isWrapper; first | (rw [if_pos (by decide +kernel)]; kernel_rfl) | (rw [if_neg (by decide +kernel)]; exact ⟨rfl, rfl⟩))
    (fun os started H enc _ => lifted os started H enc)
end manifestTurns
theorem mturns_holds : Rows.ManifestTurnsSaid := manifestTurns.over
#print axioms mturns_holds
end Go.Proofs.Ytajcmgccclemdaa
