/- What manifest.Save returns. -/
import Derived.Test.YtajcmgccclemdabManFollow
import Derived.Deep.RegionHeld3
set_option linter.unusedVariables false
namespace Go.Proofs.Ytajcmgccclemdab.Man
open Go.RowKit Go.Shelf
open Go.Proofs.Ytajcmgccclemdab.Page
open Go.Proofs.Ytajcmgccclemdab.Disk (VDk back_of Back outD_ok ok_of zeroD_has set4_grown set4_below checkE_ok checkE_bad Dk HasDk Fits readD TextIs VBox RBox strV HasStrs HasPuts putCs DiskIs okB writeD flushD outD zeroD checkE Ok)

/-- a disk that was given a manifest -/
def saveM (d : Dk) (m : ManT) : Dk × Int :=
  if okB d = true then (if followE d m = 0 then (if (writeD d ((m.1 % 2 : Nat) : Int) (sectL m)).2 = 0 then outD (writeD d ((m.1 % 2 : Nat) : Int) (sectL m)).1 (flushD (writeD d ((m.1 % 2 : Nat) : Int) (sectL m)).1) else writeD d ((m.1 % 2 : Nat) : Int) (sectL m)) else (d, followE d m)) else (zeroD, 2)
theorem rbox_vdk {W : World} {b : Nat} (h : RBox W b) : VDk W b zeroD := ⟨none, 0, none, 0, h, Disk.hasRow_nil _ _, Disk.hasRow_nil _ _⟩
theorem below_al {w W : World} {x : Obj} (h : Below w.heap.size w W) : Below w.heap.size w (W.alloc x) := h.alloc h.size x
theorem rb_keep {W w' : World} (hb : Below (W.alloc (.cells #[.slice none 0 0, .slice none 0 0, .int .i64 0, .bool false] 28)).heap.size (W.alloc (.cells #[.slice none 0 0, .slice none 0 0, .int .i64 0, .bool false] 28)) w') : RBox w' W.heap.size := RBox.below (World.alloc_heap_new W _) hb
theorem rb_keep2 {W w' : World} (hb : Below (W.alloc (.cells #[.slice none 0 0, .slice none 0 0, .int .i64 0, .bool false] 28)).drew.heap.size (W.alloc (.cells #[.slice none 0 0, .slice none 0 0, .int .i64 0, .bool false] 28)).drew w') : RBox w' W.heap.size := RBox.below (RBox.below (World.alloc_heap_new W _) (Below.refl _ _).drew) hb
theorem rb_keep3 {W w' : World} (hb : Below (W.drew.alloc (.cells #[.slice none 0 0, .slice none 0 0, .int .i64 0, .bool false] 28)).heap.size (W.drew.alloc (.cells #[.slice none 0 0, .slice none 0 0, .int .i64 0, .bool false] 28)) w') : RBox w' W.heap.size := rb_keep (W := W.drew) hb
theorem cut_at {w w2 w4 : World} {r : Dk} {b : Nat} {so co : Option Addr} {sc cc : Nat} (hbA : Below w2.heap.size w2 w4) (hB2 : Below w.heap.size w w2) (hrb : RBox w2 (w.heap.size + 2)) (hb : w2.heap.size ≤ b) (hF : RBox w4 b) (hs : HasStrs w4 (.slice so r.secs.length sc) r.secs) (hc : HasPuts w4 (.slice co r.cache.length cc) r.cache) :
    VDk ((((w4.setCell ⟨b, 0, none⟩ (.slice so r.secs.length sc)).setCell ⟨b, 1, none⟩ (.slice co r.cache.length cc)).setCell ⟨b, 2, none⟩ (.int .i64 r.fuse)).setCell ⟨b, 3, none⟩ (.bool r.off)) b r ∧
    RBox ((((w4.setCell ⟨b, 0, none⟩ (.slice so r.secs.length sc)).setCell ⟨b, 1, none⟩ (.slice co r.cache.length cc)).setCell ⟨b, 2, none⟩ (.int .i64 r.fuse)).setCell ⟨b, 3, none⟩ (.bool r.off)) (w.heap.size + 2) ∧
    Below w.heap.size w ((((w4.setCell ⟨b, 0, none⟩ (.slice so r.secs.length sc)).setCell ⟨b, 1, none⟩ (.slice co r.cache.length cc)).setCell ⟨b, 2, none⟩ (.int .i64 r.fuse)).setCell ⟨b, 3, none⟩ (.bool r.off)) := by
  have := hrb.lt
  have := hB2.size
  exact ⟨VDk.store (rbox_vdk hF) hs hc, (hrb.below hbA).kept (set4_grown _ _ _ _ _ _) (by simp; omega), set4_below (below2 hB2 hbA) (by omega) _ _ _ _⟩
theorem cut_new {w w2 w4 : World} {r : Dk} {so co : Option Addr} {sc cc : Nat} (hbA : Below w2.heap.size w2 w4) (hB2 : Below w.heap.size w w2) (hrb : RBox w2 (w.heap.size + 2)) (hs : HasStrs w4 (.slice so r.secs.length sc) r.secs) (hc : HasPuts w4 (.slice co r.cache.length cc) r.cache) :
    VDk (w4.alloc (.cells #[.slice so r.secs.length sc, .slice co r.cache.length cc, .int .i64 r.fuse, .bool r.off] 28)) w4.heap.size r ∧
    RBox (w4.alloc (.cells #[.slice so r.secs.length sc, .slice co r.cache.length cc, .int .i64 r.fuse, .bool r.off] 28)) (w.heap.size + 2) ∧
    Below w.heap.size w (w4.alloc (.cells #[.slice so r.secs.length sc, .slice co r.cache.length cc, .int .i64 r.fuse, .bool r.off] 28)) :=
  ⟨VDk.new hs hc, (hrb.below hbA).below ((Below.refl _ _).alloc (Nat.le_refl _) _), below_al (below2 hB2 hbA)⟩
set_option maxHeartbeats 1000000 in
set_option maxRecDepth 20000 in
theorem save_any (d : Dk) (m : ManT) (v u : Value) (w : World) (h : HasDk w v d) (hf : Fits d) (hm : HasParts w u m.2) (hfm : FitM m)
    (cfr : Ok d → ∀ W v, HasDk W v d → Calls Try.prog 51 #[v] W fun e w' => ∃ u, e = .returned u ∧ HasDk w' u d ∧ Below W.heap.size W w') :
    Calls Try.prog 21 #[v, .agg #[.int .u64 (m.1 : Int), u]] w (DiskIs (saveM d m) w) := by
  have cck := fun W (hb : Below w.heap.size w W) => Disk.check_any d v W (h.keep hb) hf
  have cfo := fun W (hb : Below w.heap.size w W) => follow_any d m v u W (h.keep hb) hf (hm.keep hb) hfm
  have cfr2 := fun (hk : Ok d) W (hb : Below w.heap.size w W) => cfr hk W v (h.keep hb)
  have hH := fun W (hb : Below w.heap.size w W) => h.keep hb
  have hMk := fun W (hb : Below w.heap.size w W) => hm.keep hb
  obtain ⟨so, sc, co, c3, rfl, hs, hc⟩ := h.parts
  obtain ⟨uo, uc, rfl, _, _⟩ := hm.form
  obtain ⟨X, hX⟩ : ∃ X, X = ((w.alloc (.cells #[.slice so d.secs.length sc, .slice co d.cache.length c3, .int .i64 d.fuse, .bool d.off] 28)).alloc (.cells #[.int .u64 (m.1 : Int), .slice uo m.2.length uc] 57)).alloc (.cells #[.slice none 0 0, .slice none 0 0, .int .i64 0, .bool false] 28) := ⟨_, rfl⟩
  have hB0 : Below w.heap.size w X := by rw [hX]; exact (((Below.refl _ w).alloc (Nat.le_refl _) _).alloc (by simp) _).alloc (by simp; omega) _
  have vb : VBox X w.heap.size (.slice so d.secs.length sc) (.slice co d.cache.length c3) (.int .i64 d.fuse) (.bool d.off) := by
    rw [hX]; exact VBox.below (VBox.below (World.alloc_heap_new _ _) ((Below.refl _ _).alloc (Nat.le_refl _) _)) ((Below.refl _ _).alloc (Nat.le_refl _) _)
  have mb : MBox X (w.heap.size + 1) m.1 (.slice uo m.2.length uc) := by
    have := RowAt.new (w.alloc (.cells #[.slice so d.secs.length sc, .slice co d.cache.length c3, .int .i64 d.fuse, .bool d.off] 28)) [.int .u64 (m.1 : Int), .slice uo m.2.length uc] 57
    rw [World.size_alloc, List.toArray] at this
    have h2 := RowAt.alloc this (.cells #[.slice none 0 0, .slice none 0 0, .int .i64 0, .bool false] 28)
    rw [← hX] at h2
    exact h2
  have rb : RBox X (w.heap.size + 2) := by
    have := World.alloc_heap_new ((w.alloc (.cells #[.slice so d.secs.length sc, .slice co d.cache.length c3, .int .i64 d.fuse, .bool d.off] 28)).alloc (.cells #[.int .u64 (m.1 : Int), .slice uo m.2.length uc] 57)) (.cells #[.slice none 0 0, .slice none 0 0, .int .i64 0, .bool false] 28)
    rw [World.size_alloc, World.size_alloc, ← hX] at this
    exact this
  obtain ⟨R, hR⟩ : ∃ R, R = saveM d m := ⟨_, rfl⟩
  rw [← hR]
  have HR : Hid (R = saveM d m) := hR
  obtain ⟨q0, q1, q2, q3, qf⟩ := vb.cells
  by_cases hok : okB d = true
  · have HK : Hid (Ok d) := ok_of hok
    rw [checkE_ok hok] at cck
    have hmi : (m.1 : Int) ≤ 18446744073709551615 := by have := hfm.1; omega
    by_cases hfo : followE d m = 0
    · have hokM : okM m = true := by
        cases hc' : okM m
        · rw [followE, hc'] at hfo; simp at hfo
        · rfl
      have cla := fun W (hb : Below w.heap.size w W) => mlaid_any m (.slice uo m.2.length uc) W (hMk W hb) hokM
      have hn8 := (okM_parts hokM).2.1
      obtain ⟨pp, hpp⟩ : ∃ p : Nat, p = m.1 % 2 := ⟨_, rfl⟩
      have cwr := fun W (hb : Below w.heap.size w W) => (Disk.write_fn d _ (pp : Int) (sectL m) W (hH W hb) hf (by omega) (by rw [sectL_len m hn8]; omega)).mono (fun e w' h => back_of h)
      rw [outD_ok HK.out] at cwr
      have HR2 : Hid (R = if (writeD d (pp : Int) (sectL m)).2 = 0 then outD (writeD d (pp : Int) (sectL m)).1 (flushD (writeD d (pp : Int) (sectL m)).1) else writeD d (pp : Int) (sectL m)) := by show _ = _; rw [HR.out, saveM, if_pos hok, if_pos hfo, hpp]
      have hf1 : Fits (writeD d (pp : Int) (sectL m)).1 := Disk.fits_ok (Disk.write_ok HK.out _ _) (Disk.write_fuse hf.1.2 _ _)
      rw [hfo] at cfo
      generalize writeD d (pp : Int) (sectL m) = r1 at cwr HR2 hf1
      obtain ⟨d1, y1⟩ := r1
      simp only at cwr HR2 hf1
      have cfl := fun W v (h : HasDk W v d1) => (Disk.flush_fn d1 v W h hf1).mono (fun e w' h => back_of h)
      unfold Back at cwr
      unfold strV at cwr
      generalize (⟨(sectL m).toArray⟩ : ByteArray) = S at cla cwr
      have ew0 : (m.1 : Int).tmod 2 = (pp : Int) := by rw [Int.tmod_eq_emod_of_nonneg (by omega)]; omega
      have ew1 : (m.1 : Int) % 2 = (pp : Int) := by omega
      have ew2 : IntKind.i64.wrap (pp : Int) = (pp : Int) := by rw [IntKind.wrap_i64]; omega
      have ew3 : IntKind.u64.wrap (pp : Int) = (pp : Int) := by rw [IntKind.wrap_u64]; omega
      have HFL : Hid (∀ W v, HasDk W v d1 → Calls Try.prog 10 #[v] W (fun e w' => Back (outD d1 (flushD d1)).1 (outD d1 (flushD d1)).2 W e w')) := cfl
      clear cfl hpp
      clear hR hs hc h hf cfr cfr2 hok hfo hMk hH hokM hn8
      go_enter Try.func21, Try.ntmps21
      go_upto_region 1 with fail
      rw [← hX]
      clear hX
      go_wp2_with fail
      go_at_call 44; refine (cck X hB0).mono ?_; rintro e w1 ⟨rfl, hb1⟩
      have hB1 := below2 hB0 hb1
      have vb1 := vb.below hb1
      have rb1 := rb.below hb1
      have mb1 : MBox w1 (w.heap.size + 1) m.1 (.slice uo m.2.length uc) := RowAt.below mb hb1
      clear vb mb rb q0 q1 q2 q3 qf hb1 hB0
      obtain ⟨q0, q1, q2, q3, qf⟩ := vb1.cells
      obtain ⟨m0, m1⟩ := mb1.cells
      go_wp2_with fail
      go_at_call 50; refine (cfo w1 hB1).mono ?_; rintro e w2 ⟨rfl, hb2⟩
      have hB2 := below2 hB1 hb2
      have vb2 := vb1.below hb2
      have rb2 := rb1.below hb2
      have mb2 : MBox w2 (w.heap.size + 1) m.1 (.slice uo m.2.length uc) := RowAt.below mb1 hb2
      clear q0 q1 q2 q3 qf m0 m1 vb1 mb1 rb1 hB1 hb2
      have hsz2 : w.heap.size + 2 < w2.heap.size := rb2.lt
      obtain ⟨q0, q1, q2, q3, qf⟩ := vb2.cells
      obtain ⟨m0, m1⟩ := mb2.cells
      go_upto_region 7 with fail
      go_cut [8, 9] (fun e y wc => ∃ b, e = .pointer (some ⟨b, 0, none⟩) ∧ y = .int .i64 y1 ∧ VDk wc b d1 ∧ RBox wc (w.heap.size + 2) ∧ Below w.heap.size w wc)
      case first =>
        have HB2 : Hid (Below w.heap.size w w2) := hB2
        have HV2 : Hid (VBox w2 w.heap.size (.slice so d.secs.length sc) (.slice co d.cache.length c3) (.int .i64 d.fuse) (.bool d.off)) := vb2
        have HM2 : Hid (MBox w2 (w.heap.size + 1) m.1 (.slice uo m.2.length uc)) := mb2
        have HRB : Hid (RBox w2 (w.heap.size + 2)) := rb2
        clear vb2 mb2 cck cfo HFL HR2 HR rb2
        have HSK : Hid (∀ W, Below w2.heap.size w2 W → W.cell? ⟨w.heap.size, 0, none⟩ = some (.slice so d.secs.length sc) ∧ W.cell? ⟨w.heap.size, 1, none⟩ = some (.slice co d.cache.length c3) ∧ W.cell? ⟨w.heap.size, 2, none⟩ = some (.int .i64 d.fuse) ∧ W.cell? ⟨w.heap.size, 3, none⟩ = some (.bool d.off) ∧ W.cell? ⟨w.heap.size + 1, 0, none⟩ = some (.int .u64 (m.1 : Int)) ∧ W.cell? ⟨w.heap.size + 1, 1, none⟩ = some (.slice uo m.2.length uc)) := fun W hb => by
          obtain ⟨q0, q1, q2, q3, qf⟩ := (HV2.out.below hb).cells
          obtain ⟨m0, m1⟩ := MBox.cells (RowAt.below HM2.out hb)
          exact ⟨q0, q1, q2, q3, m0, m1⟩
        have hbA : Below w2.heap.size w2 w2 := Below.refl _ _
        go_region_held3 (fun w' => w'.cell? ⟨w.heap.size, 0, none⟩ = some (.slice so d.secs.length sc) ∧ w'.cell? ⟨w.heap.size, 1, none⟩ = some (.slice co d.cache.length c3) ∧ w'.cell? ⟨w.heap.size, 2, none⟩ = some (.int .i64 d.fuse) ∧ w'.cell? ⟨w.heap.size, 3, none⟩ = some (.bool d.off) ∧ w'.cell? ⟨w.heap.size + 1, 0, none⟩ = some (.int .u64 (m.1 : Int)) ∧ w'.cell? ⟨w.heap.size + 1, 1, none⟩ = some (.slice uo m.2.length uc))
          (first
            | (refine HSK.out _ ?_
               repeat' (first | with_reducible exact hbA | with_reducible apply Below.drew | with_reducible apply below_al | (with_reducible refine Below.setCell ?_ ?_ _) | with_reducible exact Nat.le_refl _ | (have := hbA.size; simp; omega)))
            | go_keep)
          (first
            | (go_at_call 52
               refine (cla _ ?_).mono ?_
               · repeat' (first | with_reducible exact hB2 | with_reducible apply Below.drew | with_reducible apply below_al)
               rintro e w3 ⟨rfl, hb3⟩
               have hbN : Below w2.heap.size w2 w3 := below2 (by repeat' (first | with_reducible exact hbA | with_reducible apply Below.drew | with_reducible apply below_al)) hb3
               clear hbA
               have hbA := hbN
               have hz3 := hbN.size
               clear hbN
               (first | (have hE : RBox w3 w2.heap.size := by with_reducible first | exact rb_keep hb3 | exact rb_keep2 hb3 | exact rb_keep3 hb3) | skip))
            | (go_at_call 17
               refine (cwr _ ?_).mono ?_
               · repeat' (first | with_reducible exact below2 hB2 hbA | with_reducible apply Below.drew | with_reducible apply below_al)
               rintro e w4 ⟨so3, sc3, co3, cc3, rfl, hs3, hc3, hb4⟩
               have hbN : Below w2.heap.size w2 w4 := below2 (by repeat' (first | with_reducible exact hbA | with_reducible apply Below.drew | with_reducible apply below_al)) hb4
               (first | (have hF := hE.below hb4; obtain ⟨f0, f1, f2, f3, ff⟩ := hF.cells) | (have hF : RBox w4 w3.heap.size := (by with_reducible exact rb_keep hb4); obtain ⟨f0, f1, f2, f3, ff⟩ := hF.cells) | skip)
               clear hbA
               have hbA := hbN
               clear hbN))
        all_goals go_wp2_with fail
        all_goals go_meet
        all_goals first
          | (refine ⟨_, rfl, rfl, ?_⟩; with_reducible exact cut_new hbA HB2.out HRB.out hs3 hc3)
          | (refine ⟨_, rfl, rfl, ?_⟩; with_reducible exact cut_at hbA HB2.out HRB.out hz3 hF hs3 hc3)
          | (refine ⟨_, rfl, rfl, ?_⟩; with_reducible exact cut_at hbA HB2.out HRB.out (Nat.le_refl _) hF hs3 hc3)
      case rest =>
        obtain ⟨b, rfl, rfl, v3, rb3, hB3⟩ := hcut
        obtain ⟨s3, s3c, c3', c3c, vb3, hs3, hc3⟩ := v3
        clear q0 q1 q2 q3 qf m0 m1 vb2 mb2 rb2 hB2 cck cfo cla cwr
        obtain ⟨q0, q1, q2, q3, qf⟩ := vb3.cells
        by_cases hy : y1 = 0
        · subst hy
          have HR3 : Hid (R = outD d1 (flushD d1)) := by show _ = _; rw [HR2.out, if_pos rfl]
          have cfl := HFL.out
          generalize outD d1 (flushD d1) = r2 at cfl HR3
          obtain ⟨d2, y2⟩ := r2
          unfold Back at cfl
          simp only at cfl
          go_wp2_with fail
          go_at_call 10; refine (cfl _ _ ⟨_, _, rfl, hs3, hc3⟩).mono ?_; rintro e w5 ⟨so5, sc5, co5, cc5, rfl, hs5, hc5, hb5⟩
          have hB5 := below2 hB3 hb5
          have rb5 := rb3.below hb5
          have HF : Hid (∀ x y z u, HasDk ((((w5.setCell ⟨w.heap.size + 2, 0, none⟩ x).setCell ⟨w.heap.size + 2, 1, none⟩ y).setCell ⟨w.heap.size + 2, 2, none⟩ z).setCell ⟨w.heap.size + 2, 3, none⟩ u) (.agg #[.slice so5 d2.secs.length sc5, .slice co5 d2.cache.length cc5, .int .i64 d2.fuse, .bool d2.off]) d2) := fun x y z u => ⟨_, _, rfl, hs5.box rb5.nostr (set4_grown _ _ _ _ _ _), hc5.box rb5.nostr (set4_grown _ _ _ _ _ _)⟩
          obtain ⟨r0, r1, r2', r3, rf⟩ := rb5.cells
          clear q0 q1 q2 q3 qf hs5 hc5 cfl HFL
          go_wp2
          (try simp only [Exit.inBlock, Exit.then])
          refine bodyPost_ret (v := .tuple #[.agg #[.slice so5 d2.secs.length sc5, .slice co5 d2.cache.length cc5, .int .i64 d2.fuse, .bool d2.off], .int .i64 y2]) ?_ rfl (by rw [HR3.out]; exact ⟨_, rfl, HF.out _ _ _ _, set4_below hB5 (by omega) _ _ _ _⟩)
          rw [results_cell_tmp rfl]
          go_simp
        · have HR3 : Hid (R = (d1, y1)) := by show _ = _; rw [HR2.out, if_neg hy]
          have hy2 : (y1 != 0) = true := by simpa using hy
          have HF : Hid (∀ x y z u, HasDk ((((wc.setCell ⟨w.heap.size + 2, 0, none⟩ x).setCell ⟨w.heap.size + 2, 1, none⟩ y).setCell ⟨w.heap.size + 2, 2, none⟩ z).setCell ⟨w.heap.size + 2, 3, none⟩ u) (.agg #[.slice s3 d1.secs.length s3c, .slice c3' d1.cache.length c3c, .int .i64 d1.fuse, .bool d1.off]) d1) := fun x y z u => ⟨_, _, rfl, hs3.box rb3.nostr (set4_grown _ _ _ _ _ _), hc3.box rb3.nostr (set4_grown _ _ _ _ _ _)⟩
          obtain ⟨r0, r1, r2', r3, rf⟩ := rb3.cells
          clear hs3 hc3 HFL
          go_wp2
          (try simp only [Exit.inBlock, Exit.then])
          refine bodyPost_ret (v := .tuple #[.agg #[.slice s3 d1.secs.length s3c, .slice c3' d1.cache.length c3c, .int .i64 d1.fuse, .bool d1.off], .int .i64 y1]) ?_ rfl (by rw [HR3.out]; exact ⟨_, rfl, HF.out _ _ _ _, set4_below hB3 (by omega) _ _ _ _⟩)
          rw [results_cell_tmp rfl]
          go_simp
    · have HR2 : Hid (R = (d, followE d m)) := by show _ = _; rw [HR.out, saveM, if_pos hok, if_neg hfo]
      have cfr3 := cfr2 HK.out
      generalize followE d m = fe at cfo HR2 hfo
      have hfe : (fe != 0) = true := by simpa using hfo
      clear hR hs hc h hf cfr cfr2 hok hfo hMk hH
      go_enter Try.func21, Try.ntmps21
      go_upto_region 1 with fail
      rw [← hX]
      clear hX
      go_wp2_with fail
      go_at_call 44; refine (cck X hB0).mono ?_; rintro e w1 ⟨rfl, hb1⟩
      have hB1 := below2 hB0 hb1
      have vb1 := vb.below hb1
      have rb1 := rb.below hb1
      have mb1 : MBox w1 (w.heap.size + 1) m.1 (.slice uo m.2.length uc) := RowAt.below mb hb1
      clear vb mb rb q0 q1 q2 q3 qf hb1 hB0
      obtain ⟨q0, q1, q2, q3, qf⟩ := vb1.cells
      obtain ⟨m0, m1⟩ := mb1.cells
      go_wp2_with fail
      go_at_call 50; refine (cfo w1 hB1).mono ?_; rintro e w2 ⟨rfl, hb2⟩
      have hB2 := below2 hB1 hb2
      have vb2 := vb1.below hb2
      have rb2 := rb1.below hb2
      clear q0 q1 q2 q3 qf m0 m1 vb1 mb1 rb1 hB1 hb2
      obtain ⟨q0, q1, q2, q3, qf⟩ := vb2.cells
      go_wp2_with fail
      go_at_call 51; refine (cfr3 w2 hB2).mono ?_; rintro e w3 ⟨fu, rfl, hd3, hb3⟩
      obtain ⟨so2, sc2, co2, cc2, rfl, hs3, hc3⟩ := hd3.parts
      have hB3 := below2 hB2 hb3
      have rb3 := rb2.below hb3
      have HF : Hid (∀ x y z u, HasDk ((((w3.setCell ⟨w.heap.size + 2, 0, none⟩ x).setCell ⟨w.heap.size + 2, 1, none⟩ y).setCell ⟨w.heap.size + 2, 2, none⟩ z).setCell ⟨w.heap.size + 2, 3, none⟩ u) (.agg #[.slice so2 d.secs.length sc2, .slice co2 d.cache.length cc2, .int .i64 d.fuse, .bool d.off]) d) := fun x y z u => ⟨_, _, rfl, hs3.box rb3.nostr (set4_grown _ _ _ _ _ _), hc3.box rb3.nostr (set4_grown _ _ _ _ _ _)⟩
      obtain ⟨r0, r1, r2, r3, rf⟩ := rb3.cells
      clear q0 q1 q2 q3 qf hs3 hc3 hd3 cfr3 cfo cck
      go_wp2
      (try simp only [Exit.inBlock, Exit.then])
      refine bodyPost_ret (v := .tuple #[.agg #[.slice so2 d.secs.length sc2, .slice co2 d.cache.length cc2, .int .i64 d.fuse, .bool d.off], .int .i64 fe]) ?_ rfl (by rw [HR2.out]; exact ⟨_, rfl, HF.out _ _ _ _, set4_below hB3 (by omega) _ _ _ _⟩)
      rw [results_cell_tmp rfl]
      go_simp
  · have hok' : okB d = false := by simpa using hok
    have HR2 : Hid (R = (zeroD, 2)) := by show _ = _; rw [HR.out, saveM, if_neg hok]
    rw [checkE_bad hok'] at cck
    clear hR hs hc h hf cfr cfr2 hok hok' cfo hMk hH
    go_enter Try.func21, Try.ntmps21
    go_upto_region 1 with fail
    rw [← hX]
    clear hX
    go_wp2_with fail
    go_at_call 44; refine (cck X hB0).mono ?_; rintro e w1 ⟨rfl, hb1⟩
    have hB1 := below2 hB0 hb1
    obtain ⟨r0, r1, r2, r3, rf⟩ := (rb.below hb1).cells
    clear cck q0 q1 q2 q3 qf vb mb rb hb1
    go_wp2
    (try simp only [Exit.inBlock, Exit.then])
    refine bodyPost_ret (v := .tuple #[.agg #[.slice none 0 0, .slice none 0 0, .int .i64 0, .bool false], .int .i64 2]) ?_ rfl (by rw [HR2.out]; exact ⟨_, rfl, zeroD_has _, set4_below hB1 (by omega) _ _ _ _⟩)
    rw [results_cell_tmp rfl]
    go_simp
end Go.Proofs.Ytajcmgccclemdab.Man
