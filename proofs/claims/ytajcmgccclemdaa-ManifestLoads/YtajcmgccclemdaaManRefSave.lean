/- What the document's Save of manifests returns, for every disk and manifest. -/
import Derived.Test.YtajcmgccclemdaaManRefLoad
import Derived.Test.YtajcmgccclemdaaManSave
import Derived.Test.YtajcmgccclemdaaDiskRef5
set_option linter.unusedVariables false
namespace Go.Proofs.Ytajcmgccclemdaa.Man
open Go.RowKit Go.Shelf
open Go.Proofs.Ytajcmgccclemdaa.Page
open Go.Proofs.Ytajcmgccclemdaa.Disk (VDk back_of Back outD_ok ok_of ok_mk zeroD_has set4_grown set4_below checkE_ok checkE_bad Dk HasDk Fits readD TextIs VBox RBox strV HasStrs HasPuts putCs DiskIs okB writeD flushD outD zeroD checkE Ok)

/-- the three boxes of the document's Save -/
structure SvR (w W : World) (d : Dk) (e : Nat) (u : Value) : Prop where
  disk : VDk W w.heap.size d
  man : MBox W (w.heap.size + 1) e u
  res : RBox W (w.heap.size + 2)
  below : Below w.heap.size w W
theorem SvR.keep {w W W' : World} {d : Dk} {e : Nat} {u : Value} (h : SvR w W d e u) (hb : Below W.heap.size W W') : SvR w W' d e u :=
  ⟨h.disk.below hb, RowAt.below h.man hb, h.res.below hb, below2 h.below hb⟩
/-- a disk is stored into the variable -/
theorem SvR.store {w W : World} {d r : Dk} {e : Nat} {u : Value} {so co : Option Addr} {sc cc : Nat} (h : SvR w W d e u) (hs : HasStrs W (.slice so r.secs.length sc) r.secs) (hc : HasPuts W (.slice co r.cache.length cc) r.cache) :
    SvR w ((((W.setCell ⟨w.heap.size, 0, none⟩ (.slice so r.secs.length sc)).setCell ⟨w.heap.size, 1, none⟩ (.slice co r.cache.length cc)).setCell ⟨w.heap.size, 2, none⟩ (.int .i64 r.fuse)).setCell ⟨w.heap.size, 3, none⟩ (.bool r.off)) r e u :=
  ⟨h.disk.store hs hc, RowAt.grown' h.man (set4_grown _ _ _ _ _ _) (by omega), h.res.kept (set4_grown _ _ _ _ _ _) (by simp), set4_below h.below (by omega) _ _ _ _⟩
theorem svR_new (w : World) (d : Dk) (so co uo : Option Addr) (sc cc e n uc : Nat) (hs : HasStrs w (.slice so d.secs.length sc) d.secs) (hc : HasPuts w (.slice co d.cache.length cc) d.cache) :
    SvR w (((w.alloc (.cells #[.slice so d.secs.length sc, .slice co d.cache.length cc, .int .i64 d.fuse, .bool d.off] 38)).alloc (.cells #[.int .u64 (e : Int), .slice uo n uc] 25)).alloc (.cells #[.slice none 0 0, .slice none 0 0, .int .i64 0, .bool false] 38)) d e (.slice uo n uc) := by
  refine ⟨((VDk.new hs hc).below ((Below.refl _ _).alloc (Nat.le_refl _) _)).below ((Below.refl _ _).alloc (Nat.le_refl _) _), ?_, ?_, (((Below.refl _ w).alloc (Nat.le_refl _) _).alloc (by simp) _).alloc (by simp; omega) _⟩
  · have := RowAt.new (w.alloc (.cells #[.slice so d.secs.length sc, .slice co d.cache.length cc, .int .i64 d.fuse, .bool d.off] 38)) [.int .u64 (e : Int), .slice uo n uc] 25
    rw [World.size_alloc, List.toArray] at this
    exact RowAt.alloc this (.cells #[.slice none 0 0, .slice none 0 0, .int .i64 0, .bool false] 38)
  · have := World.alloc_heap_new ((w.alloc (.cells #[.slice so d.secs.length sc, .slice co d.cache.length cc, .int .i64 d.fuse, .bool d.off] 38)).alloc (.cells #[.int .u64 (e : Int), .slice uo n uc] 25)) (.cells #[.slice none 0 0, .slice none 0 0, .int .i64 0, .bool false] 38)
    rw [World.size_alloc, World.size_alloc] at this
    exact this
/-- what is answered: the variable's disk -/
theorem SvR.out {w W : World} {d : Dk} {e : Nat} {u : Value} {so co : Option Addr} {sc cc : Nat} (h : SvR w W d e u) (hs : HasStrs W (.slice so d.secs.length sc) d.secs) (hc : HasPuts W (.slice co d.cache.length cc) d.cache) :
    Hid (∀ x y z u, HasDk ((((W.setCell ⟨w.heap.size + 2, 0, none⟩ x).setCell ⟨w.heap.size + 2, 1, none⟩ y).setCell ⟨w.heap.size + 2, 2, none⟩ z).setCell ⟨w.heap.size + 2, 3, none⟩ u) (.agg #[.slice so d.secs.length sc, .slice co d.cache.length cc, .int .i64 d.fuse, .bool d.off]) d) :=
  fun x y z u => ⟨_, _, rfl, hs.box h.res.nostr (set4_grown _ _ _ _ _ _), hc.box h.res.nostr (set4_grown _ _ _ _ _ _)⟩
theorem ok_8796 {d : Dk} (h : Ok d) : d.secs.length ≤ 8796093022208 ∧ d.cache.length ≤ 5864062014805 := by have := h.many; have := h.few; omega
/-- what Save comes to -/
theorem save_form {d : Dk} (m : ManT) (h : okB d = false) : saveM d m = (zeroD, 2) := by rw [saveM, if_neg (by rw [h]; decide)]
theorem save_bad {d : Dk} {m : ManT} (h : okB d = true) (hm : okM m = false) : saveM d m = (d, 2) := by
  have e : followE d m = 2 := by rw [followE, if_neg (by rw [hm]; decide)]
  rw [saveM, if_pos h, e, if_neg (by decide)]
theorem save_off {d : Dk} {m : ManT} (h : okB d = true) (hm : okM m = true) (ho : d.off = true) : saveM d m = (d, 9) := by
  have e : followE d m = 9 := by rw [followE, if_pos hm, load_off h ho, if_pos (by decide)]
  rw [saveM, if_pos h, e, if_neg (by decide)]
theorem load_err {d : Dk} (h : okB d = true) (ho : d.off = false) : (loadM d).2 = 0 ∨ (loadM d).2 = 1 ∨ (loadM d).2 = 3 := by
  by_cases hl : d.secs.length < 2
  · rw [load_one h ho hl]; simp
  · obtain ⟨r0, r1⟩ := read_two h ho (by omega)
    rw [loadM, if_pos r0, if_pos r1]
    split <;> simp
theorem save_range {d : Dk} {m : ManT} (h : okB d = true) (hm : okM m = true) (ho : d.off = false) (hr : (loadM d).2 = 1 ∨ (loadM d).2 ≠ 1 ∧ m.1 ≠ (loadM d).1.1 + 1) : saveM d m = (d, 1) := by
  have e : followE d m = 1 := by
    rw [followE, if_pos hm]
    rcases hr with hr | ⟨h1, hr⟩
    · rw [hr, if_pos (by decide)]
    · rw [if_neg (by rcases load_err h ho with h2 | h2 | h2 <;> omega), if_neg hr]
  rw [saveM, if_pos h, e, if_neg (by decide)]
theorem save_write {d : Dk} {m : ManT} (h : okB d = true) (hm : okM m = true) (ho : d.off = false) (h1 : (loadM d).2 ≠ 1) (hr : m.1 = (loadM d).1.1 + 1) :
    saveM d m = if (writeD d ((m.1 % 2 : Nat) : Int) (sectL m)).2 = 0 then outD (writeD d ((m.1 % 2 : Nat) : Int) (sectL m)).1 (flushD (writeD d ((m.1 % 2 : Nat) : Int) (sectL m)).1) else writeD d ((m.1 % 2 : Nat) : Int) (sectL m) := by
  have e : followE d m = 0 := by
    rw [followE, if_pos hm, if_neg (by rcases load_err h ho with h2 | h2 | h2 <;> omega), if_pos hr]
  rw [saveM, if_pos h, if_pos e]
set_option maxHeartbeats 4000000 in
set_option maxRecDepth 20000 in
theorem rmsave_any (d : Dk) (m : ManT) (v u : Value) (w : World) (h : HasDk w v d) (hf : Fits d) (hm : HasParts w u m.2) (hfm : FitM m) :
    Calls Try.prog 21 #[v, .agg #[.int .u64 (m.1 : Int), u]] w (DiskIs (saveM d m) w) := by
  have cck := fun W (hb : Below w.heap.size w W) => Disk.rcheck_any d v W (h.keep hb) hf
  have HCP : Hid (Ok d → ∀ W, Below w.heap.size w W → Calls Try.prog 17 #[v] W fun e w' => ∃ so sc co cc, e = .returned (.agg #[.slice so d.secs.length sc, .slice co d.cache.length cc, .int .i64 d.fuse, .bool d.off]) ∧ HasStrs w' (.slice so d.secs.length sc) d.secs ∧ HasPuts w' (.slice co d.cache.length cc) d.cache ∧ Below W.heap.size W w') := fun hk W hb => by
    refine (Disk.rcopy_any d v W (h.keep hb) (ok_8796 hk).1 (ok_8796 hk).2).mono ?_
    rintro e w' ⟨so, sc, co, cc, rfl, h1, h2, hb⟩
    exact ⟨so, sc, co, cc, rfl, Disk.hasRow_own h1, Disk.hasRow_own h2, hb⟩
  have cpu := fun W (hb : Below w.heap.size w W) => rmput_any m u W (hm.keep hb) hfm
  unfold StrIs at cpu
  have HLD : Hid (∀ W v, HasDk W v d → Calls Try.prog 19 #[v] W fun e w' => ∃ xo xc, e = .returned (.tuple #[.agg #[.int .u64 ((loadM d).1.1 : Int), .slice xo (loadM d).1.2.length xc], .int .i64 (loadM d).2]) ∧ Below W.heap.size W w') := fun W v hv => by
    refine (rmload_any d v W hv hf).mono ?_
    rintro e w' ⟨v, rfl, hp, hb⟩
    obtain ⟨xo, xc, rfl, _, _⟩ := hp.form
    exact ⟨xo, xc, rfl, hb⟩
  obtain ⟨so, sc, co, c3, rfl, hs, hc⟩ := h.parts
  obtain ⟨uo, uc, rfl, _, _⟩ := hm.form
  obtain ⟨X, hX⟩ : ∃ X, X = ((w.alloc (.cells #[.slice so d.secs.length sc, .slice co d.cache.length c3, .int .i64 d.fuse, .bool d.off] 38)).alloc (.cells #[.int .u64 (m.1 : Int), .slice uo m.2.length uc] 25)).alloc (.cells #[.slice none 0 0, .slice none 0 0, .int .i64 0, .bool false] 38) := ⟨_, rfl⟩
  have hv : Hid (SvR w X d m.1 (.slice uo m.2.length uc)) := by rw [hX]; exact svR_new w d so co uo sc c3 m.1 m.2.length uc hs hc
  have vb : VBox X w.heap.size (.slice so d.secs.length sc) (.slice co d.cache.length c3) (.int .i64 d.fuse) (.bool d.off) := by
    rw [hX]; exact VBox.below (VBox.below (World.alloc_heap_new _ _) ((Below.refl _ _).alloc (Nat.le_refl _) _)) ((Below.refl _ _).alloc (Nat.le_refl _) _)
  have hmi : (m.1 : Int) ≤ 18446744073709551615 := by have := hfm.1; omega
  obtain ⟨R, hR⟩ : ∃ R, R = saveM d m := ⟨_, rfl⟩
  rw [← hR]
  have HR : Hid (R = saveM d m) := hR
  obtain ⟨q0, q1, q2, q3, qf⟩ := vb.cells
  have HHF : Hid (Fits d ∧ FitM m) := ⟨hf, hfm⟩
  have HVB : Hid (VBox X w.heap.size (.slice so d.secs.length sc) (.slice co d.cache.length c3) (.int .i64 d.fuse) (.bool d.off)) := vb
  clear hR hs hc h hm vb hf hfm
  cases hok : okB d
  · have HR2 : Hid (R = (zeroD, 2)) := HR.out.trans (save_form m hok)
    rw [checkE_bad hok] at cck
    clear cpu HCP HLD
    go_enter Try.func21, Try.ntmps21
    go_upto_region 1 with fail
    rw [← hX]
    clear hX
    go_wp2_with fail
    go_at_call 49; refine (cck X hv.out.below).mono ?_; rintro e w1 ⟨rfl, hb1⟩
    have h1 := hv.out.keep hb1
    have hB1 := h1.below
    obtain ⟨r0, r1, r2, r3, rf⟩ := h1.res.cells
    clear cck q0 q1 q2 q3 qf hv h1 hb1
    go_wp2
    (try simp only [Exit.inBlock, Exit.then])
    refine bodyPost_ret (v := .tuple #[.agg #[.slice none 0 0, .slice none 0 0, .int .i64 0, .bool false], .int .i64 2]) ?_ rfl (by rw [HR2.out]; exact ⟨_, rfl, zeroD_has _, set4_below hB1 (by omega) _ _ _ _⟩)
    rw [results_cell_tmp rfl]
    go_simp
  · have HK : Hid (Ok d) := ok_of hok
    have HOK : Hid (okB d = true) := hok
    rw [checkE_ok hok] at cck
    have ccp := HCP.out HK.out
    clear HCP
    go_enter Try.func21, Try.ntmps21
    go_upto_region 1 with fail
    rw [← hX]
    clear hX
    go_wp2_with fail
    go_at_call 49; refine (cck X hv.out.below).mono ?_; rintro e w1 ⟨rfl, hb1⟩
    have h1 := hv.out.keep hb1
    have vb1 := HVB.out.below hb1
    clear q0 q1 q2 q3 qf cck hv HVB hb1
    obtain ⟨q0, q1, q2, q3, qf⟩ := vb1.cells
    go_wp2_with fail
    go_at_call 17; refine (ccp w1 h1.below).mono ?_; rintro e w2 ⟨s2, s2c, c2, c2c, rfl, hs2, hc2, hb2⟩
    obtain ⟨Y, hY⟩ : ∃ Y, Y = (((w2.setCell ⟨w.heap.size, 0, none⟩ (.slice s2 d.secs.length s2c)).setCell ⟨w.heap.size, 1, none⟩ (.slice c2 d.cache.length c2c)).setCell ⟨w.heap.size, 2, none⟩ (.int .i64 d.fuse)).setCell ⟨w.heap.size, 3, none⟩ (.bool d.off) := ⟨_, rfl⟩
    have hvY : SvR w Y d m.1 (.slice uo m.2.length uc) := by rw [hY]; exact (h1.keep hb2).store hs2 hc2
    have vb2 := vb1.below hb2
    clear q0 q1 q2 q3 qf ccp h1 hs2 hc2 hb2 vb1
    obtain ⟨q0, q1, q2, q3, qf⟩ := vb2.cells
    go_upto_region 4 with fail
    rw [← hY]
    clear hY q0 q1 q2 q3 qf vb2
    obtain ⟨a1, a2, a3, a4, vbY, hsY, hcY⟩ := hvY.disk
    obtain ⟨q0, q1, q2, q3, qf⟩ := vbY.cells
    obtain ⟨m0, m1⟩ := hvY.man.cells
    cases hmk : okM m
    · have hp : putM m = ([], 2) := by rw [putM, hmk]; rfl
      rw [hp] at cpu
      have HR2 : Hid (R = (d, 2)) := HR.out.trans (save_bad HOK.out hmk)
      clear hp HLD
      go_wp2_with fail
      go_at_call 10; refine (cpu Y hvY.below).mono ?_; rintro e w3 ⟨rfl, hb3⟩
      have h3 := hvY.keep hb3
      have vb3 := vbY.below hb3
      have hBx := h3.below
      have HF := h3.out (hsY.keep hb3) (hcY.keep hb3)
      obtain ⟨r0, r1, r2, r3, rf⟩ := h3.res.cells
      clear q0 q1 q2 q3 qf m0 m1 hvY vbY hsY hcY h3 cpu hb3
      obtain ⟨q0, q1, q2, q3, qf⟩ := vb3.cells
      clear vb3
      go_wp2
      (try simp only [Exit.inBlock, Exit.then])
      refine bodyPost_ret (v := .tuple #[.agg #[.slice a1 d.secs.length a2, .slice a3 d.cache.length a4, .int .i64 d.fuse, .bool d.off], .int .i64 2]) ?_ rfl (by rw [HR2.out]; exact ⟨_, rfl, HF.out _ _ _ _, set4_below hBx (by omega) _ _ _ _⟩)
      rw [results_cell_tmp rfl]
      go_simp
    · have hp : putM m = (sectL m, 0) := by rw [putM, hmk]; rfl
      rw [hp] at cpu
      simp only at cpu
      have hn8 := (okM_parts hmk).2.1
      cases hoff : d.off
      · have HRG : Hid ((loadM d).2 = 1 ∨ (loadM d).2 ≠ 1 ∧ m.1 ≠ (loadM d).1.1 + 1 → R = (d, 1)) := fun hh => HR.out.trans (save_range HOK.out hmk hoff hh)
        have HWR : Hid ((loadM d).2 ≠ 1 → m.1 = (loadM d).1.1 + 1 → R = if (writeD d ((m.1 % 2 : Nat) : Int) (sectL m)).2 = 0 then outD (writeD d ((m.1 % 2 : Nat) : Int) (sectL m)).1 (flushD (writeD d ((m.1 % 2 : Nat) : Int) (sectL m)).1) else writeD d ((m.1 % 2 : Nat) : Int) (sectL m)) := fun g1 g2 => HR.out.trans (save_write HOK.out hmk hoff g1 g2)
        have hle := loadM_le d
        have cld := HLD.out
        generalize loadM d = ld at cld HRG HWR hle
        obtain ⟨⟨le, lp⟩, ly⟩ := ld
        simp only at cld HRG HWR hle
        have HCL : Hid (∀ W v, HasDk W v d → Calls Try.prog 19 #[v] W fun e w' => ∃ xo xc, e = .returned (.tuple #[.agg #[.int .u64 (le : Int), .slice xo lp.length xc], .int .i64 ly]) ∧ Below W.heap.size W w') := cld
        have hD : ∀ W, VDk W w.heap.size d → True := fun _ _ => trivial
        obtain ⟨pp, hpp⟩ : ∃ p : Nat, p = m.1 % 2 := ⟨_, rfl⟩
        rw [← hpp] at HWR
        have HWC : Hid (∀ W v, HasDk W v d → Calls Try.prog 56 #[v, .int .i64 (pp : Int), strV (sectL m)] W (Back (writeD d (pp : Int) (sectL m)).1 (writeD d (pp : Int) (sectL m)).2 W)) := fun W v hv => by
          have := (Disk.rwrite_any d v (pp : Int) (sectL m) W hv HHF.out.1 (by omega) (by rw [sectL_len m hn8]; omega)).mono (fun e w' h => back_of h)
          rw [outD_ok HK.out] at this
          exact this
        have hf1 : Fits (writeD d (pp : Int) (sectL m)).1 := Disk.fits_ok (Disk.write_ok HK.out _ _) (Disk.write_fuse HHF.out.1.1.2 _ _)
        have hcf : ∀ W v, HasDk W v (writeD d (pp : Int) (sectL m)).1 → Calls Try.prog 57 #[v] W (Back (outD (writeD d (pp : Int) (sectL m)).1 (flushD (writeD d (pp : Int) (sectL m)).1)).1 (outD (writeD d (pp : Int) (sectL m)).1 (flushD (writeD d (pp : Int) (sectL m)).1)).2 W) := fun W v hv => (Disk.rflush_any _ v W hv hf1).mono (fun e w' h => back_of h)
        generalize writeD d (pp : Int) (sectL m) = r1 at HWC HWR hcf
        obtain ⟨d1, y1⟩ := r1
        simp only at HWC HWR hcf
        have HFC : Hid (∀ W v, HasDk W v d1 → Calls Try.prog 57 #[v] W (Back (outD d1 (flushD d1)).1 (outD d1 (flushD d1)).2 W)) := hcf
        unfold strV at HWC
        generalize (⟨(sectL m).toArray⟩ : ByteArray) = S at cpu HWC
        have ew0 : (m.1 : Int).tmod 2 = (pp : Int) := by rw [Int.tmod_eq_emod_of_nonneg (by omega)]; omega
        have ew1 : (m.1 : Int) % 2 = (pp : Int) := by omega
        have ew2 : IntKind.i64.wrap (pp : Int) = (pp : Int) := by rw [IntKind.wrap_i64]; omega
        have ew3 : IntKind.u64.wrap (pp : Int) = (pp : Int) := by rw [IntKind.wrap_u64]; omega
        have hlei : (le : Int) ≤ 4611686018427387904 := by omega
        have ew4 : IntKind.u64.wrap ((le : Int) + 1) = (le : Int) + 1 := by rw [IntKind.wrap_u64]; omega
        have HOF : Hid (d.off = false) := hoff
        rw [hoff] at q3
        clear hp HLD cld hcf hpp hf1 hle hoff hD
        go_wp2_with fail
        go_at_call 10; refine (cpu Y hvY.below).mono ?_; rintro e w3 ⟨rfl, hb3⟩
        have h3 := hvY.keep hb3
        have vb3 := vbY.below hb3
        have hs3 := hsY.keep hb3
        have hc3 := hcY.keep hb3
        clear q0 q1 q2 q3 qf m0 m1 hvY vbY hsY hcY cpu hb3
        obtain ⟨q0, q1, q2, q3, qf⟩ := vb3.cells
        rw [HOF.out] at q3
        have cld := HCL.out w3 _ ⟨_, _, rfl, hs3, hc3⟩
        rw [HOF.out] at cld
        go_wp2_with fail
        go_at_call 19; refine cld.mono ?_; rintro e w4 ⟨xo, xc, rfl, hb4⟩
        obtain ⟨Z, hZ⟩ : ∃ Z, Z = w4.alloc (.cells #[.int .u64 (le : Int), .slice xo lp.length xc] 25) := ⟨_, rfl⟩
        obtain ⟨bx, hbx⟩ : ∃ b, b = w4.heap.size := ⟨_, rfl⟩
        have hb5 : Below w4.heap.size w4 Z := by rw [hZ]; exact (Below.refl _ _).alloc (Nat.le_refl _) _
        have xb : MBox Z bx le (.slice xo lp.length xc) := by rw [hZ, hbx]; exact RowAt.new w4 [_, _] _
        have hb45 := below2 hb4 hb5
        have h5 := h3.keep hb45
        have vb5 := vb3.below hb45
        have hs5 := hs3.keep hb45
        have hc5 := hc3.keep hb45
        go_upto_region 10 with fail
        rw [← hZ, ← hbx]
        clear hZ hbx hb4 hb5 hb45 cld HCL q0 q1 q2 q3 qf h3 vb3 hs3 hc3
        obtain ⟨x0, x1⟩ := xb.cells
        obtain ⟨m0, m1⟩ := h5.man.cells
        obtain ⟨q0, q1, q2, q3, qf⟩ := vb5.cells
        rw [HOF.out] at q3
        by_cases hly : ly = 1
        · have HR2 : Hid (R = (d, 1)) := HRG.out (.inl hly)
          subst hly
          have hBx := h5.below
          have HF := h5.out hs5 hc5
          rw [HOF.out] at HF
          obtain ⟨r0, r1, r2, r3, rf⟩ := h5.res.cells
          clear hs5 hc5 h5 vb5 xb HRG HWR
          go_wp2
          (try simp only [Exit.inBlock, Exit.then])
          refine bodyPost_ret (v := .tuple #[.agg #[.slice a1 d.secs.length a2, .slice a3 d.cache.length a4, .int .i64 d.fuse, .bool false], .int .i64 1]) ?_ rfl (by rw [HR2.out]; exact ⟨_, rfl, HF.out _ _ _ _, set4_below hBx (by omega) _ _ _ _⟩)
          rw [results_cell_tmp rfl]
          go_simp
        · have hly2 : (ly == 1) = false := by simpa using hly
          by_cases hep : m.1 = le + 1
          · have HR3 : Hid (R = if y1 = 0 then outD d1 (flushD d1) else (d1, y1)) := HWR.out hly hep
            have hep2 : (m.1 : Int) = (le : Int) + 1 := by omega
            have hepb : ((m.1 : Int) != (le : Int) + 1) = false := by rw [bne_eq_false_iff_eq]; exact hep2
            have HEP : Hid ((m.1 : Int) = (le : Int) + 1) := hep2
            clear hep hep2 HRG HWR hly
            have cwr := HWC.out Z _ ⟨_, _, rfl, hs5, hc5⟩
            rw [HOF.out] at cwr
            unfold Back at cwr
            go_wp2_with fail
            go_at_call 56; refine cwr.mono ?_; rintro e w6 ⟨s6, s6c, c6, c6c, rfl, hs6, hc6, hb6⟩
            have h6 := h5.keep hb6
            have vb6 := vb5.below hb6
            obtain ⟨V, hV⟩ : ∃ V, V = (((w6.setCell ⟨w.heap.size, 0, none⟩ (.slice s6 d1.secs.length s6c)).setCell ⟨w.heap.size, 1, none⟩ (.slice c6 d1.cache.length c6c)).setCell ⟨w.heap.size, 2, none⟩ (.int .i64 d1.fuse)).setCell ⟨w.heap.size, 3, none⟩ (.bool d1.off) := ⟨_, rfl⟩
            have hvV : SvR w V d1 m.1 (.slice uo m.2.length uc) := by rw [hV]; exact h6.store hs6 hc6
            clear q0 q1 q2 q3 qf x0 x1 m0 m1 cwr HWC hs5 hc5 h5 vb5 xb hs6 hc6 hb6 h6
            obtain ⟨q0, q1, q2, q3, qf⟩ := vb6.cells
            go_upto_region 13 with fail
            rw [← hV]
            clear hV q0 q1 q2 q3 qf vb6
            obtain ⟨b1, b2, b3, b4, vbV, hsV, hcV⟩ := hvV.disk
            obtain ⟨q0, q1, q2, q3, qf⟩ := vbV.cells
            by_cases hy : y1 = 0
            · subst hy
              have HR4 : Hid (R = outD d1 (flushD d1)) := by show _ = _; rw [HR3.out, if_pos rfl]
              have cfl := HFC.out V _ ⟨_, _, rfl, hsV, hcV⟩
              generalize outD d1 (flushD d1) = r2 at cfl HR4
              obtain ⟨d2, y2⟩ := r2
              unfold Back at cfl
              simp only at cfl
              go_wp2_with fail
              go_at_call 57; refine cfl.mono ?_; rintro e w7 ⟨s7, s7c, c7, c7c, rfl, hs7, hc7, hb7⟩
              have h7 := hvV.keep hb7
              have hBx := h7.below
              have HF : Hid (∀ x y z u, HasDk ((((w7.setCell ⟨w.heap.size + 2, 0, none⟩ x).setCell ⟨w.heap.size + 2, 1, none⟩ y).setCell ⟨w.heap.size + 2, 2, none⟩ z).setCell ⟨w.heap.size + 2, 3, none⟩ u) (.agg #[.slice s7 d2.secs.length s7c, .slice c7 d2.cache.length c7c, .int .i64 d2.fuse, .bool d2.off]) d2) := fun x y z u => ⟨_, _, rfl, hs7.box h7.res.nostr (set4_grown _ _ _ _ _ _), hc7.box h7.res.nostr (set4_grown _ _ _ _ _ _)⟩
              obtain ⟨r0, r1, r2', r3, rf⟩ := h7.res.cells
              clear q0 q1 q2 q3 qf hs7 hc7 cfl HFC hvV vbV hsV hcV h7 hb7
              go_wp2
              (try simp only [Exit.inBlock, Exit.then])
              refine bodyPost_ret (v := .tuple #[.agg #[.slice s7 d2.secs.length s7c, .slice c7 d2.cache.length c7c, .int .i64 d2.fuse, .bool d2.off], .int .i64 y2]) ?_ rfl (by rw [HR4.out]; exact ⟨_, rfl, HF.out _ _ _ _, set4_below hBx (by omega) _ _ _ _⟩)
              rw [results_cell_tmp rfl]
              go_simp
            · have HR4 : Hid (R = (d1, y1)) := by show _ = _; rw [HR3.out, if_neg hy]
              have hy2 : (y1 != 0) = true := by simpa using hy
              have hBx := hvV.below
              have HF := hvV.out hsV hcV
              obtain ⟨r0, r1, r2', r3, rf⟩ := hvV.res.cells
              clear hsV hcV HFC hvV vbV hy
              go_wp2
              (try simp only [Exit.inBlock, Exit.then])
              refine bodyPost_ret (v := .tuple #[.agg #[.slice b1 d1.secs.length b2, .slice b3 d1.cache.length b4, .int .i64 d1.fuse, .bool d1.off], .int .i64 y1]) ?_ rfl (by rw [HR4.out]; exact ⟨_, rfl, HF.out _ _ _ _, set4_below hBx (by omega) _ _ _ _⟩)
              rw [results_cell_tmp rfl]
              go_simp
          · have HR2 : Hid (R = (d, 1)) := HRG.out (.inr ⟨hly, hep⟩)
            have hep2 : ¬ ((m.1 : Int) = (le : Int) + 1) := by omega
            have hepb : ((m.1 : Int) != (le : Int) + 1) = true := by rw [bne_iff_ne]; exact hep2
            have hBx := h5.below
            have HF := h5.out hs5 hc5
            rw [HOF.out] at HF
            obtain ⟨r0, r1, r2, r3, rf⟩ := h5.res.cells
            clear hs5 hc5 h5 vb5 xb HRG HWR hep hly
            go_wp2
            (try simp only [Exit.inBlock, Exit.then])
            refine bodyPost_ret (v := .tuple #[.agg #[.slice a1 d.secs.length a2, .slice a3 d.cache.length a4, .int .i64 d.fuse, .bool false], .int .i64 1]) ?_ rfl (by rw [HR2.out]; exact ⟨_, rfl, HF.out _ _ _ _, set4_below hBx (by omega) _ _ _ _⟩)
            rw [results_cell_tmp rfl]
            go_simp
      · have HR2 : Hid (R = (d, 9)) := HR.out.trans (save_off HOK.out hmk hoff)
        have HOF : Hid (d.off = true) := hoff
        clear hp HLD hoff
        generalize (⟨(sectL m).toArray⟩ : ByteArray) = S at cpu
        go_wp2_with fail
        go_at_call 10; refine (cpu Y hvY.below).mono ?_; rintro e w3 ⟨rfl, hb3⟩
        have h3 := hvY.keep hb3
        have vb3 := vbY.below hb3
        have hBx := h3.below
        have HF := h3.out (hsY.keep hb3) (hcY.keep hb3)
        rw [HOF.out] at HF
        obtain ⟨r0, r1, r2, r3, rf⟩ := h3.res.cells
        clear q0 q1 q2 q3 qf m0 m1 hvY vbY hsY hcY h3 cpu hb3
        obtain ⟨q0, q1, q2, q3, qf⟩ := vb3.cells
        rw [HOF.out] at q3
        clear vb3
        go_wp2
        (try simp only [Exit.inBlock, Exit.then])
        refine bodyPost_ret (v := .tuple #[.agg #[.slice a1 d.secs.length a2, .slice a3 d.cache.length a4, .int .i64 d.fuse, .bool true], .int .i64 9]) ?_ rfl (by rw [HR2.out]; exact ⟨_, rfl, HF.out _ _ _ _, set4_below hBx (by omega) _ _ _ _⟩)
        rw [results_cell_tmp rfl]
        go_simp
end Go.Proofs.Ytajcmgccclemdaa.Man
