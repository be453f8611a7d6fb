/- What the document's Make of disks returns. -/
import Derived.Test.YthjphgchnlihnaaDiskRef7
import Derived.Test.YthjphgchnlihnaaDiskMake2
set_option linter.unusedVariables false
namespace Go.Proofs.Ythjphgchnlihnaa.Disk
open Go.RowKit Go.Shelf
attribute [-go_sem] Builtin.append_

theorem make_128 (W : World) : (Instr.makeSlice 68 (.int .i64 128) (.int .i64 128)).run Try.prog W = .ok (.slice (some ⟨W.heap.size, 0, none⟩) 128 128) (W.alloc (.cells (List.replicate 128 (.int .u8 0)).toArray 5)) := by
  obtain ⟨i0, hi, hz0, hz1, hz2⟩ := info_parts info_u8
  have hr := run_make (P := Try.prog) W 68 5 i0 (.int .u8 0) Try.underlying68 hi hz0 .i64 .i64 128 128 (by omega) (Int.le_refl _) (by rw [hz2]; omega) (by omega)
  rw [hr, hz1]
  have e : madeCells (Value.int .u8 0).cells 128 = (List.replicate 128 (Value.int .u8 0)).toArray := by
    apply Array.ext'
    exact toList_madeCells_one (.int .u8 0) 128
  rw [← e]
  rfl
theorem conv_gen (W : World) (l : List UInt8) : (convert 68 9 (.slice (some ⟨W.heap.size, 0, none⟩) l.length l.length)).run Try.prog (W.alloc (.cells (l.map fun b => Value.int .u8 (b.toNat : Int)).toArray 5)) = .ok (.string ⟨l.toArray⟩) (W.alloc (.cells (l.map fun b => Value.int .u8 (b.toNat : Int)).toArray 5)) := by
  refine run_convert_bytes_back (P := Try.prog) _ 68 9 5 ⟨W.heap.size, 0, none⟩ l.length l Try.underlying68 Try.underlying5 Try.underlying9 (fun j hj => ?_)
  rw [addr_add, Nat.zero_add]
  simp only [World.cell?, heap_alloc_new]
  rw [if_neg (by simp), List.getElem?_toArray, List.getElem?_map, List.getElem?_eq_getElem hj]
  rfl
theorem conv_128 (W : World) : (convert 68 9 (.slice (some ⟨W.heap.size, 0, none⟩) 128 128)).run Try.prog (W.alloc (.cells (List.replicate 128 (.int .u8 0)).toArray 5)) = .ok (.string ⟨zeroS.toArray⟩) (W.alloc (.cells (List.replicate 128 (.int .u8 0)).toArray 5)) := by
  have h := conv_gen W zeroS
  have hl : zeroS.length = 128 := by unfold zeroS; exact List.length_replicate
  have hm : (zeroS.map fun b => Value.int .u8 (b.toNat : Int)) = List.replicate 128 (.int .u8 0) := by unfold zeroS; exact List.map_replicate
  rw [hl, hm] at h
  exact h
set_option maxHeartbeats 2000000 in
set_option maxRecDepth 20000 in
theorem rmake_any (n : Int) (w : World) (hn : -9223372036854775808 ≤ n ∧ n ≤ 9223372036854775807) : Calls Try.prog 22 #[.int .i64 n] w (DiskIs (makeD n) w) := by
  by_cases h1 : n < 1
  · have HM : Hid (makeD n = (zeroD, 1)) := by show _ = _; unfold makeD; rw [if_neg (by omega)]
    go_enter Try.func22, Try.ntmps22
    go_wp2
    (try simp only [Exit.inBlock, Exit.then])
    refine bodyPost_ret (v := .tuple #[.agg #[.slice none 0 0, .slice none 0 0, .int .i64 0, .bool false], .int .i64 1]) ?_ rfl (by rw [HM.out]; exact ⟨_, rfl, zeroD_has _, ((Below.refl _ w).alloc (Nat.le_refl _) _)⟩)
    rw [results_cell_tmp rfl]
    go_simp
  · by_cases h2 : n > 1024
    · have HM : Hid (makeD n = (zeroD, 1)) := by show _ = _; unfold makeD; rw [if_neg (by omega)]
      go_enter Try.func22, Try.ntmps22
      go_wp2
      (try simp only [Exit.inBlock, Exit.then])
      refine bodyPost_ret (v := .tuple #[.agg #[.slice none 0 0, .slice none 0 0, .int .i64 0, .bool false], .int .i64 1]) ?_ rfl (by rw [HM.out]; exact ⟨_, rfl, zeroD_has _, ((Below.refl _ w).alloc (Nat.le_refl _) _)⟩)
      rw [results_cell_tmp rfl]
      go_simp
    · obtain ⟨k, rfl⟩ := Int.eq_ofNat_of_zero_le (show 0 ≤ n by omega)
      have HM : Hid (makeD (k : Int) = (⟨List.replicate k zeroS, [], -1, false⟩, 0)) := by show _ = _; unfold makeD; rw [if_pos (by omega), Int.toNat_natCast]
      have hk1 : 1 ≤ k := by omega
      have hk2 : k ≤ 1024 := by omega
      clear h1 h2 hn
      obtain ⟨X, hX⟩ : ∃ X, X = (w.alloc (.cells #[.slice none 0 0, .slice none 0 0, .int .i64 0, .bool false] 25)).alloc (.cells #[.slice none 0 0, .slice none 0 0, .int .i64 (-1), .bool false] 25) := ⟨_, rfl⟩
      have hRX : RBox X w.heap.size := by
        rw [hX]
        have : RBox (w.alloc (.cells #[.slice none 0 0, .slice none 0 0, .int .i64 0, .bool false] 25)) w.heap.size := heap_alloc_new _ _
        exact this.below ((Below.refl _ _).alloc (Nat.le_refl _) _)
      have hVX : VBox X (w.heap.size + 1) (.slice none 0 0) (.slice none 0 0) (.int .i64 (-1)) (.bool false) := by
        rw [hX]
        have h := heap_alloc_new (w.alloc (.cells #[.slice none 0 0, .slice none 0 0, .int .i64 0, .bool false] 25)) (.cells #[.slice none 0 0, .slice none 0 0, .int .i64 (-1), .bool false] 25)
        simpa [VBox] using h
      have hBX : Below w.heap.size w X := by rw [hX]; exact ((Below.refl _ w).alloc (Nat.le_refl _) _).alloc (by simp) _
      have hXs : X.heap.size = w.heap.size + 2 := by rw [hX]; simp
      obtain ⟨ZS, hZS⟩ : ∃ ZS : ByteArray, ZS = ⟨zeroS.toArray⟩ := ⟨_, rfl⟩
      have HZS : Hid (ZS = ⟨zeroS.toArray⟩) := hZS
      have HCV : Hid (∀ W : World, (Instr.makeSlice 68 (.int .i64 128) (.int .i64 128)).run Try.prog W = .ok (.slice (some ⟨W.heap.size, 0, none⟩) 128 128) (W.alloc (.cells (List.replicate 128 (.int .u8 0)).toArray 5)) ∧ (convert 68 9 (.slice (some ⟨W.heap.size, 0, none⟩) 128 128)).run Try.prog (W.alloc (.cells (List.replicate 128 (.int .u8 0)).toArray 5)) = .ok (.string ZS) (W.alloc (.cells (List.replicate 128 (.int .u8 0)).toArray 5))) := by
        intro W
        refine ⟨make_128 W, ?_⟩
        rw [hZS]
        exact conv_128 W
      clear hZS
      go_enter Try.func22, Try.ntmps22
      go_wp2_with fail
      rw [← hX]
      clear hX
      go_loopw [5] (fun i wr => ∃ (j : Nat) (V : Value), j ≤ k ∧ i = .int .i64 j ∧ Hid (wr.ownsRow (w.heap.size + 2) 9 1 V j (List.replicate j (.string ZS))) ∧ Below w.heap.size w wr ∧ RBox wr w.heap.size ∧ VBox wr (w.heap.size + 1) V (.slice none 0 0) (.int .i64 (-1)) (.bool false) ∧ w.heap.size + 2 ≤ wr.heap.size) (fun i _ => k - (intOf i).toNat)
      case atStart => exact ⟨0, _, by omega, rfl, (World.ownsRow_nil _ _ _ _ : World.ownsRow _ _ _ _ _ _ _), hBX, hRX, hVX, by omega⟩
      case round =>
        obtain ⟨j, V, hj, rfl, HO, hB, hR, hV, hsz⟩ := hrel
        obtain ⟨oo, c4, rfl⟩ := own_slice HO.out
        by_cases hlt : j < k
        · obtain ⟨q0, q1, q2, q3, qf⟩ := hV.cells
          obtain ⟨hmk, hcv⟩ := HCV.out wr.drew
          obtain ⟨A, hA⟩ : ∃ A, A = wr.drew.alloc (.cells (List.replicate 128 (.int .u8 0)).toArray 5) := ⟨_, rfl⟩
          rw [← hA, show wr.drew.heap.size = wr.heap.size from rfl] at hmk hcv
          have hbA : Below wr.heap.size wr A := by rw [hA]; exact ((Below.refl _ wr).drew).alloc (Nat.le_refl _) _
          have hAs : A.heap.size = wr.heap.size + 1 := by rw [hA]; simp
          have hown := own_keep' HO.out hbA
          obtain ⟨g, cap, w3, hrun, hown3, hgrow⟩ := append_one ZS hown (by omega) (by omega)
          simp only [hAs] at hrun
          have hBA := below2 hB hbA
          have hB3 : Below w.heap.size w w3 := below_own (hBA.alloc hBA.size _) (by have := hBA.size; simp; omega) (by omega) (hown.alloc _) hgrow
          have hne : ∀ b, b < w.heap.size + 2 → some b ≠ (Value.slice oo j c4).ownBlock := by
            intro b hb
            rcases hown.2 with ⟨e, _⟩ | ⟨g', cap', cur, e, hg, _⟩
            · rw [e]; simp [Value.ownBlock]
            · rw [e]; simp [Value.ownBlock]; omega
          have hVA := hV.below hbA
          have hV3 := (hVA.below ((Below.refl _ A).alloc (Nat.le_refl _) _)).kept hgrow (hne _ (by omega))
          have hR3 := ((hR.below hbA).below ((Below.refl _ A).alloc (Nat.le_refl _) _)).kept hgrow (hne _ (by omega))
          have hs3 : w.heap.size + 2 ≤ w3.heap.size := by have := hgrow.size; simp at this; omega
          obtain ⟨a0, _⟩ := hVA.cells
          obtain ⟨b0, _⟩ := (hVA.below ((Below.refl _ A).alloc (Nat.le_refl _) (.cells #[.string ZS] 9))).cells
          obtain ⟨z0, z1, z2, z3, zf⟩ := hV3.cells
          have HO4 : Hid ((w3.setCell ⟨w.heap.size + 1, 0, none⟩ (.slice (some ⟨g, 0, none⟩) (j + 1) cap)).ownsRow (w.heap.size + 2) 9 1 (.slice (some ⟨g, 0, none⟩) (j + 1) cap) (j + 1) (List.replicate (j + 1) (.string ZS))) := by
            show World.ownsRow _ _ _ _ _ _ _
            rw [List.replicate_succ']
            exact hown3.kept (grown_set _ _ _ _) (.inr (by have := (hown3.lt g rfl).1; simp [Value.ownBlock]; omega))
          have HV4 : Hid (VBox (w3.setCell ⟨w.heap.size + 1, 0, none⟩ (.slice (some ⟨g, 0, none⟩) (j + 1) cap)) (w.heap.size + 1) (.slice (some ⟨g, 0, none⟩) (j + 1) cap) (.slice none 0 0) (.int .i64 (-1)) (.bool false)) := heap_setCell_same w3 (w.heap.size + 1) 0 _ _ _ hV3
          have HR4 : Hid (RBox (w3.setCell ⟨w.heap.size + 1, 0, none⟩ (.slice (some ⟨g, 0, none⟩) (j + 1) cap)) w.heap.size) := hR3.kept (grown_set _ _ _ _) (by simp)
          have HB4 : Hid (Below w.heap.size w (w3.setCell ⟨w.heap.size + 1, 0, none⟩ (.slice (some ⟨g, 0, none⟩) (j + 1) cap))) := hB3.setCell (p := ⟨w.heap.size + 1, 0, none⟩) (by simp) _
          have HS4 : Hid (w.heap.size + 2 ≤ (w3.setCell ⟨w.heap.size + 1, 0, none⟩ (.slice (some ⟨g, 0, none⟩) (j + 1) cap)).heap.size) := by show _ ≤ _; rw [size_set]; exact hs3
          clear hA hown hVA hbA hown3 hgrow hne hBA hR hB hV hV3 hR3 hB3
          go_wp2_with fail
          go_region
          all_goals go_wp2
          all_goals go_roundw
          all_goals first
            | exact ⟨j + 1, _, by omega, by go_num, HO4, HB4.out, HR4.out, HV4.out, HS4.out⟩
            | (simp [intOf]; omega)
        · obtain rfl : j = k := by omega
          obtain ⟨q0, q1, q2, q3, qf⟩ := hV.cells
          obtain ⟨r0, r1, r2, r3, rf⟩ := hR.cells
          have HF : Hid (HasStrs wr (.slice oo j c4) (List.replicate j zeroS)) := by
            have := hasRow_own HO.out
            show HasRow _ _ _ _ _
            rw [List.length_replicate, List.map_replicate, strV, ← HZS.out]
            exact this
          have HN : Hid (∀ x z, wr.cell? ⟨w.heap.size, x, none⟩ ≠ some (.string z)) := hR.nostr
          go_wp2
          (try simp only [Exit.inBlock, Exit.then])
          refine bodyPost_ret (v := .tuple #[.agg #[.slice oo j c4, .slice none 0 0, .int .i64 (-1), .bool false], .int .i64 0]) ?_ rfl (by rw [HM.out]; exact ⟨_, rfl, ⟨_, _, rfl, HF.out.box HN.out (set4_grown _ _ _ _ _ _), hasRow_nil _ _⟩, set4_below hB (Nat.le_refl _) _ _ _ _⟩)
          rw [results_cell_tmp rfl]
          go_simp
end Go.Proofs.Ythjphgchnlihnaa.Disk
