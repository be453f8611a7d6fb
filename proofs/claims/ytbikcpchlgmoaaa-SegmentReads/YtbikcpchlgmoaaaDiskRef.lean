/- What the document's Check, Copy, Same of disks return. -/
import Derived.Test.YtbikcpchlgmoaaaDiskVar
import Derived.Test.YtbikcpchlgmoaaaDiskMath
set_option linter.unusedVariables false
namespace Go.Proofs.Ytbikcpchlgmoaaa.Disk
open Go.RowKit Go.Shelf
attribute [-go_sem] Builtin.append_

theorem badS_f {z : List UInt8} (h : z.length = 128) : badS z = false := by simp [badS, h]
theorem badS_t {z : List UInt8} (h : z.length ≠ 128) : badS z = true := by simp [badS, h]
set_option maxHeartbeats 2000000 in
theorem rcheck_any (d : Dk) (v : Value) (w : World) (h : HasDk w v d) (hf : Fits d) :
    Calls Try.prog 35 #[v] w fun e w' => e = .returned (.int .i64 (checkE d)) ∧ Below w.heap.size w w' := by
  obtain ⟨so, sc, co, cc, rfl, hs, hc⟩ := h.parts
  obtain ⟨_, _, _, hs1, hs2⟩ := HasRow.slice hs
  obtain ⟨_, _, _, hc1, hc2⟩ := HasRow.slice hc
  obtain ⟨hff, hfs, hfp⟩ := hf
  obtain ⟨secs, cache, fuse, off⟩ := d
  simp only at hs hs1 hs2 hc hc1 hc2 hff hfs hfp ⊢
  have HK : Hid (okB ⟨secs, cache, fuse, off⟩ = (decide (1 ≤ secs.length ∧ secs.length ≤ 1024) && decide (cache.length ≤ 4096) && decide (-1 ≤ fuse) && !anyB badS secs && !anyB (badP secs.length) cache)) := rfl
  have hB0 : ∀ o, Below w.heap.size w (w.alloc o) := fun o => (Below.refl _ w).alloc (Nat.le_refl _) o
  have hn9 : secs.length ≤ 9223372036854775807 := by omega
  have hm9 : cache.length ≤ 9223372036854775807 := by omega
  obtain ⟨n, hn⟩ : ∃ n, n = secs.length := ⟨_, rfl⟩
  obtain ⟨m, hm⟩ : ∃ m, m = cache.length := ⟨_, rfl⟩
  have HN : Hid (n = secs.length) := hn
  have HM : Hid (m = cache.length) := hm
  have HSS : Hid (∀ wr, Below w.heap.size w wr → HasStrs wr (.slice so n sc) secs ∧ HasPuts wr (.slice co m cc) cache) := fun wr hb => by rw [hn, hm]; exact ⟨hs.keep hb, hc.keep hb⟩
  have HFS : Hid (∀ z ∈ secs, z.length ≤ 9223372036854775807) := hfs
  have HFP : Hid (∀ p ∈ cache, (-9223372036854775808 ≤ p.1 ∧ p.1 ≤ 9223372036854775807) ∧ p.2.length ≤ 9223372036854775807) := hfp
  rw [← hn] at HK hn9 hs1 ⊢
  rw [← hm] at HK hm9 hc1 ⊢
  clear hn hm hs hc hfs hfp h
  by_cases g1 : n < 1
  · have g1' : decide ((n : Int) < 1) = true := by simp; omega
    go_enter Try.func35, Try.ntmps35
    go_wp2
    go_ret
    exact ⟨ret_i (checkE_bad (by rw [HK.out, decide_eq_false (show ¬ (1 ≤ n ∧ n ≤ 1024) by omega)]; simp)).symm, hB0 _⟩
  have g1' : decide ((n : Int) < 1) = false := by simp; omega
  by_cases g2 : 1024 < n
  · have g2' : decide ((1024 : Int) < (n : Int)) = true := by simp; omega
    go_enter Try.func35, Try.ntmps35
    go_wp2
    go_ret
    exact ⟨ret_i (checkE_bad (by rw [HK.out, decide_eq_false (show ¬ (1 ≤ n ∧ n ≤ 1024) by omega)]; simp)).symm, hB0 _⟩
  have g2' : decide ((1024 : Int) < (n : Int)) = false := by simp; omega
  by_cases g3 : 4096 < m
  · have g3' : decide ((4096 : Int) < (m : Int)) = true := by simp; omega
    go_enter Try.func35, Try.ntmps35
    go_wp2
    go_ret
    exact ⟨ret_i (checkE_bad (by rw [HK.out, decide_eq_false (show ¬ (m ≤ 4096) by omega)]; simp)).symm, hB0 _⟩
  have g3' : decide ((4096 : Int) < (m : Int)) = false := by simp; omega
  by_cases g4 : fuse < -1
  · have g4' : decide (fuse < -1) = true := by simp; omega
    go_enter Try.func35, Try.ntmps35
    go_wp2
    go_ret
    exact ⟨ret_i (checkE_bad (by rw [HK.out, decide_eq_false (show ¬ (-1 ≤ fuse) by omega)]; simp)).symm, hB0 _⟩
  have g4' : decide (fuse < -1) = false := by simp; omega
  have HK2 : Hid (okB ⟨secs, cache, fuse, off⟩ = (!anyB badS secs && !anyB (badP n) cache)) := by rw [Hid, HK.out, decide_eq_true (show 1 ≤ n ∧ n ≤ 1024 by omega), decide_eq_true (show m ≤ 4096 by omega), decide_eq_true (show -1 ≤ fuse by omega)]; simp
  obtain ⟨W0, hW0⟩ : ∃ W0, W0 = w.alloc (.cells #[.slice so n sc, .slice co m cc, .int .i64 fuse, .bool off] 25) := ⟨_, rfl⟩
  have vb : VBox W0 w.heap.size (.slice so n sc) (.slice co m cc) (.int .i64 fuse) (.bool off) := by rw [hW0]; exact heap_alloc_new _ _
  have hBW : Below w.heap.size w W0 := by rw [hW0]; exact hB0 _
  obtain ⟨q0, q1, q2, q3, qf⟩ := vb.cells
  clear HK g1 g2 g3 g4
  go_enter Try.func35, Try.ntmps35
  go_upto_region 1 with fail
  rw [← hW0]
  clear hW0
  go_wp2_with fail
  go_loop [31] (fun i => ∃ k : Nat, k ≤ n ∧ i = .int .i64 k ∧ anyB badS (secs.take k) = false) (fun i => n - (intOf i).toNat)
  case atStart => exact ⟨0, by omega, rfl, rfl⟩
  case round =>
    obtain ⟨k, hk, rfl, hno⟩ := hrel
    have HO : Hid (anyB badS (secs.take k) = false) := hno
    clear hno
    by_cases hlt : k < n
    · have hkz : k < secs.length := by rw [← HN.out]; exact hlt
      obtain ⟨g1, i1, rfl, _, c1⟩ := HasStrs.cell (HSS.out _ hBW).1 k hkz
      have HT : Hid (secs.take (k + 1) = secs.take k ++ [secs[k]]) := List.take_succ_eq_append_getElem hkz
      have HMm : Hid (secs[k] ∈ secs) := List.getElem_mem hkz
      have hzl := HFS.out secs[k] (List.getElem_mem hkz)
      generalize secs[k] = z at c1 HT HMm hzl
      have HZ : Hid ((⟨z.toArray⟩ : ByteArray).size = z.length) := size_list z
      unfold strV at c1
      generalize (⟨z.toArray⟩ : ByteArray) = Z at c1 HZ
      have hZ9 : Z.size ≤ 9223372036854775807 := by rw [HZ.out]; exact hzl
      by_cases hz : z.length = 128
      · have hx : ((Z.size : Int) != 128) = false := by rw [HZ.out]; simp; omega
        go_wp2_with fail
        go_round
        case rel => exact ⟨k + 1, by omega, by go_num, by rw [HT.out, anyB_snoc, HO.out, badS_f hz]; rfl⟩
        case measure => simp [intOf]; omega
      · have hx : ((Z.size : Int) != 128) = true := by rw [HZ.out]; simp; omega
        go_wp2_with fail
        go_ret
        exact ⟨ret_i (checkE_bad (by rw [HK2.out, anyB_of HMm.out (badS_t hz)]; rfl)).symm, hBW⟩
    · obtain rfl : k = n := by omega
      have HS0 : Hid (anyB badS secs = false) := by have := HO.out; rw [HN.out, List.take_length] at this; exact this
      clear HO
      go_wp2_with fail
      go_loopw [42] (fun i wr => ∃ j : Nat, j ≤ m ∧ i = .int .i64 j ∧ anyB (badP k) (cache.take j) = false ∧ Below W0.heap.size W0 wr) (fun i _ => m - (intOf i).toNat)
      case atStart => exact ⟨0, by omega, rfl, rfl, Below.refl _ _⟩
      case round =>
        obtain ⟨j, hj, rfl, hno, hB⟩ := hrel
        have HO : Hid (anyB (badP k) (cache.take j) = false) := hno
        clear hno
        by_cases hlt2 : j < m
        · have hjz : j < cache.length := by rw [← HM.out]; exact hlt2
          have hBw := hBW.trans (hB.mono hBW.size)
          obtain ⟨g1, i1, rfl, _, d1, d2⟩ := HasPuts.cell (HSS.out _ hBw).2 j hjz
          obtain ⟨x0, x1, x2, x3, xf⟩ := (vb.below hB).cells
          have HT : Hid (cache.take (j + 1) = cache.take j ++ [cache[j]]) := List.take_succ_eq_append_getElem hjz
          have HMm : Hid (cache[j] ∈ cache) := List.getElem_mem hjz
          have hpl := HFP.out cache[j] (List.getElem_mem hjz)
          generalize cache[j] = p at d1 d2 HT HMm hpl
          obtain ⟨pa, pd⟩ := p
          simp only at d1 d2 hpl
          have HZ : Hid ((⟨pd.toArray⟩ : ByteArray).size = pd.length) := size_list pd
          unfold strV at d2
          generalize (⟨pd.toArray⟩ : ByteArray) = PD at d2 HZ
          have hZ9 : PD.size ≤ 9223372036854775807 := by rw [HZ.out]; exact hpl.2
          have hal := hB.alloc hB.size (.cells #[.int .i64 pa, .string PD] 67)
          have y0 : (wr.alloc (.cells #[.int .i64 pa, .string PD] 67)).cell? ⟨w.heap.size, 0, none⟩ = some (.slice so k sc) := by
            rw [alloc_far (Nat.lt_of_lt_of_le vb.lt hB.size)]; exact x0
          have HX : Hid (∀ (_ : pa < 0 ∨ (k : Int) ≤ pa ∨ pd.length ≠ 128), badP k (pa, pd) = true) := fun h => by
            simp only [badP, inB]
            rcases h with h | h | h
            · simp; omega
            · simp; omega
            · simp [h]
          have HXf : Hid (¬ (pa < 0 ∨ (k : Int) ≤ pa ∨ pd.length ≠ 128) → badP k (pa, pd) = false) := fun h => by
            simp only [badP, inB]
            have h1 : pd.length = 128 := by omega
            simp [h1]; omega
          by_cases e1 : pa < 0
          · have e1' : decide (pa < 0) = true := by simpa using e1
            go_wp2_with fail
            go_ret
            exact ⟨ret_i (checkE_bad (by rw [HK2.out, anyB_of HMm.out (HX.out (.inl e1))]; simp)).symm, hBW.trans (hal.mono hBW.size)⟩
          · have e1' : decide (pa < 0) = false := by simpa using e1
            by_cases e2 : (k : Int) ≤ pa
            · have e2' : decide ((k : Int) ≤ pa) = true := by simpa using e2
              go_wp2_with fail
              go_ret
              exact ⟨ret_i (checkE_bad (by rw [HK2.out, anyB_of HMm.out (HX.out (.inr (.inl e2)))]; simp)).symm, hBW.trans (hal.mono hBW.size)⟩
            · have e2' : decide ((k : Int) ≤ pa) = false := by simpa using e2
              by_cases e3 : pd.length = 128
              · have e3' : ((PD.size : Int) != 128) = false := by rw [HZ.out]; simp; omega
                go_wp2_with fail
                go_roundw
                case rel => exact ⟨j + 1, by omega, by go_num, by rw [HT.out, anyB_snoc, HO.out, HXf.out (by omega)]; rfl, hal⟩
                case measure => simp [intOf]; omega
              · have e3' : ((PD.size : Int) != 128) = true := by rw [HZ.out]; simp; omega
                go_wp2_with fail
                go_ret
                exact ⟨ret_i (checkE_bad (by rw [HK2.out, anyB_of HMm.out (HX.out (.inr (.inr e3)))]; simp)).symm, hBW.trans (hal.mono hBW.size)⟩
        · obtain rfl : j = m := by omega
          go_wp2_with fail
          go_ret
          exact ⟨ret_i (checkE_ok (by rw [HK2.out, HS0.out]; have := HO.out; rw [HM.out, List.take_length] at this; rw [this]; rfl)).symm, hBW.trans (hB.mono hBW.size)⟩

theorem results_one {fn : Func} {p : Tmp} {ty : TypeId} (h : fn.results = #[.cell p ty]) (tmps : Array Value) (P : Program) (w : World) :
    (results fn tmps).run P w = ((asAddr (tmps.getD p undef)).run P w).andThen fun a w₁ => (loadVar ty a).run P w₁ := by
  simp only [results, h]
  simp [Sem.run_bind, Result.andThen]
set_option maxHeartbeats 2000000 in
set_option maxRecDepth 20000 in
theorem rcopy_any (d : Dk) (v : Value) (w : World) (h : HasDk w v d) (hsl : d.secs.length ≤ 8796093022208) (hcl : d.cache.length ≤ 5864062014805) :
    Calls Try.prog 8 #[v] w fun e w' => ∃ so sc co cc, e = .returned (.agg #[.slice so d.secs.length sc, .slice co d.cache.length cc, .int .i64 d.fuse, .bool d.off]) ∧ w'.ownsRow w.heap.size 9 1 (.slice so d.secs.length sc) d.secs.length (d.secs.map strV) ∧ w'.ownsRow w.heap.size 67 2 (.slice co d.cache.length cc) d.cache.length (putCs d.cache) ∧ Below w.heap.size w w' := by
  obtain ⟨so, sc, co, cc, rfl, hs, hc⟩ := h.parts
  obtain ⟨X0, hX0⟩ : ∃ X, X = (w.alloc (.cells #[.slice so d.secs.length sc, .slice co d.cache.length cc, .int .i64 d.fuse, .bool d.off] 25)).alloc (.cells #[.slice none 0 0, .slice none 0 0, .int .i64 0, .bool false] 25) := ⟨_, rfl⟩
  have z0 : X0.heap.size = w.heap.size + 2 := by rw [hX0]; simp
  have hB0 : Below w.heap.size w X0 := by rw [hX0]; exact ((Below.refl _ w).alloc (Nat.le_refl _) _).alloc (by simp) _
  have vb0 : VBox X0 w.heap.size (.slice so d.secs.length sc) (.slice co d.cache.length cc) (.int .i64 d.fuse) (.bool d.off) := by
    rw [hX0]
    have : VBox (w.alloc (.cells #[.slice so d.secs.length sc, .slice co d.cache.length cc, .int .i64 d.fuse, .bool d.off] 25)) w.heap.size (.slice so d.secs.length sc) (.slice co d.cache.length cc) (.int .i64 d.fuse) (.bool d.off) := heap_alloc_new _ _
    exact this.below ((Below.refl _ _).alloc (Nat.le_refl _) _)
  have hR0 : RBox X0 (w.heap.size + 1) := by
    have := heap_alloc_new (w.alloc (.cells #[.slice so d.secs.length sc, .slice co d.cache.length cc, .int .i64 d.fuse, .bool d.off] 25)) (.cells #[.slice none 0 0, .slice none 0 0, .int .i64 0, .bool false] 25)
    rw [World.size_alloc, ← hX0] at this
    exact this
  have ba1 : Below X0.heap.size X0 (X0.alloc (.cells #[] 9)) := (Below.refl _ _).alloc (Nat.le_refl _) _
  obtain ⟨v1, w1, hr1, ho1, hg1⟩ := append_row info_str Try.underlying22 rfl (by decide) (empty_own X0 9 1) ((hs.keep hB0).keep ba1) (one_strs d.secs) (by omega) (by omega) (by simp)
  rw [Nat.zero_add, List.nil_append] at ho1
  have bw1 : Below X0.heap.size X0 w1 := ba1.grown hg1 (by simp) (fun k e => by simp [Value.ownBlock] at e; omega)
  obtain ⟨so1, sc1, rfl, _, _⟩ := HasRow.slice (hasRow_own ho1)
  have vb1 := vb0.below bw1
  obtain ⟨p0, p1, p2, p3, pf⟩ := vb1.cells
  have hR1 := hR0.below bw1
  obtain ⟨Y1, hY1⟩ : ∃ Y, Y = w1.setCell ⟨w.heap.size, 0, none⟩ (.slice so1 d.secs.length sc1) := ⟨_, rfl⟩
  have vY1 : VBox Y1 w.heap.size (.slice so1 d.secs.length sc1) (.slice co d.cache.length cc) (.int .i64 d.fuse) (.bool d.off) := by rw [hY1]; exact heap_setCell_same w1 w.heap.size 0 _ _ _ vb1
  have oY1 : Y1.ownsRow X0.heap.size 9 1 (.slice so1 d.secs.length sc1) d.secs.length (d.secs.map strV) := by
    rw [hY1]; exact ho1.kept (grown_set _ _ _ _) (by
      cases so1 with
      | none => exact .inl rfl
      | some a => exact .inr (by have := (ho1.lt a.block rfl).1; simp [Value.ownBlock]; omega))
  have bY1 : Below w.heap.size w Y1 := by rw [hY1]; exact (hB0.trans (bw1.mono hB0.size)).setCell (p := ⟨w.heap.size, 0, none⟩) (Nat.le_refl _) _
  have zY1 : X0.heap.size ≤ Y1.heap.size := by rw [hY1, size_set]; exact bw1.size
  have rY1 : RBox Y1 (w.heap.size + 1) := by rw [hY1]; exact hR1.kept (grown_set _ _ _ _) (by simp)
  have ba2 : Below Y1.heap.size Y1 (Y1.alloc (.cells #[] 67)) := (Below.refl _ _).alloc (Nat.le_refl _) _
  obtain ⟨v2, w2, hr2, ho2, hg2⟩ := append_row info_put Try.underlying23 rfl (by decide) (empty_own Y1 67 2) ((hc.keep bY1).keep ba2) (one_puts d.cache) (by omega) (by omega) (by simp)
  rw [Nat.zero_add, List.nil_append] at ho2
  have bw2 : Below Y1.heap.size Y1 w2 := ba2.grown hg2 (by simp) (fun k e => by simp [Value.ownBlock] at e; omega)
  obtain ⟨co2, cc2, rfl, _, _⟩ := HasRow.slice (hasRow_own ho2)
  have vb2 := vY1.below bw2
  obtain ⟨t0, t1, t2, t3, tf⟩ := vb2.cells
  obtain ⟨s0, s1, s2, s3, sf⟩ := vY1.cells
  obtain ⟨Y2, hY2⟩ : ∃ Y, Y = w2.setCell ⟨w.heap.size, 1, none⟩ (.slice co2 d.cache.length cc2) := ⟨_, rfl⟩
  have vY2 : VBox Y2 w.heap.size (.slice so1 d.secs.length sc1) (.slice co2 d.cache.length cc2) (.int .i64 d.fuse) (.bool d.off) := by rw [hY2]; exact heap_setCell_same w2 w.heap.size 1 _ _ _ vb2
  have bY2 : Below w.heap.size w Y2 := by rw [hY2]; exact (bY1.trans (bw2.mono bY1.size)).setCell (p := ⟨w.heap.size, 1, none⟩) (Nat.le_refl _) _
  have rY2 : RBox Y2 (w.heap.size + 1) := by rw [hY2]; exact (rY1.below bw2).kept (grown_set _ _ _ _) (by simp)
  have oS2 : Y2.ownsRow X0.heap.size 9 1 (.slice so1 d.secs.length sc1) d.secs.length (d.secs.map strV) := by
    rw [hY2]; exact (oY1.kept (grown_of bw2) (by
      cases so1 with
      | none => exact .inl rfl
      | some a => exact .inr (by simp [Value.ownBlock]))).kept (grown_set _ _ _ _) (by
      cases so1 with
      | none => exact .inl rfl
      | some a => exact .inr (by have := (ho1.lt a.block rfl).1; simp [Value.ownBlock]; omega))
  have oP2 : Y2.ownsRow X0.heap.size 67 2 (.slice co2 d.cache.length cc2) d.cache.length (putCs d.cache) := by
    rw [hY2]; exact (own_down ho2 zY1).kept (grown_set _ _ _ _) (by
      cases co2 with
      | none => exact .inl rfl
      | some a => exact .inr (by have := (ho2.lt a.block rfl).1; simp [Value.ownBlock]; omega))
  obtain ⟨e0, e1, e2, e3, ef⟩ := vY2.cells
  obtain ⟨k0, k1, k2, k3, kf⟩ := rY2.cells
  have HH : Hid (Y2.ownsRow X0.heap.size 9 1 (.slice so1 d.secs.length sc1) d.secs.length (d.secs.map strV) ∧ Y2.ownsRow X0.heap.size 67 2 (.slice co2 d.cache.length cc2) d.cache.length (putCs d.cache)) := ⟨oS2, oP2⟩
  obtain ⟨q0, q1, q2, q3, qf⟩ := vb0.cells
  have fa0 : (X0.alloc (.cells #[] 9)).cell? ⟨w.heap.size, 0, none⟩ = some (.slice so d.secs.length sc) := by rw [alloc_far (by omega)]; exact q0
  have fa1 : (Y1.alloc (.cells #[] 67)).cell? ⟨w.heap.size, 1, none⟩ = some (.slice co d.cache.length cc) := by rw [alloc_far (by omega)]; exact s1
  have HZ0 : Hid (X0.heap.size = w.heap.size + 2) := z0
  clear z0 hs hc h hsl hcl ho1 ho2 oY1 oS2 oP2 hg1 hg2 ba1 ba2 bw1 bw2 vb0 vb1 vb2 vY1 vY2 rY1 rY2 hR0 hR1 bY1
  go_enter Try.func8, Try.ntmps8
  go_upto_region 1 with fail
  rw [← hX0]
  clear hX0
  go_upto_region 2 with fail
  rw [← hY1]
  clear hY1
  go_upto_region 3 with fail
  rw [← hY2]
  clear hY2
  go_wp2
  (try simp only [Exit.inBlock, Exit.then])
  refine bodyPost_ret (v := .agg #[.slice so1 d.secs.length sc1, .slice co2 d.cache.length cc2, .int .i64 d.fuse, .bool d.off]) ?_ rfl ⟨_, _, _, _, rfl, ?_, ?_, set4_below bY2 (by omega) _ _ _ _⟩
  · rw [results_one rfl]
    go_simp
  · exact own_down (HH.out.1.kept (set4_grown _ _ _ _ _ _) (by
      cases so1 with
      | none => exact .inl rfl
      | some a => exact .inr (by have := (HH.out.1.lt a.block rfl).1; have := HZ0.out; simp [Value.ownBlock]; omega))) (by have := HZ0.out; omega)
  · exact own_down (HH.out.2.kept (set4_grown _ _ _ _ _ _) (by
      cases co2 with
      | none => exact .inl rfl
      | some a => exact .inr (by have := (HH.out.2.lt a.block rfl).1; have := HZ0.out; simp [Value.ownBlock]; omega))) (by have := HZ0.out; omega)
end Go.Proofs.Ytbikcpchlgmoaaa.Disk
