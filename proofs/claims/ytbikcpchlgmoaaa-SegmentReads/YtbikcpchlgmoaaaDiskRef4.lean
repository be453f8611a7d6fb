/- What the document's Write of disks returns. -/
import Derived.Test.YtbikcpchlgmoaaaDiskRef3
set_option linter.unusedVariables false
namespace Go.Proofs.Ytbikcpchlgmoaaa.Disk
open Go.RowKit Go.Shelf
attribute [-go_sem] Builtin.append_

theorem diskIs_own {w Y : World} {d r : Dk} {so co : Option Addr} {sc cc : Nat} {k : Int} {q : Dk × Int} (h : Own2 w Y d so co sc cc) (hq : q = (d, k)) :
    DiskIs q w (.returned (.tuple #[.agg #[.slice so d.secs.length sc, .slice co d.cache.length cc, .int .i64 d.fuse, .bool d.off], .int .i64 k]))
      ((((Y.setCell ⟨w.heap.size + 1, 0, none⟩ (.slice so d.secs.length sc)).setCell ⟨w.heap.size + 1, 1, none⟩ (.slice co d.cache.length cc)).setCell ⟨w.heap.size + 1, 2, none⟩ (.int .i64 d.fuse)).setCell ⟨w.heap.size + 1, 3, none⟩ (.bool d.off)) := by
  subst hq
  exact ⟨_, rfl, h.has _ _ _ _, set4_below h.below (by omega) _ _ _ _⟩

/-- rows of unlike elements lie apart -/
theorem own_apart {W : World} {m n e e' a b k l : Nat} {v u : Value} {xs ys : List Value} (h : W.ownsRow m e a v k xs) (g : W.ownsRow n e' b u l ys) (hne : e ≠ e') : v.ownBlock = none ∨ v.ownBlock ≠ u.ownBlock := by
  rcases h.2 with ⟨rfl, _⟩ | ⟨g1, cap, cur, rfl, h1, h2, h3⟩
  · exact .inl rfl
  · rcases g.2 with ⟨rfl, _⟩ | ⟨g2, cap2, cur2, rfl, i1, i2, i3⟩
    · exact .inr (by simp [Value.ownBlock])
    · refine .inr fun he => ?_
      simp [Value.ownBlock] at he
      subst he
      have := h2.symm.trans i2
      simp at this
      exact hne this.2
theorem Own2.app {w Y : World} {d : Dk} {so co : Option Addr} {sc cc : Nat} (h : Own2 w Y d so co sc cc) (p : PutT) (hl : d.cache.length ≤ 4096) :
    ∃ co' cc' Y3, (∀ ty, (Builtin.append_ #[23, 23] ty #[.slice co d.cache.length cc, .slice (some ⟨Y.heap.size, 0, none⟩) 1 1]).run Try.prog (Y.alloc (.cells #[.int .i64 p.1, strV p.2] 67)) = .ok (.slice co' (d.cache ++ [p]).length cc') Y3) ∧
      VBox Y3 w.heap.size (.slice so d.secs.length sc) (.slice co d.cache.length cc) (.int .i64 d.fuse) (.bool d.off) ∧
      Own2 w (Y3.setCell ⟨w.heap.size, 1, none⟩ (.slice co' (d.cache ++ [p]).length cc')) ⟨d.secs, d.cache ++ [p], d.fuse, d.off⟩ so co' sc cc' := by
  have hby : Below Y.heap.size Y (Y.alloc (.cells #[.int .i64 p.1, strV p.2] 67)) := (Below.refl _ _).alloc (Nat.le_refl _) _
  have hwz := h.below.size
  have hrz := h.res.lt
  have ho : (Y.alloc (.cells #[.int .i64 p.1, strV p.2] 67)).ownsRow (w.heap.size + 2) 67 2 (.slice co d.cache.length cc) d.cache.length (putCs d.cache) := h.puts.kept (grown_of hby) (by
    cases co with
    | none => exact .inl rfl
    | some a => exact .inr (by simp [Value.ownBlock]))
  have hp : HasPuts (Y.alloc (.cells #[.int .i64 p.1, strV p.2] 67)) (.slice (some ⟨Y.heap.size, 0, none⟩) 1 1) [p] :=
    puts_one _ _ p (by simp only [World.cell?, heap_alloc_new]; exact if_neg (by simp)) (by simp only [World.cell?, heap_alloc_new]; exact if_neg (by simp)) (by simp)
  obtain ⟨v', Y3, hr, ho3, hg⟩ := append_row info_put Try.underlying23 rfl (by decide) ho hp (one_puts [p]) (by simp; omega) (by simp; omega) (by simp; omega)
  rw [← putCs_app] at ho3
  have hlen : d.cache.length + [p].length = (d.cache ++ [p]).length := by simp
  rw [hlen] at ho3
  obtain ⟨co', cc', rfl, _, _⟩ := HasRow.slice (hasRow_own ho3)
  have hge : ∀ k, (Value.slice co d.cache.length cc).ownBlock = some k → w.heap.size + 2 ≤ k := fun k e => by
    cases co with
    | none => simp [Value.ownBlock] at e
    | some a => simp [Value.ownBlock] at e; have := (h.puts.lt a.block rfl).1; omega
  have hv : VBox Y3 w.heap.size (.slice so d.secs.length sc) (.slice co d.cache.length cc) (.int .i64 d.fuse) (.bool d.off) := (h.box.below hby).kept hg (fun e => by have := hge _ e.symm; omega)
  have hs0 := h.secs.kept (grown_of hby) (by
    cases so with
    | none => exact .inl rfl
    | some a => exact .inr (by simp [Value.ownBlock]))
  have hs3 := hs0.kept hg (own_apart hs0 ho (by decide))
  refine ⟨co', cc', Y3, hr, hv, heap_setCell_same Y3 w.heap.size 1 _ _ _ hv, ((h.res.below hby).kept hg (fun e => by have := hge _ e.symm; omega)).kept (grown_set _ _ _ _) (by simp), hs3.kept (grown_set _ _ _ _) ?_, ho3.kept (grown_set _ _ _ _) ?_, ((below2 h.below hby).grown hg (by simp; omega) (fun k e => by have := hge _ e; omega)).setCell (p := ⟨w.heap.size, 1, none⟩) (Nat.le_refl _) _⟩
  · cases so with
    | none => exact .inl rfl
    | some a => exact .inr (by have := (h.secs.lt a.block rfl).1; simp [Value.ownBlock]; omega)
  · cases co' with
    | none => exact .inl rfl
    | some a => exact .inr (by have := (ho3.lt a.block rfl).1; simp [Value.ownBlock]; omega)
set_option maxHeartbeats 2000000 in
theorem rwrite_any (d : Dk) (v : Value) (at' : Int) (data : List UInt8) (w : World) (h : HasDk w v d) (hf : Fits d) (hat : -9223372036854775808 ≤ at' ∧ at' ≤ 9223372036854775807) (hd : data.length ≤ 9223372036854775807) :
    Calls Try.prog 33 #[v, .int .i64 at', strV data] w (DiskIs (outD d (writeD d at' data)) w) := by
  have cchk := fun W (hb : Below w.heap.size w W) => rcheck_any d v W (h.keep hb) hf
  obtain ⟨so, sc, co, cc, rfl, hs, hc⟩ := h.parts
  obtain ⟨_, _, _, hs1, hs2⟩ := HasRow.slice hs
  obtain ⟨_, _, _, hc1, hc2⟩ := HasRow.slice hc
  by_cases hok : okB d = true
  · have HK : Hid (Ok d) := ok_of hok
    obtain ⟨X, hX, hB0, cin⟩ := copied_in d so co sc cc w hs hc HK.out
    have HR : Hid (outD d (writeD d at' data) = writeD d at' data) := by show _ = _; rw [outD, if_pos hok]
    rw [checkE_ok hok] at cchk
    have HF : Hid (-9223372036854775808 ≤ d.fuse ∧ d.fuse ≤ 9223372036854775807) := by exact hf.1
    clear hok hs hc h hf
    go_enter Try.func33, Try.ntmps33
    go_wp2_with fail
    rw [← hX]
    go_at_call 35; refine (cchk X hB0).mono ?_; rintro e w1 ⟨rfl, hb⟩
    obtain ⟨vb, rb, hbw, ccp⟩ := cin w1 hb
    obtain ⟨k0, k1, k2, k3, kf⟩ := vb.cells
    clear hX cin cchk
    go_wp2_with fail
    go_at_call 8; refine ccp.mono ?_; rintro e w2 ⟨so2, sc2, co2, cc2, rfl, v2, own⟩
    clear k0 k1 k2 k3 kf ccp vb rb
    obtain ⟨k0, k1, k2, k3, kf⟩ := v2.cells
    go_upto_region 4 with fail
    obtain ⟨Y, hY⟩ : ∃ Y, Y = ((((w2.setCell ⟨w.heap.size, 0, none⟩ (.slice so2 d.secs.length sc2)).setCell ⟨w.heap.size, 1, none⟩ (.slice co2 d.cache.length cc2)).setCell ⟨w.heap.size, 2, none⟩ (.int .i64 d.fuse)).setCell ⟨w.heap.size, 3, none⟩ (.bool d.off)) := ⟨_, rfl⟩
    rw [← hY] at own ⊢
    clear hY k0 k1 k2 k3 kf v2 hb hB0 hbw
    obtain ⟨k0, k1, k2, k3, kf⟩ := own.box.cells
    obtain ⟨q0, q1, q2, q3, qf⟩ := own.res.cells
    have HO : Hid (Own2 w Y d so2 co2 sc2 cc2) := own
    clear own
    by_cases ho : d.off = true
    · have hq : Hid (outD d (writeD d at' data) = (d, 9)) := by show _ = _; rw [HR.out, writeD, if_pos ho]
      have HD := diskIs_own (r := d) HO.out hq.out
      rw [ho] at k3 HD
      go_wp2
      (try simp only [Exit.inBlock, Exit.then])
      refine bodyPost_ret ?_ rfl HD
      rw [results_cell_tmp rfl]
      go_simp
    · have ho' : d.off = false := by simpa using ho
      have HOF : Hid (d.off = false) := ho'
      have HDL : Hid ((⟨data.toArray⟩ : ByteArray).size = data.length) := size_list data
      have HD0 : Hid (∀ k, outD d (writeD d at' data) = (d, k) → DiskIs (outD d (writeD d at' data)) w (.returned (.tuple #[.agg #[.slice so2 d.secs.length sc2, .slice co2 d.cache.length cc2, .int .i64 d.fuse, .bool false], .int .i64 k]))
          ((((Y.setCell ⟨w.heap.size + 1, 0, none⟩ (.slice so2 d.secs.length sc2)).setCell ⟨w.heap.size + 1, 1, none⟩ (.slice co2 d.cache.length cc2)).setCell ⟨w.heap.size + 1, 2, none⟩ (.int .i64 d.fuse)).setCell ⟨w.heap.size + 1, 3, none⟩ (.bool false))) := by
        intro k hk
        have := diskIs_own (r := d) HO.out hk
        rw [ho'] at this
        exact this
      have HW : Hid (outD d (writeD d at' data) = if inB d.secs.length at' = false then (d, 1) else if data.length ≠ 128 then (d, 11) else if 4096 ≤ d.cache.length then (d, 8)
          else (⟨d.secs, d.cache ++ [(at', data)], spendF d.fuse d.off, offAfter d.fuse d.off⟩, spendE d.fuse d.off)) := by show _ = _; rw [HR.out, writeD, if_neg ho]
      rw [ho'] at k3
      clear ho ho' HR
      by_cases e1 : at' < 0
      · have e1' : decide (at' < 0) = true := by simpa using e1
        have HD := HD0.out 1 (by rw [HW.out, if_pos (by simp [inB]; omega)])
        go_wp2
        (try simp only [Exit.inBlock, Exit.then])
        refine bodyPost_ret ?_ rfl HD
        rw [results_cell_tmp rfl]
        go_simp
      · have e1' : decide (at' < 0) = false := by simpa using e1
        by_cases e2 : (d.secs.length : Int) ≤ at'
        · have e2' : decide ((d.secs.length : Int) ≤ at') = true := by simpa using e2
          have HD := HD0.out 1 (by rw [HW.out, if_pos (by simp [inB]; omega)])
          go_wp2
          (try simp only [Exit.inBlock, Exit.then])
          refine bodyPost_ret ?_ rfl HD
          rw [results_cell_tmp rfl]
          go_simp
        · have e2' : decide ((d.secs.length : Int) ≤ at') = false := by simpa using e2
          have hin : ¬ inB d.secs.length at' = false := by simp [inB]; omega
          rw [if_neg hin] at HW
          by_cases hl : data.length ≠ 128
          · have HD := HD0.out 11 (by rw [HW.out, if_pos hl])
            have hl' : (((⟨data.toArray⟩ : ByteArray).size : Int) != 128) = true := by rw [HDL.out]; simp; omega
            have hD9 : (⟨data.toArray⟩ : ByteArray).size ≤ 9223372036854775807 := by rw [HDL.out]; exact hd
            clear HW HD0
            generalize outD d (writeD d at' data) = R at *
            unfold strV
            generalize (⟨data.toArray⟩ : ByteArray) = D at *
            clear hin hl HDL
            go_wp2
            (try simp only [Exit.inBlock, Exit.then])
            refine bodyPost_ret ?_ rfl HD
            rw [results_cell_tmp rfl]
            go_simp
          · rw [if_neg hl] at HW
            have hl' : (((⟨data.toArray⟩ : ByteArray).size : Int) != 128) = false := by rw [HDL.out]; simp; omega
            have hD9 : (⟨data.toArray⟩ : ByteArray).size ≤ 9223372036854775807 := by rw [HDL.out]; exact hd
            by_cases hfu : 4096 ≤ d.cache.length
            · have HD := HD0.out 8 (by rw [HW.out, if_pos hfu])
              have hf' : ((d.cache.length : Int) == 4096) = true := by have := HK.out.few; simp; omega
              clear HW HD0
              generalize outD d (writeD d at' data) = R at *
              unfold strV
              generalize (⟨data.toArray⟩ : ByteArray) = D at *
              clear hin hl HDL hfu
              go_wp2
              (try simp only [Exit.inBlock, Exit.then])
              refine bodyPost_ret ?_ rfl HD
              rw [results_cell_tmp rfl]
              go_simp
            · rw [if_neg hfu] at HW
              have hf' : ((d.cache.length : Int) == 4096) = false := by simp; omega
              obtain ⟨co3, cc3, Y3, hr, hv, HO3⟩ := HO.out.app (at', data) (by omega)
              have HW2 : Hid (outD d (writeD d at' data) = (⟨d.secs, d.cache ++ [(at', data)], spendF d.fuse false, offAfter d.fuse false⟩, spendE d.fuse false)) := by show _ = _; rw [HW.out, HOF.out]
              obtain ⟨L, hL⟩ : ∃ L, L = (d.cache ++ [(at', data)]).length := ⟨_, rfl⟩
              have HL : Hid (L = (d.cache ++ [(at', data)]).length) := hL
              have HO4 : Hid (∀ Z, Z = Y3.setCell ⟨w.heap.size, 1, none⟩ (.slice co3 L cc3) → Own2 w Z ⟨d.secs, d.cache ++ [(at', data)], d.fuse, d.off⟩ so2 co3 sc2 cc3) := fun Z hZ => by rw [hZ, hL]; exact HO3
              rw [← hL] at hr
              have hfar := fun x => alloc_far (W := Y) (o := 1) HO.out.box.lt x
              obtain ⟨t0, t1, t2, t3, tf⟩ := hv.cells
              rw [HOF.out] at t3
              clear HW HD0 HO3 hv hL
              unfold strV at hr
              simp only at hr
              unfold strV
              generalize outD d (writeD d at' data) = R at *
              generalize (⟨data.toArray⟩ : ByteArray) = D at *
              have HOF2 := HOF
              clear hin hl HDL hfu HOF
              go_upto_region 13 with fail
              obtain ⟨Z, hZ⟩ : ∃ Z, Z = Y3.setCell ⟨w.heap.size, 1, none⟩ (.slice co3 L cc3) := ⟨_, rfl⟩
              have HO5 := HO4.out Z hZ
              rw [← hZ]
              obtain ⟨d4, hd4⟩ : ∃ d4 : Dk, d4 = ⟨d.secs, d.cache ++ [(at', data)], d.fuse, d.off⟩ := ⟨_, rfl⟩
              rw [← hd4] at HO5
              have HW3 : Hid (R = (⟨d4.secs, d4.cache, spendF d4.fuse false, offAfter d4.fuse false⟩, spendE d4.fuse false)) := by show _ = _; rw [hd4]; exact HW2.out
              have hz4 : -9223372036854775808 ≤ d4.fuse ∧ d4.fuse ≤ 9223372036854775807 := by rw [hd4]; exact HF.out
              have ho4 : Hid (d4.off = false) := by show _ = _; rw [hd4]; exact HOF2.out
              clear hZ hd4 HO4 HW2 t0 t1 t2 t3 tf k0 k1 k2 k3 kf q0 q1 q2 q3 qf hr hfar HL HO
              obtain ⟨k0, k1, k2, k3, kf⟩ := HO5.box.cells
              rw [ho4.out] at k3
              have HO6 : Hid (Own2 w Z d4 so2 co3 sc2 cc3) := HO5
              clear HO5
              by_cases hz : d4.fuse = 0
              · have HW4 : Hid (R = (⟨d4.secs, d4.cache, d4.fuse, true⟩, 9)) := by show _ = _; rw [HW3.out, hz]; rfl
                have hz' : (d4.fuse == 0) = true := by simpa using hz
                clear hz HW3
                go_upto_region 15 with fail
                obtain ⟨V, hV⟩ : ∃ V, V = Z.setCell ⟨w.heap.size, 3, none⟩ (.bool true) := ⟨_, rfl⟩
                have HO7 := HO6.out.set3 true
                rw [← hV] at HO7 ⊢
                clear hV k0 k1 k2 k3 kf
                obtain ⟨k0, k1, k2, k3, kf⟩ := HO7.box.cells
                obtain ⟨q0, q1, q2, q3, qf⟩ := HO7.res.cells
                have HD := diskIs_own (r := d4) HO7 HW4.out
                clear HO7
                simp only at k0 k1 k2 k3 HD
                go_wp2
                (try simp only [Exit.inBlock, Exit.then])
                refine bodyPost_ret ?_ rfl HD
                rw [results_cell_tmp rfl]
                go_simp
              · have hz' : (d4.fuse == 0) = false := by simpa using hz
                by_cases hp : 0 < d4.fuse
                · have HW4 : Hid (R = (⟨d4.secs, d4.cache, d4.fuse - 1, false⟩, 0)) := by show _ = _; rw [HW3.out]; simp [spendF, offAfter, spendE, hz, hp]
                  have hp' : decide (0 < d4.fuse) = true := by simpa using hp
                  clear hz HW3
                  go_upto_region 18 with fail
                  obtain ⟨V, hV⟩ : ∃ V, V = Z.setCell ⟨w.heap.size, 2, none⟩ (.int .i64 (d4.fuse - 1)) := ⟨_, rfl⟩
                  have HO7 := HO6.out.set2 (d4.fuse - 1)
                  rw [← hV] at HO7 ⊢
                  clear hV k0 k1 k2 k3 kf
                  obtain ⟨k0, k1, k2, k3, kf⟩ := HO7.box.cells
                  obtain ⟨q0, q1, q2, q3, qf⟩ := HO7.res.cells
                  have HD := diskIs_own (r := d4) (q := R) HO7 (k := 0) (by rw [HW4.out, ho4.out])
                  clear HO7
                  simp only at k0 k1 k2 k3 HD
                  go_wp2
                  (try simp only [Exit.inBlock, Exit.then])
                  refine bodyPost_ret ?_ rfl HD
                  rw [results_cell_tmp rfl]
                  go_simp
                · have HW4 : Hid (R = (d4, 0)) := by
                    show _ = _; rw [HW3.out, ← ho4.out]
                    simp [spendF, offAfter, spendE, hz, hp, ho4.out]
                    obtain ⟨a, b, c, o⟩ := d4
                    have := ho4.out
                    have hzc : (c == 0) = false := hz'
                    simp at this ⊢
                    exact hzc.trans this.symm
                  have hp' : decide (0 < d4.fuse) = false := by simpa using hp
                  clear hz HW3
                  obtain ⟨q0, q1, q2, q3, qf⟩ := HO6.out.res.cells
                  have HD := diskIs_own (r := d4) HO6.out HW4.out
                  rw [ho4.out] at HD
                  go_wp2
                  (try simp only [Exit.inBlock, Exit.then])
                  refine bodyPost_ret ?_ rfl HD
                  rw [results_cell_tmp rfl]
                  go_simp
  · have hok' : okB d = false := by simpa using hok
    have HR2 : Hid (outD d (writeD d at' data) = (zeroD, 2)) := by show _ = _; rw [outD, if_neg hok]
    obtain ⟨X, hX⟩ : ∃ X, X = (w.alloc (.cells #[.slice so d.secs.length sc, .slice co d.cache.length cc, .int .i64 d.fuse, .bool d.off] 25)).alloc (.cells #[.slice none 0 0, .slice none 0 0, .int .i64 0, .bool false] 25) := ⟨_, rfl⟩
    have hB0 : Below w.heap.size w X := by rw [hX]; exact ((Below.refl _ w).alloc (Nat.le_refl _) _).alloc (by simp) _
    have vr : RBox X (w.heap.size + 1) := by
      have := heap_alloc_new (w.alloc (.cells #[.slice so d.secs.length sc, .slice co d.cache.length cc, .int .i64 d.fuse, .bool d.off] 25)) (.cells #[.slice none 0 0, .slice none 0 0, .int .i64 0, .bool false] 25)
      rw [World.size_alloc, ← hX] at this
      exact this
    rw [checkE_bad hok'] at cchk
    clear hok hok' hs hc h hf
    generalize outD d (writeD d at' data) = R at *
    unfold strV
    generalize (⟨data.toArray⟩ : ByteArray) = D at *
    go_enter Try.func33, Try.ntmps33
    go_wp2_with fail
    rw [← hX]
    go_at_call 35; refine (cchk X hB0).mono ?_; rintro e w1 ⟨rfl, hb⟩
    obtain ⟨q0, q1, q2, q3, qf⟩ := (vr.below hb).cells
    have hbw := below2 hB0 hb
    clear hX
    go_wp2
    (try simp only [Exit.inBlock, Exit.then])
    refine bodyPost_ret (v := .tuple #[.agg #[.slice none 0 0, .slice none 0 0, .int .i64 0, .bool false], .int .i64 2]) ?_ rfl (by rw [HR2.out]; exact ⟨_, rfl, zeroD_has _, set4_below hbw (by omega) _ _ _ _⟩)
    rw [results_cell_tmp rfl]
    go_simp
end Go.Proofs.Ytbikcpchlgmoaaa.Disk
