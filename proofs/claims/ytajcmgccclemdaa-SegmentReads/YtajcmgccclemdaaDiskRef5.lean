/- What the document's Flush of disks returns. -/
import Derived.Test.YtajcmgccclemdaaDiskRef4
set_option linter.unusedVariables false
namespace Go.Proofs.Ytajcmgccclemdaa.Disk
open Go.RowKit Go.Shelf

/-- the disk in its variable while its cache is settled -/
structure Own3 (w Y : World) (d : Dk) (g1 : Nat) (co : Option Addr) (n m sc cc : Nat) (f : Int) (S : List (List UInt8)) : Prop where
  box : VBox Y w.heap.size (.slice (some ⟨g1, 0, none⟩) n sc) (.slice co m cc) (.int .i64 f) (.bool false)
  res : RBox Y (w.heap.size + 1)
  secs : Y.ownsRow (w.heap.size + 2) 9 1 (.slice (some ⟨g1, 0, none⟩) n sc) n (S.map strV)
  puts : Y.ownsRow (w.heap.size + 2) 88 2 (.slice co m cc) m (putCs d.cache)
  below : Below w.heap.size w Y
theorem Own3.alloc {w Y : World} {d : Dk} {g1 : Nat} {co : Option Addr} {n m sc cc : Nat} {f : Int} {S : List (List UInt8)} (h : Own3 w Y d g1 co n m sc cc f S) (o : Obj) : Own3 w (Y.alloc o) d g1 co n m sc cc f S :=
  have hb : Below Y.heap.size Y (Y.alloc o) := (Below.refl _ _).alloc (Nat.le_refl _) _
  ⟨h.box.below hb, h.res.below hb, h.secs.alloc o, h.puts.alloc o, below2 h.below hb⟩
theorem Own3.drew {w Y : World} {d : Dk} {g1 : Nat} {co : Option Addr} {n m sc cc : Nat} {f : Int} {S : List (List UInt8)} (h : Own3 w Y d g1 co n m sc cc f S) : Own3 w Y.drew d g1 co n m sc cc f S :=
  have hb : Below Y.heap.size Y Y.drew := (Below.refl _ _).drew
  ⟨h.box.below hb, h.res.below hb, h.secs.drew, h.puts.drew, below2 h.below hb⟩
theorem Own3.put {w Y : World} {d : Dk} {g1 : Nat} {co : Option Addr} {n m sc cc : Nat} {f : Int} {S : List (List UInt8)} (h : Own3 w Y d g1 co n m sc cc f S) (k : Nat) (z : List UInt8) : Own3 w (Y.setCell ⟨g1, k, none⟩ (strV z)) d g1 co n m sc cc f (S.set k z) := by
  have hg := (h.secs.lt g1 rfl).1
  refine ⟨h.box.kept (grown_set _ _ _ _) (by simp; omega), h.res.kept (grown_set _ _ _ _) (by simp; omega), ?_, h.puts.kept (grown_set _ _ _ _) ?_, h.below.setCell (p := ⟨g1, k, none⟩) (by simp; omega) _⟩
  · have := (h.secs.stored k (strV z)).1
    rw [List.map_set]; exact this
  · have := own_apart h.puts h.secs (by decide)
    simpa [Value.ownBlock] using this
theorem Own3.done {w Y : World} {d : Dk} {g1 : Nat} {co : Option Addr} {n m sc cc : Nat} {f : Int} {S : List (List UInt8)} (h : Own3 w Y d g1 co n m sc cc f S) (hn : S.length = n) : Own2 w (Y.setCell ⟨w.heap.size, 1, none⟩ (.slice none 0 0)) ⟨S, [], f, false⟩ (some ⟨g1, 0, none⟩) none sc 0 := by
  subst hn
  have hg := (h.secs.lt g1 rfl).1
  exact ⟨heap_setCell_same Y w.heap.size 1 _ _ _ h.box, h.res.kept (grown_set _ _ _ _) (by simp), h.secs.kept (grown_set _ _ _ _) (.inr (by simp [Value.ownBlock]; omega)), ⟨by simp [putCs], .inl ⟨rfl, rfl⟩⟩, h.below.setCell (p := ⟨w.heap.size, 1, none⟩) (Nat.le_refl _) _⟩
set_option maxHeartbeats 2000000 in
theorem rflush_any (d : Dk) (v : Value) (w : World) (h : HasDk w v d) (hf : Fits d) :
    Calls Try.prog 57 #[v] w (DiskIs (outD d (flushD d)) w) := by
  have cchk := fun W (hb : Below w.heap.size w W) => rcheck_any d v W (h.keep hb) hf
  obtain ⟨so, sc, co, cc, rfl, hs, hc⟩ := h.parts
  obtain ⟨_, _, _, hs1, hs2⟩ := HasRow.slice hs
  obtain ⟨_, _, _, hc1, hc2⟩ := HasRow.slice hc
  by_cases hok : okB d = true
  · have HK : Hid (Ok d) := ok_of hok
    obtain ⟨X, hX, hB0, cin⟩ := copied_in d so co sc cc w hs hc HK.out
    have HR : Hid (outD d (flushD d) = flushD d) := by show _ = _; rw [outD, if_pos hok]
    rw [checkE_ok hok] at cchk
    have hz4 : -9223372036854775808 ≤ d.fuse ∧ d.fuse ≤ 9223372036854775807 := by exact hf.1
    clear hok hs hc h hf
    go_enter Try.func57, Try.ntmps57
    go_wp2_with fail
    rw [← hX]
    go_at_call 49; refine (cchk X hB0).mono ?_; rintro e w1 ⟨rfl, hb⟩
    obtain ⟨vb, rb, hbw, ccp⟩ := cin w1 hb
    obtain ⟨k0, k1, k2, k3, kf⟩ := vb.cells
    clear hX cin cchk
    go_wp2_with fail
    go_at_call 17; refine ccp.mono ?_; rintro e w2 ⟨so2, sc2, co2, cc2, rfl, v2, own⟩
    clear k0 k1 k2 k3 kf ccp vb rb
    obtain ⟨k0, k1, k2, k3, kf⟩ := v2.cells
    go_upto_region 4 with fail
    obtain ⟨Y, hY⟩ : ∃ Y, Y = ((((w2.setCell ⟨w.heap.size, 0, none⟩ (.slice so2 d.secs.length sc2)).setCell ⟨w.heap.size, 1, none⟩ (.slice co2 d.cache.length cc2)).setCell ⟨w.heap.size, 2, none⟩ (.int .i64 d.fuse)).setCell ⟨w.heap.size, 3, none⟩ (.bool d.off)) := ⟨_, rfl⟩
    rw [← hY] at own ⊢
    clear hY k0 k1 k2 k3 kf v2 hb hB0 hbw
    obtain ⟨k0, k1, k2, k3, kf⟩ := own.box.cells
    obtain ⟨q0, q1, q2, q3, qf⟩ := own.res.cells
    have HO : Hid (Own2 w Y d so2 co2 sc2 cc2) := own
    clear own
    by_cases ho : d.off = true
    · have hq : Hid (outD d (flushD d) = (d, 9)) := by
        show _ = _; rw [HR.out, flushD, if_pos (by simp [offAfter, ho])]
        obtain ⟨a, b, c, o⟩ := d
        simp at ho
        subst ho
        simp [spendF]
      have HD := diskIs_own (r := d) HO.out hq.out
      rw [ho] at k3 HD
      go_wp2
      (try simp only [Exit.inBlock, Exit.then])
      refine bodyPost_ret ?_ rfl HD
      rw [results_cell_tmp rfl]
      go_simp
    · have ho' : d.off = false := by simpa using ho
      have HOF : Hid (d.off = false) := ho'
      rw [ho'] at k3
      clear ho ho'
      by_cases hz : d.fuse = 0
      · have HW4 : Hid (outD d (flushD d) = (⟨d.secs, d.cache, d.fuse, true⟩, 9)) := by show _ = _; rw [HR.out, flushD, HOF.out, hz]; rfl
        have hz' : (d.fuse == 0) = true := by simpa using hz
        clear hz HR
        go_upto_region 8 with fail
        obtain ⟨V, hV⟩ : ∃ V, V = Y.setCell ⟨w.heap.size, 3, none⟩ (.bool true) := ⟨_, rfl⟩
        have HO7 := HO.out.set3 true
        rw [← hV] at HO7 ⊢
        clear hV k0 k1 k2 k3 kf q0 q1 q2 q3 qf
        obtain ⟨k0, k1, k2, k3, kf⟩ := HO7.box.cells
        obtain ⟨q0, q1, q2, q3, qf⟩ := HO7.res.cells
        have HD := diskIs_own (r := d) HO7 HW4.out
        clear HO7
        simp only at k0 k1 k2 k3 HD
        go_wp2
        (try simp only [Exit.inBlock, Exit.then])
        refine bodyPost_ret ?_ rfl HD
        rw [results_cell_tmp rfl]
        go_simp
      · have hz' : (d.fuse == 0) = false := by simpa using hz
        have HW4 : Hid (outD d (flushD d) = (⟨settleF wholeF 0 d.secs d.cache, [], spendF d.fuse false, false⟩, 0)) := by show _ = _; rw [HR.out, flushD, HOF.out, if_neg (by simp [offAfter, hz])]
        obtain ⟨g1, rfl⟩ : ∃ g1, so2 = some ⟨g1, 0, none⟩ := by
          have h1 := HK.out.one
          rcases HO.out.secs.2 with ⟨e, e'⟩ | ⟨g, cap, cur, e, _⟩
          · omega
          · injection e with e; exact ⟨g, e⟩
        have HN0 : Hid (d.secs.length ≤ 1024 ∧ d.cache.length ≤ 4096) := ⟨HK.out.many, HK.out.few⟩
        clear HR

        by_cases hp : 0 < d.fuse
        · have hp' : decide (0 < d.fuse) = true := by simpa using hp
          have HSP : Hid (spendF d.fuse false = d.fuse - 1) := by show _ = _; simp [spendF, hp]
          go_upto_region 11 with fail
          obtain ⟨V, hV⟩ : ∃ V, V = Y.setCell ⟨w.heap.size, 2, none⟩ (.int .i64 (d.fuse - 1)) := ⟨_, rfl⟩
          have HO7 := HO.out.set2 (d.fuse - 1)
          rw [← hV] at HO7 ⊢
          rw [HOF.out] at HO7
          have HF : Hid (spendF d.fuse false = d.fuse - 1) := HSP
          obtain ⟨F, hF⟩ : ∃ F, F = d.fuse - 1 := ⟨_, rfl⟩
          rw [← hF] at HO7 HF
          clear hV hF HO hp hp' HSP hz hz'
          obtain ⟨n, hn⟩ : ∃ n, n = d.secs.length := ⟨_, rfl⟩
          obtain ⟨m, hm⟩ : ∃ m, m = d.cache.length := ⟨_, rfl⟩
          have HN : Hid (n = d.secs.length) := hn
          have HM : Hid (m = d.cache.length) := hm
          have hn2 : n ≤ 1024 := by rw [hn]; exact HK.out.many
          have hm2 : m ≤ 4096 := by rw [hm]; exact HK.out.few
          have HO8 : Own3 w V d g1 co2 n m sc2 cc2 F (settleF wholeF 0 d.secs (d.cache.take 0)) := by rw [hn, hm]; exact ⟨HO7.box, HO7.res, HO7.secs, HO7.puts, HO7.below⟩
          clear hn hm
          clear k0 k1 k2 k3 kf q0 q1 q2 q3 qf HO7
          obtain ⟨k0, k1, k2, k3, kf⟩ := HO8.box.cells
          have HO9 : Hid (Own3 w V d g1 co2 n m sc2 cc2 F (settleF wholeF 0 d.secs (d.cache.take 0))) := HO8
          clear HO8
          go_wp2_with fail
          go_loopw [30] (fun i wr => ∃ k : Nat, k ≤ m ∧ i = .int .i64 k ∧ Own3 w wr d g1 co2 n m sc2 cc2 F (settleF wholeF 0 d.secs (d.cache.take k))) (fun i _ => m - (intOf i).toNat)
          case atStart => exact ⟨0, by omega, rfl, HO9.out⟩
          case round =>
            obtain ⟨k, hk, rfl, hO⟩ := hrel
            clear HO9 k0 k1 k2 k3 kf
            by_cases hlt : k < m
            · have hkz : k < d.cache.length := by rw [← HM.out]; exact hlt
              have hpc : HasPuts wr (.slice co2 m cc2) d.cache := by unfold HasPuts; rw [← HM.out]; exact hasRow_own hO.puts
              obtain ⟨g2, i2, rfl, _, d1, d2⟩ := HasPuts.cell hpc k hkz
              clear hpc
              have HT : Hid (settleF wholeF 0 d.secs (d.cache.take (k + 1)) = (settleF wholeF 0 d.secs (d.cache.take k)).set d.cache[k].1.toNat (cutIn 128 d.cache[k].2 ((settleF wholeF 0 d.secs (d.cache.take k)).getD d.cache[k].1.toNat []))) := by
                show _ = _
                rw [List.take_succ_eq_append_getElem hkz, settleF_snoc]
                rfl
              have hin := HK.out.puts d.cache[k] (List.getElem_mem hkz)
              generalize d.cache[k] = p at d1 d2 HT hin
              obtain ⟨pa, pd⟩ := p
              obtain ⟨hin, hpd⟩ := hin
              simp only [inB, decide_eq_true_eq] at hin
              obtain ⟨at', rfl⟩ := Int.eq_ofNat_of_zero_le hin.1
              have hat : at' < n := by have := HN.out; omega
              simp only at d1 d2 HT hpd
              rw [Int.toNat_natCast] at HT
              have hlen : (settleF wholeF 0 d.secs (d.cache.take k)).length = n := by rw [settleF_len]; exact HN.out.symm
              have hz := settleF_all wholeF (fun _ => Nat.le_refl _) (d.cache.take k) 0 d.secs HK.out.whole (fun p hpm => HK.out.puts p (List.mem_of_mem_take hpm)) _ (getD_mem (zs := settleF wholeF 0 d.secs (d.cache.take k)) (k := at') (by rw [hlen]; exact hat))
              rw [cutIn_full hpd hz] at HT
              obtain ⟨S, hS⟩ : ∃ S, S = settleF wholeF 0 d.secs (d.cache.take k) := ⟨_, rfl⟩
              rw [← hS] at hO HT hlen
              have hsl : S.map strV = S.map strV := rfl
              clear hS hz hin
              have hcz : wr.cell? ⟨g1, at', none⟩ = some (strV (S.getD at' [])) := by
                rw [hO.secs.cellAt at' (by omega), List.getElem?_map, List.getD_eq_getElem?_getD, List.getElem?_eq_getElem (by omega)]; rfl
              have hP := (hO.alloc (.cells #[.int .i64 (at' : Int), strV pd] 88))
              have HPUT : Hid (Own3 w ((wr.alloc (.cells #[.int .i64 (at' : Int), strV pd] 88)).setCell ⟨g1, at', none⟩ (strV pd)) d g1 (some ⟨g2, i2, none⟩) n m sc2 cc2 F (settleF wholeF 0 d.secs (d.cache.take (k + 1)))) := by
                rw [HT.out]; exact hP.put at' pd
              have x1 : (wr.alloc (.cells #[.int .i64 (at' : Int), strV pd] 88)).cell? ⟨wr.heap.size, 0, none⟩ = some (.int .i64 (at' : Int)) := by
                simp only [World.cell?, heap_alloc_new]; exact if_neg (by simp)
              have x2 : (wr.alloc (.cells #[.int .i64 (at' : Int), strV pd] 88)).cell? ⟨wr.heap.size, 1, none⟩ = some (strV pd) := by
                simp only [World.cell?, heap_alloc_new]; exact if_neg (by simp)
              have x3 : (wr.alloc (.cells #[.int .i64 (at' : Int), strV pd] 88)).cell? ⟨g1, at', none⟩ = some (strV (S.getD at' [])) := by
                rw [← hcz]; exact ((Below.refl _ wr).alloc (Nat.le_refl _) _).cell (p := ⟨g1, at', none⟩) (hO.secs.lt g1 rfl).2
              have x4 := hP.secs.frozenAt at'
              obtain ⟨y0, _⟩ := hP.box.cells
              clear hP hO HT hlen hpd hcz hsl
              unfold strV at d2 x1 x2 x3 x4 y0 HPUT
              generalize (⟨pd.toArray⟩ : ByteArray) = PD at *
              generalize (⟨(S.getD at' []).toArray⟩ : ByteArray) = Z at *
              have hati : (at' : Int) < (n : Int) := by omega
              go_wp2_with fail
              go_roundw
              case rel => first | exact ⟨k + 1, by omega, by go_num, HPUT.out⟩ | exact ⟨k + 1, by omega, by go_num, HPUT.out.drew⟩
              case measure => simp [intOf]; omega
            · obtain rfl : k = m := by omega
              rw [HM.out, List.take_length] at hO
              have hlen : (settleF wholeF 0 d.secs d.cache).length = n := by rw [settleF_len]; exact HN.out.symm
              have HW5 : Hid (outD d (flushD d) = (⟨settleF wholeF 0 d.secs d.cache, [], F, false⟩, 0)) := by show _ = _; rw [HW4.out, HF.out]
              clear HW4
              generalize settleF wholeF 0 d.secs d.cache = S at hO hlen HW5
              rw [← HM.out] at hO
              have HO10 := hO.done hlen
              have HSL : Hid (S.length = n) := hlen
              obtain ⟨k0, k1, k2, k3, kf⟩ := hO.box.cells
              clear hO hlen
              go_upto_region 17 with fail
              obtain ⟨V2, hV2⟩ : ∃ V2, V2 = wr.setCell ⟨w.heap.size, 1, none⟩ (.slice none 0 0) := ⟨_, rfl⟩
              rw [← hV2] at HO10 ⊢
              clear hV2 k0 k1 k2 k3 kf
              have HD := diskIs_own (r := d) HO10 HW5.out
              obtain ⟨k0, k1, k2, k3, kf⟩ := HO10.box.cells
              obtain ⟨q0, q1, q2, q3, qf⟩ := HO10.res.cells
              clear HO10
              simp only [HSL.out, List.length_nil] at k0 k1 k2 k3 HD
              go_wp2
              (try simp only [Exit.inBlock, Exit.then])
              refine bodyPost_ret ?_ rfl HD
              rw [results_cell_tmp rfl]
              go_simp
        · have hp' : decide (0 < d.fuse) = false := by simpa using hp
          go_upto_region 11 with fail
          have HO7 := HO.out
          obtain ⟨V, hV⟩ : ∃ V, V = Y := ⟨_, rfl⟩
          rw [← hV] at HO7 k0 k1 k2 k3 kf q0 q1 q2 q3 qf ⊢
          have HF : Hid (spendF d.fuse false = d.fuse) := by show _ = _; simp [spendF, hp]
          obtain ⟨F, hF⟩ : ∃ F, F = d.fuse := ⟨_, rfl⟩
          have HF2 : Hid (spendF d.fuse false = F) := by show _ = _; rw [hF]; exact HF.out
          clear HF
          have HF := HF2
          have HO7 : Own2 w V ⟨d.secs, d.cache, F, false⟩ (some ⟨g1, 0, none⟩) co2 sc2 cc2 := by
            rw [hF, ← HOF.out]; exact HO7
          clear HF2 hV hF HO hp hp' hz hz'
          obtain ⟨n, hn⟩ : ∃ n, n = d.secs.length := ⟨_, rfl⟩
          obtain ⟨m, hm⟩ : ∃ m, m = d.cache.length := ⟨_, rfl⟩
          have HN : Hid (n = d.secs.length) := hn
          have HM : Hid (m = d.cache.length) := hm
          have hn2 : n ≤ 1024 := by rw [hn]; exact HK.out.many
          have hm2 : m ≤ 4096 := by rw [hm]; exact HK.out.few
          have HO8 : Own3 w V d g1 co2 n m sc2 cc2 F (settleF wholeF 0 d.secs (d.cache.take 0)) := by rw [hn, hm]; exact ⟨HO7.box, HO7.res, HO7.secs, HO7.puts, HO7.below⟩
          clear hn hm
          clear k0 k1 k2 k3 kf q0 q1 q2 q3 qf HO7
          obtain ⟨k0, k1, k2, k3, kf⟩ := HO8.box.cells
          have HO9 : Hid (Own3 w V d g1 co2 n m sc2 cc2 F (settleF wholeF 0 d.secs (d.cache.take 0))) := HO8
          clear HO8
          go_wp2_with fail
          go_loopw [30] (fun i wr => ∃ k : Nat, k ≤ m ∧ i = .int .i64 k ∧ Own3 w wr d g1 co2 n m sc2 cc2 F (settleF wholeF 0 d.secs (d.cache.take k))) (fun i _ => m - (intOf i).toNat)
          case atStart => exact ⟨0, by omega, rfl, HO9.out⟩
          case round =>
            obtain ⟨k, hk, rfl, hO⟩ := hrel
            clear HO9 k0 k1 k2 k3 kf
            by_cases hlt : k < m
            · have hkz : k < d.cache.length := by rw [← HM.out]; exact hlt
              have hpc : HasPuts wr (.slice co2 m cc2) d.cache := by unfold HasPuts; rw [← HM.out]; exact hasRow_own hO.puts
              obtain ⟨g2, i2, rfl, _, d1, d2⟩ := HasPuts.cell hpc k hkz
              clear hpc
              have HT : Hid (settleF wholeF 0 d.secs (d.cache.take (k + 1)) = (settleF wholeF 0 d.secs (d.cache.take k)).set d.cache[k].1.toNat (cutIn 128 d.cache[k].2 ((settleF wholeF 0 d.secs (d.cache.take k)).getD d.cache[k].1.toNat []))) := by
                show _ = _
                rw [List.take_succ_eq_append_getElem hkz, settleF_snoc]
                rfl
              have hin := HK.out.puts d.cache[k] (List.getElem_mem hkz)
              generalize d.cache[k] = p at d1 d2 HT hin
              obtain ⟨pa, pd⟩ := p
              obtain ⟨hin, hpd⟩ := hin
              simp only [inB, decide_eq_true_eq] at hin
              obtain ⟨at', rfl⟩ := Int.eq_ofNat_of_zero_le hin.1
              have hat : at' < n := by have := HN.out; omega
              simp only at d1 d2 HT hpd
              rw [Int.toNat_natCast] at HT
              have hlen : (settleF wholeF 0 d.secs (d.cache.take k)).length = n := by rw [settleF_len]; exact HN.out.symm
              have hz := settleF_all wholeF (fun _ => Nat.le_refl _) (d.cache.take k) 0 d.secs HK.out.whole (fun p hpm => HK.out.puts p (List.mem_of_mem_take hpm)) _ (getD_mem (zs := settleF wholeF 0 d.secs (d.cache.take k)) (k := at') (by rw [hlen]; exact hat))
              rw [cutIn_full hpd hz] at HT
              obtain ⟨S, hS⟩ : ∃ S, S = settleF wholeF 0 d.secs (d.cache.take k) := ⟨_, rfl⟩
              rw [← hS] at hO HT hlen
              have hsl : S.map strV = S.map strV := rfl
              clear hS hz hin
              have hcz : wr.cell? ⟨g1, at', none⟩ = some (strV (S.getD at' [])) := by
                rw [hO.secs.cellAt at' (by omega), List.getElem?_map, List.getD_eq_getElem?_getD, List.getElem?_eq_getElem (by omega)]; rfl
              have hP := (hO.alloc (.cells #[.int .i64 (at' : Int), strV pd] 88))
              have HPUT : Hid (Own3 w ((wr.alloc (.cells #[.int .i64 (at' : Int), strV pd] 88)).setCell ⟨g1, at', none⟩ (strV pd)) d g1 (some ⟨g2, i2, none⟩) n m sc2 cc2 F (settleF wholeF 0 d.secs (d.cache.take (k + 1)))) := by
                rw [HT.out]; exact hP.put at' pd
              have x1 : (wr.alloc (.cells #[.int .i64 (at' : Int), strV pd] 88)).cell? ⟨wr.heap.size, 0, none⟩ = some (.int .i64 (at' : Int)) := by
                simp only [World.cell?, heap_alloc_new]; exact if_neg (by simp)
              have x2 : (wr.alloc (.cells #[.int .i64 (at' : Int), strV pd] 88)).cell? ⟨wr.heap.size, 1, none⟩ = some (strV pd) := by
                simp only [World.cell?, heap_alloc_new]; exact if_neg (by simp)
              have x3 : (wr.alloc (.cells #[.int .i64 (at' : Int), strV pd] 88)).cell? ⟨g1, at', none⟩ = some (strV (S.getD at' [])) := by
                rw [← hcz]; exact ((Below.refl _ wr).alloc (Nat.le_refl _) _).cell (p := ⟨g1, at', none⟩) (hO.secs.lt g1 rfl).2
              have x4 := hP.secs.frozenAt at'
              obtain ⟨y0, _⟩ := hP.box.cells
              clear hP hO HT hlen hpd hcz hsl
              unfold strV at d2 x1 x2 x3 x4 y0 HPUT
              generalize (⟨pd.toArray⟩ : ByteArray) = PD at *
              generalize (⟨(S.getD at' []).toArray⟩ : ByteArray) = Z at *
              have hati : (at' : Int) < (n : Int) := by omega
              go_wp2_with fail
              go_roundw
              case rel => first | exact ⟨k + 1, by omega, by go_num, HPUT.out⟩ | exact ⟨k + 1, by omega, by go_num, HPUT.out.drew⟩
              case measure => simp [intOf]; omega
            · obtain rfl : k = m := by omega
              rw [HM.out, List.take_length] at hO
              have hlen : (settleF wholeF 0 d.secs d.cache).length = n := by rw [settleF_len]; exact HN.out.symm
              have HW5 : Hid (outD d (flushD d) = (⟨settleF wholeF 0 d.secs d.cache, [], F, false⟩, 0)) := by show _ = _; rw [HW4.out, HF.out]
              clear HW4
              generalize settleF wholeF 0 d.secs d.cache = S at hO hlen HW5
              rw [← HM.out] at hO
              have HO10 := hO.done hlen
              have HSL : Hid (S.length = n) := hlen
              obtain ⟨k0, k1, k2, k3, kf⟩ := hO.box.cells
              clear hO hlen
              go_upto_region 17 with fail
              obtain ⟨V2, hV2⟩ : ∃ V2, V2 = wr.setCell ⟨w.heap.size, 1, none⟩ (.slice none 0 0) := ⟨_, rfl⟩
              rw [← hV2] at HO10 ⊢
              clear hV2 k0 k1 k2 k3 kf
              have HD := diskIs_own (r := d) HO10 HW5.out
              obtain ⟨k0, k1, k2, k3, kf⟩ := HO10.box.cells
              obtain ⟨q0, q1, q2, q3, qf⟩ := HO10.res.cells
              clear HO10
              simp only [HSL.out, List.length_nil] at k0 k1 k2 k3 HD
              go_wp2
              (try simp only [Exit.inBlock, Exit.then])
              refine bodyPost_ret ?_ rfl HD
              rw [results_cell_tmp rfl]
              go_simp
  · have hok' : okB d = false := by simpa using hok
    have HR2 : Hid (outD d (flushD d) = (zeroD, 2)) := by show _ = _; rw [outD, if_neg hok]
    obtain ⟨X, hX⟩ : ∃ X, X = (w.alloc (.cells #[.slice so d.secs.length sc, .slice co d.cache.length cc, .int .i64 d.fuse, .bool d.off] 38)).alloc (.cells #[.slice none 0 0, .slice none 0 0, .int .i64 0, .bool false] 38) := ⟨_, rfl⟩
    have hB0 : Below w.heap.size w X := by rw [hX]; exact ((Below.refl _ w).alloc (Nat.le_refl _) _).alloc (by simp) _
    have vr : RBox X (w.heap.size + 1) := by
      have := heap_alloc_new (w.alloc (.cells #[.slice so d.secs.length sc, .slice co d.cache.length cc, .int .i64 d.fuse, .bool d.off] 38)) (.cells #[.slice none 0 0, .slice none 0 0, .int .i64 0, .bool false] 38)
      rw [World.size_alloc, ← hX] at this
      exact this
    rw [checkE_bad hok'] at cchk
    clear hok hok' hs hc h hf
    generalize outD d (flushD d) = R at *
    go_enter Try.func57, Try.ntmps57
    go_wp2_with fail
    rw [← hX]
    go_at_call 49; refine (cchk X hB0).mono ?_; rintro e w1 ⟨rfl, hb⟩
    obtain ⟨q0, q1, q2, q3, qf⟩ := (vr.below hb).cells
    have hbw := below2 hB0 hb
    clear hX
    go_wp2
    (try simp only [Exit.inBlock, Exit.then])
    refine bodyPost_ret (v := .tuple #[.agg #[.slice none 0 0, .slice none 0 0, .int .i64 0, .bool false], .int .i64 2]) ?_ rfl (by rw [HR2.out]; exact ⟨_, rfl, zeroD_has _, set4_below hbw (by omega) _ _ _ _⟩)
    rw [results_cell_tmp rfl]
    go_simp
end Go.Proofs.Ytajcmgccclemdaa.Disk
