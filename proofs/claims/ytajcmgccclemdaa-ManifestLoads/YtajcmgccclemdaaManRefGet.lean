/- What the document's Get of manifests returns. -/
import Derived.Test.YtajcmgccclemdaaManRefPut
set_option linter.unusedVariables false
namespace Go.Proofs.Ytajcmgccclemdaa.Man
open Go.RowKit Go.Shelf
open Go.Proofs.Ytajcmgccclemdaa.Page
open Go.Proofs.Ytajcmgccclemdaa.Disk (HasRow)
attribute [-go_sem] Builtin.append_

/-- the two boxes of the document's Get -/
structure GetAt (w W : World) (M E : Nat) (V : Value) : Prop where
  res : MBox W w.heap.size 0 (.slice none 0 0)
  man : MBox W M E V
  below : Below w.heap.size w W
theorem GetAt.keep {w W W' : World} {M E : Nat} {V : Value} (h : GetAt w W M E V) (hb : Below W.heap.size W W') : GetAt w W' M E V := ⟨RowAt.below h.res hb, RowAt.below h.man hb, below2 h.below hb⟩
theorem getAt_new (w : World) (E : Nat) : GetAt w ((w.alloc (.cells #[.int .u64 0, .slice none 0 0] 25)).alloc (.cells #[.int .u64 (E : Int), .slice none 0 0] 25)) (w.heap.size + 1) E (.slice none 0 0) := by
  refine ⟨RowAt.alloc (RowAt.new w [_, _] _) _, ?_, ((Below.refl _ w).alloc (Nat.le_refl _) _).alloc (by simp) _⟩
  have := RowAt.new (w.alloc (.cells #[.int .u64 0, .slice none 0 0] 25)) [.int .u64 (E : Int), .slice none 0 0] 25
  rw [World.size_alloc] at this
  exact this
theorem rmget_long (S : ByteArray) (R : ManT × Int) (w : World) (h : S.size ≠ 128) (hs : S.size ≤ 9223372036854775807) (HR : Hid (R = ((0, []), 11))) :
    Calls Try.prog 12 #[.string S] w (ManIs R w) := by
  obtain ⟨X, hX⟩ : ∃ X, X = w.alloc (.cells #[.int .u64 0, .slice none 0 0] 25) := ⟨_, rfl⟩
  have hB0 : Below w.heap.size w X := by rw [hX]; exact (Below.refl _ w).alloc (Nat.le_refl _) _
  have rb : MBox X w.heap.size 0 (.slice none 0 0) := by rw [hX]; exact RowAt.new w [_, _] _
  have hne : ((S.size : Int) != 128) = true := by rw [bne_iff_ne]; omega
  have hne2 : ¬ ((S.size : Int) = 128) := by omega
  have f0 := RowAt.frozen rb 0
  have f1 := RowAt.frozen rb 1
  obtain ⟨r0, r1⟩ := rb.cells
  clear h
  go_enter Try.func12, Try.ntmps12
  go_upto_region 1 with fail
  rw [← hX]
  clear hX
  go_wp2
  (try simp only [Exit.inBlock, Exit.then])
  refine bodyPost_ret ?_ rfl (manIs_zero HR.out (set2_below hB0 (Nat.le_refl _) _ _))
  rw [results_cell_tmp rfl]
  go_simp
set_option maxHeartbeats 2000000 in
set_option maxRecDepth 20000 in
theorem rmget_none (S A B : ByteArray) (E : Nat) (R : ManT × Int) (w : World) (h : S.size = 128) (hE : E < 18446744073709551616) (x1 : S.extract 0 8 = A) (x2 : S.extract 120 128 = B) (HR : Hid (R = ((0, []), 3)))
    (cn : ∀ W, Calls Try.prog 45 #[.string A] W fun e w' => e = .returned (.int .u64 (E : Int)) ∧ w' = W)
    (hc : A ≠ B ∨ A = B ∧ E = 0) :
    Calls Try.prog 12 #[.string S] w (ManIs R w) := by
  obtain ⟨X, hX⟩ : ∃ X, X = (w.alloc (.cells #[.int .u64 0, .slice none 0 0] 25)).alloc (.cells #[.int .u64 (E : Int), .slice none 0 0] 25) := ⟨_, rfl⟩
  have ga : GetAt w X (w.heap.size + 1) E (.slice none 0 0) := by rw [hX]; exact getAt_new w E
  have hEi : (E : Int) ≤ 18446744073709551615 := by omega
  clear hE
  rcases hc with hc | ⟨hc, hz⟩
  · have hne : (A.toList == B.toList) = false := ne_of hc
    clear hc
    go_enter Try.func12, Try.ntmps12
    go_wp2_with fail
    go_at_call 45; refine (cn _).mono ?_; rintro e w1 ⟨rfl, rfl⟩
    go_upto_region 4 with fail
    rw [← hX]
    clear hX cn
    obtain ⟨m0, m1⟩ := ga.man.cells
    go_quiet (fail)
    have hBY : Below w.heap.size w (X.drewN nq) := below_drewN ga.below _
    have rY : MBox (X.drewN nq) w.heap.size 0 (.slice none 0 0) := ga.res
    clear m0 m1 ga
    generalize X.drewN nq = Y at hBY rY ⊢
    obtain ⟨r0, r1⟩ := rY.cells
    have f0 := RowAt.frozen rY 0
    have f1 := RowAt.frozen rY 1
    clear rY
    go_wp2
    (try simp only [Exit.inBlock, Exit.then])
    refine bodyPost_ret ?_ rfl (manIs_zero HR.out (set2_below hBY (Nat.le_refl _) _ _))
    rw [results_cell_tmp rfl]
    go_simp
  · subst hc
    have hne : (A.toList == A.toList) = true := by simp
    have cn2 : ∀ W, Calls Try.prog 45 #[.string A] W fun e w' => e = .returned (.int .u64 0) ∧ w' = W := by rw [hz] at cn; exact cn
    have hX2 : X = (w.alloc (.cells #[.int .u64 0, .slice none 0 0] 25)).alloc (.cells #[.int .u64 0, .slice none 0 0] 25) := by rw [hz] at hX; exact hX
    rw [hz] at ga
    clear hz hEi cn hX
    go_enter Try.func12, Try.ntmps12
    go_wp2_with fail
    go_at_call 45; refine (cn2 _).mono ?_; rintro e w1 ⟨rfl, rfl⟩
    go_upto_region 4 with fail
    rw [← hX2]
    clear hX2 cn2
    have m0 : X.cell? ⟨w.heap.size + 1, 0, none⟩ = some (.int .u64 0) := ga.man.cells.1
    have m1 := ga.man.cells.2
    go_quiet (fail)
    have hBY : Below w.heap.size w (X.drewN nq) := below_drewN ga.below _
    have rY : MBox (X.drewN nq) w.heap.size 0 (.slice none 0 0) := ga.res
    clear m0 m1 ga
    generalize X.drewN nq = Y at hBY rY ⊢
    obtain ⟨r0, r1⟩ := rY.cells
    have f0 := RowAt.frozen rY 0
    have f1 := RowAt.frozen rY 1
    clear rY
    go_wp2
    (try simp only [Exit.inBlock, Exit.then])
    refine bodyPost_ret ?_ rfl (manIs_zero HR.out (set2_below hBY (Nat.le_refl _) _ _))
    rw [results_cell_tmp rfl]
    go_simp
/-- up to the sum -/
theorem cut_list (s : List UInt8) (a b : Nat) : (⟨s.toArray⟩ : ByteArray).extract a (a + b) = ⟨((s.drop a).take b).toArray⟩ := by
  apply ByteArray.ext
  simp [ByteArray.data_extract, List.extract_eq_take_drop]
set_option maxHeartbeats 2000000 in
set_option maxRecDepth 20000 in
theorem rmget_sum (S A H T Q : ByteArray) (E : Nat) (C : Int) (R : ManT × Int) (w : World) (h : S.size = 128) (hE : E < 18446744073709551616) (hE0 : E ≠ 0) (x1 : S.extract 0 8 = A) (x2 : S.extract 120 128 = A) (x3 : S.extract 0 116 = H) (x4 : S.extract 116 120 = Q) (HR : Hid (R = ((0, []), 6)))
    (cn : ∀ W, Calls Try.prog 45 #[.string A] W fun e w' => e = .returned (.int .u64 (E : Int)) ∧ w' = W)
    (co : ∀ W, Calls Try.prog 42 #[.string H] W fun e w' => e = .returned (.int .u32 C) ∧ w' = W)
    (ct : ∀ W, Calls Try.prog 40 #[.int .u32 C] W fun e w' => e = .returned (.string T) ∧ Below W.heap.size W w')
    (hc : T ≠ Q) :
    Calls Try.prog 12 #[.string S] w (ManIs R w) := by
  obtain ⟨X, hX⟩ : ∃ X, X = (w.alloc (.cells #[.int .u64 0, .slice none 0 0] 25)).alloc (.cells #[.int .u64 (E : Int), .slice none 0 0] 25) := ⟨_, rfl⟩
  have ga : GetAt w X (w.heap.size + 1) E (.slice none 0 0) := by rw [hX]; exact getAt_new w E
  have hEi : (E : Int) ≤ 18446744073709551615 := by omega
  have hne : (T.toList == Q.toList) = false := ne_of hc
  have heq : (A.toList == A.toList) = true := by simp
  have hez : ((E : Int) == 0) = false := by rw [beq_eq_false_iff_ne]; omega
  have hez2 : ¬ ((E : Int) = 0) := by omega
  clear hc hE hE0
  go_enter Try.func12, Try.ntmps12
  go_wp2_with fail
  go_at_call 45; refine (cn _).mono ?_; rintro e w1 ⟨rfl, rfl⟩
  go_upto_region 4 with fail
  rw [← hX]
  clear hX cn
  obtain ⟨m0, m1⟩ := ga.man.cells
  go_quiet (fail)
  have gY : GetAt w (X.drewN nq) (w.heap.size + 1) E (.slice none 0 0) := ⟨ga.res, ga.man, below_drewN ga.below _⟩
  clear m0 m1 ga
  generalize X.drewN nq = Y at gY ⊢
  go_wp2_with fail
  haveI := bl_ne Y
  refine wp_region_bl (by kernel_rfl) (by kernel_rfl) ?_
  repeat (quiet_step ((first | (go_at_call 42; with_reducible exact bl_same (co _)) | (go_at_call 40; with_reducible exact bl_call (ct _)))))
  refine wpQuiet_nil ?_
  intro _ hw'
  obtain ⟨⟨wq, hqq⟩, hw2⟩ := hw'
  subst hw2
  have gZ := gY.keep hqq
  have hBZ := gZ.below
  obtain ⟨r0, r1⟩ := gZ.res.cells
  have f0 := RowAt.frozen gZ.res 0
  have f1 := RowAt.frozen gZ.res 1
  clear gY gZ hqq
  go_wp2
  (try simp only [Exit.inBlock, Exit.then])
  refine bodyPost_ret ?_ rfl (manIs_zero HR.out (set2_below hBZ (Nat.le_refl _) _ _))
  rw [results_cell_tmp rfl]
  go_simp
set_option maxHeartbeats 4000000 in
set_option maxRecDepth 20000 in
theorem rmget_main (s : List UInt8) (E : Nat) (C : Int) (R : ManT × Int) (w : World) (hl : s.length = 128) (hEs : E = numL 0 (s.take 8)) (hE0 : E ≠ 0) (he : s.take 8 = s.drop 120) (hsum : (s.drop 116).take 4 = Crc.textR (Crc.onL 0 (s.take 116)))
    (HR : Hid (R = if okM (toldM s) = true ∧ sectL (toldM s) = s then (toldM s, 0) else ((0, []), 7))) :
    Calls Try.prog 12 #[.string ⟨s.toArray⟩] w (ManIs R w) := by
  have hz : (⟨s.toArray⟩ : ByteArray).size = s.length := size_list s
  have hE : E < 18446744073709551616 := by rw [hEs]; exact num8 s
  have x1 : (⟨s.toArray⟩ : ByteArray).extract 0 8 = ⟨(s.take 8).toArray⟩ := by have := extract_take ⟨s.toArray⟩ 8; simpa using this
  have x2 : (⟨s.toArray⟩ : ByteArray).extract 120 128 = ⟨(s.take 8).toArray⟩ := by have := extract_drop ⟨s.toArray⟩ 120; rw [hz, hl] at this; rw [he]; simpa using this
  have x3 : (⟨s.toArray⟩ : ByteArray).extract 0 116 = ⟨(s.take 116).toArray⟩ := by have := extract_take ⟨s.toArray⟩ 116; simpa using this
  have x4 : (⟨s.toArray⟩ : ByteArray).extract 116 120 = ⟨((s.drop 116).take 4).toArray⟩ := cut_list s 116 4
  rw [hsum] at x4
  have cn := fun W => rnumber_any (s.take 8) W (by rw [List.length_take]; omega)
  rw [← hEs] at cn
  have co := fun W => Crc.rofL (s.take 116) W (by rw [List.length_take]; omega)
  have ct := fun W => Crc.rtext_any (Crc.onL 0 (s.take 116)) W (Crc.sum_lt _)
  have HTM : Hid (∀ k, k = cntM s → toldM s = (E, firstM s k)) := fun k hk => by rw [hk, hEs]; rfl
  have HCM : Hid (cntM s = min (numL 0 ((s.drop 8).take 1)) 8) := rfl
  have HBIG : Hid (8 < numL 0 ((s.drop 8).take 1) → R = ((0, []), 7)) := fun hb => by rw [HR.out, if_neg (fun hc => get_many hb hc.2)]
  have HLARGE : Hid (∀ k, k < cntM s → 1048577 < numL 0 ((s.drop (9 + 13 * k + 9)).take 4) → R = ((0, []), 7)) := fun k hk hb => by
    rw [HR.out, if_neg (fun hc => by rw [get_big hk hb] at hc; exact absurd hc.1 (by decide))]
  have h8 : 8 < (⟨s.toArray⟩ : ByteArray).size := by omega
  obtain ⟨b8, hb8⟩ : ∃ b, (⟨s.toArray⟩ : ByteArray)[8]'h8 = b := ⟨_, rfl⟩
  have HB8 : Hid (numL 0 ((s.drop 8).take 1) = b8.toNat) := by
    show _ = _
    have e1 : s.drop 8 = b8 :: s.drop 9 := by
      rw [List.drop_eq_getElem_cons (by omega)]
      congr 1
    rw [e1]; simp [numL]
  have HL : Hid (s.length = 128) := hl
  have HTO : Hid (sectL (toldM s) = s → (⟨(sectL (toldM s)).toArray⟩ : ByteArray) = ⟨s.toArray⟩) := fun hh => by rw [hh]
  have HTN : Hid (sectL (toldM s) ≠ s → (⟨(sectL (toldM s)).toArray⟩ : ByteArray) ≠ ⟨s.toArray⟩) := fun hh hc => hh (arr_inj hc)
  have HSL : Hid (∀ k, k < 8 → (⟨s.toArray⟩ : ByteArray).extract (9 + 13 * k) (9 + 13 * k + 13) = ⟨((s.drop (9 + 13 * k)).take 13).toArray⟩) := fun k hk => cut_list s (9 + 13 * k) 13
  have hbl := b8.toNat_lt
  have hbi : (b8.toNat : Int) ≤ 255 := by omega
  generalize (⟨(s.take 8).toArray⟩ : ByteArray) = A at x1 x2 cn
  generalize (⟨(s.take 116).toArray⟩ : ByteArray) = H at x3 co
  generalize (⟨(Crc.textR (Crc.onL 0 (s.take 116))).toArray⟩ : ByteArray) = T at x4 ct
  generalize (Crc.onL 0 (s.take 116) : Int) = C at co ct
  have hS1 : 128 ≤ (⟨s.toArray⟩ : ByteArray).size := by omega
  have hS2 : (⟨s.toArray⟩ : ByteArray).size ≤ 128 := by omega
  have hS3 : (⟨s.toArray⟩ : ByteArray).size = 128 := by omega
  clear hz hl hEs he hsum
  generalize (⟨s.toArray⟩ : ByteArray) = S at *
  obtain ⟨X, hX⟩ : ∃ X, X = (w.alloc (.cells #[.int .u64 0, .slice none 0 0] 25)).alloc (.cells #[.int .u64 (E : Int), .slice none 0 0] 25) := ⟨_, rfl⟩
  have ga : GetAt w X (w.heap.size + 1) E (.slice none 0 0) := by rw [hX]; exact getAt_new w E
  have hEi : (E : Int) ≤ 18446744073709551615 := by omega
  have heq : (A.toList == A.toList) = true := by simp
  have heq2 : (T.toList == T.toList) = true := by simp
  have hez : ((E : Int) == 0) = false := by rw [beq_eq_false_iff_ne]; omega
  have hez2 : ¬ ((E : Int) = 0) := by omega
  have HEL : Hid (E < 18446744073709551616) := hE
  clear hE hE0
  go_enter Try.func12, Try.ntmps12
  go_wp2_with fail
  go_at_call 45; refine (cn _).mono ?_; rintro e w1 ⟨rfl, rfl⟩
  go_upto_region 4 with fail
  rw [← hX]
  clear hX cn
  obtain ⟨m0, m1⟩ := ga.man.cells
  go_quiet (fail)
  have gY : GetAt w (X.drewN nq) (w.heap.size + 1) E (.slice none 0 0) := ⟨ga.res, ga.man, below_drewN ga.below _⟩
  clear m0 m1 ga
  generalize X.drewN nq = Y at gY ⊢
  go_wp2_with fail
  haveI := bl_ne Y
  refine wp_region_bl (by kernel_rfl) (by kernel_rfl) ?_
  repeat (quiet_step ((first | (go_at_call 42; with_reducible exact bl_same (co _)) | (go_at_call 40; with_reducible exact bl_call (ct _)))))
  refine wpQuiet_nil ?_
  intro wq hw'
  obtain ⟨⟨wq2, hqq⟩, hw2⟩ := hw'
  subst hw2
  have gZ := gY.keep hqq
  clear gY hqq co ct heq heq2 hez hez2 x1 x2 x3 x4
  by_cases hbig : 8 < b8.toNat
  · have HR7 : Hid (R = ((0, []), 7)) := HBIG.out (by rw [HB8.out]; exact hbig)
    have hBZ := gZ.below
    obtain ⟨r0, r1⟩ := gZ.res.cells
    have f0 := RowAt.frozen gZ.res 0
    have f1 := RowAt.frozen gZ.res 1
    have hbg : (8 : Int) < (b8.toNat : Int) := by omega
    clear gZ
    go_wp2
    (try simp only [Exit.inBlock, Exit.then])
    refine bodyPost_ret ?_ rfl (manIs_zero HR7.out (set2_below hBZ (Nat.le_refl _) _ _))
    rw [results_cell_tmp rfl]
    go_simp
  · obtain ⟨n, hn⟩ : ∃ n, n = b8.toNat := ⟨_, rfl⟩
    have HN : Hid (cntM s = n) := by show _ = _; rw [HCM.out, HB8.out]; omega
    have hn8 : n ≤ 8 := by omega
    rw [← hn] at hbi hbl
    have hb8n : (b8.toNat : Int) = (n : Int) := by omega
    have hbg : ¬ (8 : Int) < (n : Int) := by omega
    have hsz0 : w.heap.size + 2 ≤ wq.heap.size := by have := RowAt.lt gZ.man; omega
    clear hbig hn HCM HB8 HBIG
    go_wp2_with fail
    go_loopw [6] (fun i wr => ∃ (k : Nat) (V : Value), k ≤ n ∧ i = .int .i64 k ∧ GetAt w wr (w.heap.size + 1) E V ∧ Hid (wr.ownsRow (w.heap.size + 2) 71 3 V k (partCs (firstM s k))) ∧ w.heap.size + 2 ≤ wr.heap.size) (fun i _ => n - (intOf i).toNat)
    case atStart => exact ⟨0, _, by omega, rfl, gZ, (World.ownsRow_nil _ _ _ _ : World.ownsRow _ _ _ _ _ _ _), hsz0⟩
    case round =>
      obtain ⟨k, V, hk, rfl, gr, HO, hsz⟩ := hrel
      clear gZ
      by_cases hlt : k < n
      · have hk8 : k < 8 := by omega
        obtain ⟨B, hB⟩ : ∃ B : ByteArray, B = ⟨((s.drop (9 + 13 * k)).take 13).toArray⟩ := ⟨_, rfl⟩
        have hBz : B.size = 13 := by rw [hB, size_list, List.length_take, List.length_drop, HL.out]; omega
        have k1 : ∀ W, (Instr.slice 9 (.string S) (some (.int .i64 (9 + 13 * (k : Int)))) (some (.int .i64 (9 + 13 * (k : Int) + 13))) none).run Try.prog W = .ok (.string B) W := by
          intro W
          rw [slice_lh W S Try.underlying9 _ _ (by omega) (by omega) (by omega), show (9 + 13 * (k : Int)).toNat = 9 + 13 * k by omega, show (9 + 13 * (k : Int) + 13).toNat = 9 + 13 * k + 13 by omega, HSL.out k hk8, ← hB]
        have x5 : B.extract 9 13 = ⟨((s.drop (9 + 13 * k + 9)).take 4).toArray⟩ := by
          rw [hB, show 13 = 9 + 4 by rfl, cut_list, List.drop_take, List.drop_drop, List.take_take]; rfl
        have x6 : B.extract 1 9 = ⟨((s.drop (9 + 13 * k + 1)).take 8).toArray⟩ := by
          rw [hB, show 9 = 1 + 8 by rfl, cut_list, List.drop_take, List.drop_drop, List.take_take]; rfl
        have cq := fun W => rnumber_any ((s.drop (9 + 13 * k + 9)).take 4) W (by rw [List.length_take]; omega)
        have cg := fun W => rnumber_any ((s.drop (9 + 13 * k + 1)).take 8) W (by rw [List.length_take]; omega)
        have h0B : 0 < B.size := by omega
        obtain ⟨b0, hb0⟩ : ∃ b, B[0]'h0B = b := ⟨_, rfl⟩
        have HB0 : Hid (numL 0 ((s.drop (9 + 13 * k)).take 1) = b0.toNat) := by
          show _ = _
          have hd : (s.drop (9 + 13 * k)).length = 119 - 13 * k := by rw [List.length_drop, HL.out]; omega
          have e1 : s.drop (9 + 13 * k) = b0 :: (s.drop (9 + 13 * k)).drop 1 := by
            rw [← hb0]
            have h9 : 0 < (s.drop (9 + 13 * k)).length := by omega
            have e2 : B[0]'h0B = (s.drop (9 + 13 * k))[0] := by
              subst hB
              show ((s.drop (9 + 13 * k)).take 13).toArray[0]'_ = _
              simp
            rw [e2]
            simp
          rw [e1]; simp [numL]
        have t3 := num4 (s.drop (9 + 13 * k + 9))
        have t2 := num8 (s.drop (9 + 13 * k + 1))
        have t1 := b0.toNat_lt
        have HP : Hid (partAt s k = ((b0.toNat : Int), numL 0 ((s.drop (9 + 13 * k + 1)).take 8), (numL 0 ((s.drop (9 + 13 * k + 9)).take 4) : Int) - 1)) := by
          show _ = _
          rw [← HB0.out]; rfl
        have HLG := HLARGE.out k (by rw [HN.out]; exact hlt)
        have HLGH : Hid (1048577 < numL 0 ((s.drop (9 + 13 * k + 9)).take 4) → R = ((0, []), 7)) := HLG
        clear HLG
        obtain ⟨Q, hQ⟩ : ∃ Q, Q = numL 0 ((s.drop (9 + 13 * k + 9)).take 4) := ⟨_, rfl⟩
        obtain ⟨T, hT⟩ : ∃ T, T = numL 0 ((s.drop (9 + 13 * k + 1)).take 8) := ⟨_, rfl⟩
        rw [← hQ] at cq t3 HP HLGH
        rw [← hT] at cg t2 HP
        generalize (⟨((s.drop (9 + 13 * k + 9)).take 4).toArray⟩ : ByteArray) = N4 at x5 cq
        generalize (⟨((s.drop (9 + 13 * k + 1)).take 8).toArray⟩ : ByteArray) = N8 at x6 cg
        have hQi : (Q : Int) ≤ 4294967295 := by omega
        have hTi : (T : Int) ≤ 18446744073709551615 := by omega
        have hki : (k : Int) < (n : Int) := by omega
        have hB1 : 13 ≤ B.size := by omega
        have hB2 : B.size ≤ 13 := by omega
        clear hB hQ hT hbl hb8n hb8 HB0
        by_cases hlg : 1048577 < Q
        · have HR7 : Hid (R = ((0, []), 7)) := HLGH.out hlg
          have hBZ := gr.below
          obtain ⟨r0, r1⟩ := gr.res.cells
          have f0 := RowAt.frozen gr.res 0
          have f1 := RowAt.frozen gr.res 1
          have hlg2 : (1048577 : Int) < (Q : Int) := by omega
          clear gr HO hlg cg x6
          go_wp2_with fail
          go_at_call 45; refine (cq _).mono ?_; rintro e w1 ⟨rfl, rfl⟩
          go_wp2
          (try simp only [Exit.inBlock, Exit.then])
          refine bodyPost_ret ?_ rfl (manIs_zero HR7.out (set2_below hBZ (Nat.le_refl _) _ _))
          rw [results_cell_tmp rfl]
          go_simp
        · have hlg2 : ¬ (1048577 : Int) < (Q : Int) := by omega
          have hdl : decide ((1048577 : Int) < (Q : Int)) = false := by rw [decide_eq_false_iff_not]; exact hlg2
          have ea : IntKind.i64.wrap (b0.toNat : Int) = (b0.toNat : Int) := by rw [IntKind.wrap_i64]; omega
          have eq : IntKind.i64.wrap (Q : Int) = (Q : Int) := by rw [IntKind.wrap_i64]; omega
          have eq2 : IntKind.i64.wrap ((Q : Int) - 1) = (Q : Int) - 1 := by rw [IntKind.wrap_i64]; omega
          have hb0i : (b0.toNat : Int) ≤ 255 := by omega
          obtain ⟨m0, m1⟩ := gr.man.cells
          have oC : wr.drew.ownsRow (w.heap.size + 2) 71 3 V k (partCs (firstM s k)) := HO.out
          obtain ⟨g, cap, w6, hrun0, oD, gD⟩ := append_part ((b0.toNat : Int), T, (Q : Int) - 1) oC (by omega) hsz
          have hrun : ∀ ty, (Builtin.append_ #[23, 23] ty #[V, .slice (some ⟨wr.heap.size, 0, none⟩) 1 1]).run Try.prog (wr.alloc (.cells #[.int .i64 (b0.toNat : Int), .int .u64 (T : Int), .int .i64 ((Q : Int) - 1)] 71)).drew = .ok (.slice (some ⟨g, 0, none⟩) (k + 1) cap) w6 := hrun0
          have hbal : Below wr.heap.size wr (wr.drew.alloc (.cells #[.int .i64 (b0.toNat : Int), .int .u64 (T : Int), .int .i64 ((Q : Int) - 1)] 71)) := ((Below.refl _ _).drew).alloc (Nat.le_refl _) _
          have bD : Below w.heap.size w w6 := grown_below (below2 gr.below hbal) (by have := gr.below.size; simp; omega) (by omega) (oC.alloc _) gD
          have mD : MBox w6 (w.heap.size + 1) E V := rowAt_kept (RowAt.below gr.man hbal) gD (own_ne oC (by omega))
          have rD : MBox w6 w.heap.size 0 (.slice none 0 0) := rowAt_kept (RowAt.below gr.res hbal) gD (own_ne oC (by omega))
          have zD : w.heap.size + 2 ≤ w6.heap.size := by have := gD.size; simp at this; omega
          have fD := RowAt.frozen mD 1
          obtain ⟨n0, n1⟩ := mD.cells
          have hset : w6.grownBy (w6.setCell ⟨w.heap.size + 1, 1, none⟩ (.slice (some ⟨g, 0, none⟩) (k + 1) cap)) (some (w.heap.size + 1)) := grown_cell _ _ _ _
          have gE : Hid (GetAt w (w6.setCell ⟨w.heap.size + 1, 1, none⟩ (.slice (some ⟨g, 0, none⟩) (k + 1) cap)) (w.heap.size + 1) E (.slice (some ⟨g, 0, none⟩) (k + 1) cap)) := by
            refine ⟨rD.grown hset (by omega), ?_, below_grown bD bD.size (by omega) hset⟩
            unfold MBox at mD ⊢
            rw [mD.setCell]
            exact RowAt.set mD _
          have oE : Hid ((w6.setCell ⟨w.heap.size + 1, 1, none⟩ (.slice (some ⟨g, 0, none⟩) (k + 1) cap)).ownsRow (w.heap.size + 2) 71 3 (.slice (some ⟨g, 0, none⟩) (k + 1) cap) (k + 1) (partCs (firstM s (k + 1)))) := by
            show World.ownsRow _ _ _ _ _ _ _
            have e1 : partCs (firstM s (k + 1)) = partCs (firstM s k) ++ partC ((b0.toNat : Int), T, (Q : Int) - 1) := by
              rw [firstM_succ, partCs, List.flatMap_append]
              simp only [List.flatMap_cons, List.flatMap_nil, List.append_nil, HP.out]
              rfl
            rw [e1]
            exact own_kept oD hset (by omega)
          have zE : w.heap.size + 2 ≤ (w6.setCell ⟨w.heap.size + 1, 1, none⟩ (.slice (some ⟨g, 0, none⟩) (k + 1) cap)).heap.size := Nat.le_trans zD hset.size
          have hlt3 : w.heap.size + 1 < wr.heap.size := by omega
          clear oC oD gD hbal mD rD bD hset hlg hrun0 HO gr HP HLGH
          go_wp2_with fail
          go_at_call 45; refine (cq _).mono ?_; rintro e w1 ⟨rfl, rfl⟩
          go_upto_region 18 with fail
          clear cq x5 k1
          go_region_with ((go_at_call 45; refine (cg _).mono ?_; rintro e w2 ⟨rfl, rfl⟩))
          all_goals go_wp2_with fail
          all_goals go_roundw
          all_goals first | (case rel => exact ⟨k + 1, _, by omega, by go_num, gE.out, oE, zE⟩) | (case measure => simp [intOf]; omega)
      · obtain rfl : k = n := by omega
        obtain ⟨oo, cc, rfl⟩ : ∃ oo cc, V = .slice oo k cc := by
          rcases HO.out.2 with ⟨rfl, h0⟩ | ⟨g, cap, cur, rfl, _⟩
          · exact ⟨none, 0, by rw [h0]⟩
          · exact ⟨_, _, rfl⟩
        have htm := HTM.out k HN.out.symm
        have hfit := toldM_fit s
        have hpp : HasParts wr (.slice oo k cc) (firstM s k) := by
          show HasRow _ _ _ _ _
          rw [firstM_len]
          exact Disk.hasRow_own HO.out
        have cp := rmput_any (E, firstM s k) (.slice oo k cc) wr hpp (by rw [← htm]; exact hfit)
        unfold StrIs at cp
        rw [htm] at HR HTO HTN
        obtain ⟨m0, m1⟩ := gr.man.cells
        have HG : Hid (GetAt w wr (w.heap.size + 1) E (.slice oo k cc)) := gr
        have HPP : Hid (HasParts wr (.slice oo k cc) (firstM s k)) := hpp
        clear HO gr hpp hfit htm HTM HLARGE HSL hb8 hb8n
        cases hok : okM (E, firstM s k)
        · have hp : putM (E, firstM s k) = ([], 2) := by rw [putM, hok]; rfl
          rw [hp] at cp
          have HR7 : Hid (R = ((0, []), 7)) := by show _ = _; rw [HR.out, hok, if_neg (fun hc => by simp at hc)]
          clear hp hok
          go_wp2_with fail
          go_at_call 10; refine cp.mono ?_; rintro e w1 ⟨rfl, hb1⟩
          have g1 := HG.out.keep hb1
          obtain ⟨r0, r1⟩ := g1.res.cells
          have f0 := RowAt.frozen g1.res 0
          have f1 := RowAt.frozen g1.res 1
          have hBZ := g1.below
          clear cp m0 m1 g1 HG HPP
          go_wp2
          (try simp only [Exit.inBlock, Exit.then])
          refine bodyPost_ret ?_ rfl (manIs_zero HR7.out (set2_below hBZ (Nat.le_refl _) _ _))
          rw [results_cell_tmp rfl]
          go_simp
        · have hp : putM (E, firstM s k) = (sectL (E, firstM s k), 0) := by rw [putM, hok]; rfl
          rw [hp] at cp
          simp only at cp
          by_cases hse : sectL (E, firstM s k) = s
          · have HR0 : Hid (R = ((E, firstM s k), 0)) := by show _ = _; rw [HR.out, hok, if_pos ⟨rfl, hse⟩]
            have hPS := HTO.out hse
            generalize (⟨(sectL (E, firstM s k)).toArray⟩ : ByteArray) = P at cp hPS
            subst hPS
            have heq : (P.toList == P.toList) = true := by simp
            clear hp hok hse
            go_wp2_with fail
            go_at_call 10; refine cp.mono ?_; rintro e w1 ⟨rfl, hb1⟩
            have g1 := HG.out.keep hb1
            have hp1 := HPP.out.keep hb1
            clear cp m0 m1 HG HPP
            obtain ⟨m0, m1⟩ := g1.man.cells
            obtain ⟨r0, r1⟩ := g1.res.cells
            have f0 := RowAt.frozen g1.res 0
            have f1 := RowAt.frozen g1.res 1
            have hBZ := g1.below
            have HPF : Hid (HasParts ((w1.setCell ⟨w.heap.size, 0, none⟩ (.int .u64 (E : Int))).setCell ⟨w.heap.size, 1, none⟩ (.slice oo k cc)) (.slice oo k cc) (firstM s k)) := HasParts.far hp1 g1.res (grown2 (grown_cell _ _ _ _) (grown_cell _ _ _ _))
            have h1 : RowAt (w1.setCell ⟨w.heap.size, 0, none⟩ (.int .u64 (E : Int))) w.heap.size [.int .u64 (E : Int), .slice none 0 0] 25 := by
              have := g1.res; unfold MBox at this; rw [this.setCell]; exact RowAt.set this _
            have y0 : (w1.setCell ⟨w.heap.size, 0, none⟩ (.int .u64 (E : Int))).cell? ⟨w.heap.size, 0, none⟩ = some (.int .u64 (E : Int)) := h1.cell 0
            have rF : MBox ((w1.setCell ⟨w.heap.size, 0, none⟩ (.int .u64 (E : Int))).setCell ⟨w.heap.size, 1, none⟩ (.slice oo k cc)) w.heap.size E (.slice oo k cc) := by
              unfold MBox
              rw [h1.setCell]; exact RowAt.set h1 _
            obtain ⟨x0, x1⟩ := rF.cells
            have hBF := set2_below hBZ (Nat.le_refl _) (.int .u64 (E : Int)) (.slice oo k cc)
            clear g1 hp1 h1 rF
            go_wp2
            (try simp only [Exit.inBlock, Exit.then])
            refine bodyPost_ret (v := .tuple #[.agg #[.int .u64 (E : Int), .slice oo k cc], .int .i64 0]) ?_ rfl ⟨_, by rw [HR0.out], by rw [HR0.out]; exact HPF.out, hBF⟩
            simp [results, Try.results12, go_sem, x1, y0]
          · have HR7 : Hid (R = ((0, []), 7)) := by show _ = _; rw [HR.out, if_neg (fun hc => hse hc.2)]
            have hPS := HTN.out hse
            generalize (⟨(sectL (E, firstM s k)).toArray⟩ : ByteArray) = P at cp hPS
            have hne : (P.toList == S.toList) = false := ne_of hPS
            clear hp hok hse hPS
            go_wp2_with fail
            go_at_call 10; refine cp.mono ?_; rintro e w1 ⟨rfl, hb1⟩
            have g1 := HG.out.keep hb1
            obtain ⟨r0, r1⟩ := g1.res.cells
            have f0 := RowAt.frozen g1.res 0
            have f1 := RowAt.frozen g1.res 1
            have hBZ := g1.below
            clear cp m0 m1 g1 HG HPP
            go_wp2
            (try simp only [Exit.inBlock, Exit.then])
            refine bodyPost_ret ?_ rfl (manIs_zero HR7.out (set2_below hBZ (Nat.le_refl _) _ _))
            rw [results_cell_tmp rfl]
            go_simp
theorem rmget_any (s : List UInt8) (w : World) (hl : s.length ≤ 9223372036854775807) :
    Calls Try.prog 12 #[.string ⟨s.toArray⟩] w (ManIs (getM s) w) := by
  have hz : (⟨s.toArray⟩ : ByteArray).size = s.length := size_list s
  by_cases h : s.length = 128
  · have x1 : (⟨s.toArray⟩ : ByteArray).extract 0 8 = ⟨(s.take 8).toArray⟩ := by have := extract_take ⟨s.toArray⟩ 8; simpa using this
    have x2 : (⟨s.toArray⟩ : ByteArray).extract 120 128 = ⟨(s.drop 120).toArray⟩ := by have := extract_drop ⟨s.toArray⟩ 120; rw [hz, h] at this; simpa using this
    have x3 : (⟨s.toArray⟩ : ByteArray).extract 0 116 = ⟨(s.take 116).toArray⟩ := by have := extract_take ⟨s.toArray⟩ 116; simpa using this
    have x4 : (⟨s.toArray⟩ : ByteArray).extract 116 120 = ⟨((s.drop 116).take 4).toArray⟩ := cut_list s 116 4
    have cn := fun W => rnumber_any (s.take 8) W (by rw [List.length_take]; omega)
    by_cases he : s.take 8 = s.drop 120
    · by_cases h0 : numL 0 (s.take 8) = 0
      · exact rmget_none _ _ _ (numL 0 (s.take 8)) _ w (by omega) (num8 s) x1 x2 (getM_null h h0) cn (.inr ⟨by rw [he], h0⟩)
      · by_cases hs : (s.drop 116).take 4 = Crc.textR (Crc.onL 0 (s.take 116))
        · exact rmget_main s (numL 0 (s.take 8)) 0 _ w h rfl h0 he hs (getM_rest h he h0 hs)
        · rw [← he] at x2
          exact rmget_sum _ _ _ _ _ (numL 0 (s.take 8)) _ _ w (by omega) (num8 s) h0 x1 x2 x3 x4 (getM_sum h he h0 hs) cn (fun W => Crc.rofL (s.take 116) W (by rw [List.length_take]; omega)) (fun W => Crc.rtext_any (Crc.onL 0 (s.take 116)) W (Crc.sum_lt _)) (fun hc => hs (arr_inj hc).symm)
    · exact rmget_none _ _ _ (numL 0 (s.take 8)) _ w (by omega) (num8 s) x1 x2 (getM_ends h he) cn (.inl (fun hc => he (arr_inj hc)))
  · exact rmget_long _ _ w (by omega) (by omega) (getM_128 h)
end Go.Proofs.Ytajcmgccclemdaa.Man
