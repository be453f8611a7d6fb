/- The document's answer of routes: without, Put, Find, Del. -/
import Derived.Test.YtkjhnefbcnnjlaaGreatNv19
import Derived.Test.YtkjhnefbcnnjlaaGreatNv35
import Derived.Test.YtkjhnefbcnnjlaaGreatNv21
import Derived.Test.YtkjhnefbcnnjlaaGreatNv32
import Derived.Test.YtkjhnefbcnnjlaaGreatNv08
import Derived.Test.YtkjhnefbcnnjlaaGreatNv06
import Derived.Test.YtkjhnefbcnnjlaaGreatNv28
import Derived.Test.YtkjhnefbcnnjlaaGreatNv07
set_option linter.unusedVariables false
namespace Go.Proofs.YtkjhnefbcnnjlaaGreat.Ord
open Go.RowKit Go.Shelf
open Go.Proofs.YtkjhnefbcnnjlaaGreat.Msg (Ev evV FitE cells12')
open Go.Proofs.YtkjhnefbcnnjlaaGreat.Addr (RowAt below2 below_new RowAt.lt RowAt.cell RowAt.below RowAt.new RowAt.alloc cells4)
attribute [-go_sem] Builtin.append_

theorem rows_kept {W W' : World} {g : Nat} {cs : List Value} {t : TypeId} {r : Option Nat} (h : RowAt W g cs t) (hg : W.grownBy W' r) (hne : some g ≠ r) : RowAt W' g cs t := (hg.block g h.lt hne).trans h
set_option maxHeartbeats 16000000 in
set_option maxRecDepth 20000 in
theorem rnext_yes (o : Option Addr) (n cp : Nat) (l : List St) (c0 c1 c2 c3 c5 c6 c7 c8 c9 c10 c11 : Int) (cs : Bool) (h : Int) (w : World) (s9 : St)
    (hl : HasSts w (.slice o n cp) l) (HN : Hid (n = l.length)) (hn64 : (n : Int) ≤ 64) (hcp : n ≤ cp ∧ cp ≤ 9223372036854775807)
    (HS9 : Hid (c1 = s9.router ∧ c2 = (s9.seq : Int) ∧ c3 = s9.time ∧ (c0 != 2) = s9.up))
    (k1 : ∀ W : World, Below w.heap.size w W → Calls Tryz.prog 35 #[.slice o n cp, .agg #[.int .u8 c0, .int .i64 c1, .int .u64 c2, .int .i64 c3, .bool cs, .int .u64 c5, .int .u64 c6, .int .i64 c7, .int .u8 c8, .int .i64 c9, .int .i64 c10, .int .i64 c11], .int .i64 h] W fun e w' => e = .returned (.int .i64 0) ∧ Below W.heap.size W w')
    (R : Int) (HR : Hid (R = 0)) (G : World → Value → Prop) (HFIN : Hid (∀ (W : World) (u : Value), HasSts W u (ahead l c1 ++ ([s9] ++ behind l c1)) → G W u)) :
    Calls Tryz.prog 39 #[.slice o n cp, .agg #[.int .u8 c0, .int .i64 c1, .int .u64 c2, .int .i64 c3, .bool cs, .int .u64 c5, .int .u64 c6, .int .i64 c7, .int .u8 c8, .int .i64 c9, .int .i64 c10, .int .i64 c11], .int .i64 h] w fun e w' => ∃ u, e = .returned (.tuple #[u, .int .i64 R]) ∧ G w' u ∧ Below w.heap.size w w' := by
  have HL0 : Hid (∀ W : World, Below w.heap.size w W → HasSts W (.slice o n cp) l) := fun W hb => hl.keep hb
  obtain ⟨X, hX⟩ : ∃ X, X = w.alloc (.cells #[.int .u8 c0, .int .i64 c1, .int .u64 c2, .int .i64 c3, .bool cs, .int .u64 c5, .int .u64 c6, .int .i64 c7, .int .u8 c8, .int .i64 c9, .int .i64 c10, .int .i64 c11] 38) := ⟨_, rfl⟩
  have hB : Below w.heap.size w X := by rw [hX]; exact below_new (Below.refl _ _) _
  have r0 : RowAt X w.heap.size [.int .u8 c0, .int .i64 c1, .int .u64 c2, .int .i64 c3, .bool cs, .int .u64 c5, .int .u64 c6, .int .i64 c7, .int .u8 c8, .int .i64 c9, .int .i64 c10, .int .i64 c11] 38 := by rw [hX]; exact RowAt.new _ _ _
  clear hl
  go_enter Tryz.func39, Tryz.ntmps39
  go_upto_region 1 with fail
  rw [← hX]
  clear hX
  obtain ⟨⟨y0, y1, y2, y3, y4, y5⟩, ⟨y6, y7, y8, y9, y10, y11⟩, yf, hly⟩ := cells12' r0
  go_wp2_with fail
  go_at_call 35; refine (k1 _ hB).mono ?_; rintro e w1 ⟨rfl, hb⟩
  replace hB := below2 hB hb
  replace r0 := RowAt.below r0 hb
  clear hb k1 y0 y1 y2 y3 y4 y5 y6 y7 y8 y9 y10 y11 yf hly
  obtain ⟨g4, hg4⟩ : ∃ g, g = w.heap.size := ⟨_, rfl⟩
  rw [← hg4] at r0 ⊢
  clear hg4
  obtain ⟨⟨y0, y1, y2, y3, y4, y5⟩, ⟨y6, y7, y8, y9, y10, y11⟩, yf, hly⟩ := cells12' r0
  go_upto_region 7 with fail
  obtain ⟨Z, hZ⟩ : ∃ Z, Z = w1.alloc (.cells #[.int .i64 c1, .int .u64 c2, .int .i64 c3, .bool (c0 != 2)] 70) := ⟨_, rfl⟩
  have hb : Below w1.heap.size w1 Z := by rw [hZ]; exact below_new (Below.refl _ _) _
  have r9 : RowAt Z w1.heap.size [.int .i64 c1, .int .u64 c2, .int .i64 c3, .bool (c0 != 2)] 70 := by rw [hZ]; exact RowAt.new _ _ _
  rw [← hZ]
  replace r0 := RowAt.below r0 hb
  replace hB := below2 hB hb
  clear hb hZ y0 y1 y2 y3 y4 y5 y6 y7 y8 y9 y10 y11 yf hly
  obtain ⟨g9, hg9⟩ : ∃ g, g = w1.heap.size := ⟨_, rfl⟩
  rw [← hg9] at r9 ⊢
  clear hg9
  obtain ⟨B, hBz⟩ : ∃ B, B = Z.heap.size := ⟨_, rfl⟩
  have HG4 : Hid (g4 < B) := by rw [hBz]; exact RowAt.lt r0
  have HG9 : Hid (g9 < B) := by rw [hBz]; exact RowAt.lt r9
  have HWB : Hid (w.heap.size ≤ B) := by rw [hBz]; exact hB.size
  have HZB : Hid (B ≤ Z.heap.size) := by rw [hBz]; exact Nat.le_refl _
  clear hBz
  go_wp2_with fail
  go_loopw [10, 44] (fun s i wr => ∃ k : Nat, k ≤ n ∧ i = .int .i64 k ∧ Below w.heap.size w wr ∧ Hid (RowAt wr g4 [.int .u8 c0, .int .i64 c1, .int .u64 c2, .int .i64 c3, .bool cs, .int .u64 c5, .int .u64 c6, .int .i64 c7, .int .u8 c8, .int .i64 c9, .int .i64 c10, .int .i64 c11] 38) ∧ Hid (RowAt wr g9 [.int .i64 c1, .int .u64 c2, .int .i64 c3, .bool (c0 != 2)] 70) ∧ Hid (B ≤ wr.heap.size) ∧ Hid (wr.ownsRow B 70 4 s (ahead (l.take k) c1).length (stCs (ahead (l.take k) c1)))) (fun _ i _ => n - (intOf i).toNat)
  case atStart => exact ⟨0, by omega, rfl, hB, r0, r9, HZB, World.ownsRow_nil _ _ _ _⟩
  case round =>
    obtain ⟨k, hk, rfl, hBr, HR4, HR9, HBB, HO⟩ := hrel
    have hh := HL0.out wr hBr
    by_cases hlt : k < n
    · have hkz : k < l.length := by rw [← HN.out]; exact hlt
      have hstep : ahead (l.take (k + 1)) c1 = ahead (l.take k) c1 ++ (if decide (l[k].router < c1) then [l[k]] else []) := by
        unfold ahead
        rw [List.take_succ_eq_append_getElem hkz, List.filter_append, List.filter_cons, List.filter_nil]
      have hlen : (ahead (l.take k) c1).length ≤ 300 := by
        have h1 : (ahead (l.take k) c1).length ≤ n := by
          unfold ahead
          refine Nat.le_trans (List.length_filter_le _ _) ?_
          rw [List.length_take]; omega
        skip
        skip
        omega
      have HB1 : Hid (decide (l[k].router < c1) = true → (ahead (l.take (k + 1)) c1) = (ahead (l.take k) c1) ++ [l[k]]) := fun e => by rw [hstep, e]; rfl
      have HB2 : Hid (decide (l[k].router < c1) = false → (ahead (l.take (k + 1)) c1) = (ahead (l.take k) c1)) := fun e => by rw [hstep, e]; simp
      obtain ⟨g1, i1, ho, hg1, a0, a1, a2, a3⟩ := HasSts.cell hh k hkz
      have hki : (k : Int) < (n : Int) := by omega
      obtain ⟨s0, hs0⟩ : ∃ s0 : St, s0 = l[k] := ⟨_, rfl⟩
      rw [← hs0] at a0 a1 a2 a3 HB1 HB2
      clear hs0 hstep hg1 hh
      have r0 := HR4.out
      have r9 := HR9.out
      clear HR4 HR9
      subst ho
      go_upto_region 11 with fail
      obtain ⟨X, hX⟩ : ∃ X, X = wr.alloc (.cells #[.int .i64 s0.router, .int .u64 (s0.seq : Int), .int .i64 s0.time, .bool s0.up] 70) := ⟨_, rfl⟩
      have hb : Below wr.heap.size wr X := by rw [hX]; exact below_new (Below.refl _ _) _
      have rs : RowAt X wr.heap.size [.int .i64 s0.router, .int .u64 (s0.seq : Int), .int .i64 s0.time, .bool s0.up] 70 := by rw [hX]; exact RowAt.new _ _ _
      rw [← hX]
      replace r0 := RowAt.below r0 hb
      replace r9 := RowAt.below r9 hb
      have hB2 := below2 hBr hb
      have hO2 := own_below HO.out hb
      have HBX : Hid (B ≤ X.heap.size) := Nat.le_trans HBB.out hb.size
      clear hX hb a0 a1 a2 a3 hBr HO HBB
      obtain ⟨gs, hgs⟩ : ∃ g, g = wr.heap.size := ⟨_, rfl⟩
      rw [← hgs] at rs ⊢
      clear hgs
      obtain ⟨x0, x1, x2, x3, xf⟩ := cells4 rs
      obtain ⟨⟨y0, y1, y2, y3, y4, y5⟩, ⟨y6, y7, y8, y9, y10, y11⟩, yf, hly⟩ := cells12' r0
      cases hd : decide (s0.router < c1)
      · have HO3 : Hid (X.ownsRow B 70 4 u10 (ahead (l.take (k + 1)) c1).length (stCs (ahead (l.take (k + 1)) c1))) := by
          show X.ownsRow _ _ _ _ _ _
          rw [HB2.out hd]; exact hO2
        have HR4 : Hid (RowAt X g4 [.int .u8 c0, .int .i64 c1, .int .u64 c2, .int .i64 c3, .bool cs, .int .u64 c5, .int .u64 c6, .int .i64 c7, .int .u8 c8, .int .i64 c9, .int .i64 c10, .int .i64 c11] 38) := r0
        have HR9 : Hid (RowAt X g9 [.int .i64 c1, .int .u64 c2, .int .i64 c3, .bool (c0 != 2)] 70) := r9
        clear HB1 HB2 hO2 r0 r9 rs
        go_wp2_with fail
        go_roundw
        case rel => exact ⟨k + 1, by omega, by go_num, hB2, HR4, HR9, HBX, HO3⟩
        case measure => simp [intOf]; omega
      · obtain ⟨Y, hY⟩ : ∃ Y, Y = X.alloc (.cells #[.int .i64 s0.router, .int .u64 (s0.seq : Int), .int .i64 s0.time, .bool s0.up] 70) := ⟨_, rfl⟩
        have hbY : Below X.heap.size X Y := by rw [hY]; exact below_new (Below.refl _ _) _
        have hOY := own_below hO2 hbY
        have hsrc : HasSts Y (.slice (some ⟨X.heap.size, 0, none⟩) 1 1) [s0] := by rw [hY]; exact one_has X s0
        have hBY := below2 hB2 hbY
        have hBBY := Nat.le_trans HBX.out hbY.size
        obtain ⟨v', w3, hrun, ho3, hg3⟩ := append_row info_seat Tryz.underlying22 rfl (by decide) hOY hsrc (one_seats [s0]) (by simp only [List.length_cons, List.length_nil]; omega) (by simp only [List.length_cons, List.length_nil]; omega) hBBY
        have hB3 : Below w.heap.size w w3 := hBY.grown hg3 hBY.size (fun k e => Nat.le_trans HWB.out (hOY.lt k e).1)
        have HB3 : Hid (B ≤ w3.heap.size) := Nat.le_trans hBBY hg3.size
        replace r0 := rows_kept (RowAt.below r0 hbY) hg3 (fun e => by have := (hOY.lt g4 e.symm).1; have := HG4.out; omega)
        replace r9 := rows_kept (RowAt.below r9 hbY) hg3 (fun e => by have := (hOY.lt g9 e.symm).1; have := HG9.out; omega)
        have HO3 : Hid (w3.ownsRow B 70 4 v' (ahead (l.take (k + 1)) c1).length (stCs (ahead (l.take (k + 1)) c1))) := by
          show w3.ownsRow _ _ _ _ _ _
          rw [HB1.out hd, stCs_app, List.length_append]; exact ho3
        have HR4 : Hid (RowAt w3 g4 [.int .u8 c0, .int .i64 c1, .int .u64 c2, .int .i64 c3, .bool cs, .int .u64 c5, .int .u64 c6, .int .i64 c7, .int .u8 c8, .int .i64 c9, .int .i64 c10, .int .i64 c11] 38) := r0
        have HR9 : Hid (RowAt w3 g9 [.int .i64 c1, .int .u64 c2, .int .i64 c3, .bool (c0 != 2)] 70) := r9
        rw [hY] at hrun
        clear HB1 HB2 hO2 r0 r9 rs hOY hsrc hBY hbY hBBY ho3 hg3 HBX
        go_wp2_with fail
        go_roundw
        case rel => exact ⟨k + 1, by omega, by go_num, hB3, HR4, HR9, HB3, HO3⟩
        case measure => simp [intOf]; omega
    · obtain rfl : k = n := by omega
      have htk : l.take k = l := List.take_of_length_le (by rw [← HN.out]; exact Nat.le_refl _)
      rw [htk] at HO
      clear htk hh
      have r0 := HR4.out
      have r9 := HR9.out
      clear HR4 HR9
      obtain ⟨x0, x1, x2, x3, xf⟩ := cells4 r9
      obtain ⟨Y, hY⟩ : ∃ Y, Y = wr.alloc (.cells #[.int .i64 c1, .int .u64 c2, .int .i64 c3, .bool (c0 != 2)] 70) := ⟨_, rfl⟩
      have hbY : Below wr.heap.size wr Y := by rw [hY]; exact below_new (Below.refl _ _) _
      have hOY := own_below HO.out hbY
      have hsrc : HasSts Y (.slice (some ⟨wr.heap.size, 0, none⟩) 1 1) [s9] := by rw [hY, HS9.out.1, HS9.out.2.1, HS9.out.2.2.1, HS9.out.2.2.2]; exact one_has wr s9
      have hBY := below2 hBr hbY
      have hBBY := Nat.le_trans HBB.out hbY.size
      have hla : (ahead l c1).length ≤ k := by rw [HN.out]; exact (seats_len l c1).1
      obtain ⟨v', w3, hrun, ho3, hg3⟩ := append_row info_seat Tryz.underlying22 rfl (by decide) hOY hsrc (one_seats [s9]) (by simp only [List.length_cons, List.length_nil]; omega) (by simp only [List.length_cons, List.length_nil]; omega) hBBY
      have hB5 : Below w.heap.size w w3 := hBY.grown hg3 hBY.size (fun k e => Nat.le_trans HWB.out (hOY.lt k e).1)
      have HB5 : Hid (B ≤ w3.heap.size) := Nat.le_trans hBBY hg3.size
      replace r0 := rows_kept (RowAt.below r0 hbY) hg3 (fun e => by have := (hOY.lt g4 e.symm).1; have := HG4.out; omega)
      replace r9 := rows_kept (RowAt.below r9 hbY) hg3 (fun e => by have := (hOY.lt g9 e.symm).1; have := HG9.out; omega)
      have HO5 : Hid (w3.ownsRow B 70 4 v' (ahead l c1 ++ [s9] ++ behind (l.take 0) c1).length (stCs (ahead l c1 ++ [s9] ++ behind (l.take 0) c1))) := by
        show w3.ownsRow _ _ _ _ _ _
        rw [show ahead l c1 ++ [s9] ++ behind (l.take 0) c1 = ahead l c1 ++ [s9] from by simp [behind], stCs_app, List.length_append]
        exact ho3
      rw [hY] at hrun
      clear hOY hsrc hBY hbY hBBY ho3 hg3 HBB HO hBr hla
      go_wp2_with fail
      obtain ⟨n, hkn⟩ : ∃ n, n = k := ⟨_, rfl⟩
      subst hkn
      go_loopw [10, 64] (fun s i wr => ∃ k : Nat, k ≤ n ∧ i = .int .i64 k ∧ Below w.heap.size w wr ∧ Hid (RowAt wr g4 [.int .u8 c0, .int .i64 c1, .int .u64 c2, .int .i64 c3, .bool cs, .int .u64 c5, .int .u64 c6, .int .i64 c7, .int .u8 c8, .int .i64 c9, .int .i64 c10, .int .i64 c11] 38) ∧ Hid (RowAt wr g9 [.int .i64 c1, .int .u64 c2, .int .i64 c3, .bool (c0 != 2)] 70) ∧ Hid (B ≤ wr.heap.size) ∧ Hid (wr.ownsRow B 70 4 s (ahead l c1 ++ [s9] ++ behind (l.take k) c1).length (stCs (ahead l c1 ++ [s9] ++ behind (l.take k) c1)))) (fun _ i _ => n - (intOf i).toNat)
      case atStart => exact ⟨0, by omega, rfl, hB5, r0, r9, HB5, HO5⟩
      case round =>
        obtain ⟨k, hk, rfl, hBr, HR4, HR9, HBB, HO⟩ := hrel
        have hh := HL0.out wr hBr
        by_cases hlt : k < n
        · have hkz : k < l.length := by rw [← HN.out]; exact hlt
          have hstep : behind (l.take (k + 1)) c1 = behind (l.take k) c1 ++ (if decide (c1 < l[k].router) then [l[k]] else []) := by
            unfold behind
            rw [List.take_succ_eq_append_getElem hkz, List.filter_append, List.filter_cons, List.filter_nil]
          have hlen : (ahead l c1 ++ [s9] ++ behind (l.take k) c1).length ≤ 300 := by
            have h1 : (behind (l.take k) c1).length ≤ n := by
              unfold behind
              refine Nat.le_trans (List.length_filter_le _ _) ?_
              rw [List.length_take]; omega
            have h2 : (ahead l c1).length ≤ n := by rw [HN.out]; exact (seats_len l c1).1
            simp only [List.length_append, List.length_cons, List.length_nil]
            omega
          have HB1 : Hid (decide (c1 < l[k].router) = true → (ahead l c1 ++ [s9] ++ behind (l.take (k + 1)) c1) = (ahead l c1 ++ [s9] ++ behind (l.take k) c1) ++ [l[k]]) := fun e => by rw [hstep, e]; simp
          have HB2 : Hid (decide (c1 < l[k].router) = false → (ahead l c1 ++ [s9] ++ behind (l.take (k + 1)) c1) = (ahead l c1 ++ [s9] ++ behind (l.take k) c1)) := fun e => by rw [hstep, e]; simp
          obtain ⟨g1, i1, ho, hg1, a0, a1, a2, a3⟩ := HasSts.cell hh k hkz
          have hki : (k : Int) < (n : Int) := by omega
          obtain ⟨s0, hs0⟩ : ∃ s0 : St, s0 = l[k] := ⟨_, rfl⟩
          rw [← hs0] at a0 a1 a2 a3 HB1 HB2
          clear hs0 hstep hg1 hh
          have r0 := HR4.out
          have r9 := HR9.out
          clear HR4 HR9
          subst ho
          go_upto_region 18 with fail
          obtain ⟨X, hX⟩ : ∃ X, X = wr.alloc (.cells #[.int .i64 s0.router, .int .u64 (s0.seq : Int), .int .i64 s0.time, .bool s0.up] 70) := ⟨_, rfl⟩
          have hb : Below wr.heap.size wr X := by rw [hX]; exact below_new (Below.refl _ _) _
          have rs : RowAt X wr.heap.size [.int .i64 s0.router, .int .u64 (s0.seq : Int), .int .i64 s0.time, .bool s0.up] 70 := by rw [hX]; exact RowAt.new _ _ _
          rw [← hX]
          replace r0 := RowAt.below r0 hb
          replace r9 := RowAt.below r9 hb
          have hB2 := below2 hBr hb
          have hO2 := own_below HO.out hb
          have HBX : Hid (B ≤ X.heap.size) := Nat.le_trans HBB.out hb.size
          clear hX hb a0 a1 a2 a3 hBr HO HBB
          obtain ⟨gs, hgs⟩ : ∃ g, g = wr.heap.size := ⟨_, rfl⟩
          rw [← hgs] at rs ⊢
          clear hgs
          obtain ⟨x0, x1, x2, x3, xf⟩ := cells4 rs
          obtain ⟨⟨y0, y1, y2, y3, y4, y5⟩, ⟨y6, y7, y8, y9, y10, y11⟩, yf, hly⟩ := cells12' r0
          cases hd : decide (c1 < s0.router)
          · have HO3 : Hid (X.ownsRow B 70 4 u10 (ahead l c1 ++ [s9] ++ behind (l.take (k + 1)) c1).length (stCs (ahead l c1 ++ [s9] ++ behind (l.take (k + 1)) c1))) := by
              show X.ownsRow _ _ _ _ _ _
              rw [HB2.out hd]; exact hO2
            have HR4 : Hid (RowAt X g4 [.int .u8 c0, .int .i64 c1, .int .u64 c2, .int .i64 c3, .bool cs, .int .u64 c5, .int .u64 c6, .int .i64 c7, .int .u8 c8, .int .i64 c9, .int .i64 c10, .int .i64 c11] 38) := r0
            have HR9 : Hid (RowAt X g9 [.int .i64 c1, .int .u64 c2, .int .i64 c3, .bool (c0 != 2)] 70) := r9
            clear HB1 HB2 hO2 r0 r9 rs
            go_wp2_with fail
            go_roundw
            case rel => exact ⟨k + 1, by omega, by go_num, hB2, HR4, HR9, HBX, HO3⟩
            case measure => simp [intOf]; omega
          · obtain ⟨Y, hY⟩ : ∃ Y, Y = X.alloc (.cells #[.int .i64 s0.router, .int .u64 (s0.seq : Int), .int .i64 s0.time, .bool s0.up] 70) := ⟨_, rfl⟩
            have hbY : Below X.heap.size X Y := by rw [hY]; exact below_new (Below.refl _ _) _
            have hOY := own_below hO2 hbY
            have hsrc : HasSts Y (.slice (some ⟨X.heap.size, 0, none⟩) 1 1) [s0] := by rw [hY]; exact one_has X s0
            have hBY := below2 hB2 hbY
            have hBBY := Nat.le_trans HBX.out hbY.size
            obtain ⟨v', w3, hrun, ho3, hg3⟩ := append_row info_seat Tryz.underlying22 rfl (by decide) hOY hsrc (one_seats [s0]) (by simp only [List.length_cons, List.length_nil]; omega) (by simp only [List.length_cons, List.length_nil]; omega) hBBY
            have hB3 : Below w.heap.size w w3 := hBY.grown hg3 hBY.size (fun k e => Nat.le_trans HWB.out (hOY.lt k e).1)
            have HB3 : Hid (B ≤ w3.heap.size) := Nat.le_trans hBBY hg3.size
            replace r0 := rows_kept (RowAt.below r0 hbY) hg3 (fun e => by have := (hOY.lt g4 e.symm).1; have := HG4.out; omega)
            replace r9 := rows_kept (RowAt.below r9 hbY) hg3 (fun e => by have := (hOY.lt g9 e.symm).1; have := HG9.out; omega)
            have HO3 : Hid (w3.ownsRow B 70 4 v' (ahead l c1 ++ [s9] ++ behind (l.take (k + 1)) c1).length (stCs (ahead l c1 ++ [s9] ++ behind (l.take (k + 1)) c1))) := by
              show w3.ownsRow _ _ _ _ _ _
              rw [HB1.out hd, stCs_app, List.length_append]; exact ho3
            have HR4 : Hid (RowAt w3 g4 [.int .u8 c0, .int .i64 c1, .int .u64 c2, .int .i64 c3, .bool cs, .int .u64 c5, .int .u64 c6, .int .i64 c7, .int .u8 c8, .int .i64 c9, .int .i64 c10, .int .i64 c11] 38) := r0
            have HR9 : Hid (RowAt w3 g9 [.int .i64 c1, .int .u64 c2, .int .i64 c3, .bool (c0 != 2)] 70) := r9
            rw [hY] at hrun
            clear HB1 HB2 hO2 r0 r9 rs hOY hsrc hBY hbY hBBY ho3 hg3 HBX
            go_wp2_with fail
            go_roundw
            case rel => exact ⟨k + 1, by omega, by go_num, hB3, HR4, HR9, HB3, HO3⟩
            case measure => simp [intOf]; omega
        · obtain rfl : k = n := by omega
          have htk : l.take k = l := List.take_of_length_le (by rw [← HN.out]; exact Nat.le_refl _)
          rw [htk] at HO
          clear htk hh
          go_wp2_with fail
          go_ret2
          exact ⟨u10, by rw [HR.out]; rfl, HFIN.out _ _ (by have := HO.out; rw [List.append_assoc] at this; exact hasRow_own this), hBr⟩
set_option maxHeartbeats 4000000 in
set_option maxRecDepth 20000 in
theorem rnext_bad (v : Value) (c0 c1 c2 c3 c5 c6 c7 c8 c9 c10 c11 : Int) (cs : Bool) (h : Int) (w : World) (y : Int) (hy : y = 2 ∨ y = 1)
    (k1 : ∀ W : World, Below w.heap.size w W → Calls Tryz.prog 35 #[v, .agg #[.int .u8 c0, .int .i64 c1, .int .u64 c2, .int .i64 c3, .bool cs, .int .u64 c5, .int .u64 c6, .int .i64 c7, .int .u8 c8, .int .i64 c9, .int .i64 c10, .int .i64 c11], .int .i64 h] W fun e w' => e = .returned (.int .i64 y) ∧ Below W.heap.size W w') :
    Calls Tryz.prog 39 #[v, .agg #[.int .u8 c0, .int .i64 c1, .int .u64 c2, .int .i64 c3, .bool cs, .int .u64 c5, .int .u64 c6, .int .i64 c7, .int .u8 c8, .int .i64 c9, .int .i64 c10, .int .i64 c11], .int .i64 h] w fun e w' => e = .returned (.tuple #[.slice none 0 0, .int .i64 y]) ∧ Below w.heap.size w w' := by
  obtain ⟨X, hX⟩ : ∃ X, X = w.alloc (.cells #[.int .u8 c0, .int .i64 c1, .int .u64 c2, .int .i64 c3, .bool cs, .int .u64 c5, .int .u64 c6, .int .i64 c7, .int .u8 c8, .int .i64 c9, .int .i64 c10, .int .i64 c11] 38) := ⟨_, rfl⟩
  have hB : Below w.heap.size w X := by rw [hX]; exact below_new (Below.refl _ _) _
  have r0 : RowAt X w.heap.size [.int .u8 c0, .int .i64 c1, .int .u64 c2, .int .i64 c3, .bool cs, .int .u64 c5, .int .u64 c6, .int .i64 c7, .int .u8 c8, .int .i64 c9, .int .i64 c10, .int .i64 c11] 38 := by rw [hX]; exact RowAt.new _ _ _
  go_enter Tryz.func39, Tryz.ntmps39
  go_upto_region 1 with fail
  rw [← hX]
  clear hX
  obtain ⟨⟨y0, y1, y2, y3, y4, y5⟩, ⟨y6, y7, y8, y9, y10, y11⟩, yf, hly⟩ := cells12' r0
  go_wp2_with fail
  go_at_call 35; refine (k1 _ hB).mono ?_; rintro e w1 ⟨rfl, hb⟩
  replace hB := below2 hB hb
  clear hb k1 y0 y1 y2 y3 y4 y5 y6 y7 y8 y9 y10 y11 yf hly r0
  rcases hy with rfl | rfl
  all_goals
    go_wp2_with fail
    go_ret2
    exact ⟨rfl, hB⟩
set_option maxHeartbeats 4000000 in
set_option maxRecDepth 20000 in
theorem rnext_no (o : Option Addr) (n cp : Nat) (l : List St) (c0 c1 c2 c3 c5 c6 c7 c8 c9 c10 c11 : Int) (cs : Bool) (h : Int) (w : World) (y : Int) (hy : y ≠ 0 ∧ y ≠ 1 ∧ y ≠ 2) (hl : HasSts w (.slice o n cp) l) (hn : n = l.length) (hn64 : n ≤ 64)
    (k1 : ∀ W : World, Below w.heap.size w W → Calls Tryz.prog 35 #[.slice o n cp, .agg #[.int .u8 c0, .int .i64 c1, .int .u64 c2, .int .i64 c3, .bool cs, .int .u64 c5, .int .u64 c6, .int .i64 c7, .int .u8 c8, .int .i64 c9, .int .i64 c10, .int .i64 c11], .int .i64 h] W fun e w' => e = .returned (.int .i64 y) ∧ Below W.heap.size W w') :
    Calls Tryz.prog 39 #[.slice o n cp, .agg #[.int .u8 c0, .int .i64 c1, .int .u64 c2, .int .i64 c3, .bool cs, .int .u64 c5, .int .u64 c6, .int .i64 c7, .int .u8 c8, .int .i64 c9, .int .i64 c10, .int .i64 c11], .int .i64 h] w fun e w' => ∃ u, e = .returned (.tuple #[u, .int .i64 y]) ∧ HasSts w' u l ∧ Below w.heap.size w w' := by
  obtain ⟨X, hX⟩ : ∃ X, X = w.alloc (.cells #[.int .u8 c0, .int .i64 c1, .int .u64 c2, .int .i64 c3, .bool cs, .int .u64 c5, .int .u64 c6, .int .i64 c7, .int .u8 c8, .int .i64 c9, .int .i64 c10, .int .i64 c11] 38) := ⟨_, rfl⟩
  have hB : Below w.heap.size w X := by rw [hX]; exact below_new (Below.refl _ _) _
  have r0 : RowAt X w.heap.size [.int .u8 c0, .int .i64 c1, .int .u64 c2, .int .i64 c3, .bool cs, .int .u64 c5, .int .u64 c6, .int .i64 c7, .int .u8 c8, .int .i64 c9, .int .i64 c10, .int .i64 c11] 38 := by rw [hX]; exact RowAt.new _ _ _
  have HL0 : Hid (∀ W : World, Below w.heap.size w W → HasSts W (.slice o n cp) l) := fun W hb => hl.keep hb
  have HN : Hid (n = l.length) := hn
  have q0 : (y == 0) = false := beq_eq_false_iff_ne.2 hy.1
  have q0' : (y != 0) = true := bne_iff_ne.2 hy.1
  have q1 : (y == 1) = false := beq_eq_false_iff_ne.2 hy.2.1
  have q2 : (y == 2) = false := beq_eq_false_iff_ne.2 hy.2.2
  clear hl hn hy
  go_enter Tryz.func39, Tryz.ntmps39
  go_upto_region 1 with fail
  rw [← hX]
  clear hX
  obtain ⟨⟨y0, y1, y2, y3, y4, y5⟩, ⟨y6, y7, y8, y9, y10, y11⟩, yf, hly⟩ := cells12' r0
  go_wp2_with fail
  go_at_call 35; refine (k1 _ hB).mono ?_; rintro e w1 ⟨rfl, hb⟩
  replace hB := below2 hB hb
  clear hb k1 y0 y1 y2 y3 y4 y5 y6 y7 y8 y9 y10 y11 yf hly r0
  have hbz := below_new (Below.refl _ w1) (.cells #[] 70)
  have hs := HL0.out _ (below2 hB hbz)
  obtain ⟨v', w3, hrun, ho3, hg3⟩ := append_row info_seat Tryz.underlying22 rfl (by decide) (empty_own w1 70 4) hs (one_seats l) (by rw [← HN.out]; omega) (by rw [← HN.out]; omega) (by simp)
  have hB3 : Below w1.heap.size w1 w3 := hbz.grown hg3 (by simp) (fun k e => by simp [Value.ownBlock] at e; omega)
  rw [Nat.zero_add, List.nil_append] at ho3
  have HO : Hid (HasSts w3 v' l) := hasRow_own ho3
  have hW := below2 hB hB3
  clear hs ho3 hg3 hB3 hbz hB HL0 HN
  go_wp2_with fail
  go_ret2
  exact ⟨v', rfl, HO.out, hW⟩
theorem mis_far (l : List St) (e : Ev) (h : Int) : misL l e h ≠ 1 ∧ misL l e h ≠ 2 := by
  unfold misL
  split
  · decide
  · split
    · decide
    · split
      · decide
      · split
        · decide
        · split <;> decide
theorem rnext_any (l : List St) (v : Value) (e : Ev) (h : Int) (w : World) (hl : HasSts w v l) (hf : FitE e) :
    Calls Tryz.prog 39 #[v, evV e, .int .i64 h] w fun r w' => ∃ u, r = .returned (.tuple #[u, .int .i64 (nextL l e h).2]) ∧ HasSts w' u (nextL l e h).1 ∧ Below w.heap.size w w' := by
  obtain ⟨o, c, rfl, hc1, hc2⟩ := HasRow.slice hl
  have k1 := fun (W : World) (hb : Below w.heap.size w W) => rmay_any l _ e h W (hl.keep hb) hf
  have hm := next_may l e h
  by_cases ha : askL l e h = 0
  · obtain ⟨hok, hoe, _, _⟩ := ask_ok ha
    have h64 := (okL_all hok).1
    have hmm : mayL l e h = misL l e h := by unfold mayL; rw [if_pos ha]
    by_cases hy : misL l e h = 0
    · have hnx : nextL l e h = (seatedL l ⟨e.router, e.seq, e.time, decide (e.kind ≠ 2)⟩, 0) := by unfold nextL; rw [if_pos ha, if_pos hy]
      rw [hnx]
      rw [hmm, hy] at k1
      refine rnext_yes o l.length c l _ _ _ _ _ _ _ _ _ _ _ _ h w ⟨e.router, e.seq, e.time, decide (e.kind ≠ 2)⟩ hl (rfl : l.length = l.length) (by omega) ⟨hc1, hc2⟩ ?_ k1 0 (rfl : (0 : Int) = 0) (fun W u => HasSts W u (seatedL l ⟨e.router, e.seq, e.time, decide (e.kind ≠ 2)⟩)) (fun W u hu => hu)
      show _ ∧ _ ∧ _ ∧ _
      refine ⟨rfl, rfl, rfl, ?_⟩
      show ((e.kind : Int) != 2) = decide (e.kind ≠ 2)
      rw [Bool.eq_iff_iff, bne_iff_ne, decide_eq_true_eq]; omega
    · have hnx : nextL l e h = (l, misL l e h) := by unfold nextL; rw [if_pos ha, if_neg hy]
      rw [hnx]
      rw [hmm] at k1
      exact rnext_no o l.length c l _ _ _ _ _ _ _ _ _ _ _ _ h w (misL l e h) ⟨hy, (mis_far l e h).1, (mis_far l e h).2⟩ hl rfl h64 k1
  · have hnx : nextL l e h = ([], askL l e h) := by unfold nextL; rw [if_neg ha]
    have hmm : mayL l e h = askL l e h := by unfold mayL; rw [if_neg ha]
    have hay : askL l e h = 2 ∨ askL l e h = 1 := by
      unfold askL at ha ⊢
      split
      · split
        · exact .inr rfl
        · rename_i h1 h2
          rw [if_pos h1, if_neg h2] at ha
          exact absurd rfl ha
      · exact .inl rfl
    rw [hnx]
    rw [hmm] at k1
    refine (rnext_bad _ _ _ _ _ _ _ _ _ _ _ _ _ h w (askL l e h) hay k1).mono ?_
    rintro r w' ⟨h1, h2⟩
    exact ⟨_, h1, hasRow_nil w' 4, h2⟩
end Go.Proofs.YtkjhnefbcnnjlaaGreat.Ord
namespace Go.Proofs.YtkjhnefbcnnjlaaGreat.Tr
open Go.RowKit Go.Shelf
open Go.Proofs.YtkjhnefbcnnjlaaGreat.Msg (eqP eqP_iff pf_neq)
open Go.Proofs.YtkjhnefbcnnjlaaGreat.Lk (HasRow append_row own_below hasRow_own)
open Go.Proofs.YtkjhnefbcnnjlaaGreat.Addr (Pf hiN loN RowAt below2 below_new RowAt.lt RowAt.cell RowAt.below RowAt.new RowAt.alloc cells4)
attribute [-go_sem] Builtin.append_
/-- a row of a call's own -/
structure Own1 (w W : World) (u : Value) (a : List Rt) : Prop where
  ou : W.ownsRow w.heap.size 98 6 u a.length (rtCs a)
  bl : Below w.heap.size w W
theorem Own1.below {w W W' : World} {u : Value} {a : List Rt} (h : Own1 w W u a) (hb : Below W.heap.size W W') : Own1 w W' u a := ⟨own_below h.ou hb, below2 h.bl hb⟩
theorem Own1.app {w W : World} {u x : Value} {a m : List Rt} (h : Own1 w W u a) (hx : HasRts W x m) (hb : a.length + m.length ≤ 1000000) :
    ∃ v' w3, (∀ ty, (Builtin.append_ #[48, 48] ty #[u, x]).run Tryz.prog W = .ok v' w3) ∧ Own1 w w3 v' (a ++ m) := by
  obtain ⟨v', w3, hrun, h1, h2⟩ := append_row info_rt Tryz.underlying48 rfl (by decide) h.ou hx (one_routes m) (by omega) (by omega) h.bl.size
  refine ⟨v', w3, hrun, by rw [← List.length_append, ← rtCs_app] at h1; exact h1, ?_⟩
  exact h.bl.grown h2 h.bl.size (fun k e => (h.ou.lt k e).1)
theorem lit_rt (W : World) (x : Rt) : HasRts (W.alloc (.cells #[.bool x.pf.six, .int .u64 (hiN x.pf.n : Int), .int .u64 (loN x.pf.n : Int), .int .i64 x.pf.len, .int .u8 (x.act.k : Int), .int .i64 x.act.i] 98)) (.slice (some ⟨W.heap.size, 0, none⟩) 1 1) [x] := by
  refine ⟨rfl, .inr ⟨⟨W.heap.size, 0, none⟩, 1, rfl, Nat.le_refl _, by decide, fun _ => ⟨rfl, by simp⟩, fun j hj => ?_⟩⟩
  rw [Lk.addr_add, Nat.zero_add]
  exact (RowAt.new W (rtC x) 98).cell j
theorem filter_snocR (p : Rt → Bool) (l : List Rt) (k : Nat) (h : k < l.length) : (l.take (k + 1)).filter p = (l.take k).filter p ++ (if p l[k] then [l[k]] else []) := by
  rw [List.take_succ_eq_append_getElem h, List.filter_append]
  congr 1
  cases hp : p l[k] <;> simp [hp]
theorem filter_leR (p : Rt → Bool) (l : List Rt) (k : Nat) : ((l.take k).filter p).length ≤ l.length := Nat.le_trans (List.length_filter_le _ _) (by rw [List.length_take]; omega)
theorem others_eqP (l : List Rt) (p : Pf) : othersT l p = l.filter (fun s => !eqP s.pf p) := by
  unfold othersT
  congr 1
  funext s
  congr 1
  rw [Bool.eq_iff_iff, decide_eq_true_eq, eqP_iff, ordP_eq]
set_option maxHeartbeats 8000000 in
set_option maxRecDepth 20000 in
theorem without_any (l : List Rt) (v : Value) (p : Pf) (w : World) (hl : HasRts w v l) (hlen : l.length ≤ 1000) :
    Calls Tryz.prog 95 #[v, .agg #[.bool p.six, .int .u64 (hiN p.n : Int), .int .u64 (loN p.n : Int), .int .i64 p.len]] w fun e w' => ∃ u, e = .returned u ∧ HasRts w' u (othersT l p) ∧ Below w.heap.size w w' := by
  obtain ⟨o, c, rfl, hc1, hc2⟩ := Lk.HasRow.slice hl
  rw [others_eqP]
  obtain ⟨X, hX⟩ : ∃ X, X = w.alloc (.cells #[.bool p.six, .int .u64 (hiN p.n : Int), .int .u64 (loN p.n : Int), .int .i64 p.len] 33) := ⟨_, rfl⟩
  have hB : Below w.heap.size w X := by rw [hX]; exact below_new (Below.refl _ _) _
  have r0 : RowAt X w.heap.size [.bool p.six, .int .u64 (hiN p.n : Int), .int .u64 (loN p.n : Int), .int .i64 p.len] 33 := by rw [hX]; exact RowAt.new _ _ _
  have HR : Hid (∀ wr : World, Below X.heap.size X wr → HasRts wr (.slice o l.length c) l) := fun wr hb => (hl.keep hB).keep hb
  have HNE : Hid (∀ (s : Rt) (W : World), (binOp .neq 33 (.agg #[.bool s.pf.six, .int .u64 (hiN s.pf.n : Int), .int .u64 (loN s.pf.n : Int), .int .i64 s.pf.len]) (.agg #[.bool p.six, .int .u64 (hiN p.n : Int), .int .u64 (loN p.n : Int), .int .i64 p.len])).run Tryz.prog W = .ok (.bool (!eqP s.pf p)) W) := fun s W => pf_neq s.pf p W
  obtain ⟨n, hn⟩ : ∃ n, n = l.length := ⟨_, rfl⟩
  have HN : Hid (n = l.length) := hn
  rw [← hn] at HR hc1 hlen ⊢
  have hni : (n : Int) ≤ 1000 := by omega
  have H0 : Hid (Own1 X X (.slice none 0 0) ((l.take 0).filter (fun s => !eqP s.pf p))) := ⟨World.ownsRow_nil _ _ _ _, Below.refl _ _⟩
  have HF : Hid (∀ k (h : k < l.length), (l.take (k + 1)).filter (fun s => !eqP s.pf p) = (l.take k).filter (fun s => !eqP s.pf p) ++ (if !eqP l[k].pf p then [l[k]] else [])) := fun k h => filter_snocR _ l k h
  have HE : Hid (∀ u W, Own1 X W u (l.filter (fun s => !eqP s.pf p)) → HasRts W u (l.filter (fun s => !eqP s.pf p))) := fun u W h => hasRow_own h.ou
  have HLe : Hid (∀ k, ((l.take k).filter (fun s => !eqP s.pf p)).length ≤ 1000) := fun k => Nat.le_trans (filter_leR _ l k) (by rw [← hn]; exact hlen)
  clear hl hn
  generalize hp0 : p.six = p0 at *
  generalize hp1 : (hiN p.n : Int) = p1 at *
  generalize hp2 : (loN p.n : Int) = p2 at *
  generalize hp3 : p.len = p3 at *
  clear hp0 hp1 hp2 hp3
  go_enter Tryz.func95, Tryz.ntmps95
  go_upto_region 2 with fail
  rw [← hX]
  clear hX
  go_wp2_with fail
  go_loopw [5, 10] (fun u q wr => ∃ k : Nat, k ≤ n ∧ q = .int .i64 k ∧ Hid (Own1 X wr u ((l.take k).filter (fun s => !eqP s.pf p)))) (fun _ q _ => n - (Go.RowKit.intOf q).toNat)
  case atStart => exact ⟨0, by omega, rfl, H0⟩
  case round =>
    obtain ⟨k, hk, rfl, HI⟩ := hrel
    have hI := HI.out
    by_cases hlt : k < n
    · have hkz : k < l.length := by rw [← HN.out]; exact hlt
      obtain ⟨g1, i1, rfl, hg1, ax⟩ := HasRts.cell (HR.out _ hI.bl) k hkz
      obtain ⟨a0, a1, a2, a3, a4, a5⟩ := six_at ax
      clear ax
      have HA := HF.out k hkz
      have hle := HLe.out k
      obtain ⟨x, hx⟩ : ∃ x : Rt, x = l[k] := ⟨_, rfl⟩
      rw [← hx] at HA a0 a1 a2 a3 a4 a5
      replace HA : Hid ((l.take (k + 1)).filter (fun s => !eqP s.pf p) = (l.take k).filter (fun s => !eqP s.pf p) ++ (if !eqP x.pf p then [x] else [])) := HA
      have hne := HNE.out x
      clear hx
      have hki : (k : Int) < (n : Int) := by omega
      have HLT : Hid (∀ W : World, HasRts (W.alloc (.cells #[.bool x.pf.six, .int .u64 (hiN x.pf.n : Int), .int .u64 (loN x.pf.n : Int), .int .i64 x.pf.len, .int .u8 (x.act.k : Int), .int .i64 x.act.i] 98)) (.slice (some ⟨W.heap.size, 0, none⟩) 1 1) [x]) := fun W => lit_rt W x
      generalize eqP x.pf p = E at hne HA
      generalize x.pf.six = s0 at *
      generalize (hiN x.pf.n : Int) = s1 at *
      generalize (loN x.pf.n : Int) = s2 at *
      generalize x.pf.len = s3 at *
      generalize (x.act.k : Int) = s4 at *
      generalize x.act.i = s5 at *
      obtain ⟨Y, hY⟩ : ∃ Y, Y = wr.alloc (.cells #[.bool s0, .int .u64 s1, .int .u64 s2, .int .i64 s3, .int .u8 s4, .int .i64 s5] 98) := ⟨_, rfl⟩
      have hbY : Below wr.heap.size wr Y := by rw [hY]; exact below_new (Below.refl _ _) _
      have rY : RowAt Y wr.heap.size [.bool s0, .int .u64 s1, .int .u64 s2, .int .i64 s3, .int .u8 s4, .int .i64 s5] 98 := by rw [hY]; exact RowAt.new _ _ _
      go_upto_region 5 with fail
      rw [← hY]
      clear hY a0 a1 a2 a3 a4 a5 hg1
      replace hI := hI.below hbY
      obtain ⟨gy, hgy⟩ : ∃ gy, gy = wr.heap.size := ⟨_, rfl⟩
      rw [← hgy] at rY ⊢
      clear hgy hbY
      obtain ⟨y0, y1, y2, y3, y4, y5, yf⟩ := six_of rY
      obtain ⟨q0, q1, q2, q3, qf⟩ := cells4 (RowAt.below r0 hI.bl)
      cases E
      · obtain ⟨v', w3, hrun, hO⟩ := (hI.below (below_new (Below.refl _ Y) (.cells #[.bool s0, .int .u64 s1, .int .u64 s2, .int .i64 s3, .int .u8 s4, .int .i64 s5] 98))).app (HLT.out Y) (by simp only [List.length_cons, List.length_nil]; omega)
        have HO : Hid (Own1 X w3 v' ((l.take (k + 1)).filter (fun s => !eqP s.pf p))) := by
          show Own1 _ _ _ _
          rw [HA.out]
          exact hO
        clear hO hI HA HI rY HLT
        go_wp2_with fail
        go_roundw
        case rel => exact ⟨k + 1, by omega, by go_num, HO⟩
        case measure => simp [Go.RowKit.intOf]; omega
      · have HO : Hid (Own1 X Y u5 ((l.take (k + 1)).filter (fun s => !eqP s.pf p))) := by
          show Own1 _ _ _ _
          rw [HA.out]
          simpa using hI
        clear hI HA HI rY HLT
        go_wp2_with fail
        go_roundw
        case rel => exact ⟨k + 1, by omega, by go_num, HO⟩
        case measure => simp [Go.RowKit.intOf]; omega
    · have hkf : decide ((k : Int) < (n : Int)) = false := decide_eq_false (by omega)
      rw [List.take_of_length_le (by rw [← HN.out]; omega)] at hI
      have hh := HE.out _ _ hI
      have hbl := below2 hB hI.bl
      clear HI hI
      go_wp2_with fail
      go_ret
      exact ⟨_, rfl, hh, hbl⟩
end Go.Proofs.YtkjhnefbcnnjlaaGreat.Tr
