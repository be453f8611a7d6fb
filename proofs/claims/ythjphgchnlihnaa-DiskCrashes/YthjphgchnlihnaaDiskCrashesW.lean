/- For every disk, list of what is kept, and numbers: what spoorlaw03.DiskCrashes returns. -/
import Derived.Test.YthjphgchnlihnaaRows
import Derived.Test.YthjphgchnlihnaaDiskRef8
import Derived.Test.YthjphgchnlihnaaDiskSame
import Derived.Test.YthjphgchnlihnaaDiskOpen2
import Derived.Test.YthjphgchnlihnaaDiskLives
import Derived.Test.YthjphgchnlihnaaQuietBelow
set_option linter.unusedVariables false
namespace Go.Proofs.Ythjphgchnlihnaa.Disk
open Go.RowKit Go.Shelf

theorem small_out' (d : Dk) (r : Dk × Int) (h : Ok d → r.1.secs.length ≤ 10000000000000 ∧ r.1.cache.length ≤ 10000000000000) : (outD d r).1.secs.length ≤ 10000000000000 ∧ (outD d r).1.cache.length ≤ 10000000000000 := by
  unfold outD
  split
  · rename_i hk; exact h (ok_of hk)
  · exact ⟨Nat.zero_le _, Nat.zero_le _⟩
def StrsBack (zs : List (List UInt8)) (y : Int) (w : World) (e : Ending) (w' : World) : Prop := ∃ o c, e = .returned (.tuple #[.slice o zs.length c, .int .i64 y]) ∧ HasStrs w' (.slice o zs.length c) zs ∧ Below w.heap.size w w'
theorem strsBack_of {r : List (List UInt8) × Int} {w : World} {e : Ending} {w' : World} (h : StrsIs r w e w') : StrsBack r.1 r.2 w e w' := by
  obtain ⟨u, rfl, hs, hb⟩ := h
  obtain ⟨o, c, rfl, _, _⟩ := HasRow.slice hs
  exact ⟨o, c, rfl, hs, hb⟩
set_option maxHeartbeats 8000000 in
theorem crashes_any (v0 : Value) (D0 : Dk) (v1 : Value) (z1 : List Bool) (a2 a3 a4 : Int) (w : World) (b0 : HasDk w v0 D0) (f0 : Fits D0) (b1 : HasRow w v1 1 z1.length (z1.map Value.bool)) (b2 : -9223372036854775808 ≤ a2 ∧ a2 ≤ 9223372036854775807) (b3 : -9223372036854775808 ≤ a3 ∧ a3 ≤ 9223372036854775807) (b4 : -9223372036854775808 ≤ a4 ∧ a4 ≤ 9223372036854775807)
    (crc : ∀ W v, HasDk W v D0 → HasRow W v1 1 z1.length (z1.map Value.bool) → Calls Try.prog 18 #[v, v1, .int .i64 a2, .int .i64 a3] W (DiskIs (outD D0 (crashD D0 z1 a2 a3)) W)) :
    Calls Try.prog 4 #[v0, v1, .int .i64 a2, .int .i64 a3, .int .i64 a4] w fun e w' => e = .returned (.bool true) ∧ Below w.heap.size w w' := by
  have cw := fun W v (h : HasDk W v D0) (hk : HasRow W v1 1 z1.length (z1.map Value.bool)) => (crash_fn D0 v v1 z1 a2 a3 W h f0 hk b2 b3).mono (fun e w' h => back_of h)
  have crw := fun W v (h : HasDk W v D0) (hk : HasRow W v1 1 z1.length (z1.map Value.bool)) => (crc W v h hk).mono (fun e w' h => back_of h)
  have ch := fun W v (h : HasDk W v D0) => (held_fn D0 v W h f0).mono (fun e w' h => strsBack_of h)
  have crh := fun W v (h : HasDk W v D0) => (rheld_any D0 v W h f0).mono (fun e w' h => strsBack_of h)
  have cm := fun W => (make_fn a4 W b4).mono (fun e w' h => back_of h)
  have crm := fun W => (rmake_any a4 W b4).mono (fun e w' h => back_of h)
  have hs1 : (outD D0 (crashD D0 z1 a2 a3)).1.secs.length ≤ 10000000000000 ∧ (outD D0 (crashD D0 z1 a2 a3)).1.cache.length ≤ 10000000000000 := small_out' _ _ (fun hk => by
    have := hk.many
    exact ⟨by show (settleF _ 0 D0.secs D0.cache).length ≤ _; rw [settleF_len]; omega, Nat.zero_le _⟩)
  have hs2 : (makeD a4).1.secs.length ≤ 10000000000000 ∧ (makeD a4).1.cache.length ≤ 10000000000000 := by
    unfold makeD
    split
    · exact ⟨by show (List.replicate _ _).length ≤ _; rw [List.length_replicate]; omega, Nat.zero_le _⟩
    · exact ⟨Nat.zero_le _, Nat.zero_le _⟩
  have hs3 : (heldD D0).1.length ≤ 9223372036854775807 := by
    unfold heldD
    split
    · rename_i hk; show (settleF _ 0 D0.secs D0.cache).length ≤ _; rw [settleF_len]; have := (ok_of hk).many; omega
    · exact Nat.zero_le _
  generalize outD D0 (crashD D0 z1 a2 a3) = r1 at cw crw hs1
  generalize makeD a4 = r2 at cm crm hs2
  generalize heldD D0 = r3 at ch crh hs3
  obtain ⟨d1, y1⟩ := r1
  obtain ⟨d2, y2⟩ := r2
  obtain ⟨zs, y3⟩ := r3
  simp only at cw crw ch crh cm crm hs1 hs2 hs3
  have csm1 := fun W v u (h : HasDk W v d1) (g : HasDk W u d1) => rsame_any d1 v u W h g hs1.1 hs1.2
  have csm2 := fun W v u (h : HasDk W v d2) (g : HasDk W u d2) => rsame_any d2 v u W h g hs2.1 hs2.2
  unfold Back at cw crw cm crm
  unfold StrsBack at ch crh
  clear hs1 hs2 crc
  obtain ⟨so0, sc0, co0, cc0, rfl, hs0, hc0⟩ := b0.parts
  obtain ⟨X0, hX0⟩ : ∃ X, X = w.alloc (.cells #[.slice so0 D0.secs.length sc0, .slice co0 D0.cache.length cc0, .int .i64 D0.fuse, .bool D0.off] 25) := ⟨_, rfl⟩
  have hB0 : Below w.heap.size w X0 := by rw [hX0]; exact (Below.refl _ w).alloc (Nat.le_refl _) _
  have V0 : Hid (VDk X0 w.heap.size D0) := by rw [hX0]; exact VDk.new hs0 hc0
  have K : Hid (HasRow X0 v1 1 z1.length (z1.map Value.bool)) := HasRow.keep' b1 hB0
  obtain ⟨ko, kc, rfl, _, _⟩ := HasRow.slice b1
  clear hs0 hc0 b0 f0 b1
  go_enter Try.func4, Try.ntmps4
  go_upto_region 1 with fail
  rw [← hX0]
  clear hX0
  obtain ⟨sxo, sxc, cxo, cxc, vb, hs, hc⟩ := V0.out
  obtain ⟨q0, q1, q2, q3, qf⟩ := vb.cells
  go_wp2_with fail
  go_at_call 17; refine (cw _ _ ⟨_, _, rfl, hs, hc⟩ K.out).mono ?_; rintro e w1 ⟨so1, sc1, co1, cc1, rfl, hs1, hc1, hb⟩
  obtain ⟨X1, hX1⟩ : ∃ X, X = w1.alloc (.cells #[.slice so1 d1.secs.length sc1, .slice co1 d1.cache.length cc1, .int .i64 d1.fuse, .bool d1.off] 25) := ⟨_, rfl⟩
  have hba : Below X0.heap.size X0 X1 := by rw [hX1]; exact hb.alloc hb.size _
  obtain ⟨b1, hbb1⟩ : ∃ b, b = w1.heap.size := ⟨_, rfl⟩
  have W1 : Hid (VDk X1 b1 d1) := by rw [hX1, hbb1]; exact VDk.new hs1 hc1
  go_upto_region 2 with fail
  rw [← hX1, ← hbb1]
  have V0 : Hid (VDk X1 w.heap.size D0) := V0.out.below hba
  have K : Hid (HasRow X1 (.slice ko z1.length kc) 1 z1.length (z1.map Value.bool)) := HasRow.keep' K.out hba
  have hB1 : Below w.heap.size w X1 := below2 hB0 hba
  clear hX1 hbb1 hba hb hs1 hc1 hB0 hs hc vb q0 q1 q2 q3 qf
  obtain ⟨sxo, sxc, cxo, cxc, vb, hs, hc⟩ := V0.out
  obtain ⟨q0, q1, q2, q3, qf⟩ := vb.cells
  go_wp2_with fail
  go_at_call 18; refine (crw _ _ ⟨_, _, rfl, hs, hc⟩ K.out).mono ?_; rintro e w2 ⟨so2, sc2, co2, cc2, rfl, hs1, hc1, hb⟩
  obtain ⟨X2, hX2⟩ : ∃ X, X = w2.alloc (.cells #[.slice so2 d1.secs.length sc2, .slice co2 d1.cache.length cc2, .int .i64 d1.fuse, .bool d1.off] 25) := ⟨_, rfl⟩
  have hba : Below X1.heap.size X1 X2 := by rw [hX2]; exact hb.alloc hb.size _
  obtain ⟨b2, hbb2⟩ : ∃ b, b = w2.heap.size := ⟨_, rfl⟩
  have W2 : Hid (VDk X2 b2 d1) := by rw [hX2, hbb2]; exact VDk.new hs1 hc1
  go_upto_region 3 with fail
  rw [← hX2, ← hbb2]
  have V0 : Hid (VDk X2 w.heap.size D0) := V0.out.below hba
  have W1 : Hid (VDk X2 b1 d1) := W1.out.below hba
  have K : Hid (HasRow X2 (.slice ko z1.length kc) 1 z1.length (z1.map Value.bool)) := HasRow.keep' K.out hba
  have hB2 : Below w.heap.size w X2 := below2 hB1 hba
  clear hX2 hbb2 hba hb hs1 hc1 hB1 hs hc vb q0 q1 q2 q3 qf
  obtain ⟨sxo, sxc, cxo, cxc, vb, hs, hc⟩ := V0.out
  obtain ⟨q0, q1, q2, q3, qf⟩ := vb.cells
  go_wp2_with fail
  go_at_call 19; refine (ch _ _ ⟨_, _, rfl, hs, hc⟩).mono ?_; rintro e w3 ⟨ro3, rc3, rfl, hr, hb⟩
  have V0 : Hid (VDk w3 w.heap.size D0) := V0.out.below hb
  have W1 : Hid (VDk w3 b1 d1) := W1.out.below hb
  have W2 : Hid (VDk w3 b2 d1) := W2.out.below hb
  have K : Hid (HasRow w3 (.slice ko z1.length kc) 1 z1.length (z1.map Value.bool)) := HasRow.keep' K.out hb
  have hB3 : Below w.heap.size w w3 := below2 hB2 hb
  have R3 : Hid (HasStrs w3 (.slice ro3 zs.length rc3) zs) := hr
  clear hb hr hs hc vb q0 q1 q2 q3 qf hB2
  go_upto_region 4 with fail
  obtain ⟨sxo, sxc, cxo, cxc, vb, hs, hc⟩ := V0.out
  obtain ⟨q0, q1, q2, q3, qf⟩ := vb.cells
  go_wp2_with fail
  go_at_call 20; refine (crh _ _ ⟨_, _, rfl, hs, hc⟩).mono ?_; rintro e w4 ⟨ro4, rc4, rfl, hr, hb⟩
  have V0 : Hid (VDk w4 w.heap.size D0) := V0.out.below hb
  have W1 : Hid (VDk w4 b1 d1) := W1.out.below hb
  have W2 : Hid (VDk w4 b2 d1) := W2.out.below hb
  have K : Hid (HasRow w4 (.slice ko z1.length kc) 1 z1.length (z1.map Value.bool)) := HasRow.keep' K.out hb
  have R3 : Hid (HasStrs w4 (.slice ro3 zs.length rc3) zs) := R3.out.keep hb
  have hB4 : Below w.heap.size w w4 := below2 hB3 hb
  have R4 : Hid (HasStrs w4 (.slice ro4 zs.length rc4) zs) := hr
  clear hb hr hs hc vb q0 q1 q2 q3 qf hB3
  go_upto_region 5 with fail
  go_wp2_with fail
  go_at_call 21; refine (cm _).mono ?_; rintro e w5 ⟨so5, sc5, co5, cc5, rfl, hs1, hc1, hb⟩
  obtain ⟨X5, hX5⟩ : ∃ X, X = w5.alloc (.cells #[.slice so5 d2.secs.length sc5, .slice co5 d2.cache.length cc5, .int .i64 d2.fuse, .bool d2.off] 25) := ⟨_, rfl⟩
  have hba : Below w4.heap.size w4 X5 := by rw [hX5]; exact hb.alloc hb.size _
  obtain ⟨b5, hbb5⟩ : ∃ b, b = w5.heap.size := ⟨_, rfl⟩
  have W5 : Hid (VDk X5 b5 d2) := by rw [hX5, hbb5]; exact VDk.new hs1 hc1
  go_upto_region 6 with fail
  rw [← hX5, ← hbb5]
  have V0 : Hid (VDk X5 w.heap.size D0) := V0.out.below hba
  have W1 : Hid (VDk X5 b1 d1) := W1.out.below hba
  have W2 : Hid (VDk X5 b2 d1) := W2.out.below hba
  have K : Hid (HasRow X5 (.slice ko z1.length kc) 1 z1.length (z1.map Value.bool)) := HasRow.keep' K.out hba
  have R3 : Hid (HasStrs X5 (.slice ro3 zs.length rc3) zs) := R3.out.keep hba
  have R4 : Hid (HasStrs X5 (.slice ro4 zs.length rc4) zs) := R4.out.keep hba
  have hB5 : Below w.heap.size w X5 := below2 hB4 hba
  clear hX5 hbb5 hba hb hs1 hc1 hB4
  go_wp2_with fail
  go_at_call 22; refine (crm _).mono ?_; rintro e w6 ⟨so6, sc6, co6, cc6, rfl, hs1, hc1, hb⟩
  obtain ⟨X6, hX6⟩ : ∃ X, X = w6.alloc (.cells #[.slice so6 d2.secs.length sc6, .slice co6 d2.cache.length cc6, .int .i64 d2.fuse, .bool d2.off] 25) := ⟨_, rfl⟩
  have hba : Below X5.heap.size X5 X6 := by rw [hX6]; exact hb.alloc hb.size _
  obtain ⟨b6, hbb6⟩ : ∃ b, b = w6.heap.size := ⟨_, rfl⟩
  have W6 : Hid (VDk X6 b6 d2) := by rw [hX6, hbb6]; exact VDk.new hs1 hc1
  go_upto_region 7 with fail
  rw [← hX6, ← hbb6]
  have V0 : Hid (VDk X6 w.heap.size D0) := V0.out.below hba
  have W1 : Hid (VDk X6 b1 d1) := W1.out.below hba
  have W2 : Hid (VDk X6 b2 d1) := W2.out.below hba
  have W5 : Hid (VDk X6 b5 d2) := W5.out.below hba
  have K : Hid (HasRow X6 (.slice ko z1.length kc) 1 z1.length (z1.map Value.bool)) := HasRow.keep' K.out hba
  have R3 : Hid (HasStrs X6 (.slice ro3 zs.length rc3) zs) := R3.out.keep hba
  have R4 : Hid (HasStrs X6 (.slice ro4 zs.length rc4) zs) := R4.out.keep hba
  have hB6 : Below w.heap.size w X6 := below2 hB5 hba
  clear hX6 hbb6 hba hb hs1 hc1 hB5
  clear K V0 cw crw ch crh cm crm
  have HR : Hid (∀ wr, Below X6.heap.size X6 wr → HasStrs wr (.slice ro3 zs.length rc3) zs ∧ HasStrs wr (.slice ro4 zs.length rc4) zs) := fun wr hb => ⟨R3.out.keep hb, R4.out.keep hb⟩
  clear R3 R4
  obtain ⟨n, hn⟩ : ∃ n, n = zs.length := ⟨_, rfl⟩
  have HN : Hid (n = zs.length) := hn
  have hn9 : (n : Int) ≤ 9223372036854775807 := by omega
  have hnn : ((n : Int) != (n : Int)) = false := by simp
  simp only [← hn] at HR ⊢
  clear hn hs3
  go_wp2_with fail
  go_loopw [67] (fun i wr => ∃ k : Nat, k ≤ n ∧ i = .int .i64 k ∧ Below X6.heap.size X6 wr) (fun i _ => n - (intOf i).toNat)
  case atStart => exact ⟨0, by omega, rfl, Below.refl _ _⟩
  case round =>
    obtain ⟨k, hk, rfl, hB⟩ := hrel
    obtain ⟨hsa, hsb⟩ := HR.out _ hB
    by_cases hlt : k < n
    · have hkz : k < zs.length := by rw [← HN.out]; exact hlt
      obtain ⟨g1, i1, rfl, _, c1⟩ := HasStrs.cell hsa k hkz
      obtain ⟨g2, i2, rfl, _, c2⟩ := HasStrs.cell hsb k hkz
      unfold strV at c1 c2
      generalize (⟨(zs[k]).toArray⟩ : ByteArray) = Z at c1 c2
      have hki : (k : Int) < (n : Int) := by omega
      clear hsa hsb
      go_wp2_with fail
      go_quiet (fail)
      go_wp2_with fail
      go_roundw
      case rel => exact ⟨k + 1, by omega, by go_num, by first | exact hB | exact hB.drew | exact below_drewN hB _⟩
      case measure => simp [intOf]; omega
    · clear hsa hsb
      have hBw := below2 hB6 hB
      have V1 : Hid (VDk wr b1 d1) := W1.out.below hB
      have V2 : Hid (VDk wr b2 d1) := W2.out.below hB
      have V5 : Hid (VDk wr b5 d2) := W5.out.below hB
      have V6 : Hid (VDk wr b6 d2) := W6.out.below hB
      clear W1 W2 W5 W6 HR
      go_wp2_with fail
      go_at_call 13; refine (lives_any _).mono ?_; rintro e u1 ⟨rfl, hb⟩
      have V1 : Hid (VDk u1 b1 d1) := V1.out.below hb
      have V2 : Hid (VDk u1 b2 d1) := V2.out.below hb
      have V5 : Hid (VDk u1 b5 d2) := V5.out.below hb
      have V6 : Hid (VDk u1 b6 d2) := V6.out.below hb
      have hBw := below2 hBw hb
      obtain ⟨s1, s1c, c1, c1c, vb1, hs1, hc1⟩ := V1.out
      obtain ⟨s2, s2c, c2, c2c, vb2, hs2, hc2⟩ := V2.out
      obtain ⟨p0, p1, p2, p3, pf⟩ := vb1.cells
      obtain ⟨q0, q1, q2, q3, qf⟩ := vb2.cells
      go_wp2_with fail
      go_at_call 14; refine (csm1 _ _ _ ⟨_, _, rfl, hs1, hc1⟩ ⟨_, _, rfl, hs2, hc2⟩).mono ?_; rintro e u2 ⟨rfl, hb2⟩
      have V5 : Hid (VDk u2 b5 d2) := V5.out.below hb2
      have V6 : Hid (VDk u2 b6 d2) := V6.out.below hb2
      have hBw := below2 hBw hb2
      clear p0 p1 p2 p3 pf q0 q1 q2 q3 qf vb1 vb2 hs1 hc1 hs2 hc2 V1 V2 hb hb2
      obtain ⟨s5, s5c, c5, c5c, vb5, hs5, hc5⟩ := V5.out
      obtain ⟨s6, s6c, c6, c6c, vb6, hs6, hc6⟩ := V6.out
      obtain ⟨p0, p1, p2, p3, pf⟩ := vb5.cells
      obtain ⟨q0, q1, q2, q3, qf⟩ := vb6.cells
      go_wp2_with fail
      go_at_call 14; refine (csm2 _ _ _ ⟨_, _, rfl, hs5, hc5⟩ ⟨_, _, rfl, hs6, hc6⟩).mono ?_; rintro e u3 ⟨rfl, hb3⟩
      have hBw := below2 hBw hb3
      go_wp2
      go_ret
      exact ⟨rfl, hBw⟩
end Go.Proofs.Ythjphgchnlihnaa.Disk
