/- For every disk, sector and text: what spoorlaw03.DiskWorks returns. -/
import Derived.Test.YthjphgchnlihnaaRows
import Derived.Test.YthjphgchnlihnaaDiskRef5
import Derived.Test.YthjphgchnlihnaaDiskSame
import Derived.Test.YthjphgchnlihnaaDiskOpen2
import Derived.Test.YthjphgchnlihnaaDiskLives
import Derived.Test.YthjphgchnlihnaaQuietBelow
set_option linter.unusedVariables false
namespace Go.Proofs.Ythjphgchnlihnaa.Disk
open Go.RowKit Go.Shelf

theorem small_out (d : Dk) (r : Dk × Int) (h : Ok d → r.1.secs.length ≤ 10000000000000 ∧ r.1.cache.length ≤ 10000000000000) : (outD d r).1.secs.length ≤ 10000000000000 ∧ (outD d r).1.cache.length ≤ 10000000000000 := by
  unfold outD
  split
  · rename_i hk; exact h (ok_of hk)
  · exact ⟨Nat.zero_le _, Nat.zero_le _⟩
set_option maxHeartbeats 8000000 in
theorem works_any (v0 : Value) (D0 : Dk) (a1 : Int) (a2 : ByteArray) (w : World) (b0 : HasDk w v0 D0) (f0 : Fits D0) (s0 : D0.secs.length ≤ 8796093022208 ∧ D0.cache.length ≤ 5864062014805) (b1 : -9223372036854775808 ≤ a1 ∧ a1 ≤ 9223372036854775807) (b2 : a2.size ≤ 140737488351232) :
    Calls Try.prog 3 #[v0, .int .i64 a1, .string a2] w fun e w' => e = .returned (.bool true) ∧ Below w.heap.size w w' := by
  obtain ⟨data, rfl, hdl⟩ := str_list a2
  have ccp := fun W v (h : HasDk W v D0) => rcopy_any D0 v W h s0.1 s0.2
  have cw := fun W v (h : HasDk W v D0) => (write_fn D0 v a1 data W h f0 b1 (by omega)).mono (fun e w' h => back_of h)
  have crw := fun W v (h : HasDk W v D0) => (rwrite_any D0 v a1 data W h f0 b1 (by omega)).mono (fun e w' h => back_of h)
  have cf := fun W v (h : HasDk W v D0) => (flush_fn D0 v W h f0 ).mono (fun e w' h => back_of h)
  have crf := fun W v (h : HasDk W v D0) => (rflush_any D0 v W h f0 ).mono (fun e w' h => back_of h)
  have cr := fun W v (h : HasDk W v D0) => read_fn D0 v a1 W h f0 b1
  have crr := fun W v (h : HasDk W v D0) => rread_any D0 v a1 W h f0 b1
  have cck := fun W v (h : HasDk W v D0) => check_any D0 v W h f0
  have crck := fun W v (h : HasDk W v D0) => rcheck_any D0 v W h f0
  have csm0 := fun W v u (h : HasDk W v D0) (g : HasDk W u D0) => rsame_any D0 v u W h g (by omega) (by omega)
  have hsw : (outD D0 (writeD D0 a1 data)).1.secs.length ≤ 10000000000000 ∧ (outD D0 (writeD D0 a1 data)).1.cache.length ≤ 10000000000000 := small_out _ _ (fun hk => ⟨by have := (writeD_small hk a1 data).2.2.1; omega, by have := (writeD_small hk a1 data).2.2.2; omega⟩)
  have hsf : (outD D0 (flushD D0)).1.secs.length ≤ 10000000000000 ∧ (outD D0 (flushD D0)).1.cache.length ≤ 10000000000000 := small_out _ _ (fun hk => ⟨by have := (flushD_small hk).2.2.1; omega, by have := (flushD_small hk).2.2.2; omega⟩)
  generalize outD D0 (writeD D0 a1 data) = r1 at cw crw hsw
  generalize outD D0 (flushD D0) = r2 at cf crf hsf
  obtain ⟨d1, y1⟩ := r1
  obtain ⟨d2, y2⟩ := r2
  simp only at cw crw cf crf hsw hsf
  have csm1 := fun W v u (h : HasDk W v d1) (g : HasDk W u d1) => rsame_any d1 v u W h g hsw.1 hsw.2
  have csm2 := fun W v u (h : HasDk W v d2) (g : HasDk W u d2) => rsame_any d2 v u W h g hsf.1 hsf.2
  generalize readD D0 a1 = r3 at cr crr
  obtain ⟨t3, y3⟩ := r3
  unfold TextIs at cr crr
  unfold Back at cw crw cf crf
  unfold strV at cw crw cr crr
  simp only at cr crr
  generalize checkE D0 = ck at cck crck
  generalize (⟨data.toArray⟩ : ByteArray) = D at *
  generalize (⟨t3.toArray⟩ : ByteArray) = T3 at *
  clear hsw hsf hdl s0
  obtain ⟨so0, sc0, co0, cc0, rfl, hs0, hc0⟩ := b0.parts
  obtain ⟨X0, hX0⟩ : ∃ X, X = w.alloc (.cells #[.slice so0 D0.secs.length sc0, .slice co0 D0.cache.length cc0, .int .i64 D0.fuse, .bool D0.off] 25) := ⟨_, rfl⟩
  have hB0 : Below w.heap.size w X0 := by rw [hX0]; exact (Below.refl _ w).alloc (Nat.le_refl _) _
  have V0 : Hid (VDk X0 w.heap.size D0) := by rw [hX0]; exact VDk.new hs0 hc0
  clear hs0 hc0 b0 f0
  go_enter Try.func3, Try.ntmps3
  go_upto_region 1 with fail
  rw [← hX0]
  clear hX0
  obtain ⟨sxo, sxc, cxo, cxc, vb, hs, hc⟩ := V0.out
  obtain ⟨q0, q1, q2, q3, qf⟩ := vb.cells
  go_wp2_with fail
  go_at_call 6; refine (ccp _ _ ⟨_, _, rfl, hs, hc⟩).mono ?_; rintro e w7 ⟨so7, sc7, co7, cc7, rfl, o1, o2, hb⟩
  have hs1 := hasRow_own o1
  have hc1 := hasRow_own o2
  obtain ⟨X7, hX7⟩ : ∃ X, X = w7.alloc (.cells #[.slice so7 D0.secs.length sc7, .slice co7 D0.cache.length cc7, .int .i64 D0.fuse, .bool D0.off] 25) := ⟨_, rfl⟩
  have hba : Below X0.heap.size X0 X7 := by rw [hX7]; exact hb.alloc hb.size _
  obtain ⟨b7, hbb7⟩ : ∃ b, b = w7.heap.size := ⟨_, rfl⟩
  have V7 : Hid (VDk X7 b7 D0) := by rw [hX7, hbb7]; exact VDk.new hs1 hc1
  go_upto_region 2 with fail
  rw [← hX7, ← hbb7]
  have V0 : Hid (VDk X7 w.heap.size D0) := V0.out.below hba
  have hB7 : Below w.heap.size w X7 := below2 hB0 hba
  clear hX7 hbb7 hba hb hs1 hc1 hs hc vb q0 q1 q2 q3 qf hB0 o1 o2
  obtain ⟨sxo, sxc, cxo, cxc, vb, hs, hc⟩ := V7.out
  obtain ⟨q0, q1, q2, q3, qf⟩ := vb.cells
  go_wp2_with fail
  go_at_call 7; refine (cw _ _ ⟨_, _, rfl, hs, hc⟩).mono ?_; rintro e w8 ⟨so8, sc8, co8, cc8, rfl, hs1, hc1, hb⟩
  obtain ⟨X8, hX8⟩ : ∃ X, X = w8.alloc (.cells #[.slice so8 d1.secs.length sc8, .slice co8 d1.cache.length cc8, .int .i64 d1.fuse, .bool d1.off] 25) := ⟨_, rfl⟩
  have hba : Below X7.heap.size X7 X8 := by rw [hX8]; exact hb.alloc hb.size _
  obtain ⟨b8, hbb8⟩ : ∃ b, b = w8.heap.size := ⟨_, rfl⟩
  have V8 : Hid (VDk X8 b8 d1) := by rw [hX8, hbb8]; exact VDk.new hs1 hc1
  go_upto_region 3 with fail
  rw [← hX8, ← hbb8]
  have V0 : Hid (VDk X8 w.heap.size D0) := V0.out.below hba
  have V7 : Hid (VDk X8 b7 D0) := V7.out.below hba
  have hB8 : Below w.heap.size w X8 := below2 hB7 hba
  clear hX8 hbb8 hba hb hs1 hc1 hs hc vb q0 q1 q2 q3 qf hB7
  obtain ⟨sxo, sxc, cxo, cxc, vb, hs, hc⟩ := V0.out
  obtain ⟨q0, q1, q2, q3, qf⟩ := vb.cells
  go_wp2_with fail
  go_at_call 8; refine (crw _ _ ⟨_, _, rfl, hs, hc⟩).mono ?_; rintro e w10 ⟨so10, sc10, co10, cc10, rfl, hs1, hc1, hb⟩
  obtain ⟨X10, hX10⟩ : ∃ X, X = w10.alloc (.cells #[.slice so10 d1.secs.length sc10, .slice co10 d1.cache.length cc10, .int .i64 d1.fuse, .bool d1.off] 25) := ⟨_, rfl⟩
  have hba : Below X8.heap.size X8 X10 := by rw [hX10]; exact hb.alloc hb.size _
  obtain ⟨b10, hbb10⟩ : ∃ b, b = w10.heap.size := ⟨_, rfl⟩
  have V10 : Hid (VDk X10 b10 d1) := by rw [hX10, hbb10]; exact VDk.new hs1 hc1
  go_upto_region 4 with fail
  rw [← hX10, ← hbb10]
  have V0 : Hid (VDk X10 w.heap.size D0) := V0.out.below hba
  have V7 : Hid (VDk X10 b7 D0) := V7.out.below hba
  have V8 : Hid (VDk X10 b8 d1) := V8.out.below hba
  have hB10 : Below w.heap.size w X10 := below2 hB8 hba
  clear hX10 hbb10 hba hb hs1 hc1 hs hc vb q0 q1 q2 q3 qf hB8
  obtain ⟨sxo, sxc, cxo, cxc, vb, hs, hc⟩ := V7.out
  obtain ⟨q0, q1, q2, q3, qf⟩ := vb.cells
  go_wp2_with fail
  go_at_call 9; refine (cf _ _ ⟨_, _, rfl, hs, hc⟩).mono ?_; rintro e w12 ⟨so12, sc12, co12, cc12, rfl, hs1, hc1, hb⟩
  obtain ⟨X12, hX12⟩ : ∃ X, X = w12.alloc (.cells #[.slice so12 d2.secs.length sc12, .slice co12 d2.cache.length cc12, .int .i64 d2.fuse, .bool d2.off] 25) := ⟨_, rfl⟩
  have hba : Below X10.heap.size X10 X12 := by rw [hX12]; exact hb.alloc hb.size _
  obtain ⟨b12, hbb12⟩ : ∃ b, b = w12.heap.size := ⟨_, rfl⟩
  have V12 : Hid (VDk X12 b12 d2) := by rw [hX12, hbb12]; exact VDk.new hs1 hc1
  go_upto_region 5 with fail
  rw [← hX12, ← hbb12]
  have V0 : Hid (VDk X12 w.heap.size D0) := V0.out.below hba
  have V7 : Hid (VDk X12 b7 D0) := V7.out.below hba
  have V8 : Hid (VDk X12 b8 d1) := V8.out.below hba
  have V10 : Hid (VDk X12 b10 d1) := V10.out.below hba
  have hB12 : Below w.heap.size w X12 := below2 hB10 hba
  clear hX12 hbb12 hba hb hs1 hc1 hs hc vb q0 q1 q2 q3 qf hB10
  obtain ⟨sxo, sxc, cxo, cxc, vb, hs, hc⟩ := V0.out
  obtain ⟨q0, q1, q2, q3, qf⟩ := vb.cells
  go_wp2_with fail
  go_at_call 10; refine (crf _ _ ⟨_, _, rfl, hs, hc⟩).mono ?_; rintro e w14 ⟨so14, sc14, co14, cc14, rfl, hs1, hc1, hb⟩
  obtain ⟨X14, hX14⟩ : ∃ X, X = w14.alloc (.cells #[.slice so14 d2.secs.length sc14, .slice co14 d2.cache.length cc14, .int .i64 d2.fuse, .bool d2.off] 25) := ⟨_, rfl⟩
  have hba : Below X12.heap.size X12 X14 := by rw [hX14]; exact hb.alloc hb.size _
  obtain ⟨b14, hbb14⟩ : ∃ b, b = w14.heap.size := ⟨_, rfl⟩
  have V14 : Hid (VDk X14 b14 d2) := by rw [hX14, hbb14]; exact VDk.new hs1 hc1
  go_upto_region 6 with fail
  rw [← hX14, ← hbb14]
  have V0 : Hid (VDk X14 w.heap.size D0) := V0.out.below hba
  have V7 : Hid (VDk X14 b7 D0) := V7.out.below hba
  have V8 : Hid (VDk X14 b8 d1) := V8.out.below hba
  have V10 : Hid (VDk X14 b10 d1) := V10.out.below hba
  have V12 : Hid (VDk X14 b12 d2) := V12.out.below hba
  have hB14 : Below w.heap.size w X14 := below2 hB12 hba
  clear hX14 hbb14 hba hb hs1 hc1 hs hc vb q0 q1 q2 q3 qf hB12
  obtain ⟨sxo, sxc, cxo, cxc, vb, hs, hc⟩ := V7.out
  obtain ⟨q0, q1, q2, q3, qf⟩ := vb.cells
  go_wp2_with fail
  go_at_call 11; refine (cr _ _ ⟨_, _, rfl, hs, hc⟩).mono ?_; rintro e w16 ⟨rfl, hb⟩
  have V0 : Hid (VDk w16 w.heap.size D0) := V0.out.below hb
  have V7 : Hid (VDk w16 b7 D0) := V7.out.below hb
  have V8 : Hid (VDk w16 b8 d1) := V8.out.below hb
  have V10 : Hid (VDk w16 b10 d1) := V10.out.below hb
  have V12 : Hid (VDk w16 b12 d2) := V12.out.below hb
  have V14 : Hid (VDk w16 b14 d2) := V14.out.below hb
  have hB16 : Below w.heap.size w w16 := below2 hB14 hb
  clear hb hs hc vb q0 q1 q2 q3 qf hB14
  go_upto_region 7 with fail
  obtain ⟨sxo, sxc, cxo, cxc, vb, hs, hc⟩ := V0.out
  obtain ⟨q0, q1, q2, q3, qf⟩ := vb.cells
  go_wp2_with fail
  go_at_call 12; refine (crr _ _ ⟨_, _, rfl, hs, hc⟩).mono ?_; rintro e w18 ⟨rfl, hb⟩
  have V0 : Hid (VDk w18 w.heap.size D0) := V0.out.below hb
  have V7 : Hid (VDk w18 b7 D0) := V7.out.below hb
  have V8 : Hid (VDk w18 b8 d1) := V8.out.below hb
  have V10 : Hid (VDk w18 b10 d1) := V10.out.below hb
  have V12 : Hid (VDk w18 b12 d2) := V12.out.below hb
  have V14 : Hid (VDk w18 b14 d2) := V14.out.below hb
  have hB18 : Below w.heap.size w w18 := below2 hB16 hb
  clear hb hs hc vb q0 q1 q2 q3 qf hB16
  go_upto_region 8 with fail
  obtain ⟨so0, sc0, co0, cc0, vb0, hs0, hc0⟩ := V0.out
  have HB0 : Hid (∀ W, Below w18.heap.size w18 W → VBox W w.heap.size (.slice so0 D0.secs.length sc0) (.slice co0 D0.cache.length cc0) (.int .i64 D0.fuse) (.bool D0.off)) := fun W h => vb0.below h
  have HD0 : Hid (∀ W, Below w18.heap.size w18 W → HasDk W (.agg #[.slice so0 D0.secs.length sc0, .slice co0 D0.cache.length cc0, .int .i64 D0.fuse, .bool D0.off]) D0) := fun W h => ⟨_, _, rfl, hs0.keep h, hc0.keep h⟩
  clear vb0 hs0 hc0 V0
  obtain ⟨so7, sc7, co7, cc7, vb7, hs7, hc7⟩ := V7.out
  have HB7 : Hid (∀ W, Below w18.heap.size w18 W → VBox W b7 (.slice so7 D0.secs.length sc7) (.slice co7 D0.cache.length cc7) (.int .i64 D0.fuse) (.bool D0.off)) := fun W h => vb7.below h
  have HD7 : Hid (∀ W, Below w18.heap.size w18 W → HasDk W (.agg #[.slice so7 D0.secs.length sc7, .slice co7 D0.cache.length cc7, .int .i64 D0.fuse, .bool D0.off]) D0) := fun W h => ⟨_, _, rfl, hs7.keep h, hc7.keep h⟩
  clear vb7 hs7 hc7 V7
  obtain ⟨so8, sc8, co8, cc8, vb8, hs8, hc8⟩ := V8.out
  have HB8 : Hid (∀ W, Below w18.heap.size w18 W → VBox W b8 (.slice so8 d1.secs.length sc8) (.slice co8 d1.cache.length cc8) (.int .i64 d1.fuse) (.bool d1.off)) := fun W h => vb8.below h
  have HD8 : Hid (∀ W, Below w18.heap.size w18 W → HasDk W (.agg #[.slice so8 d1.secs.length sc8, .slice co8 d1.cache.length cc8, .int .i64 d1.fuse, .bool d1.off]) d1) := fun W h => ⟨_, _, rfl, hs8.keep h, hc8.keep h⟩
  clear vb8 hs8 hc8 V8
  obtain ⟨so10, sc10, co10, cc10, vb10, hs10, hc10⟩ := V10.out
  have HB10 : Hid (∀ W, Below w18.heap.size w18 W → VBox W b10 (.slice so10 d1.secs.length sc10) (.slice co10 d1.cache.length cc10) (.int .i64 d1.fuse) (.bool d1.off)) := fun W h => vb10.below h
  have HD10 : Hid (∀ W, Below w18.heap.size w18 W → HasDk W (.agg #[.slice so10 d1.secs.length sc10, .slice co10 d1.cache.length cc10, .int .i64 d1.fuse, .bool d1.off]) d1) := fun W h => ⟨_, _, rfl, hs10.keep h, hc10.keep h⟩
  clear vb10 hs10 hc10 V10
  obtain ⟨so12, sc12, co12, cc12, vb12, hs12, hc12⟩ := V12.out
  have HB12 : Hid (∀ W, Below w18.heap.size w18 W → VBox W b12 (.slice so12 d2.secs.length sc12) (.slice co12 d2.cache.length cc12) (.int .i64 d2.fuse) (.bool d2.off)) := fun W h => vb12.below h
  have HD12 : Hid (∀ W, Below w18.heap.size w18 W → HasDk W (.agg #[.slice so12 d2.secs.length sc12, .slice co12 d2.cache.length cc12, .int .i64 d2.fuse, .bool d2.off]) d2) := fun W h => ⟨_, _, rfl, hs12.keep h, hc12.keep h⟩
  clear vb12 hs12 hc12 V12
  obtain ⟨so14, sc14, co14, cc14, vb14, hs14, hc14⟩ := V14.out
  have HB14 : Hid (∀ W, Below w18.heap.size w18 W → VBox W b14 (.slice so14 d2.secs.length sc14) (.slice co14 d2.cache.length cc14) (.int .i64 d2.fuse) (.bool d2.off)) := fun W h => vb14.below h
  have HD14 : Hid (∀ W, Below w18.heap.size w18 W → HasDk W (.agg #[.slice so14 d2.secs.length sc14, .slice co14 d2.cache.length cc14, .int .i64 d2.fuse, .bool d2.off]) d2) := fun W h => ⟨_, _, rfl, hs14.keep h, hc14.keep h⟩
  clear vb14 hs14 hc14 V14
  have K0 : Hid (∀ p : Bl w18, Calls Try.prog 13 #[] p.W (fun e w' => e = .returned (.bool true) ∧ Below p.W.heap.size p.W w')) := fun p => lives_any p.W
  have K1 : Hid (∀ p : Bl w18, Calls Try.prog 14 #[.agg #[.slice so8 d1.secs.length sc8, .slice co8 d1.cache.length cc8, .int .i64 d1.fuse, .bool d1.off], .agg #[.slice so10 d1.secs.length sc10, .slice co10 d1.cache.length cc10, .int .i64 d1.fuse, .bool d1.off]] p.W (fun e w' => e = .returned (.bool true) ∧ Below p.W.heap.size p.W w')) := fun p => csm1 p.W _ _ (HD8.out p.W p.h) (HD10.out p.W p.h)
  have K2 : Hid (∀ p : Bl w18, Calls Try.prog 14 #[.agg #[.slice so12 d2.secs.length sc12, .slice co12 d2.cache.length cc12, .int .i64 d2.fuse, .bool d2.off], .agg #[.slice so14 d2.secs.length sc14, .slice co14 d2.cache.length cc14, .int .i64 d2.fuse, .bool d2.off]] p.W (fun e w' => e = .returned (.bool true) ∧ Below p.W.heap.size p.W w')) := fun p => csm2 p.W _ _ (HD12.out p.W p.h) (HD14.out p.W p.h)
  have K3 : Hid (∀ p : Bl w18, Calls Try.prog 15 #[.agg #[.slice so7 D0.secs.length sc7, .slice co7 D0.cache.length cc7, .int .i64 D0.fuse, .bool D0.off]] p.W (fun e w' => e = .returned (.int .i64 ck) ∧ Below p.W.heap.size p.W w')) := fun p => cck p.W _ (HD7.out p.W p.h)
  have K4 : Hid (∀ p : Bl w18, Calls Try.prog 16 #[.agg #[.slice so0 D0.secs.length sc0, .slice co0 D0.cache.length cc0, .int .i64 D0.fuse, .bool D0.off]] p.W (fun e w' => e = .returned (.int .i64 ck) ∧ Below p.W.heap.size p.W w')) := fun p => crck p.W _ (HD0.out p.W p.h)
  have K5 : Hid (∀ p : Bl w18, Calls Try.prog 14 #[.agg #[.slice so7 D0.secs.length sc7, .slice co7 D0.cache.length cc7, .int .i64 D0.fuse, .bool D0.off], .agg #[.slice so0 D0.secs.length sc0, .slice co0 D0.cache.length cc0, .int .i64 D0.fuse, .bool D0.off]] p.W (fun e w' => e = .returned (.bool true) ∧ Below p.W.heap.size p.W w')) := fun p => csm0 p.W _ _ (HD7.out p.W p.h) (HD0.out p.W p.h)
  have z0a := fun p : Bl w18 => (HB0.out p.W p.h).cells.1
  have z0b := fun p : Bl w18 => (HB0.out p.W p.h).cells.2.1
  have z0c := fun p : Bl w18 => (HB0.out p.W p.h).cells.2.2.1
  have z0d := fun p : Bl w18 => (HB0.out p.W p.h).cells.2.2.2.1
  have z7a := fun p : Bl w18 => (HB7.out p.W p.h).cells.1
  have z7b := fun p : Bl w18 => (HB7.out p.W p.h).cells.2.1
  have z7c := fun p : Bl w18 => (HB7.out p.W p.h).cells.2.2.1
  have z7d := fun p : Bl w18 => (HB7.out p.W p.h).cells.2.2.2.1
  have z8a := fun p : Bl w18 => (HB8.out p.W p.h).cells.1
  have z8b := fun p : Bl w18 => (HB8.out p.W p.h).cells.2.1
  have z8c := fun p : Bl w18 => (HB8.out p.W p.h).cells.2.2.1
  have z8d := fun p : Bl w18 => (HB8.out p.W p.h).cells.2.2.2.1
  have z10a := fun p : Bl w18 => (HB10.out p.W p.h).cells.1
  have z10b := fun p : Bl w18 => (HB10.out p.W p.h).cells.2.1
  have z10c := fun p : Bl w18 => (HB10.out p.W p.h).cells.2.2.1
  have z10d := fun p : Bl w18 => (HB10.out p.W p.h).cells.2.2.2.1
  have z12a := fun p : Bl w18 => (HB12.out p.W p.h).cells.1
  have z12b := fun p : Bl w18 => (HB12.out p.W p.h).cells.2.1
  have z12c := fun p : Bl w18 => (HB12.out p.W p.h).cells.2.2.1
  have z12d := fun p : Bl w18 => (HB12.out p.W p.h).cells.2.2.2.1
  have z14a := fun p : Bl w18 => (HB14.out p.W p.h).cells.1
  have z14b := fun p : Bl w18 => (HB14.out p.W p.h).cells.2.1
  have z14c := fun p : Bl w18 => (HB14.out p.W p.h).cells.2.2.1
  have z14d := fun p : Bl w18 => (HB14.out p.W p.h).cells.2.2.2.1
  clear csm0 csm1 csm2 cck crck ccp cw crw cf crf cr crr HD0 HD7 HD8 HD10 HD12 HD14 HB0 HB7 HB8 HB10 HB12 HB14
  haveI := bl_ne w18
  refine wp_region_bl (by kernel_rfl) (by kernel_rfl) ?_
  repeat (quiet_step ((first | (go_at_call 13; with_reducible exact bl_call (K0.out _)) | (go_at_call 14; with_reducible exact bl_call (K1.out _)) | (go_at_call 14; with_reducible exact bl_call (K2.out _)) | (go_at_call 15; with_reducible exact bl_call (K3.out _)) | (go_at_call 16; with_reducible exact bl_call (K4.out _)) | (go_at_call 14; with_reducible exact bl_call (K5.out _)))))
  refine wpQuiet_nil ?_
  intro _ hw'
  obtain ⟨⟨wq, hq⟩, hw2⟩ := hw'
  subst hw2
  have hW := below2 hB18 hq
  go_wp2
  go_ret
  exact ⟨rfl, hW⟩
end Go.Proofs.Ythjphgchnlihnaa.Disk
