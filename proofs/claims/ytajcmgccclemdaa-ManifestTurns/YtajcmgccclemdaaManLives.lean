/- What spoorlaw06.lives returns. -/
import Derived.Test.YtajcmgccclemdaaManSave
import Derived.Test.YtajcmgccclemdaaManFresh
import Derived.Laws.StructEq
set_option linter.unusedVariables false
namespace Go.Proofs.Ytajcmgccclemdaa.Man
open Go.RowKit Go.Shelf
open Go.Proofs.Ytajcmgccclemdaa.Page
open Go.Proofs.Ytajcmgccclemdaa.Disk (VDk back_of Back outD_ok ok_of zeroD_has set4_grown set4_below Dk HasDk Fits readD TextIs VBox RBox strV HasStrs HasPuts DiskIs okB Ok makeD fits_of pair_of)

def lm0 : ManT := (1, [(2, 5, 3), (0, 9, -1)])
def lm1 : ManT := (1, [(2, 5, 3), (0, 5, -1)])
def LD1 : Dk := (makeD 10).1
def LD2 : Dk := (saveM LD1 lm0).1
def LD3 : Dk := (saveM LD2 lm0).1
theorem ml1 : makeD 10 = (LD1, 0) := pair_of (by rw [LD1]) (by decide +kernel)
theorem ml2 : loadM LD1 = ((0, []), 3) := by decide +kernel
theorem ml3 : putM lm0 = (sectL lm0, 0) := by decide +kernel
theorem ml4 : getM (sectL lm0) = (lm0, 0) := by decide +kernel
theorem ml5 : saveM LD1 lm0 = (LD2, 0) := pair_of (by rw [LD2]) (by decide +kernel)
theorem ml6 : loadM LD2 = (lm0, 0) := by decide +kernel
theorem ml7 : saveM LD2 lm0 = (LD3, 1) := pair_of (by rw [LD3]) (by decide +kernel)
theorem ml8 : readD LD2 1 = (sectL lm0, 0) := by decide +kernel
theorem ml9 : checkM lm1 = 2 := by decide +kernel
theorem ml10 : checkM lm0 = 0 := by decide +kernel
theorem ml11 : (sectL lm0).length = 128 := by decide +kernel
theorem mf1 : Fits LD1 := fits_of (by decide +kernel)
theorem mf2 : Fits LD2 := fits_of (by decide +kernel)
theorem fitm9 : FitM lm0 := ⟨by decide, fun p hp => by
  simp only [lm0, List.mem_cons, List.not_mem_nil, or_false] at hp
  rcases hp with rfl | rfl <;> exact ⟨⟨by decide, by decide⟩, by decide, ⟨by decide, by decide⟩⟩⟩
theorem fitm5 : FitM lm1 := ⟨by decide, fun p hp => by
  simp only [lm1, List.mem_cons, List.not_mem_nil, or_false] at hp
  rcases hp with rfl | rfl <;> exact ⟨⟨by decide, by decide⟩, by decide, ⟨by decide, by decide⟩⟩⟩
theorem part_eql (a : Int) (b : Nat) (c : Int) (w : World) : (binOp .eql 71 (.agg #[.int .i64 a, .int .u64 (b : Int), .int .i64 c]) (.agg #[.int .i64 a, .int .u64 (b : Int), .int .i64 c])).run Try.prog w = .ok (.bool true) w := by
  have u3 := Try.underlying3
  have u9 := Try.underlying22
  have a3 := Try.isAgg3
  have z3 := Try.sizeOf3
  have a9 := Try.isAgg22
  have z9 := Try.sizeOf22
  have hS : Try.prog.underlying 71 = some (.struct (Try.prog.fieldsOf 71)) := by kernel_rfl
  have hp : Try.prog.stoodInHeld 71 = false := by kernel_rfl
  rw [run_eql_struct, show (10000 : Nat) = 9999 + 1 from rfl, run_equalIn_agg w 9999 71 _ _ hS hp]
  simp only [Program.fieldsOf, Try.underlying71]
  go_simp
theorem part_guard : Try.prog.eqGuardType Try.prog.depth 71 = false := by kernel_rfl
/-- a variable that holds the manifest m, whose row lies not in block g -/
def VN (W : World) (b : Nat) (m : ManT) (g : Nat) : Prop := ∃ o c, MBox W b m.1 (.slice o m.2.length c) ∧ HasParts W (.slice o m.2.length c) m.2 ∧ ∀ a, o = some a → a.block ≠ g
theorem VN.below {W W' : World} {b g : Nat} {m : ManT} (h : VN W b m g) (hb : Below W.heap.size W W') : VN W' b m g := by
  obtain ⟨oo, c, h1, h2, h3⟩ := h
  exact ⟨oo, c, RowAt.below h1 hb, h2.keep hb, h3⟩
def VK (W : World) (b : Nat) : Prop := ∃ o c, MBox W b 1 (.slice o 2 c)
theorem VK.below {W W' : World} {b : Nat} (h : VK W b) (hb : Below W.heap.size W W') : VK W' b := by
  obtain ⟨oo, c, h1⟩ := h
  exact ⟨oo, c, RowAt.below h1 hb⟩
def VP (W : World) (b g : Nat) (ps : List PartT) : Prop := MBox W b 1 (.slice (some ⟨g, 0, none⟩) 2 2) ∧ RowAt W g (partCs ps) 71
theorem VP.below {W W' : World} {b g : Nat} {ps : List PartT} (h : VP W b g ps) (hb : Below W.heap.size W W') : VP W' b g ps := ⟨RowAt.below h.1 hb, RowAt.below h.2 hb⟩
theorem VP.has {W : World} {b g : Nat} {ps : List PartT} (h : VP W b g ps) (hl : ps.length = 2) : HasParts W (.slice (some ⟨g, 0, none⟩) 2 2) ps := by
  refine ⟨partCs_len ps, .inr ⟨⟨g, 0, none⟩, 2, by rw [hl], by omega, by decide, fun _ => ⟨rfl, RowAt.lt h.2⟩, fun j hj => ?_⟩⟩
  rw [addr_add, Nat.zero_add]
  exact RowAt.cell h.2 j
set_option maxHeartbeats 2000000 in
set_option maxRecDepth 20000 in
theorem lives_any (w : World) : Calls Try.prog 13 #[] w fun e w' => e = .returned (.bool true) ∧ Below w.heap.size w w' := by
  have cm := fun W => (Disk.make_fn 10 W (by omega)).mono (fun e w' h => back_of h)
  have cl1 := fun W v (h : HasDk W v LD1) => load_any LD1 v W h mf1
  have cpu := fun W v (h : HasParts W v lm0.2) => mput_any lm0 v W h fitm9
  have cge := fun W => get_own (sectL lm0) W (by rw [ml11]; omega)
  have csa := fun W v u (h : HasDk W v LD1) (g : HasParts W u lm0.2) => (save_any LD1 lm0 v u W h mf1 g fitm9 (fun hk W v h => Disk.fresh_any LD1 v W h hk)).mono (fun e w' h => back_of h)
  have cl2 := fun W v (h : HasDk W v LD2) => load_any LD2 v W h mf2
  have csb := fun W v u (h : HasDk W v LD2) (g : HasParts W u lm0.2) => (save_any LD2 lm0 v u W h mf2 g fitm9 (fun hk W v h => Disk.fresh_any LD2 v W h hk)).mono (fun e w' h => back_of h)
  have crd := fun W v (h : HasDk W v LD2) => Disk.read_fn LD2 v 1 W h mf2 (by omega)
  have chk1 := fun W v (h : HasParts W v lm1.2) => check_any lm1 v W h fitm5
  have chk0 := fun W v (h : HasParts W v lm0.2) => check_any lm0 v W h fitm9
  rw [ml1] at cm
  rw [ml2] at cl1
  rw [ml3] at cpu
  rw [ml4] at cge
  rw [ml5] at csa
  rw [ml6] at cl2
  rw [ml7] at csb
  rw [ml8] at crd
  rw [ml9] at chk1
  rw [ml10] at chk0
  have cge2 : ∀ W, Calls Try.prog 11 #[.string ⟨(sectL lm0).toArray⟩] W (fun e w' => ∃ no nc, e = .returned (.tuple #[.agg #[.int .u64 1, .slice no 2 nc], .int .i64 0]) ∧ (HasParts w' (.slice no 2 nc) lm0.2 ∧ NewIn W (.slice no 2 nc)) ∧ Below W.heap.size W w') := fun W => (cge W).mono (by
    rintro e w' ⟨v, rfl, ⟨hnp, hni⟩, hb⟩
    obtain ⟨no, nc, rfl, _, _⟩ := hnp.form
    exact ⟨no, nc, rfl, ⟨hnp, hni⟩, hb⟩)
  have cl3 : ∀ W v, HasDk W v LD2 → Calls Try.prog 18 #[v] W (fun e w' => ∃ ko kc, e = .returned (.tuple #[.agg #[.int .u64 1, .slice ko 2 kc], .int .i64 0]) ∧ Below W.heap.size W w') := fun W v h => (cl2 W v h).mono (by
    rintro e w' ⟨v, rfl, hnp, hb⟩
    obtain ⟨no, nc, rfl, _, _⟩ := hnp.form
    exact ⟨no, nc, rfl, hb⟩)
  clear cge cl2
  have hS := ml11
  generalize LD1 = D1 at *
  generalize LD2 = D2 at *
  generalize LD3 = D3 at *
  generalize sectL lm0 = SL at *
  have hSz : (⟨SL.toArray⟩ : ByteArray).size = 128 := by rw [size_list]; exact hS
  unfold Back at cm csa csb
  unfold ManIs at cl1
  unfold StrIs at cpu
  unfold TextIs at crd
  unfold strV at crd
  simp only at cm cl1 cpu csa csb crd
  generalize (⟨SL.toArray⟩ : ByteArray) = S at *
  clear hS
  go_enter Try.func13, Try.ntmps13
  go_wp2_with fail
  go_at_call 23; refine (cm _).mono ?_; rintro e w1 ⟨so1, sc1, co1, cc1, rfl, hs1, hc1, hb⟩
  obtain ⟨X1, hX1⟩ : ∃ X, X = w1.alloc (.cells #[.slice so1 D1.secs.length sc1, .slice co1 D1.cache.length cc1, .int .i64 D1.fuse, .bool D1.off] 38) := ⟨_, rfl⟩
  have hba : Below w.heap.size w X1 := by rw [hX1]; exact hb.alloc hb.size _
  obtain ⟨b1, hbb1⟩ : ∃ b, b = w1.heap.size := ⟨_, rfl⟩
  have V1 : Hid (VDk X1 b1 D1) := by rw [hX1, hbb1]; exact VDk.new hs1 hc1
  go_upto_region 2 with fail
  rw [← hX1, ← hbb1]
  have hB1 : Below w.heap.size w X1 := below2 (Below.refl _ w) hba
  clear hs1 hc1
  clear hX1 hbb1 hba hb
  obtain ⟨sxo, sxc, cxo, cxc, vb, hs, hc⟩ := V1.out
  obtain ⟨q0, q1, q2, q3, qf⟩ := vb.cells
  go_wp2_with fail
  go_at_call 18; refine (cl1 _ _ ⟨_, _, rfl, hs, hc⟩).mono ?_; rintro e w2 ⟨lv, rfl, hlp, hb⟩
  obtain ⟨lo, lc, rfl, _, _⟩ := hlp.form
  obtain ⟨X2, hX2⟩ : ∃ X, X = w2.alloc (.cells #[.int .u64 0, .slice lo 0 lc] 25) := ⟨_, rfl⟩
  have hba : Below X1.heap.size X1 X2 := by rw [hX2]; exact hb.alloc hb.size _
  obtain ⟨b2, hbb2⟩ : ∃ b, b = w2.heap.size := ⟨_, rfl⟩
  go_upto_region 3 with fail
  rw [← hX2, ← hbb2]
  have V1 : Hid (VDk X2 b1 D1) := V1.out.below hba
  have hB2 : Below w.heap.size w X2 := below2 hB1 hba
  clear hs hc vb q0 q1 q2 q3 qf
  clear hlp
  clear hX2 hbb2 hba hb
  obtain ⟨g, hg⟩ : ∃ g, g = X2.heap.size := ⟨_, rfl⟩
  have hwg : w.heap.size ≤ g := by rw [hg]; exact hB2.size
  obtain ⟨X3, hX3⟩ : ∃ X, X = (X2.alloc (.cells #[.int .i64 2, .int .u64 5, .int .i64 3, .int .i64 0, .int .u64 9, .int .i64 (-1)] 71)).alloc (.cells #[.int .u64 1, .slice (some ⟨g, 0, none⟩) 2 2] 25) := ⟨_, rfl⟩
  have P5 : Hid (VP X3 (g + 1) g lm0.2) := by
    have h1 := RowAt.new (X2.alloc (.cells #[.int .i64 2, .int .u64 5, .int .i64 3, .int .i64 0, .int .u64 9, .int .i64 (-1)] 71)) [.int .u64 1, .slice (some ⟨g, 0, none⟩) 2 2] 25
    have h2 := RowAt.alloc (RowAt.new X2 (partCs lm0.2) 71) (.cells #[.int .u64 1, .slice (some ⟨g, 0, none⟩) 2 2] 25)
    rw [World.size_alloc] at h1
    rw [← hg] at h1 h2
    rw [hX3]
    exact ⟨h1, h2⟩
  have hba : Below X2.heap.size X2 X3 := by rw [hX3]; exact ((Below.refl _ _).alloc (Nat.le_refl _) _).alloc (by simp) _
  have V1 : Hid (VDk X3 b1 D1) := V1.out.below hba
  have hB3 : Below w.heap.size w X3 := below2 hB2 hba
  go_upto_region 4 with fail
  rw [← hg, ← hX3]
  clear hg hX3 hba
  obtain ⟨b5, hb5⟩ : ∃ b, b = g + 1 := ⟨_, rfl⟩
  have hb5g : b5 ≠ g := by omega
  rw [← hb5] at P5 ⊢
  have hgX : g < X3.heap.size := RowAt.lt P5.out.2
  clear hb5
  obtain ⟨m0, m1⟩ := MBox.cells P5.out.1
  have hpm := P5.out.has rfl
  go_wp2_with fail
  go_at_call 9; refine (cpu _ _ hpm).mono ?_; rintro e w4 ⟨rfl, hb⟩
  have V1 : Hid (VDk w4 b1 D1) := V1.out.below hb
  have P5 : Hid (VP w4 b5 g lm0.2) := P5.out.below hb
  have hB4 : Below w.heap.size w w4 := below2 hB3 hb
  have hg4 : g < w4.heap.size := Nat.lt_of_lt_of_le hgX hb.size
  clear hb hgX m0 m1 hpm
  go_upto_region 5 with fail
  go_wp2_with fail
  go_at_call 11; refine (cge2 _).mono ?_; rintro e w5 ⟨no, nc, rfl, ⟨hnp, hni⟩, hb⟩
  obtain ⟨X5, hX5⟩ : ∃ X, X = w5.alloc (.cells #[.int .u64 1, .slice no 2 nc] 25) := ⟨_, rfl⟩
  have hba : Below w4.heap.size w4 X5 := by rw [hX5]; exact hb.alloc hb.size _
  obtain ⟨bn, hbb5⟩ : ∃ b, b = w5.heap.size := ⟨_, rfl⟩
  have hgn : bn ≠ g := by have := RowAt.lt P5.out.2; have := hb.size; omega
  have N8 : Hid (VN X5 bn lm0 g) := by rw [hX5, hbb5]; exact ⟨no, nc, RowAt.new w5 [_, _] _, hnp.keep ((Below.refl _ _).alloc (Nat.le_refl _) _), fun a ea => by have := hni a _ _ (by rw [ea]); omega⟩
  go_upto_region 6 with fail
  rw [← hX5, ← hbb5]
  have V1 : Hid (VDk X5 b1 D1) := V1.out.below hba
  have P5 : Hid (VP X5 b5 g lm0.2) := P5.out.below hba
  have hB5 : Below w.heap.size w X5 := below2 hB4 hba
  clear hnp hni
  clear hX5 hbb5 hba hb
  obtain ⟨sxo, sxc, cxo, cxc, vb, hs, hc⟩ := V1.out
  obtain ⟨q0, q1, q2, q3, qf⟩ := vb.cells
  obtain ⟨m0, m1⟩ := MBox.cells P5.out.1
  have hpm := P5.out.has rfl
  go_wp2_with fail
  go_at_call 20; refine (csa _ _ _ ⟨_, _, rfl, hs, hc⟩ hpm).mono ?_; rintro e w6 ⟨so6, sc6, co6, cc6, rfl, hs6, hc6, hb⟩
  obtain ⟨X6, hX6⟩ : ∃ X, X = w6.alloc (.cells #[.slice so6 D2.secs.length sc6, .slice co6 D2.cache.length cc6, .int .i64 D2.fuse, .bool D2.off] 38) := ⟨_, rfl⟩
  have hba : Below X5.heap.size X5 X6 := by rw [hX6]; exact hb.alloc hb.size _
  obtain ⟨b6, hbb6⟩ : ∃ b, b = w6.heap.size := ⟨_, rfl⟩
  have V10 : Hid (VDk X6 b6 D2) := by rw [hX6, hbb6]; exact VDk.new hs6 hc6
  go_upto_region 7 with fail
  rw [← hX6, ← hbb6]
  have V1 : Hid (VDk X6 b1 D1) := V1.out.below hba
  have P5 : Hid (VP X6 b5 g lm0.2) := P5.out.below hba
  have N8 : Hid (VN X6 bn lm0 g) := N8.out.below hba
  have hB6 : Below w.heap.size w X6 := below2 hB5 hba
  clear hs hc vb q0 q1 q2 q3 qf
  clear m0 m1 hpm
  clear hs6 hc6
  clear hX6 hbb6 hba hb
  obtain ⟨sxo, sxc, cxo, cxc, vb, hs, hc⟩ := V10.out
  obtain ⟨q0, q1, q2, q3, qf⟩ := vb.cells
  go_wp2_with fail
  go_at_call 18; refine (cl3 _ _ ⟨_, _, rfl, hs, hc⟩).mono ?_; rintro e w7 ⟨ko, kc, rfl, hb⟩
  obtain ⟨X7, hX7⟩ : ∃ X, X = w7.alloc (.cells #[.int .u64 1, .slice ko 2 kc] 25) := ⟨_, rfl⟩
  have hba : Below X6.heap.size X6 X7 := by rw [hX7]; exact hb.alloc hb.size _
  obtain ⟨b7, hbb7⟩ : ∃ b, b = w7.heap.size := ⟨_, rfl⟩
  have hgk : b7 ≠ g := by have := RowAt.lt P5.out.2; have := hb.size; omega
  have K12 : Hid (VK X7 b7) := by rw [hX7, hbb7]; exact ⟨ko, kc, RowAt.new w7 [_, _] _⟩
  go_upto_region 8 with fail
  rw [← hX7, ← hbb7]
  have V1 : Hid (VDk X7 b1 D1) := V1.out.below hba
  have P5 : Hid (VP X7 b5 g lm0.2) := P5.out.below hba
  have N8 : Hid (VN X7 bn lm0 g) := N8.out.below hba
  have V10 : Hid (VDk X7 b6 D2) := V10.out.below hba
  have hB7 : Below w.heap.size w X7 := below2 hB6 hba
  clear hs hc vb q0 q1 q2 q3 qf
  clear hX7 hbb7 hba hb
  obtain ⟨sxo, sxc, cxo, cxc, vb, hs, hc⟩ := V10.out
  obtain ⟨q0, q1, q2, q3, qf⟩ := vb.cells
  obtain ⟨m0, m1⟩ := MBox.cells P5.out.1
  have hpm := P5.out.has rfl
  go_wp2_with fail
  go_at_call 20; refine (csb _ _ _ ⟨_, _, rfl, hs, hc⟩ hpm).mono ?_; rintro e w8 ⟨so8, sc8, co8, cc8, rfl, hs8, hc8, hb⟩
  obtain ⟨X8, hX8⟩ : ∃ X, X = w8.alloc (.cells #[.slice so8 D3.secs.length sc8, .slice co8 D3.cache.length cc8, .int .i64 D3.fuse, .bool D3.off] 38) := ⟨_, rfl⟩
  have hba : Below X7.heap.size X7 X8 := by rw [hX8]; exact hb.alloc hb.size _
  obtain ⟨b8, hbb8⟩ : ∃ b, b = w8.heap.size := ⟨_, rfl⟩
  go_upto_region 9 with fail
  rw [← hX8, ← hbb8]
  have V1 : Hid (VDk X8 b1 D1) := V1.out.below hba
  have P5 : Hid (VP X8 b5 g lm0.2) := P5.out.below hba
  have N8 : Hid (VN X8 bn lm0 g) := N8.out.below hba
  have V10 : Hid (VDk X8 b6 D2) := V10.out.below hba
  have K12 : Hid (VK X8 b7) := K12.out.below hba
  have hB8 : Below w.heap.size w X8 := below2 hB7 hba
  clear hs hc vb q0 q1 q2 q3 qf
  clear m0 m1 hpm
  clear hs8 hc8
  clear hX8 hbb8 hba hb
  obtain ⟨sxo, sxc, cxo, cxc, vb, hs, hc⟩ := V10.out
  obtain ⟨q0, q1, q2, q3, qf⟩ := vb.cells
  go_wp2_with fail
  go_at_call 46; refine (crd _ _ ⟨_, _, rfl, hs, hc⟩).mono ?_; rintro e w9 ⟨rfl, hb⟩
  have V1 : Hid (VDk w9 b1 D1) := V1.out.below hb
  have P5 : Hid (VP w9 b5 g lm0.2) := P5.out.below hb
  have N8 : Hid (VN w9 bn lm0 g) := N8.out.below hb
  have V10 : Hid (VDk w9 b6 D2) := V10.out.below hb
  have K12 : Hid (VK w9 b7) := K12.out.below hb
  have hB9 : Below w.heap.size w w9 := below2 hB8 hb
  clear hb hs hc vb q0 q1 q2 q3 qf
  go_upto_region 10 with fail
  obtain ⟨m0, m1⟩ := MBox.cells P5.out.1
  have c4 : w9.cell? ⟨g, 4, none⟩ = some (.int .u64 9) := RowAt.cell P5.out.2 4
  have f4 := RowAt.frozen P5.out.2 4
  obtain ⟨X10, hX10⟩ : ∃ X, X = w9.setCell ⟨g, 4, none⟩ (.int .u64 5) := ⟨_, rfl⟩
  have hgr : w9.grownBy X10 (some g) := by rw [hX10]; exact grown_cell _ _ _ _
  have P6 : Hid (VP X10 b5 g lm1.2) := ⟨RowAt.grown' P5.out.1 hgr hb5g, by rw [hX10, RowAt.setCell P5.out.2]; exact RowAt.set P5.out.2 _⟩
  have N9 : Hid (VN X10 bn lm0 g) := by
    obtain ⟨no2, nc2, h1, h2, h3⟩ := N8.out
    exact ⟨no2, nc2, RowAt.grown' h1 hgr hgn, Disk.HasRow.far h2 hgr (fun b i m cap e _ => by injection e with e1 _ _; exact h3 _ e1), h3⟩
  have K13 : Hid (VK X10 b7) := by
    obtain ⟨ko2, kc2, h1⟩ := K12.out
    exact ⟨ko2, kc2, RowAt.grown' h1 hgr hgk⟩
  have hB10 : Below w.heap.size w X10 := by rw [hX10]; exact hB9.setCell (p := ⟨g, 4, none⟩) hwg _
  have hpe : ∀ w, (binOp .eql 71 (.agg #[.int .i64 0, .int .u64 9, .int .i64 (-1)]) (.agg #[.int .i64 0, .int .u64 9, .int .i64 (-1)])).run Try.prog w = .ok (.bool true) w := fun w => part_eql 0 9 (-1) w
  have hpg := part_guard
  go_upto_region 11 with fail
  rw [← hX10]
  clear hX10 hgr m0 m1 c4 f4 hB9 V1 V10 N8 K12 P5 hb5g hgn hgk hwg
  obtain ⟨m0, m1⟩ := MBox.cells P6.out.1
  obtain ⟨no2, nc2, nb, np, _⟩ := N9.out
  obtain ⟨n0, n1⟩ := nb.cells
  obtain ⟨ko2, kc2, kb⟩ := K13.out
  obtain ⟨k0, k1⟩ := kb.cells
  obtain ⟨_, _, ef, _, hcells⟩ := np.form
  injection ef with ef1 _ ef3
  subst ef1; subst ef3
  obtain ⟨qb, qi, rfl, _, x0, x1, x2⟩ := hcells 1 (by decide)
  have x0 : X10.cell? ⟨qb, qi + 3, none⟩ = some (.int .i64 0) := x0
  have x1 : X10.cell? ⟨qb, qi + 3 + 1, none⟩ = some (.int .u64 9) := x1
  have x2 : X10.cell? ⟨qb, qi + 3 + 2, none⟩ = some (.int .i64 (-1)) := x2
  have n0 : X10.cell? ⟨bn, 0, none⟩ = some (.int .u64 1) := n0
  have n1 : X10.cell? ⟨bn, 1, none⟩ = some (.slice (some ⟨qb, qi, none⟩) 2 nc2) := n1
  clear hcells np nb kb
  go_wp2_with fail
  go_at_call 14; refine (chk1 _ _ (P6.out.has rfl)).mono ?_; rintro e u1 ⟨rfl, hb1⟩
  have hB11 := below2 hB10 hb1
  obtain ⟨no3, nc3, nb3, np3, _⟩ := N9.out.below hb1
  clear m0 m1 n0 n1 k0 k1 x0 x1 x2 hB10 hb1 chk1 P6 N9 K13
  obtain ⟨n0, n1⟩ := nb3.cells
  have n0 : u1.cell? ⟨bn, 0, none⟩ = some (.int .u64 1) := n0
  have n1 : u1.cell? ⟨bn, 1, none⟩ = some (.slice no3 2 nc3) := n1
  go_wp2_with fail
  go_at_call 14; refine (chk0 _ _ np3).mono ?_; rintro e u2 ⟨rfl, hb2⟩
  have hB12 := below2 hB11 hb2
  clear n0 n1 nb3 np3 chk0 hb2 hB11
  go_wp2
  go_ret
  exact ⟨rfl, hB12⟩
end Go.Proofs.Ytajcmgccclemdaa.Man
