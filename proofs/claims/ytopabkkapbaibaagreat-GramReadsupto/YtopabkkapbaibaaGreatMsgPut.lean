/- What prefixBytes and actionBytes return. -/
import Derived.Test.YtopabkkapbaibaaGreatMsgLay
import Derived.Test.YtopabkkapbaibaaGreatMsgChk
set_option linter.unusedVariables false
namespace Go.Proofs.YtopabkkapbaibaaGreat.Msg
open Go.RowKit
open Go.Proofs.YtopabkkapbaibaaGreat.Addr (Pf okP checkP wideN firstN kP hiN loN adV pfV RowAt below2 below_drew below_new bset RowAt.lt RowAt.cell RowAt.frozen RowAt.below RowAt.drew RowAt.new RowAt.alloc gdrew gset gbelow galloc grefl cells2 cells4 results_cell Bl bl_ne wp_region_bl bl_call bl_same)

def actB (a : Ac) : List UInt8 := if a.k = 1 then UInt8.ofNat a.k :: putL a.i.toNat else [UInt8.ofNat a.k]
theorem byte_k (k : Nat) (h : k ≤ 255) : ((UInt8.ofNat k).toNat : Int) = (k : Int) := by rw [UInt8.toNat_ofNat_of_lt' (by show k < 256; omega)]
theorem okA_bd {a : Ac} (h : okA a = true) : (1 ≤ a.k ∧ a.k ≤ 3) ∧ (0 ≤ a.i ∧ a.i ≤ 65536) ∧ (a.k = 1 ∨ a.i = 0) := by
  unfold okA at h
  simpa [and_assoc] using h
set_option maxHeartbeats 2000000 in
theorem actionBytes_any (a : Ac) (w : World) (h : okA a = true) : Calls Tryz.prog 92 #[acV a] w fun e w' => e = .returned (.string ⟨(actB a).toArray⟩) ∧ Below w.heap.size w w' := by
  obtain ⟨⟨h1, h2⟩, ⟨h3, h4⟩, h5⟩ := okA_bd h
  have c1 := fun W => oneByte_any (UInt8.ofNat a.k) W
  have c2 := fun W => put_any a.i W h3 (by omega)
  have hpl := putL_le a.i.toNat (by omega)
  rw [byte_k a.k (by omega)] at c1
  have HB : Hid (actB a = if a.k = 1 then UInt8.ofNat a.k :: putL a.i.toNat else [UInt8.ofNat a.k]) := rfl
  generalize actB a = R at HB ⊢
  have hcat := bytes_cat [UInt8.ofNat a.k] (putL a.i.toNat)
  obtain ⟨k, i⟩ := a
  unfold acV
  simp only at *
  clear h
  generalize UInt8.ofNat k = kb at *
  generalize putL i.toNat = pl at *
  obtain ⟨X, hX⟩ : ∃ X, X = w.alloc (.cells #[.int .u8 (k : Int), .int .i64 i] 33) := ⟨_, rfl⟩
  have hB : Below w.heap.size w X := by rw [hX]; exact below_new (Below.refl _ _) _
  have r0 : RowAt X w.heap.size [.int .u8 (k : Int), .int .i64 i] 33 := by rw [hX]; exact RowAt.new _ _ _
  obtain ⟨x0, x1, xf⟩ := cells2 r0
  by_cases hk : k = 1
  · have HV : Hid (R = [kb] ++ pl) := by show _ = _; rw [HB.out, if_pos hk]; rfl
    rw [← HV.out] at hcat
    have q : ((k : Int) == 1) = true := by rw [hk]; rfl
    have k0 : ∀ p : Bl X, p.W.cell? ⟨w.heap.size, 0, none⟩ = some (.int .u8 (k : Int)) := fun p => (r0.below p.h).cell 0
    have k1 : ∀ p : Bl X, p.W.cell? ⟨w.heap.size, 1, none⟩ = some (.int .i64 i) := fun p => (r0.below p.h).cell 1
    have s1 := size_list [kb]
    have s2 := size_list pl
    have hnn : ¬ 9223372036854775807 < 1 + pl.length := by omega
    have hwr : IntKind.u64.wrap i = i := by rw [IntKind.wrap_u64]; omega
    clear HB hk h5
    go_enter Tryz.func92, Tryz.ntmps92
    go_upto_region 1 with fail
    rw [← hX]
    clear hX
    go_wp2_with fail
    haveI := bl_ne X
    refine wp_region_bl (by kernel_rfl) (by kernel_rfl) ?_
    repeat (quiet_step (first | (go_at_call 64; with_reducible exact bl_call (c1 _)) | (go_at_call 65; with_reducible exact bl_call (c2 _))))
    refine wpQuiet_nil ?_
    intro _ hw'
    obtain ⟨⟨wq, hq⟩, hw2⟩ := hw'
    subst hw2
    have hW := below2 hB hq
    go_wp2_with fail
    go_ret
    exact ⟨rfl, hW⟩
  · have HV : Hid (R = [kb]) := by show _ = _; rw [HB.out, if_neg hk]
    have q : ((k : Int) == 1) = false := beq_eq_false_iff_ne.2 (by omega)
    clear HB hk h5
    go_enter Tryz.func92, Tryz.ntmps92
    go_upto_region 1 with fail
    rw [← hX]
    clear hX
    go_wp2_with fail
    go_at_call 64; refine (c1 _).mono ?_; rintro e w1 ⟨rfl, hb1⟩
    go_wp2_with fail
    go_ret
    exact ⟨by rw [HV.out]; rfl, below2 hB hb1⟩
set_option maxHeartbeats 4000000 in
theorem prefixBytes_any (p : Pf) (w : World) (h : okP p = true) : Calls Tryz.prog 91 #[pfV p] w fun e w' => e = .returned (.string ⟨(prefB p).toArray⟩) ∧ Below w.heap.size w w' := by
  obtain ⟨h1, h2, h3⟩ := Addr.okP_iff.1 h
  have hw := wB8 p.six
  have hwl := Addr.wideN_le p.six
  have h128 : p.n < 2 ^ 128 := Nat.lt_of_lt_of_le h2 (Nat.pow_le_pow_right (by decide) hwl)
  obtain ⟨k, hk⟩ : ∃ k : Nat, p.len = (k : Int) := ⟨p.len.toNat, by omega⟩
  have hkt : p.len.toNat = k := by omega
  have hkl : k ≤ 128 := by omega
  have hmw : manyN k ≤ wB p.six := by unfold manyN; omega
  have hll : (layL p.six p.n).length = wB p.six := by unfold layL; rw [List.length_drop, be_len]; cases p.six <;> rfl
  have hlay : layL p.six p.n = be (wB p.six) p.n := by
    unfold layL
    have hs := be_split (frN p.six) (wB p.six) p.n
    rw [show frN p.six + wB p.six = 16 by cases p.six <;> rfl] at hs
    rw [hs, List.drop_append, be_len, Nat.sub_self, List.drop_of_length_le (by rw [be_len]; exact Nat.le_refl _)]
    rfl
  have HB : Hid (prefB p = [markB p.six] ++ [UInt8.ofNat k] ++ (layL p.six p.n).take (manyN k)) := by show _ = _; unfold prefB; rw [hlay, hkt]; rfl
  have c0 := fun W => familyOf_any p.six W
  have c1 : ∀ W : World, Calls Tryz.prog 64 #[.int .u8 (if p.six then 6 else 4)] W fun e w' => e = .returned (.string ⟨#[markB p.six]⟩) ∧ Below W.heap.size W w' := fun W => by
    have := oneByte_any (markB p.six) W
    cases hsx : p.six <;> rw [hsx] at this <;> exact this
  have c2 := fun W => oneByte_any (UInt8.ofNat k) W
  rw [byte_k k (by omega)] at c2
  have c3 := fun W => lay_any p.six p.n W h128
  have c4 := fun W => within_any k W (by omega)
  unfold famV Addr.adV at c3
  unfold famV at c0
  have htk := take_pre (layL p.six p.n) (manyN k) (by rw [hll]; exact hmw)
  have hcat1 := bytes_cat [markB p.six] [UInt8.ofNat k]
  have hcat2 := bytes_cat ([markB p.six] ++ [UInt8.ofNat k]) ((layL p.six p.n).take (manyN k))
  rw [← HB.out] at hcat2
  generalize prefB p = R at hcat2 HB ⊢
  obtain ⟨sx, n, ln⟩ := p
  simp only at hk
  subst hk
  unfold Addr.pfV
  simp only at *
  generalize (if sx = true then (6 : Int) else 4) = mk at *
  generalize (if sx = true then (0 : Int) else 12) = fr at *
  have hwb : wB sx ≤ 16 := by cases sx <;> decide
  have htl : ((layL sx n).take (manyN k)).length = manyN k := by rw [List.length_take]; omega
  generalize layL sx n = ly at *
  generalize markB sx = mb at *
  generalize UInt8.ofNat k = kb at *
  generalize manyN k = mn at *
  have hnl : (mn : Int) ≤ (ly.length : Int) := by omega
  have hmi : (mn : Int) ≤ 16 := by omega
  have hly16 : (ly.length : Int) ≤ 16 := by omega
  have hwr : IntKind.u8.wrap (k : Int) = (k : Int) := by rw [IntKind.wrap_u8']; omega
  have s1 := size_list [mb]
  have s2 := size_list [kb]
  have s3 := size_list ([mb] ++ [kb])
  have s4 := size_list (ly.take mn)
  rw [htl] at s4
  have hcat3 : (⟨#[mb, kb]⟩ : ByteArray) ++ ⟨(ly.take mn).toArray⟩ = ⟨R.toArray⟩ := hcat2
  have hmin : min mn ly.length = mn := by omega
  have hnn1 : ¬ 9223372036854775807 < 2 + mn := by omega
  clear hcat2
  clear h h1 h2 h3 hw hwl h128 hkt hlay HB
  generalize hiN n = nh at *
  generalize loN n = nl at *
  obtain ⟨X, hX⟩ : ∃ X, X = w.alloc (.cells #[.bool sx, .int .u64 (nh : Int), .int .u64 (nl : Int), .int .i64 (k : Int)] 30) := ⟨_, rfl⟩
  have hB : Below w.heap.size w X := by rw [hX]; exact below_new (Below.refl _ _) _
  have r0 : RowAt X w.heap.size [.bool sx, .int .u64 (nh : Int), .int .u64 (nl : Int), .int .i64 (k : Int)] 30 := by rw [hX]; exact RowAt.new _ _ _
  obtain ⟨x0, x1, x2, x3, xf⟩ := cells4 r0
  go_enter Tryz.func91, Tryz.ntmps91
  go_upto_region 1 with fail
  rw [← hX]
  clear hX
  go_wp2_with fail
  go_at_call 76; refine (c0 _).mono ?_; rintro e w1 ⟨rfl, hb1⟩
  go_upto_region 2 with fail
  obtain ⟨Y, hY⟩ : ∃ Y, Y = w1.alloc (.cells #[.int .u8 mk, .int .i64 fr] 137) := ⟨_, rfl⟩
  have hbY : Below w1.heap.size w1 Y := by rw [hY]; exact below_new (Below.refl _ _) _
  have rY : RowAt Y w1.heap.size [.int .u8 mk, .int .i64 fr] 137 := by rw [hY]; exact RowAt.new _ _ _
  rw [← hY]
  replace r0 := RowAt.below (RowAt.below r0 hb1) hbY
  replace hB := below2 (below2 hB hb1) hbY
  clear hY hbY hb1 x0 x1 x2 x3 xf
  generalize w1.heap.size = t1 at rY ⊢
  have k1 : ∀ p : Bl Y, p.W.cell? ⟨w.heap.size, 1, none⟩ = some (.int .u64 (nh : Int)) := fun p => (r0.below p.h).cell 1
  have k2 : ∀ p : Bl Y, p.W.cell? ⟨w.heap.size, 2, none⟩ = some (.int .u64 (nl : Int)) := fun p => (r0.below p.h).cell 2
  have k3 : ∀ p : Bl Y, p.W.cell? ⟨w.heap.size, 3, none⟩ = some (.int .i64 (k : Int)) := fun p => (r0.below p.h).cell 3
  have m0 : ∀ p : Bl Y, p.W.cell? ⟨t1, 0, none⟩ = some (.int .u8 mk) := fun p => (rY.below p.h).cell 0
  have m1 : ∀ p : Bl Y, p.W.cell? ⟨t1, 1, none⟩ = some (.int .i64 fr) := fun p => (rY.below p.h).cell 1
  haveI := bl_ne Y
  go_wp2_with fail
  refine wp_region_bl (by kernel_rfl) (by kernel_rfl) ?_
  repeat (quiet_step (first | (go_at_call 64; with_reducible exact bl_call (c1 _)) | (go_at_call 64; with_reducible exact bl_call (c2 _)) | (go_at_call 100; with_reducible exact bl_call (c3 _)) | (go_at_call 77; with_reducible exact bl_same (c4 _))))
  refine wpQuiet_nil ?_
  intro _ hw'
  obtain ⟨⟨wq, hq⟩, hw2⟩ := hw'
  subst hw2
  have hW := below2 hB hq
  go_wp2_with fail
  go_ret
  exact ⟨rfl, hW⟩
end Go.Proofs.YtopabkkapbaibaaGreat.Msg
