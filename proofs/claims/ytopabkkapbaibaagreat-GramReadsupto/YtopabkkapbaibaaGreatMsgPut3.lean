/- What partsBytes and Put return. -/
import Derived.Test.YtopabkkapbaibaaGreatMsgPut2
set_option linter.unusedVariables false
namespace Go.Proofs.YtopabkkapbaibaaGreat.Msg
open Go.RowKit
open Go.Proofs.YtopabkkapbaibaaGreat.Addr (Pf okP checkP wideN firstN kP hiN loN adV pfV RowAt below2 below_drew below_new bset RowAt.lt RowAt.cell RowAt.frozen RowAt.below RowAt.drew RowAt.new RowAt.alloc gdrew gset gbelow galloc grefl cells2 cells4 results_cell Bl bl_ne wp_region_bl bl_call bl_same)

set_option maxHeartbeats 4000000 in
theorem partsBytes_any (e : Ev) (w : World) (h : okE e = true) : Calls Tryz.prog 66 #[evV e] w fun r w' => r = .returned (.string ⟨(restB e).toArray⟩) ∧ Below w.heap.size w w' := by
  obtain ⟨_, ⟨h1, h2, h3, h4⟩, _⟩ := okE_bd h
  have cP := fun W => prefixBytes_any e.pf W h1
  have cI := fun W => put_any e.iface W h2.1 (by omega)
  have cJ := fun W => put_any e.peer W h3.1 (by omega)
  have cA : e.kind = 3 → ∀ W : World, Calls Tryz.prog 92 #[acV e.act] W fun r w' => r = .returned (.string ⟨(actB e.act).toArray⟩) ∧ Below W.heap.size W w' := fun hk W => actionBytes_any e.act W (h4 hk)
  have hAl : e.kind = 3 → (actB e.act).length ≤ 11 := fun hk => actB_le _ (okA_bd (h4 hk)).2.1.2
  have hPl := prefB_le e.pf
  have hIl := putL_le e.iface.toNat (by omega)
  have hJl := putL_le e.peer.toNat (by omega)
  have HB : Hid (restB e = if e.kind = 3 then prefB e.pf ++ actB e.act else if e.kind = 4 then prefB e.pf else if e.kind = 5 then putL e.iface.toNat ++ putL e.peer.toNat else if e.kind = 6 then putL e.iface.toNat else []) := rfl
  have hc1 := bytes_cat (prefB e.pf) (actB e.act)
  have hc2 := bytes_cat (putL e.iface.toNat) (putL e.peer.toNat)
  have hwi : IntKind.u64.wrap e.iface = e.iface := by rw [IntKind.wrap_u64]; omega
  have hwp : IntKind.u64.wrap e.peer = e.peer := by rw [IntKind.wrap_u64]; omega
  have hib : 0 ≤ e.iface ∧ e.iface ≤ 65536 := h2
  have hpb : 0 ≤ e.peer ∧ e.peer ≤ 1048576 := h3
  generalize restB e = R at HB ⊢
  obtain ⟨k, a, b, c, ⟨sx, n, l⟩, ⟨ak, ai⟩, i, p⟩ := e
  unfold evV evC
  unfold Addr.pfV at cP
  unfold acV at cA
  simp only at *
  clear h h1 h2 h3 h4
  generalize prefB ⟨sx, n, l⟩ = pb at *
  generalize actB ⟨ak, ai⟩ = ab at *
  generalize putL i.toNat = ib at *
  generalize putL p.toNat = jb at *
  generalize hiN n = nh at *
  generalize loN n = nl at *
  obtain ⟨X, hX⟩ : ∃ X, X = w.alloc (.cells #[.int .u8 (k : Int), .int .i64 a, .int .u64 (b : Int), .int .i64 c, .bool sx, .int .u64 (nh : Int), .int .u64 (nl : Int), .int .i64 l, .int .u8 (ak : Int), .int .i64 ai, .int .i64 i, .int .i64 p] 35) := ⟨_, rfl⟩
  have hB : Below w.heap.size w X := by rw [hX]; exact below_new (Below.refl _ _) _
  have r0 : RowAt X w.heap.size [.int .u8 (k : Int), .int .i64 a, .int .u64 (b : Int), .int .i64 c, .bool sx, .int .u64 (nh : Int), .int .u64 (nl : Int), .int .i64 l, .int .u8 (ak : Int), .int .i64 ai, .int .i64 i, .int .i64 p] 35 := by rw [hX]; exact RowAt.new _ _ _
  obtain ⟨⟨y0, y1, y2, y3, y4, y5⟩, ⟨y6, y7, y8, y9, y10, y11⟩, yf, hly⟩ := cells12' r0
  have g4 : ∀ p' : Bl X, p'.W.cell? ⟨w.heap.size, 4, none⟩ = some (.bool sx) := fun p' => (r0.below p'.h).cell 4
  have g5 : ∀ p' : Bl X, p'.W.cell? ⟨w.heap.size, 5, none⟩ = some (.int .u64 (nh : Int)) := fun p' => (r0.below p'.h).cell 5
  have g6 : ∀ p' : Bl X, p'.W.cell? ⟨w.heap.size, 6, none⟩ = some (.int .u64 (nl : Int)) := fun p' => (r0.below p'.h).cell 6
  have g7 : ∀ p' : Bl X, p'.W.cell? ⟨w.heap.size, 7, none⟩ = some (.int .i64 l) := fun p' => (r0.below p'.h).cell 7
  have g8 : ∀ p' : Bl X, p'.W.cell? ⟨w.heap.size, 8, none⟩ = some (.int .u8 (ak : Int)) := fun p' => (r0.below p'.h).cell 8
  have g9 : ∀ p' : Bl X, p'.W.cell? ⟨w.heap.size, 9, none⟩ = some (.int .i64 ai) := fun p' => (r0.below p'.h).cell 9
  have g10 : ∀ p' : Bl X, p'.W.cell? ⟨w.heap.size, 10, none⟩ = some (.int .i64 i) := fun p' => (r0.below p'.h).cell 10
  have g11 : ∀ p' : Bl X, p'.W.cell? ⟨w.heap.size, 11, none⟩ = some (.int .i64 p) := fun p' => (r0.below p'.h).cell 11
  by_cases h3 : k = 3
  · have HV : Hid (R = pb ++ ab) := by show _ = _; rw [HB.out, if_pos h3]
    rw [← HV.out] at hc1
    have q3 : ((k : Int) == 3) = true := by rw [h3]; rfl
    have cA := cA h3
    have hAl := hAl h3
    have hnn : ¬ 9223372036854775807 < pb.length + ab.length := by omega
    clear HB h3 HV
    go_enter Tryz.func66, Tryz.ntmps66
    go_upto_region 1 with fail
    rw [← hX]
    clear hX
    go_wp2_with fail
    haveI := bl_ne X
    refine wp_region_bl (by kernel_rfl) (by kernel_rfl) ?_
    repeat (quiet_step (first | (go_at_call 91; with_reducible exact bl_call (cP _)) | (go_at_call 92; with_reducible exact bl_call (cA _))))
    refine wpQuiet_nil ?_
    intro _ hw'
    obtain ⟨⟨wq, hq⟩, hw2⟩ := hw'
    subst hw2
    have hW := below2 hB hq
    go_wp2_with fail
    go_ret
    exact ⟨rfl, hW⟩
  have q3 : ((k : Int) == 3) = false := beq_eq_false_iff_ne.2 (by omega)
  by_cases h4 : k = 4
  · have HV : Hid (R = pb) := by show _ = _; rw [HB.out, if_neg h3, if_pos h4]
    have q4 : ((k : Int) == 4) = true := by rw [h4]; rfl
    clear HB h4 h3 cA hAl
    go_enter Tryz.func66, Tryz.ntmps66
    go_upto_region 1 with fail
    rw [← hX]
    clear hX
    go_wp2_with fail
    go_at_call 91; refine (cP _).mono ?_; rintro r w1 ⟨rfl, hb1⟩
    go_wp2_with fail
    go_ret
    exact ⟨by rw [HV.out]; rfl, below2 hB hb1⟩
  have q4 : ((k : Int) == 4) = false := beq_eq_false_iff_ne.2 (by omega)
  by_cases h5 : k = 5
  · have HV : Hid (R = ib ++ jb) := by show _ = _; rw [HB.out, if_neg h3, if_neg h4, if_pos h5]
    rw [← HV.out] at hc2
    have q5 : ((k : Int) == 5) = true := by rw [h5]; rfl
    have hnn : ¬ 9223372036854775807 < ib.length + jb.length := by omega
    clear HB h5 h4 h3 cA hAl HV
    go_enter Tryz.func66, Tryz.ntmps66
    go_upto_region 1 with fail
    rw [← hX]
    clear hX
    go_wp2_with fail
    haveI := bl_ne X
    refine wp_region_bl (by kernel_rfl) (by kernel_rfl) ?_
    repeat (quiet_step (first | (go_at_call 65; with_reducible exact bl_call (cI _)) | (go_at_call 65; with_reducible exact bl_call (cJ _))))
    refine wpQuiet_nil ?_
    intro _ hw'
    obtain ⟨⟨wq, hq⟩, hw2⟩ := hw'
    subst hw2
    have hW := below2 hB hq
    go_wp2_with fail
    go_ret
    exact ⟨rfl, hW⟩
  have q5 : ((k : Int) == 5) = false := beq_eq_false_iff_ne.2 (by omega)
  by_cases h6 : k = 6
  · have HV : Hid (R = ib) := by show _ = _; rw [HB.out, if_neg h3, if_neg h4, if_neg h5, if_pos h6]
    have q6 : ((k : Int) == 6) = true := by rw [h6]; rfl
    clear HB h6 h5 h4 h3 cA hAl
    go_enter Tryz.func66, Tryz.ntmps66
    go_upto_region 1 with fail
    rw [← hX]
    clear hX
    go_wp2_with fail
    go_at_call 65; refine (cI _).mono ?_; rintro r w1 ⟨rfl, hb1⟩
    go_wp2_with fail
    go_ret
    exact ⟨by rw [HV.out]; rfl, below2 hB hb1⟩
  · have q6 : ((k : Int) == 6) = false := beq_eq_false_iff_ne.2 (by omega)
    have HV : Hid (R = []) := by show _ = _; rw [HB.out, if_neg h3, if_neg h4, if_neg h5, if_neg h6]
    clear HB h6 h5 h4 h3 cA hAl
    go_enter Tryz.func66, Tryz.ntmps66
    go_upto_region 1 with fail
    rw [← hX]
    clear hX
    go_wp2_with fail
    go_ret
    exact ⟨by rw [HV.out]; rfl, hB⟩
theorem restB_le (e : Ev) (h : okE e = true) : (restB e).length ≤ 30 := by
  obtain ⟨_, ⟨h1, h2, h3, h4⟩, _⟩ := okE_bd h
  have hPl := prefB_le e.pf
  have hIl := putL_le e.iface.toNat (by omega)
  have hJl := putL_le e.peer.toNat (by omega)
  unfold restB
  split
  · rename_i hk
    have := actB_le e.act (okA_bd (h4 hk)).2.1.2
    rw [List.length_append]; omega
  · repeat' split
    all_goals (try rw [List.length_append]) <;> (try simp only [List.length_nil]) <;> omega
set_option maxHeartbeats 4000000 in
theorem eput_any (e : Ev) (w : World) (hf : FitE e) : Calls Tryz.prog 43 #[evV e] w fun r w' => r = .returned (.tuple #[.string ⟨(if okE e then evB e else []).toArray⟩, .int .i64 (checkE e)]) ∧ Below w.heap.size w w' := by
  have c1 := fun W => echeck_any e W hf
  have hc : checkE e = if okE e = true then 0 else 2 := rfl
  rw [hc] at c1 ⊢
  cases hB : okE e
  · rw [hB] at c1
    simp only [Bool.false_eq_true, if_false] at c1 ⊢
    clear hc hf hB
    obtain ⟨k, a, b, c, ⟨sx, n, l⟩, ⟨ak, ai⟩, i, p⟩ := e
    unfold evV evC at *
    simp only at *
    generalize hiN n = nh at *
    generalize loN n = nl at *
    obtain ⟨X, hX⟩ : ∃ X, X = w.alloc (.cells #[.int .u8 (k : Int), .int .i64 a, .int .u64 (b : Int), .int .i64 c, .bool sx, .int .u64 (nh : Int), .int .u64 (nl : Int), .int .i64 l, .int .u8 (ak : Int), .int .i64 ai, .int .i64 i, .int .i64 p] 35) := ⟨_, rfl⟩
    have hB : Below w.heap.size w X := by rw [hX]; exact below_new (Below.refl _ _) _
    have r0 : RowAt X w.heap.size [.int .u8 (k : Int), .int .i64 a, .int .u64 (b : Int), .int .i64 c, .bool sx, .int .u64 (nh : Int), .int .u64 (nl : Int), .int .i64 l, .int .u8 (ak : Int), .int .i64 ai, .int .i64 i, .int .i64 p] 35 := by rw [hX]; exact RowAt.new _ _ _
    obtain ⟨⟨y0, y1, y2, y3, y4, y5⟩, ⟨y6, y7, y8, y9, y10, y11⟩, yf, hly⟩ := cells12' r0
    go_enter Tryz.func43, Tryz.ntmps43
    go_upto_region 1 with fail
    rw [← hX]
    clear hX
    go_wp2_with fail
    go_at_call 32; refine (c1 _).mono ?_; rintro r w1 ⟨rfl, hb1⟩
    go_wp2_with fail
    go_ret2
    exact ⟨rfl, below2 hB hb1⟩
  · rw [hB] at c1
    simp only [if_true] at c1 ⊢
    obtain ⟨⟨hk, hr, hs, ht⟩, _, _⟩ := okE_bd hB
    have cK := fun W => oneByte_any (UInt8.ofNat e.kind) W
    rw [byte_k e.kind (by omega)] at cK
    have cR := fun W => put_any e.router W hr.1 (by omega)
    have cS := fun W => put_any (e.seq : Int) W (by omega) (by omega)
    have cT := fun W => put_any e.time W ht.1 (by omega)
    rw [Int.toNat_natCast] at cS
    have cP := fun W => partsBytes_any e W hB
    have l1 := putL_le e.router.toNat (by omega)
    have l2 := putL_le e.seq (by omega)
    have l3 := putL_le e.time.toNat (by omega)
    have l4 := restB_le e hB
    have HE : Hid (evB e = [UInt8.ofNat e.kind] ++ putL e.router.toNat ++ putL e.seq ++ putL e.time.toNat ++ restB e) := rfl
    have k1 := bytes_cat [UInt8.ofNat e.kind] (putL e.router.toNat)
    have k2 := bytes_cat ([UInt8.ofNat e.kind] ++ putL e.router.toNat) (putL e.seq)
    have k3 := bytes_cat ([UInt8.ofNat e.kind] ++ putL e.router.toNat ++ putL e.seq) (putL e.time.toNat)
    have k4 := bytes_cat ([UInt8.ofNat e.kind] ++ putL e.router.toNat ++ putL e.seq ++ putL e.time.toNat) (restB e)
    rw [← HE.out] at k4
    have hwr : IntKind.u64.wrap e.router = e.router := by rw [IntKind.wrap_u64]; omega
    have hwt : IntKind.u64.wrap e.time = e.time := by rw [IntKind.wrap_u64]; omega
    have hrb : 0 ≤ e.router ∧ e.router ≤ 1048576 := hr
    have htb : 0 ≤ e.time ∧ e.time ≤ 1099511627776 := ht
    clear HE hc hf hB hk hr hs ht
    generalize evB e = R at *
    generalize restB e = rb at *
    obtain ⟨k, a, b, c, ⟨sx, n, l⟩, ⟨ak, ai⟩, i, p⟩ := e
    unfold evV evC at *
    simp only at *
    generalize hiN n = nh at *
    generalize loN n = nl at *
    generalize UInt8.ofNat k = kb at *
    generalize putL a.toNat = p1 at *
    generalize putL b = p2 at *
    generalize putL c.toNat = p3 at *
    have z1 : ([kb] ++ p1).length ≤ 11 := by rw [List.length_append]; simp; omega
    have z2 : ([kb] ++ p1 ++ p2).length ≤ 21 := by rw [List.length_append]; omega
    have z3 : ([kb] ++ p1 ++ p2 ++ p3).length ≤ 31 := by rw [List.length_append]; omega
    generalize hq1 : [kb] ++ p1 = q1 at *
    generalize hq2 : q1 ++ p2 = q2 at *
    generalize hq3 : q2 ++ p3 = q3 at *
    have k1' : (⟨#[kb]⟩ : ByteArray) ++ ⟨p1.toArray⟩ = ⟨q1.toArray⟩ := k1
    clear k1 hq1 hq2 hq3
    have n1 : ¬ 9223372036854775807 < 1 + p1.length := by omega
    have n2 : ¬ 9223372036854775807 < q1.length + p2.length := by omega
    have n3 : ¬ 9223372036854775807 < q2.length + p3.length := by omega
    have n4 : ¬ 9223372036854775807 < q3.length + rb.length := by omega
    obtain ⟨X, hX⟩ : ∃ X, X = w.alloc (.cells #[.int .u8 (k : Int), .int .i64 a, .int .u64 (b : Int), .int .i64 c, .bool sx, .int .u64 (nh : Int), .int .u64 (nl : Int), .int .i64 l, .int .u8 (ak : Int), .int .i64 ai, .int .i64 i, .int .i64 p] 35) := ⟨_, rfl⟩
    have hB : Below w.heap.size w X := by rw [hX]; exact below_new (Below.refl _ _) _
    have r0 : RowAt X w.heap.size [.int .u8 (k : Int), .int .i64 a, .int .u64 (b : Int), .int .i64 c, .bool sx, .int .u64 (nh : Int), .int .u64 (nl : Int), .int .i64 l, .int .u8 (ak : Int), .int .i64 ai, .int .i64 i, .int .i64 p] 35 := by rw [hX]; exact RowAt.new _ _ _
    obtain ⟨⟨y0, y1, y2, y3, y4, y5⟩, ⟨y6, y7, y8, y9, y10, y11⟩, yf, hly⟩ := cells12' r0
    go_enter Tryz.func43, Tryz.ntmps43
    go_upto_region 1 with fail
    rw [← hX]
    clear hX
    go_wp2_with fail
    go_at_call 32; refine (c1 _).mono ?_; rintro r w1 ⟨rfl, hb1⟩
    replace r0 := RowAt.below r0 hb1
    replace hB := below2 hB hb1
    clear hb1 c1 y0 y1 y2 y3 y4 y5 y6 y7 y8 y9 y10 y11 yf hly
    have g0 : ∀ p' : Bl w1, p'.W.cell? ⟨w.heap.size, 0, none⟩ = some (.int .u8 (k : Int)) := fun p' => (r0.below p'.h).cell 0
    have g1 : ∀ p' : Bl w1, p'.W.cell? ⟨w.heap.size, 1, none⟩ = some (.int .i64 a) := fun p' => (r0.below p'.h).cell 1
    have g2 : ∀ p' : Bl w1, p'.W.cell? ⟨w.heap.size, 2, none⟩ = some (.int .u64 (b : Int)) := fun p' => (r0.below p'.h).cell 2
    have g3 : ∀ p' : Bl w1, p'.W.cell? ⟨w.heap.size, 3, none⟩ = some (.int .i64 c) := fun p' => (r0.below p'.h).cell 3
    go_wp2_with fail
    haveI := bl_ne w1
    refine wp_region_bl (by kernel_rfl) (by kernel_rfl) ?_
    repeat (quiet_step (first | (go_at_call 64; with_reducible exact bl_call (cK _)) | (go_at_call 65; with_reducible exact bl_call (cR _)) | (go_at_call 65; with_reducible exact bl_call (cS _)) | (go_at_call 65; with_reducible exact bl_call (cT _))))
    refine wpQuiet_nil ?_
    intro _ hw'
    obtain ⟨⟨wq, hq⟩, hw2⟩ := hw'
    subst hw2
    replace r0 := RowAt.below r0 hq
    replace hB := below2 hB hq
    clear g0 g1 g2 g3 cK cR cS cT hq
    obtain ⟨⟨y0, y1, y2, y3, y4, y5⟩, ⟨y6, y7, y8, y9, y10, y11⟩, yf, hly⟩ := cells12' r0
    go_wp2_with fail
    go_at_call 66; refine (cP _).mono ?_; rintro r w3 ⟨rfl, hb3⟩
    go_wp2_with fail
    go_ret2
    exact ⟨rfl, below2 hB hb3⟩
end Go.Proofs.YtopabkkapbaibaaGreat.Msg
