/- fib.Make. -/
import Derived.Test.YtkjhnefbcnnjlaaTv19
import Derived.Test.YtkjhnefbcnnjlaaTv12
import Derived.Laws.ResultCell
set_option linter.unusedVariables false
namespace Go.Proofs.Ytkjhnefbcnnjlaa.Fib
open Go.RowKit
open Go.Proofs.Ytkjhnefbcnnjlaa.Addr (hiN loN RowAt below2 below_new RowAt.lt RowAt.below RowAt.new RowAt.alloc cells4)
open Go.Proofs.Ytkjhnefbcnnjlaa.Msg (Ev okE FitE evV checkE)
open Go.Proofs.Ytkjhnefbcnnjlaa.Lk (Lk HasLks HasLks.keep)
open Go.Proofs.Ytkjhnefbcnnjlaa.Tr (HasRts HasRts.keep)
/-- a router is answered, with an error -/
def RoIs (R : Ro) (why : Int) (w : World) (e : Ending) (w' : World) : Prop :=
  ∃ o2 n2 m2 o3 n3 m3, e = .returned (.tuple #[.agg #[.int .i64 R.id, .bool R.up, .slice o2 n2 m2, .slice o3 n3 m3], .int .i64 why]) ∧ HasRts w' (.slice o2 n2 m2) R.rts ∧ HasLks w' (.slice o3 n3 m3) R.lks ∧ Below w.heap.size w w'
theorem ro_nil (w : World) : HasRts w (.slice none 0 0) [] ∧ HasLks w (.slice none 0 0) [] := ⟨Lk.hasRow_nil _ 6, Lk.hasRow_nil _ 2⟩
set_option maxHeartbeats 4000000 in
set_option maxRecDepth 20000 in
theorem apply_any (R : Ro) (e : Ev) (a b : Value) (w : World) (ha : HasRts w a R.rts) (hb : HasLks w b R.lks) (hf : FitRo R) (he : FitE e) :
    Calls Try.prog 7 #[.agg #[.int .i64 R.id, .bool R.up, a, b], evV e] w (RoIs (applyRo R e).1 (applyRo R e).2 w) := by
  obtain ⟨o2, m2, rfl, _⟩ := Lk.HasRow.slice ha
  obtain ⟨o3, m3, rfl, _⟩ := Lk.HasRow.slice hb
  have cC := fun W (h : HasRts W (.slice o2 R.rts.length m2) R.rts) (h' : HasLks W (.slice o3 R.lks.length m3) R.lks) => check_any R _ _ W h h' hf.rts
  have cM := fun W => Msg.echeck_any e W he
  have cF := fun W (h : HasRts W (.slice o2 R.rts.length m2) R.rts) (h' : HasLks W (.slice o3 R.lks.length m3) R.lks) h1 h2 => fresh_any R _ _ W h h' h1 h2
  have cX := fun W B c d (hr : RowAt W B [.int .i64 R.id, .bool R.up, c, d] 69) => misfit_any R e B c d W hr
  have cT := fun W B c d (hr : RowAt W B [.int .i64 R.id, .bool R.up, c, d] 69) (h : HasRts W c R.rts) (h' : HasLks W d R.lks) => take_any R e B c d W hr h h' hf.rts he
  have hck : checkRo R = if okRo R then 0 else 2 := rfl
  have hce : checkE e = if okE e then 0 else 2 := rfl
  rw [hck] at cC
  rw [hce] at cM
  clear hck hce
  have hl : okRo R = true → R.rts.length ≤ 1000 ∧ R.lks.length ≤ 1000 := fun h => by have := okRo_parts h; omega
  have hA : applyRo R e = if okRo R && okE e then (if misRo R e = 0 then takeRo R e else (R, misRo R e)) else (zeroRo, 2) := rfl
  generalize applyRo R e = A at hA ⊢
  generalize takeRo R e = T at hA cT
  generalize misRo R e = M at hA cX
  generalize okE e = ke at hA cM
  generalize okRo R = kr at hA cC hl
  obtain ⟨id, up, rts, lks⟩ := R
  obtain ⟨kind, router, seq, time, pf, act, iface, peer⟩ := e
  simp only at ha hb cC cF cX cT hl hA
  generalize rts.length = n2 at *
  generalize lks.length = n3 at *
  replace cM : ∀ W, Calls Try.prog 18 #[.agg #[.int .u8 (kind : Int), .int .i64 router, .int .u64 (seq : Int), .int .i64 time, .bool pf.six, .int .u64 (hiN pf.n : Int), .int .u64 (loN pf.n : Int), .int .i64 pf.len, .int .u8 (act.k : Int), .int .i64 act.i, .int .i64 iface, .int .i64 peer]] W fun r w' => r = .returned (.int .i64 (if ke then 0 else 2)) ∧ Below W.heap.size W w' := cM
  replace cX : ∀ W B c d, RowAt W B [.int .i64 id, .bool up, c, d] 69 → Calls Try.prog 20 #[.pointer (some ⟨B, 0, none⟩), .agg #[.int .u8 (kind : Int), .int .i64 router, .int .u64 (seq : Int), .int .i64 time, .bool pf.six, .int .u64 (hiN pf.n : Int), .int .u64 (loN pf.n : Int), .int .i64 pf.len, .int .u8 (act.k : Int), .int .i64 act.i, .int .i64 iface, .int .i64 peer]] W fun x w' => x = .returned (.int .i64 M) ∧ Below W.heap.size W w' := cX
  replace cT : ∀ W B c d, RowAt W B [.int .i64 id, .bool up, c, d] 69 → HasRts W c rts → HasLks W d lks → Calls Try.prog 21 #[.pointer (some ⟨B, 0, none⟩), .agg #[.int .u8 (kind : Int), .int .i64 router, .int .u64 (seq : Int), .int .i64 time, .bool pf.six, .int .u64 (hiN pf.n : Int), .int .u64 (loN pf.n : Int), .int .i64 pf.len, .int .u8 (act.k : Int), .int .i64 act.i, .int .i64 iface, .int .i64 peer]] W (TakeIs B W T.1.id T.1.up T.1.rts T.1.lks T.2) := cT
  show Calls Try.prog 7 #[.agg #[.int .i64 id, .bool up, .slice o2 n2 m2, .slice o3 n3 m3], .agg #[.int .u8 (kind : Int), .int .i64 router, .int .u64 (seq : Int), .int .i64 time, .bool pf.six, .int .u64 (hiN pf.n : Int), .int .u64 (loN pf.n : Int), .int .i64 pf.len, .int .u8 (act.k : Int), .int .i64 act.i, .int .i64 iface, .int .i64 peer]] w (RoIs A.1 A.2 w)
  obtain ⟨X, hX⟩ : ∃ X, X = ((w.alloc (.cells #[.int .i64 id, .bool up, .slice o2 n2 m2, .slice o3 n3 m3] 37)).alloc (.cells #[.int .u8 (kind : Int), .int .i64 router, .int .u64 (seq : Int), .int .i64 time, .bool pf.six, .int .u64 (hiN pf.n : Int), .int .u64 (loN pf.n : Int), .int .i64 pf.len, .int .u8 (act.k : Int), .int .i64 act.i, .int .i64 iface, .int .i64 peer] 49)).alloc (.cells #[.int .i64 0, .bool false, .slice none 0 0, .slice none 0 0] 37) := ⟨_, rfl⟩
  have hB : Below w.heap.size w X := by rw [hX]; exact below_new (below_new (below_new (Below.refl _ _) _) _) _
  have r0 : RowAt X w.heap.size [.int .i64 id, .bool up, .slice o2 n2 m2, .slice o3 n3 m3] 37 := by rw [hX]; exact ((RowAt.new _ _ _).alloc _).alloc _
  have r1 : RowAt X (w.heap.size + 1) [.int .u8 (kind : Int), .int .i64 router, .int .u64 (seq : Int), .int .i64 time, .bool pf.six, .int .u64 (hiN pf.n : Int), .int .u64 (loN pf.n : Int), .int .i64 pf.len, .int .u8 (act.k : Int), .int .i64 act.i, .int .i64 iface, .int .i64 peer] 49 := by rw [hX, ← World.size_alloc w (.cells #[.int .i64 id, .bool up, .slice o2 n2 m2, .slice o3 n3 m3] 37)]; exact (RowAt.new _ _ _).alloc _
  have r2 : RowAt X (w.heap.size + 2) [.int .i64 0, .bool false, .slice none 0 0, .slice none 0 0] 37 := by rw [hX, show w.heap.size + 2 = ((w.alloc (.cells #[.int .i64 id, .bool up, .slice o2 n2 m2, .slice o3 n3 m3] 37)).alloc (.cells #[.int .u8 (kind : Int), .int .i64 router, .int .u64 (seq : Int), .int .i64 time, .bool pf.six, .int .u64 (hiN pf.n : Int), .int .u64 (loN pf.n : Int), .int .i64 pf.len, .int .u8 (act.k : Int), .int .i64 act.i, .int .i64 iface, .int .i64 peer] 49)).heap.size by simp]; exact RowAt.new _ _ _
  replace ha := ha.keep hB
  replace hb := hb.keep hB
  clear hf he
  have HA : Hid (A = if kr && ke then (if M = 0 then T else (⟨id, up, rts, lks⟩, M)) else (zeroRo, 2)) := hA
  clear hA
  have c25 := fun (W : World) => ro_nil W
  cases kr
  · have HV : Hid (A = (zeroRo, 2)) := HA.out
    clear HA cM cF cX cT hl
    simp only [Bool.false_eq_true, if_false] at cC
    go_enter Try.func7, Try.ntmps7
    go_upto_region 1 with fail
    rw [← hX]
    clear hX
    obtain ⟨p0, p1, p2, p3, pf0⟩ := cells4 r0
    go_wp2_with fail
    clear p0 p1 p2 p3 pf0
    go_at_call 17; refine (cC _ ha hb).mono ?_; rintro x w1 ⟨rfl, hb1⟩
    replace hB := below2 hB hb1
    obtain ⟨q0, q1, q2, q3, qf⟩ := cells4 (RowAt.below r2 hb1)
    clear hb1 cC
    go_wp2_with fail
    (try simp only [Exit.inBlock, Exit.then])
    refine bodyPost_ret (v := .tuple #[.agg #[.int .i64 0, .bool false, .slice none 0 0, .slice none 0 0], .int .i64 2]) ?_ rfl ⟨none, 0, 0, none, 0, 0, by rw [HV.out]; rfl, by rw [HV.out]; exact (c25 _).1, by rw [HV.out]; exact (c25 _).2, ?_⟩
    · rw [results_cell_tmp rfl]
      go_simp
    · exact set4_bl hB (by omega) _ _ _ _
  simp only [if_true] at cC
  cases ke
  · have HV : Hid (A = (zeroRo, 2)) := HA.out
    clear HA cF cX cT hl
    simp only [Bool.false_eq_true, if_false] at cM
    go_enter Try.func7, Try.ntmps7
    go_upto_region 1 with fail
    rw [← hX]
    clear hX
    obtain ⟨p0, p1, p2, p3, pf0⟩ := cells4 r0
    go_wp2_with fail
    clear p0 p1 p2 p3 pf0
    go_at_call 17; refine (cC _ ha hb).mono ?_; rintro x w1 ⟨rfl, hb1⟩
    replace hB := below2 hB hb1
    replace r1 := RowAt.below r1 hb1
    replace r2 := RowAt.below r2 hb1
    obtain ⟨p0, p1, p2, p3, p4, p5, p6, p7, p8, p9, p10, p11, pf0⟩ := cells12 r1
    clear hb1 cC
    go_wp2_with fail
    clear p0 p1 p2 p3 p4 p5 p6 p7 p8 p9 p10 p11 pf0
    go_at_call 18; refine (cM _).mono ?_; rintro x w2 ⟨rfl, hb2⟩
    replace hB := below2 hB hb2
    obtain ⟨q0, q1, q2, q3, qf⟩ := cells4 (RowAt.below r2 hb2)
    clear hb2 cM
    go_wp2_with fail
    (try simp only [Exit.inBlock, Exit.then])
    refine bodyPost_ret (v := .tuple #[.agg #[.int .i64 0, .bool false, .slice none 0 0, .slice none 0 0], .int .i64 2]) ?_ rfl ⟨none, 0, 0, none, 0, 0, by rw [HV.out]; rfl, by rw [HV.out]; exact (c25 _).1, by rw [HV.out]; exact (c25 _).2, ?_⟩
    · rw [results_cell_tmp rfl]
      go_simp
    · exact set4_bl hB (by omega) _ _ _ _
  simp only [if_true] at cM
  obtain ⟨hl1, hl2⟩ := hl rfl
  have HV : Hid (A = if M = 0 then T else (⟨id, up, rts, lks⟩, M)) := HA.out
  have HX := Nat.le_refl w.heap.size
  clear HA hl
  go_enter Try.func7, Try.ntmps7
  go_upto_region 1 with fail
  rw [← hX]
  clear hX
  obtain ⟨p0, p1, p2, p3, pf0⟩ := cells4 r0
  go_wp2_with fail
  clear p0 p1 p2 p3 pf0
  go_at_call 17; refine (cC _ ha hb).mono ?_; rintro x w1 ⟨rfl, hb1⟩
  replace hB := below2 hB hb1
  replace r0 := RowAt.below r0 hb1
  replace r1 := RowAt.below r1 hb1
  replace r2 := RowAt.below r2 hb1
  replace ha := ha.keep hb1
  replace hb := hb.keep hb1
  obtain ⟨p0, p1, p2, p3, p4, p5, p6, p7, p8, p9, p10, p11, pf0⟩ := cells12 r1
  clear hb1 cC
  go_wp2_with fail
  clear p0 p1 p2 p3 p4 p5 p6 p7 p8 p9 p10 p11 pf0
  go_at_call 18; refine (cM _).mono ?_; rintro x w2 ⟨rfl, hb2⟩
  replace hB := below2 hB hb2
  replace r0 := RowAt.below r0 hb2
  replace r1 := RowAt.below r1 hb2
  replace r2 := RowAt.below r2 hb2
  replace ha := ha.keep hb2
  replace hb := hb.keep hb2
  clear hb2 cM
  obtain ⟨p0, p1, p2, p3, pf0⟩ := cells4 r0
  go_wp2_with fail
  clear p0 p1 p2 p3 pf0
  go_at_call 19; refine (cF _ ha hb hl1 hl2).mono ?_; rintro x w3 ⟨c, d, rfl, hc, hd, hb3⟩
  replace hB := below2 hB hb3
  replace r1 := RowAt.below r1 hb3
  replace r2 := RowAt.below r2 hb3
  clear hb3 cF r0 ha hb
  obtain ⟨o4, m4, rfl, _⟩ := Lk.HasRow.slice hc
  obtain ⟨o5, m5, rfl, _⟩ := Lk.HasRow.slice hd
  generalize rts.length = n4 at *
  generalize lks.length = n5 at *
  obtain ⟨Y, hY⟩ : ∃ Y, Y = w3.alloc (.cells #[.int .i64 id, .bool up, .slice o4 n4 m4, .slice o5 n5 m5] 69) := ⟨_, rfl⟩
  have hbY : Below w3.heap.size w3 Y := by rw [hY]; exact below_new (Below.refl _ _) _
  have r3 : RowAt Y w3.heap.size [.int .i64 id, .bool up, .slice o4 n4 m4, .slice o5 n5 m5] 69 := by rw [hY]; exact RowAt.new _ _ _
  have hwB : w.heap.size ≤ w3.heap.size := hB.size
  replace hB := below2 hB hbY
  replace r1 := RowAt.below r1 hbY
  have hr2l := r2.lt
  replace r2 := RowAt.below r2 hbY
  replace hc := hc.keep hbY
  replace hd := hd.keep hbY
  go_upto_region 4 with fail
  rw [← hY]
  clear hY
  generalize w3.heap.size = B at *
  clear hbY
  obtain ⟨p0, p1, p2, p3, p4, p5, p6, p7, p8, p9, p10, p11, pf0⟩ := cells12 r1
  go_wp2_with fail
  clear p0 p1 p2 p3 p4 p5 p6 p7 p8 p9 p10 p11 pf0
  go_at_call 20; refine (cX _ _ _ _ r3).mono ?_; rintro x w4 ⟨rfl, hb4⟩
  replace hB := below2 hB hb4
  replace r1 := RowAt.below r1 hb4
  replace r2 := RowAt.below r2 hb4
  replace r3 := RowAt.below r3 hb4
  replace hc := hc.keep hb4
  replace hd := hd.keep hb4
  clear hb4 cX
  by_cases hM : M = 0
  · have HW : Hid (A = T) := by show _ = _; rw [HV.out, if_pos hM]
    clear HV
    subst hM
    obtain ⟨p0, p1, p2, p3, p4, p5, p6, p7, p8, p9, p10, p11, pf0⟩ := cells12 r1
    go_wp2_with fail
    clear p0 p1 p2 p3 p4 p5 p6 p7 p8 p9 p10 p11 pf0
    go_at_call 21; refine (cT _ _ _ _ r3 hc hd).mono ?_; rintro x w5 ⟨u, v, rfl, r4, hu, hv, hb5⟩
    obtain ⟨o6, m6, rfl, _⟩ := Lk.HasRow.slice hu
    obtain ⟨o7, m7, rfl, _⟩ := Lk.HasRow.slice hv
    generalize T.1.rts.length = n6 at *
    generalize T.1.lks.length = n7 at *
    have r5 : RowAt w5 (w.heap.size + 2) [.int .i64 0, .bool false, .slice none 0 0, .slice none 0 0] 37 := (hb5.block _ hr2l).trans r2
    have hB5 : Below w.heap.size w w5 := hB.trans (hb5.mono hwB)
    clear hB r1 r2 r3 hc hd hb5 cT
    obtain ⟨p0, p1, p2, p3, pf0⟩ := cells4 r4
    obtain ⟨q0, q1, q2, q3, qf⟩ := cells4 r5
    go_wp2_with fail
    (try simp only [Exit.inBlock, Exit.then])
    refine bodyPost_ret (v := .tuple #[.agg #[.int .i64 T.1.id, .bool T.1.up, .slice o6 n6 m6, .slice o7 n7 m7], .int .i64 T.2]) ?_ rfl ⟨_, _, _, _, _, _, by rw [HW.out], by rw [HW.out]; exact rts_apart hu r5 (set4_gr _ _ _ _ _ _), by rw [HW.out]; exact lks_apart hv r5 (set4_gr _ _ _ _ _ _), ?_⟩
    · rw [results_cell_tmp rfl]
      go_simp
    · exact set4_bl hB5 (by omega) _ _ _ _
  · have HW : Hid (A = (⟨id, up, rts, lks⟩, M)) := by show _ = _; rw [HV.out, if_neg hM]
    clear HV
    have hMb : (M == 0) = false := beq_eq_false_iff_ne.2 hM
    clear r1 cT
    obtain ⟨p0, p1, p2, p3, pf0⟩ := cells4 r3
    obtain ⟨q0, q1, q2, q3, qf⟩ := cells4 r2
    go_wp2_with fail
    (try simp only [Exit.inBlock, Exit.then])
    refine bodyPost_ret (v := .tuple #[.agg #[.int .i64 id, .bool up, .slice o4 n4 m4, .slice o5 n5 m5], .int .i64 M]) ?_ rfl ⟨_, _, _, _, _, _, by rw [HW.out], by rw [HW.out]; exact rts_apart hc r2 (set4_gr _ _ _ _ _ _), by rw [HW.out]; exact lks_apart hd r2 (set4_gr _ _ _ _ _ _), ?_⟩
    · rw [results_cell_tmp rfl]
      go_simp
    · exact set4_bl hB (by omega) _ _ _ _
end Go.Proofs.Ytkjhnefbcnnjlaa.Fib
namespace Go.Proofs.Ytkjhnefbcnnjlaa.Fib
open Go.RowKit
open Go.Proofs.Ytkjhnefbcnnjlaa.Addr (RowAt below2 below_new RowAt.below RowAt.new RowAt.alloc cells4)
theorem make_any (i : Int) (w : World) : Calls Try.prog 6 #[.int .i64 i] w (RoIs (makeRo i).1 (makeRo i).2 w) := by
  have cM := fun W => mayBe_any i W
  have hA : makeRo i = if okId i then (⟨i, false, [], []⟩, 0) else (zeroRo, 1) := rfl
  generalize makeRo i = A at hA ⊢
  generalize okId i = k at hA cM
  have HA : Hid (A = if k then (⟨i, false, [], []⟩, 0) else (zeroRo, 1)) := hA
  clear hA
  have c25 := fun (W : World) => ro_nil W
  obtain ⟨X, hX⟩ : ∃ X, X = w.alloc (.cells #[.int .i64 0, .bool false, .slice none 0 0, .slice none 0 0] 37) := ⟨_, rfl⟩
  have hB : Below w.heap.size w X := by rw [hX]; exact below_new (Below.refl _ _) _
  have r0 : RowAt X w.heap.size [.int .i64 0, .bool false, .slice none 0 0, .slice none 0 0] 37 := by rw [hX]; exact RowAt.new _ _ _
  go_enter Try.func6, Try.ntmps6
  go_upto_region 1 with fail
  rw [← hX]
  clear hX
  go_wp2_with fail
  go_at_call 16; refine (cM _).mono ?_; rintro x w1 ⟨rfl, hb1⟩
  replace hB := below2 hB hb1
  obtain ⟨q0, q1, q2, q3, qf⟩ := cells4 (RowAt.below r0 hb1)
  clear hb1 r0 cM
  cases k
  · have HV : Hid (A = (zeroRo, 1)) := HA.out
    clear HA
    go_wp2_with fail
    (try simp only [Exit.inBlock, Exit.then])
    refine bodyPost_ret (v := .tuple #[.agg #[.int .i64 0, .bool false, .slice none 0 0, .slice none 0 0], .int .i64 1]) ?_ rfl ⟨none, 0, 0, none, 0, 0, by rw [HV.out]; rfl, by rw [HV.out]; exact (c25 _).1, by rw [HV.out]; exact (c25 _).2, ?_⟩
    · rw [results_cell_tmp rfl]
      go_simp
    · exact set4_bl hB (by omega) _ _ _ _
  · have HV : Hid (A = (⟨i, false, [], []⟩, 0)) := HA.out
    clear HA
    go_wp2_with fail
    (try simp only [Exit.inBlock, Exit.then])
    refine bodyPost_ret (v := .tuple #[.agg #[.int .i64 i, .bool false, .slice none 0 0, .slice none 0 0], .int .i64 0]) ?_ rfl ⟨none, 0, 0, none, 0, 0, by rw [HV.out], by rw [HV.out]; exact (c25 _).1, by rw [HV.out]; exact (c25 _).2, ?_⟩
    · rw [results_cell_tmp rfl]
      go_simp
    · exact set4_bl hB (by omega) _ _ _ _
end Go.Proofs.Ytkjhnefbcnnjlaa.Fib
