/- Rows of seats that are one. -/
import Derived.Test.YtkjhnefbcnnjlaaTv19
import Derived.Test.YtkjhnefbcnnjlaaTv12
import Derived.Laws.ResultCell
import Derived.Test.YtkjhnefbcnnjlaaTv20
import Derived.Test.YtkjhnefbcnnjlaaTv32
import Derived.Test.YtkjhnefbcnnjlaaTv29
import Derived.Test.YtkjhnefbcnnjlaaTv26
import Derived.Test.YtkjhnefbcnnjlaaTv09
import Derived.Test.YtkjhnefbcnnjlaaTv07
import Derived.BigQuiet
import Derived.Deep.QuietTactic
import Derived.Laws.StructEq
import Derived.Test.YtkjhnefbcnnjlaaTv06
import Derived.Test.YtkjhnefbcnnjlaaTv10
set_option linter.unusedVariables false
namespace Go.Proofs.Ytkjhnefbcnnjlaa.Fib
open Go.RowKit
open Go.Proofs.Ytkjhnefbcnnjlaa.Nw (HasRtsW.mono HasLksW.mono new_nil)
open Go.Proofs.Ytkjhnefbcnnjlaa.Addr (hiN loN RowAt below2 below_new RowAt.lt RowAt.below RowAt.new RowAt.alloc cells4)
open Go.Proofs.Ytkjhnefbcnnjlaa.Msg (Ev okE FitE evV checkE)
open Go.Proofs.Ytkjhnefbcnnjlaa.Lk (Lk HasLks HasLks.keep)
open Go.Proofs.Ytkjhnefbcnnjlaa.Tr (HasRts HasRts.keep)
/-- a router that a call returned, with a word; its rows in new memory -/
def RoIsW (R : Ro) (why : Int) (w : World) (e : Ending) (w' : World) : Prop :=
  ∃ o2 n2 m2 o3 n3 m3, e = .returned (.tuple #[.agg #[.int .i64 R.id, .bool R.up, .slice o2 n2 m2, .slice o3 n3 m3], .int .i64 why]) ∧ HasRts w' (.slice o2 n2 m2) R.rts ∧ HasLks w' (.slice o3 n3 m3) R.lks ∧ Below w.heap.size w w' ∧ NewV w.heap.size (.slice o2 n2 m2) ∧ NewV w.heap.size (.slice o3 n3 m3)
theorem freshW (R : Ro) (a b : Value) (w : World) (ha : HasRts w a R.rts) (hb : HasLks w b R.lks) (h1 : R.rts.length ≤ 1000) (h2 : R.lks.length ≤ 1000) :
    Calls Try.prog 19 #[.agg #[.int .i64 R.id, .bool R.up, a, b]] w fun e w' => ∃ c d, e = .returned (.agg #[.int .i64 R.id, .bool R.up, c, d]) ∧ HasRts w' c R.rts ∧ HasLks w' d R.lks ∧ Below w.heap.size w w' ∧ NewV w.heap.size c ∧ NewV w.heap.size d := by
  refine (fresh_new R a b w ha hb h1 h2).mono ?_
  rintro e w' ⟨o1, n1, m1, o2, n2, m2, rfl, q1, q2, q3, q4, q5⟩
  exact ⟨_, _, rfl, q1, q2, q5, q3, q4⟩
set_option maxHeartbeats 4000000 in
set_option maxRecDepth 20000 in
theorem apply_new (R : Ro) (e : Ev) (a b : Value) (w : World) (ha : HasRts w a R.rts) (hb : HasLks w b R.lks) (hf : FitRo R) (he : FitE e) :
    Calls Try.prog 7 #[.agg #[.int .i64 R.id, .bool R.up, a, b], evV e] w (RoIsW (applyRo R e).1 (applyRo R e).2 w) := by
  obtain ⟨o2, m2, rfl, _⟩ := Lk.HasRow.slice ha
  obtain ⟨o3, m3, rfl, _⟩ := Lk.HasRow.slice hb
  have cC := fun W (h : HasRts W (.slice o2 R.rts.length m2) R.rts) (h' : HasLks W (.slice o3 R.lks.length m3) R.lks) => check_any R _ _ W h h' hf.rts
  have cM := fun W => Msg.echeck_any e W he
  have cF := fun W (h : HasRts W (.slice o2 R.rts.length m2) R.rts) (h' : HasLks W (.slice o3 R.lks.length m3) R.lks) h1 h2 => freshW R _ _ W h h' h1 h2
  have cX := fun W B c d (hr : RowAt W B [.int .i64 R.id, .bool R.up, c, d] 69) => misfit_any R e B c d W hr
  have cT := fun W B c d (hr : RowAt W B [.int .i64 R.id, .bool R.up, c, d] 69) (h : HasRts W c R.rts) (h' : HasLks W d R.lks) Z hZ h1 h2 => take_anyW R e B c d W hr h h' Z hZ h1 h2 hf.rts he
  have hck : checkRo R = if okRo R then 0 else 2 := rfl
  have hce : checkE e = if okE e then 0 else 2 := rfl
  rw [hck] at cC
  rw [hce] at cM
  clear hck hce
  have hl : okRo R = true → R.rts.length ≤ 1000 ∧ R.lks.length ≤ 1000 := fun h => by have := okRo_parts h; omega
  have hA : applyRo R e = if okRo R && okE e then (if misRo R e = 0 then takeRo R e else (R, misRo R e)) else (zeroRo, 2) := rfl
  generalize applyRo R e = A at hA ⊢
  generalize takeRo R e = T at hA cT
  generalize misRo R e = M at hA cX
  generalize okE e = ke at hA cM
  generalize okRo R = kr at hA cC hl
  obtain ⟨id, up, rts, lks⟩ := R
  obtain ⟨kind, router, seq, time, pf, act, iface, peer⟩ := e
  simp only at ha hb cC cF cX cT hl hA
  generalize rts.length = n2 at *
  generalize lks.length = n3 at *
  replace cM : ∀ W, Calls Try.prog 18 #[.agg #[.int .u8 (kind : Int), .int .i64 router, .int .u64 (seq : Int), .int .i64 time, .bool pf.six, .int .u64 (hiN pf.n : Int), .int .u64 (loN pf.n : Int), .int .i64 pf.len, .int .u8 (act.k : Int), .int .i64 act.i, .int .i64 iface, .int .i64 peer]] W fun r w' => r = .returned (.int .i64 (if ke then 0 else 2)) ∧ Below W.heap.size W w' := cM
  replace cX : ∀ W B c d, RowAt W B [.int .i64 id, .bool up, c, d] 69 → Calls Try.prog 20 #[.pointer (some ⟨B, 0, none⟩), .agg #[.int .u8 (kind : Int), .int .i64 router, .int .u64 (seq : Int), .int .i64 time, .bool pf.six, .int .u64 (hiN pf.n : Int), .int .u64 (loN pf.n : Int), .int .i64 pf.len, .int .u8 (act.k : Int), .int .i64 act.i, .int .i64 iface, .int .i64 peer]] W fun x w' => x = .returned (.int .i64 M) ∧ Below W.heap.size W w' := cX
  replace cT : ∀ W B c d, RowAt W B [.int .i64 id, .bool up, c, d] 69 → HasRts W c rts → HasLks W d lks → ∀ Z, Z ≤ W.heap.size → NewV Z c → NewV Z d → Calls Try.prog 21 #[.pointer (some ⟨B, 0, none⟩), .agg #[.int .u8 (kind : Int), .int .i64 router, .int .u64 (seq : Int), .int .i64 time, .bool pf.six, .int .u64 (hiN pf.n : Int), .int .u64 (loN pf.n : Int), .int .i64 pf.len, .int .u8 (act.k : Int), .int .i64 act.i, .int .i64 iface, .int .i64 peer]] W (TakeIsW Z B W T.1.id T.1.up T.1.rts T.1.lks T.2) := cT
  show Calls Try.prog 7 #[.agg #[.int .i64 id, .bool up, .slice o2 n2 m2, .slice o3 n3 m3], .agg #[.int .u8 (kind : Int), .int .i64 router, .int .u64 (seq : Int), .int .i64 time, .bool pf.six, .int .u64 (hiN pf.n : Int), .int .u64 (loN pf.n : Int), .int .i64 pf.len, .int .u8 (act.k : Int), .int .i64 act.i, .int .i64 iface, .int .i64 peer]] w (RoIsW A.1 A.2 w)
  obtain ⟨X, hX⟩ : ∃ X, X = ((w.alloc (.cells #[.int .i64 id, .bool up, .slice o2 n2 m2, .slice o3 n3 m3] 37)).alloc (.cells #[.int .u8 (kind : Int), .int .i64 router, .int .u64 (seq : Int), .int .i64 time, .bool pf.six, .int .u64 (hiN pf.n : Int), .int .u64 (loN pf.n : Int), .int .i64 pf.len, .int .u8 (act.k : Int), .int .i64 act.i, .int .i64 iface, .int .i64 peer] 49)).alloc (.cells #[.int .i64 0, .bool false, .slice none 0 0, .slice none 0 0] 37) := ⟨_, rfl⟩
  have hB : Below w.heap.size w X := by rw [hX]; exact below_new (below_new (below_new (Below.refl _ _) _) _) _
  have r0 : RowAt X w.heap.size [.int .i64 id, .bool up, .slice o2 n2 m2, .slice o3 n3 m3] 37 := by rw [hX]; exact ((RowAt.new _ _ _).alloc _).alloc _
  have r1 : RowAt X (w.heap.size + 1) [.int .u8 (kind : Int), .int .i64 router, .int .u64 (seq : Int), .int .i64 time, .bool pf.six, .int .u64 (hiN pf.n : Int), .int .u64 (loN pf.n : Int), .int .i64 pf.len, .int .u8 (act.k : Int), .int .i64 act.i, .int .i64 iface, .int .i64 peer] 49 := by rw [hX, ← World.size_alloc w (.cells #[.int .i64 id, .bool up, .slice o2 n2 m2, .slice o3 n3 m3] 37)]; exact (RowAt.new _ _ _).alloc _
  have r2 : RowAt X (w.heap.size + 2) [.int .i64 0, .bool false, .slice none 0 0, .slice none 0 0] 37 := by rw [hX, show w.heap.size + 2 = ((w.alloc (.cells #[.int .i64 id, .bool up, .slice o2 n2 m2, .slice o3 n3 m3] 37)).alloc (.cells #[.int .u8 (kind : Int), .int .i64 router, .int .u64 (seq : Int), .int .i64 time, .bool pf.six, .int .u64 (hiN pf.n : Int), .int .u64 (loN pf.n : Int), .int .i64 pf.len, .int .u8 (act.k : Int), .int .i64 act.i, .int .i64 iface, .int .i64 peer] 49)).heap.size by simp]; exact RowAt.new _ _ _
  replace ha := ha.keep hB
  replace hb := hb.keep hB
  clear hf he
  have HA : Hid (A = if kr && ke then (if M = 0 then T else (⟨id, up, rts, lks⟩, M)) else (zeroRo, 2)) := hA
  clear hA
  have c25 := fun (W : World) => ro_nil W
  cases kr
  · have HV : Hid (A = (zeroRo, 2)) := HA.out
    clear HA cM cF cX cT hl
    simp only [Bool.false_eq_true, if_false] at cC
    go_enter Try.func7, Try.ntmps7
    go_upto_region 1 with fail
    rw [← hX]
    clear hX
    obtain ⟨p0, p1, p2, p3, pf0⟩ := cells4 r0
    go_wp2_with fail
    clear p0 p1 p2 p3 pf0
    go_at_call 17; refine (cC _ ha hb).mono ?_; rintro x w1 ⟨rfl, hb1⟩
    replace hB := below2 hB hb1
    obtain ⟨q0, q1, q2, q3, qf⟩ := cells4 (RowAt.below r2 hb1)
    clear hb1 cC
    go_wp2_with fail
    (try simp only [Exit.inBlock, Exit.then])
    refine bodyPost_ret (v := .tuple #[.agg #[.int .i64 0, .bool false, .slice none 0 0, .slice none 0 0], .int .i64 2]) ?_ rfl ⟨none, 0, 0, none, 0, 0, by rw [HV.out]; rfl, by rw [HV.out]; exact (c25 _).1, by rw [HV.out]; exact (c25 _).2, ?_, new_nil _, new_nil _⟩
    · rw [results_cell_tmp rfl]
      go_simp
    · exact set4_bl hB (by omega) _ _ _ _
  simp only [if_true] at cC
  cases ke
  · have HV : Hid (A = (zeroRo, 2)) := HA.out
    clear HA cF cX cT hl
    simp only [Bool.false_eq_true, if_false] at cM
    go_enter Try.func7, Try.ntmps7
    go_upto_region 1 with fail
    rw [← hX]
    clear hX
    obtain ⟨p0, p1, p2, p3, pf0⟩ := cells4 r0
    go_wp2_with fail
    clear p0 p1 p2 p3 pf0
    go_at_call 17; refine (cC _ ha hb).mono ?_; rintro x w1 ⟨rfl, hb1⟩
    replace hB := below2 hB hb1
    replace r1 := RowAt.below r1 hb1
    replace r2 := RowAt.below r2 hb1
    obtain ⟨p0, p1, p2, p3, p4, p5, p6, p7, p8, p9, p10, p11, pf0⟩ := cells12 r1
    clear hb1 cC
    go_wp2_with fail
    clear p0 p1 p2 p3 p4 p5 p6 p7 p8 p9 p10 p11 pf0
    go_at_call 18; refine (cM _).mono ?_; rintro x w2 ⟨rfl, hb2⟩
    replace hB := below2 hB hb2
    obtain ⟨q0, q1, q2, q3, qf⟩ := cells4 (RowAt.below r2 hb2)
    clear hb2 cM
    go_wp2_with fail
    (try simp only [Exit.inBlock, Exit.then])
    refine bodyPost_ret (v := .tuple #[.agg #[.int .i64 0, .bool false, .slice none 0 0, .slice none 0 0], .int .i64 2]) ?_ rfl ⟨none, 0, 0, none, 0, 0, by rw [HV.out]; rfl, by rw [HV.out]; exact (c25 _).1, by rw [HV.out]; exact (c25 _).2, ?_, new_nil _, new_nil _⟩
    · rw [results_cell_tmp rfl]
      go_simp
    · exact set4_bl hB (by omega) _ _ _ _
  simp only [if_true] at cM
  obtain ⟨hl1, hl2⟩ := hl rfl
  have HV : Hid (A = if M = 0 then T else (⟨id, up, rts, lks⟩, M)) := HA.out
  have HX := Nat.le_refl w.heap.size
  clear HA hl
  go_enter Try.func7, Try.ntmps7
  go_upto_region 1 with fail
  rw [← hX]
  clear hX
  obtain ⟨p0, p1, p2, p3, pf0⟩ := cells4 r0
  go_wp2_with fail
  clear p0 p1 p2 p3 pf0
  go_at_call 17; refine (cC _ ha hb).mono ?_; rintro x w1 ⟨rfl, hb1⟩
  replace hB := below2 hB hb1
  replace r0 := RowAt.below r0 hb1
  replace r1 := RowAt.below r1 hb1
  replace r2 := RowAt.below r2 hb1
  replace ha := ha.keep hb1
  replace hb := hb.keep hb1
  obtain ⟨p0, p1, p2, p3, p4, p5, p6, p7, p8, p9, p10, p11, pf0⟩ := cells12 r1
  clear hb1 cC
  go_wp2_with fail
  clear p0 p1 p2 p3 p4 p5 p6 p7 p8 p9 p10 p11 pf0
  go_at_call 18; refine (cM _).mono ?_; rintro x w2 ⟨rfl, hb2⟩
  replace hB := below2 hB hb2
  replace r0 := RowAt.below r0 hb2
  replace r1 := RowAt.below r1 hb2
  replace r2 := RowAt.below r2 hb2
  replace ha := ha.keep hb2
  replace hb := hb.keep hb2
  clear hb2 cM
  obtain ⟨p0, p1, p2, p3, pf0⟩ := cells4 r0
  go_wp2_with fail
  clear p0 p1 p2 p3 pf0
  go_at_call 19; refine (cF _ ha hb hl1 hl2).mono ?_; rintro x w3 ⟨c, d, rfl, hc, hd, hb3, hnc, hnd⟩
  replace hnc := hnc.mono hB.size
  replace hnd := hnd.mono hB.size
  replace hB := below2 hB hb3
  replace r1 := RowAt.below r1 hb3
  replace r2 := RowAt.below r2 hb3
  clear hb3 cF r0 ha hb
  obtain ⟨o4, m4, rfl, _⟩ := Lk.HasRow.slice hc
  obtain ⟨o5, m5, rfl, _⟩ := Lk.HasRow.slice hd
  generalize rts.length = n4 at *
  generalize lks.length = n5 at *
  obtain ⟨Y, hY⟩ : ∃ Y, Y = w3.alloc (.cells #[.int .i64 id, .bool up, .slice o4 n4 m4, .slice o5 n5 m5] 69) := ⟨_, rfl⟩
  have hbY : Below w3.heap.size w3 Y := by rw [hY]; exact below_new (Below.refl _ _) _
  have r3 : RowAt Y w3.heap.size [.int .i64 id, .bool up, .slice o4 n4 m4, .slice o5 n5 m5] 69 := by rw [hY]; exact RowAt.new _ _ _
  have hwB : w.heap.size ≤ w3.heap.size := hB.size
  replace hB := below2 hB hbY
  replace r1 := RowAt.below r1 hbY
  have hr2l := r2.lt
  replace r2 := RowAt.below r2 hbY
  replace hc := hc.keep hbY
  replace hd := hd.keep hbY
  go_upto_region 4 with fail
  rw [← hY]
  clear hY
  generalize w3.heap.size = B at *
  clear hbY
  obtain ⟨p0, p1, p2, p3, p4, p5, p6, p7, p8, p9, p10, p11, pf0⟩ := cells12 r1
  go_wp2_with fail
  clear p0 p1 p2 p3 p4 p5 p6 p7 p8 p9 p10 p11 pf0
  go_at_call 20; refine (cX _ _ _ _ r3).mono ?_; rintro x w4 ⟨rfl, hb4⟩
  replace hB := below2 hB hb4
  replace r1 := RowAt.below r1 hb4
  replace r2 := RowAt.below r2 hb4
  replace r3 := RowAt.below r3 hb4
  replace hc := hc.keep hb4
  replace hd := hd.keep hb4
  clear hb4 cX
  by_cases hM : M = 0
  · have HW : Hid (A = T) := by show _ = _; rw [HV.out, if_pos hM]
    clear HV
    subst hM
    obtain ⟨p0, p1, p2, p3, p4, p5, p6, p7, p8, p9, p10, p11, pf0⟩ := cells12 r1
    go_wp2_with fail
    clear p0 p1 p2 p3 p4 p5 p6 p7 p8 p9 p10 p11 pf0
    go_at_call 21; refine (cT _ _ _ _ r3 hc hd w.heap.size hB.size hnc hnd).mono ?_; rintro x w5 ⟨u, v, ⟨hnu, hnv⟩, rfl, r4, hu, hv, hb5⟩
    obtain ⟨o6, m6, rfl, _⟩ := Lk.HasRow.slice hu
    obtain ⟨o7, m7, rfl, _⟩ := Lk.HasRow.slice hv
    generalize T.1.rts.length = n6 at *
    generalize T.1.lks.length = n7 at *
    have r5 : RowAt w5 (w.heap.size + 2) [.int .i64 0, .bool false, .slice none 0 0, .slice none 0 0] 37 := (hb5.block _ hr2l).trans r2
    have hB5 : Below w.heap.size w w5 := hB.trans (hb5.mono hwB)
    clear hB r1 r2 r3 hc hd hb5 cT
    obtain ⟨p0, p1, p2, p3, pf0⟩ := cells4 r4
    obtain ⟨q0, q1, q2, q3, qf⟩ := cells4 r5
    go_wp2_with fail
    (try simp only [Exit.inBlock, Exit.then])
    refine bodyPost_ret (v := .tuple #[.agg #[.int .i64 T.1.id, .bool T.1.up, .slice o6 n6 m6, .slice o7 n7 m7], .int .i64 T.2]) ?_ rfl ⟨_, _, _, _, _, _, by rw [HW.out], by rw [HW.out]; exact rts_apart hu r5 (set4_gr _ _ _ _ _ _), by rw [HW.out]; exact lks_apart hv r5 (set4_gr _ _ _ _ _ _), ?_, hnu, hnv⟩
    · rw [results_cell_tmp rfl]
      go_simp
    · exact set4_bl hB5 (by omega) _ _ _ _
  · have HW : Hid (A = (⟨id, up, rts, lks⟩, M)) := by show _ = _; rw [HV.out, if_neg hM]
    clear HV
    have hMb : (M == 0) = false := beq_eq_false_iff_ne.2 hM
    clear r1 cT
    obtain ⟨p0, p1, p2, p3, pf0⟩ := cells4 r3
    obtain ⟨q0, q1, q2, q3, qf⟩ := cells4 r2
    go_wp2_with fail
    (try simp only [Exit.inBlock, Exit.then])
    refine bodyPost_ret (v := .tuple #[.agg #[.int .i64 id, .bool up, .slice o4 n4 m4, .slice o5 n5 m5], .int .i64 M]) ?_ rfl ⟨_, _, _, _, _, _, by rw [HW.out], by rw [HW.out]; exact rts_apart hc r2 (set4_gr _ _ _ _ _ _), by rw [HW.out]; exact lks_apart hd r2 (set4_gr _ _ _ _ _ _), ?_, hnc, hnd⟩
    · rw [results_cell_tmp rfl]
      go_simp
    · exact set4_bl hB (by omega) _ _ _ _
end Go.Proofs.Ytkjhnefbcnnjlaa.Fib
namespace Go.Proofs.Ytkjhnefbcnnjlaa.Tg
open Go.RowKit
open Go.Proofs.Ytkjhnefbcnnjlaa.Addr (RowAt below2 below_new RowAt.lt RowAt.cell RowAt.below RowAt.new RowAt.alloc RowAt.gkeep)
open Go.Proofs.Ytkjhnefbcnnjlaa.Lk (HasLks HasLks.keep own_below)
open Go.Proofs.Ytkjhnefbcnnjlaa.Tr (HasRts HasRts.keep)
open Go.Proofs.Ytkjhnefbcnnjlaa.Msg (Ev evC)
open Go.Proofs.Ytkjhnefbcnnjlaa.Ord (St)
open Go.Proofs.Ytkjhnefbcnnjlaa.Fib (Ro set4_gr set4_row set4_bl rts_apart lks_apart)
open Go.Proofs.Ytkjhnefbcnnjlaa.Nt (RowsOf Off)
abbrev evs (l : List Ev) : List Value := l.flatMap evC
theorem one_evs (l : List Ev) : ∀ x ∈ evs l, x.oneCell' = true := by
  intro x hx
  obtain ⟨p, _, h⟩ := List.mem_flatMap.1 hx
  simp only [evC, List.mem_cons, List.not_mem_nil, or_false] at h
  rcases h with rfl | rfl | rfl | rfl | rfl | rfl | rfl | rfl | rfl | rfl | rfl | rfl <;> rfl
theorem info_ev : (Try.prog.info? 49).map (fun i => (i.zero, i.size, i.bytes)) = some (some (.agg #[.int .u8 0, .int .i64 0, .int .u64 0, .int .i64 0, .bool false, .int .u64 0, .int .u64 0, .int .i64 0, .int .u8 0, .int .i64 0, .int .i64 0, .int .i64 0]), 12, 96) := by kernel_rfl
/-- the row, the seat's box, the router's box, the router's rows -/
structure TgI (Y W : World) (g8 g9 : Nat) (s : St) (R : Ro) (x y v : Value) (l : List Ev) : Prop where
  bel : Below Y.heap.size Y W
  r8 : RowAt W g8 [.int .i64 s.router, .int .u64 (s.seq : Int), .int .i64 s.time, .bool s.up] 33
  r9 : RowAt W g9 [.int .i64 R.id, .bool R.up, x, y] 37
  hx : HasRts W x R.rts
  hy : HasLks W y R.lks
  own : W.ownsRow Y.heap.size 49 12 v l.length (evs l)
  off : ∀ b, v.ownBlock = some b → b ≠ g8 ∧ b ≠ g9 ∧ Off b ⟨R, x, y⟩
  ne : g8 ≠ g9
  ge : Y.heap.size ≤ g9
theorem TgI.below {Y W V : World} {g8 g9 : Nat} {s : St} {R : Ro} {x y v : Value} {l : List Ev} (h : TgI Y W g8 g9 s R x y v l) (hb : Below W.heap.size W V) : TgI Y V g8 g9 s R x y v l :=
  ⟨below2 h.bel hb, h.r8.below hb, h.r9.below hb, h.hx.keep hb, h.hy.keep hb, own_below h.own hb, h.off, h.ne, h.ge⟩
/-- append of one event -/
theorem TgI.add {Y V : World} {g8 g9 : Nat} {s : St} {R : Ro} {x y v : Value} {l : List Ev} (h : TgI Y V g8 g9 s R x y v l) (e : Ev) (hl : l.length ≤ 1000000) :
    ∃ o c W', (∀ ty, (Builtin.append_ #[22, 22] ty #[v, .slice (some ⟨V.heap.size, 0, none⟩) 1 1]).run Try.prog (V.alloc (.cells (evC e).toArray 49)) = .ok (.slice o (l.length + 1) c) W') ∧ TgI Y W' g8 g9 s R x y (.slice o (l.length + 1) c) (l ++ [e]) ∧ (V.alloc (.cells (evC e).toArray 49)).grownBy W' v.ownBlock := by
  obtain ⟨V2, hV2⟩ : ∃ V2, V2 = V.alloc (.cells (evC e).toArray 49) := ⟨_, rfl⟩
  have hb2 : Below V.heap.size V V2 := by rw [hV2]; exact below_new (Below.refl _ _) _
  have rV : RowAt V2 V.heap.size (evC e) 49 := by rw [hV2]; exact RowAt.new _ _ _
  have h2 := h.below hb2
  obtain ⟨i0, hi0, hz0, hz1, hz2⟩ := Lk.info_parts info_ev
  have hY2 : Y.heap.size ≤ V2.heap.size := h2.bel.size
  obtain ⟨u', W', hrun, k1, k2, _, k4⟩ := run_append_own_at (P := Try.prog) V2 Y.heap.size 22 0 49 i0 _ 12 96 Try.underlying22 hi0 hz0 hz1 hz2 rfl (by decide) v l.length (evs l) h2.own ⟨V.heap.size, 0, none⟩ 1 1 (evC e) rfl
    (fun j z hj => by
      rw [Lk.addr_add, Nat.zero_add]
      exact (rV.cell j).trans hj) (fun z hz => one_evs [e] z (by simpa using hz)) (by unfold maxLen; omega) (by omega) hY2
  rw [← hV2]
  have hrows : RowsOf V2 ⟨R, x, y⟩ := ⟨h2.hx, h2.hy⟩
  have hrw : RowsOf W' ⟨R, x, y⟩ := RowsOf.by hrows (fun g hg => (h2.off g hg).2.2) k2
  have l8 := RowAt.lt h2.r8
  have l9 := RowAt.lt h2.r9
  obtain ⟨o, c, e', _⟩ := Lk.HasRow.slice (Lk.hasRow_own k1)
  subst e'
  refine ⟨o, c, W', fun ty => hrun, ⟨?_, ?_, ?_, hrw.1, hrw.2, ?_, ?_, h.ne, h.ge⟩, k2⟩
  · exact h2.bel.grown k2 hY2 (fun k hk => (h2.own.lt k hk).1)
  · exact h2.r8.gkeep k2 (fun hk => (h2.off g8 hk.symm).1 rfl)
  · exact h2.r9.gkeep k2 (fun hk => (h2.off g9 hk.symm).2.1 rfl)
  · rw [List.length_append, List.length_singleton]
    have : evs (l ++ [e]) = evs l ++ evC e := by simp [evs]
    rw [this]
    exact k1
  · intro b hb
    rcases k4 with k4 | k4
    · exact h2.off b (k4 ▸ hb)
    · rw [k4] at hb
      have := Option.some.inj hb
      subst this
      exact ⟨by omega, by omega, hrows.old⟩
/-- another router into the box -/
theorem TgI.put {Y W : World} {g8 g9 : Nat} {s : St} {R Q : Ro} {v : Value} {o2 o3 : Option Addr} {n2 n3 m2 m3 : Nat} {l : List Ev} {p2 p3 : Option Addr} {a2 a3 c2 c3 : Nat} (h : TgI Y W g8 g9 s R (.slice p2 a2 c2) (.slice p3 a3 c3) v l) (hx : HasRts W (.slice o2 n2 m2) Q.rts) (hy : HasLks W (.slice o3 n3 m3) Q.lks) (ho : ∀ b, v.ownBlock = some b → Off b ⟨Q, .slice o2 n2 m2, .slice o3 n3 m3⟩) :
    TgI Y ((((W.setCell ⟨g9, 0, none⟩ (.int .i64 Q.id)).setCell ⟨g9, 1, none⟩ (.bool Q.up)).setCell ⟨g9, 2, none⟩ (.slice o2 n2 m2)).setCell ⟨g9, 3, none⟩ (.slice o3 n3 m3)) g8 g9 s Q (.slice o2 n2 m2) (.slice o3 n3 m3) v l := by
  have hg := set4_gr W g9 (.int .i64 Q.id) (.bool Q.up) (.slice o2 n2 m2) (.slice o3 n3 m3)
  refine ⟨set4_bl h.bel h.ge _ _ _ _, h.r8.gkeep hg (fun e => h.ne (Option.some.inj e)), set4_row h.r9 _ _ _ _, rts_apart hx h.r9 hg, lks_apart hy h.r9 hg, ?_, fun b hb => ⟨(h.off b hb).1, (h.off b hb).2.1, ho b hb⟩, h.ne, h.ge⟩
  exact h.own.kept hg (.inr fun e => (h.off g9 e).2.1 rfl)
end Go.Proofs.Ytkjhnefbcnnjlaa.Tg
namespace Go.Proofs.Ytkjhnefbcnnjlaa.Msg
open Go.RowKit
open Go.Proofs.Ytkjhnefbcnnjlaa.Addr (Pf)
def eqP (p q : Pf) : Bool := decide (p.six = q.six) && decide (p.n = q.n) && decide (p.len = q.len)
theorem eqP_iff (p q : Pf) : eqP p q = true ↔ p = q := by
  obtain ⟨a, b, c⟩ := p
  obtain ⟨d, e, f⟩ := q
  unfold eqP
  simp only [Bool.and_eq_true, decide_eq_true_eq, Addr.Pf.mk.injEq, and_assoc]
end Go.Proofs.Ytkjhnefbcnnjlaa.Msg
namespace Go.Proofs.Ytkjhnefbcnnjlaa.Lk
open Go.RowKit
open Go.Proofs.Ytkjhnefbcnnjlaa.Addr (RowAt.cell)
attribute [-go_sem] Builtin.append_
theorem lk_neq (a b : Int) (w : World) : (binOp .neq 75 (.agg #[.int .i64 a, .int .i64 b]) (.agg #[.int .i64 a, .int .i64 b])).run Try.prog w = .ok (.bool false) w := by
  have u3 := Try.underlying3
  have a3 := Try.isAgg3
  have z3 := Try.sizeOf3
  have hS : Try.prog.underlying 75 = some (.struct (Try.prog.fieldsOf 75)) := by kernel_rfl
  have hp : Try.prog.stoodInHeld 75 = false := by kernel_rfl
  rw [run_neq_struct, show (10000 : Nat) = 9999 + 1 from rfl, run_equalIn_agg w 9999 75 _ _ hS hp]
  simp only [Program.fieldsOf, Try.underlying75]
  go_simp
theorem lk_guard : Try.prog.eqGuardType Try.prog.depth 75 = false := by kernel_rfl
/-- rows of numbers -/
def intCs (l : List Int) : List Value := l.map (fun n => .int .i64 n)
def HasInts (W : World) (v : Value) (l : List Int) : Prop := HasRow W v 1 l.length (intCs l)
theorem HasInts.keep {W W' : World} {v : Value} {l : List Int} (h : HasInts W v l) (hb : Below W.heap.size W W') : HasInts W' v l := HasRow.keep h hb
theorem HasInts.cell {W : World} {o : Option Addr} {m cap : Nat} {l : List Int} (h : HasInts W (.slice o m cap) l) (j : Nat) (hj : j < l.length) : ∃ b i, o = some ⟨b, i, none⟩ ∧ b < W.heap.size ∧ W.cell? ⟨b, i + j, none⟩ = some (.int .i64 l[j]) := by
  obtain ⟨_, b, i, e, hb, hc⟩ := HasRow.at h (by omega)
  refine ⟨b, i, e, hb, ?_⟩
  rw [hc j (by omega)]
  unfold intCs
  rw [List.getElem?_map, List.getElem?_eq_getElem hj]
  rfl
end Go.Proofs.Ytkjhnefbcnnjlaa.Lk
namespace Go.Proofs.Ytkjhnefbcnnjlaa.Tr
open Go.RowKit
open Go.Proofs.Ytkjhnefbcnnjlaa.Msg (eqP eqP_iff pf_inG ac_inG Ac)
open Go.Proofs.Ytkjhnefbcnnjlaa.Addr (hiN loN)
def eqR (r s : Rt) : Bool := eqP r.pf s.pf && (decide (r.act.k = s.act.k) && decide (r.act.i = s.act.i))
theorem eqR_iff (r s : Rt) : eqR r s = true ↔ r = s := by
  obtain ⟨p, ⟨k, i⟩⟩ := r
  obtain ⟨q, ⟨l, j⟩⟩ := s
  unfold eqR
  simp only [Bool.and_eq_true, decide_eq_true_eq, eqP_iff, Rt.mk.injEq, Ac.mk.injEq]
theorem rt_in (r s : Rt) (w : World) : (Op.equalIn 10000 73 (.agg #[.bool r.pf.six, .int .u64 (hiN r.pf.n : Int), .int .u64 (loN r.pf.n : Int), .int .i64 r.pf.len, .int .u8 (r.act.k : Int), .int .i64 r.act.i]) (.agg #[.bool s.pf.six, .int .u64 (hiN s.pf.n : Int), .int .u64 (loN s.pf.n : Int), .int .i64 s.pf.len, .int .u8 (s.act.k : Int), .int .i64 s.act.i])).run Try.prog w = .ok (eqR r s) w := by
  have a24 := Try.isAgg44
  have z24 := Try.sizeOf44
  have a25 := Try.isAgg47
  have z25 := Try.sizeOf47
  have hS : Try.prog.underlying 73 = some (.struct (Try.prog.fieldsOf 73)) := by kernel_rfl
  have hp : Try.prog.stoodInHeld 73 = false := by kernel_rfl
  have h1 := fun w => pf_inG r.pf.six s.pf.six r.pf.n s.pf.n r.pf.len s.pf.len w 9996
  have h2 := fun w => ac_inG r.act.k s.act.k r.act.i s.act.i w 9997
  have hE : eqR r s = ((decide (r.pf.six = s.pf.six) && decide (r.pf.n = s.pf.n) && decide (r.pf.len = s.pf.len)) && (decide (r.act.k = s.act.k) && decide (r.act.i = s.act.i))) := rfl
  rw [hE]
  rw [show (10000 : Nat) = 9999 + 1 from rfl, run_equalIn_agg w 9999 73 _ _ hS hp]
  simp only [Program.fieldsOf, Try.underlying73]
  generalize (decide (r.pf.six = s.pf.six) && decide (r.pf.n = s.pf.n) && decide (r.pf.len = s.pf.len)) = D1 at *
  generalize (decide (r.act.k = s.act.k) && decide (r.act.i = s.act.i)) = D2 at *
  cases D1
  · go_simp
  · cases D2
    · go_simp
    · go_simp
theorem rt_guard : Try.prog.eqGuardType Try.prog.depth 73 = false := by kernel_rfl
theorem rt_neq (r s : Rt) (w : World) : (binOp .neq 73 (.agg #[.bool r.pf.six, .int .u64 (hiN r.pf.n : Int), .int .u64 (loN r.pf.n : Int), .int .i64 r.pf.len, .int .u8 (r.act.k : Int), .int .i64 r.act.i]) (.agg #[.bool s.pf.six, .int .u64 (hiN s.pf.n : Int), .int .u64 (loN s.pf.n : Int), .int .i64 s.pf.len, .int .u8 (s.act.k : Int), .int .i64 s.act.i])).run Try.prog w = .ok (.bool (!eqR r s)) w := by
  rw [run_neq_struct, rt_in]
  rfl
theorem rt_one (r : Rt) (w : World) : (binOp .neq 73 (.agg #[.bool r.pf.six, .int .u64 (hiN r.pf.n : Int), .int .u64 (loN r.pf.n : Int), .int .i64 r.pf.len, .int .u8 (r.act.k : Int), .int .i64 r.act.i]) (.agg #[.bool r.pf.six, .int .u64 (hiN r.pf.n : Int), .int .u64 (loN r.pf.n : Int), .int .i64 r.pf.len, .int .u8 (r.act.k : Int), .int .i64 r.act.i])).run Try.prog w = .ok (.bool false) w := by
  rw [rt_neq, (eqR_iff r r).2 rfl]
  rfl
end Go.Proofs.Ytkjhnefbcnnjlaa.Tr
namespace Go.Proofs.Ytkjhnefbcnnjlaa.Tg
open Go.RowKit
open Go.Proofs.Ytkjhnefbcnnjlaa.Addr (hiN loN RowAt below2 below_drew below_new RowAt.cell RowAt.below RowAt.new RowAt.alloc cells4)
open Go.Proofs.Ytkjhnefbcnnjlaa.Lk (Lk HasLks HasLks.keep HasLks.cell lk_guard lk_neq)
open Go.Proofs.Ytkjhnefbcnnjlaa.Tr (HasRts HasRts.keep HasRts.cell rtC rt_guard rt_one)
open Go.Proofs.Ytkjhnefbcnnjlaa.Fib (Ro)
set_option maxHeartbeats 8000000 in
set_option maxRecDepth 20000 in
theorem sameR_any (R : Ro) (a b c d : Value) (w : World) (ha : HasRts w a R.rts) (hb : HasLks w b R.lks) (hc : HasRts w c R.rts) (hd : HasLks w d R.lks) :
    Calls Try.prog 9 #[.agg #[.int .i64 R.id, .bool R.up, a, b], .agg #[.int .i64 R.id, .bool R.up, c, d]] w fun e w' => e = .returned (.bool true) ∧ Below w.heap.size w w' := by
  obtain ⟨o1, c1, rfl, q1, q2⟩ := Lk.HasRow.slice ha
  obtain ⟨o2, c2, rfl, q3, q4⟩ := Lk.HasRow.slice hb
  obtain ⟨o3, c3, rfl, _⟩ := Lk.HasRow.slice hc
  obtain ⟨o4, c4, rfl, _⟩ := Lk.HasRow.slice hd
  obtain ⟨id, up, l, m⟩ := R
  simp only at ha hb hc hd q1 q2 q3 q4 ⊢
  have HR : Hid (∀ wr : World, Below w.heap.size w wr → (HasRts wr (.slice o1 l.length c1) l ∧ HasRts wr (.slice o3 l.length c3) l) ∧ HasLks wr (.slice o2 m.length c2) m ∧ HasLks wr (.slice o4 m.length c4) m) := fun wr h => ⟨⟨ha.keep h, hc.keep h⟩, hb.keep h, hd.keep h⟩
  clear ha hb hc hd
  obtain ⟨n, hn⟩ : ∃ n, n = l.length := ⟨_, rfl⟩
  obtain ⟨p, hp⟩ : ∃ p, p = m.length := ⟨_, rfl⟩
  have HN : Hid (n = l.length ∧ p = m.length) := ⟨hn, hp⟩
  rw [← hn, ← hp] at HR
  rw [← hn] at q1 ⊢
  rw [← hp] at q3 ⊢
  have hni : (n : Int) ≤ 9223372036854775807 := by omega
  have hpi : (p : Int) ≤ 9223372036854775807 := by omega
  have hg1 := rt_guard
  have hg2 := lk_guard
  have hnn : ((n : Int) != (n : Int)) = false := by simp
  have hpp : ((p : Int) != (p : Int)) = false := by simp
  have hii : (id != id) = false := by simp
  have huu : (up != up) = false := by simp
  obtain ⟨X, hX⟩ : ∃ X, X = (w.alloc (.cells #[.int .i64 id, .bool up, .slice o1 n c1, .slice o2 p c2] 37)).alloc (.cells #[.int .i64 id, .bool up, .slice o3 n c3, .slice o4 p c4] 37) := ⟨_, rfl⟩
  have hB : Below w.heap.size w X := by rw [hX]; exact below_new (below_new (Below.refl _ _) _) _
  have r0 : RowAt X w.heap.size [.int .i64 id, .bool up, .slice o1 n c1, .slice o2 p c2] 37 := by rw [hX]; exact (RowAt.new _ _ _).alloc _
  have r1 : RowAt X (w.heap.size + 1) [.int .i64 id, .bool up, .slice o3 n c3, .slice o4 p c4] 37 := by rw [hX, ← World.size_alloc w (.cells #[.int .i64 id, .bool up, .slice o1 n c1, .slice o2 p c2] 37)]; exact RowAt.new _ _ _
  clear hn hp q1 q2 q3 q4
  go_enter Try.func9, Try.ntmps9
  go_upto_region 1 with fail
  rw [← hX]
  clear hX
  obtain ⟨p0, p1, p2, p3, pf0⟩ := cells4 r0
  obtain ⟨s0, s1, s2, s3, sf0⟩ := cells4 r1
  go_wp2_with fail
  clear p0 p1 p2 p3 pf0 s0 s1 s2 s3 sf0
  go_loopw [40] (fun i wr => ∃ k : Nat, k ≤ n ∧ i = .int .i64 k ∧ Below X.heap.size X wr) (fun i _ => n - (intOf i).toNat)
  case atStart => exact ⟨0, by omega, rfl, Below.refl _ _⟩
  case round =>
    obtain ⟨k, hk, rfl, hbl⟩ := hrel
    by_cases hlt : k < n
    · obtain ⟨⟨hx, hy⟩, _⟩ := HR.out _ (below2 hB hbl)
      have hkz : k < l.length := by rw [← HN.out.1]; exact hlt
      obtain ⟨g1, i1, rfl, _, a1⟩ := HasRts.cell hx k hkz
      obtain ⟨g2, i2, rfl, _, b1⟩ := HasRts.cell hy k hkz
      have hneq := rt_one l[k]
      have x0 := a1 0 (by omega)
      have x1 := a1 1 (by omega)
      have x2 := a1 2 (by omega)
      have x3 := a1 3 (by omega)
      have x4 := a1 4 (by omega)
      have x5 := a1 5 (by omega)
      have y0 := b1 0 (by omega)
      have y1 := b1 1 (by omega)
      have y2 := b1 2 (by omega)
      have y3 := b1 3 (by omega)
      have y4 := b1 4 (by omega)
      have y5 := b1 5 (by omega)
      unfold rtC at x0 x1 x2 x3 x4 x5 y0 y1 y2 y3 y4 y5
      simp only [List.getElem?_cons_succ, List.getElem?_cons_zero, Nat.add_zero] at x0 x1 x2 x3 x4 x5 y0 y1 y2 y3 y4 y5
      clear a1 b1 hx hy
      generalize l[k].pf.six = e0 at *
      generalize ((hiN l[k].pf.n : Nat) : Int) = e1 at *
      generalize ((loN l[k].pf.n : Nat) : Int) = e2 at *
      generalize l[k].pf.len = e3 at *
      generalize ((l[k].act.k : Nat) : Int) = e4 at *
      generalize l[k].act.i = e5 at *
      have hki : (k : Int) < (n : Int) := by omega
      obtain ⟨p0, p1, p2, p3, pf0⟩ := cells4 (RowAt.below r0 hbl)
      obtain ⟨s0, s1, s2, s3, sf0⟩ := cells4 (RowAt.below r1 hbl)
      go_wp2_with fail
      go_quiet (fail)
      go_wp2_with fail
      go_roundw
      case rel => exact ⟨k + 1, by omega, by go_num, by first | exact hbl | exact below_drew hbl | exact below_drewN hbl _⟩
      case measure => simp [intOf]; omega
    · have hkn2 : k = n := by omega
      subst hkn2
      have hkd : decide ((k : Int) < (k : Int)) = false := decide_eq_false (by omega)
      obtain ⟨p0, p1, p2, p3, pf0⟩ := cells4 (RowAt.below r0 hbl)
      go_wp2_with fail
      clear p0 p1 p2 p3 pf0 hkd hlt hk
      obtain ⟨wA, hwA⟩ : ∃ wA, wA = wr := ⟨_, rfl⟩
      subst hwA
      go_loopw [58] (fun i wr => ∃ k : Nat, k ≤ p ∧ i = .int .i64 k ∧ Below X.heap.size X wr) (fun i _ => p - (intOf i).toNat)
      case atStart => exact ⟨0, by omega, rfl, hbl⟩
      case round =>
        clear hbl
        obtain ⟨j, hj, rfl, hbl⟩ := hrel
        by_cases hlt : j < p
        · obtain ⟨_, hx, hy⟩ := HR.out _ (below2 hB hbl)
          have hkz : j < m.length := by rw [← HN.out.2]; exact hlt
          obtain ⟨g1, i1, rfl, _, a1⟩ := HasLks.cell hx j hkz
          obtain ⟨g2, i2, rfl, _, b1⟩ := HasLks.cell hy j hkz
          have hneq := lk_neq m[j].iface m[j].peer
          obtain ⟨x0, x1⟩ := a1
          obtain ⟨y0, y1⟩ := b1
          clear hx hy
          generalize m[j].iface = e0 at *
          generalize m[j].peer = e1 at *
          have hji : (j : Int) < (p : Int) := by omega
          obtain ⟨p0, p1, p2, p3, pf0⟩ := cells4 (RowAt.below r0 hbl)
          obtain ⟨s0, s1, s2, s3, sf0⟩ := cells4 (RowAt.below r1 hbl)
          go_wp2_with fail
          go_quiet (fail)
          go_wp2_with fail
          go_roundw
          case rel => exact ⟨j + 1, by omega, by go_num, by first | exact hbl | exact below_drew hbl | exact below_drewN hbl _⟩
          case measure => simp [intOf]; omega
        · have hkn2 : j = p := by omega
          subst hkn2
          have hkd : decide ((j : Int) < (j : Int)) = false := decide_eq_false (by omega)
          have hW := below2 hB hbl
          go_wp2_with fail
          go_ret
          exact ⟨rfl, hW⟩
end Go.Proofs.Ytkjhnefbcnnjlaa.Tg
namespace Go.Proofs.Ytkjhnefbcnnjlaa.Ord
open Go.RowKit Go.Shelf
attribute [-go_sem] Builtin.append_

theorem st_neq (a b c : Int) (d : Bool) (w : World) : (binOp .neq 33 (.agg #[.int .i64 a, .int .u64 b, .int .i64 c, .bool d]) (.agg #[.int .i64 a, .int .u64 b, .int .i64 c, .bool d])).run Try.prog w = .ok (.bool false) w := by
  have u3 := Try.underlying3
  have a3 := Try.isAgg3
  have z3 := Try.sizeOf3
  have u2 := Try.underlying2
  have a2 := Try.isAgg2
  have z2 := Try.sizeOf2
  have u9 := Try.underlying31
  have a9 := Try.isAgg31
  have z9 := Try.sizeOf31
  have u4 := Try.underlying4
  have a4 := Try.isAgg4
  have z4 := Try.sizeOf4
  have hS : Try.prog.underlying 33 = some (.struct (Try.prog.fieldsOf 33)) := by kernel_rfl
  have hp : Try.prog.stoodInHeld 33 = false := by kernel_rfl
  rw [run_neq_struct, show (10000 : Nat) = 9999 + 1 from rfl, run_equalIn_agg w 9999 33 _ _ hS hp]
  simp only [Program.fieldsOf, Try.underlying33]
  go_simp
theorem st_guard : Try.prog.eqGuardType Try.prog.depth 33 = false := by kernel_rfl
end Go.Proofs.Ytkjhnefbcnnjlaa.Ord
