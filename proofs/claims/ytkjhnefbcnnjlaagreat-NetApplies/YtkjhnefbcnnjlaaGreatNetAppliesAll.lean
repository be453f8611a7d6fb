/- For all nets, events and a horizon: spoorlaw18.NetApplies returns true, and changes nothing that was there. No condition. -/
import Derived.Test.YtkjhnefbcnnjlaaGreatRows
import Derived.Test.YtkjhnefbcnnjlaaGreatNv30
import Derived.Test.YtkjhnefbcnnjlaaGreatNv41
import Derived.Test.YtkjhnefbcnnjlaaGreatNv42
import Derived.BigQuiet
import Derived.ProofKit
import Derived.OpenShut
import Derived.ShutString
import Derived.SizedLaws
set_option linter.unusedVariables false
namespace Go.Proofs.YtkjhnefbcnnjlaaGreat
namespace netApplies
open Go.ChangeShapes Go.WideShapes Go.ChangeAt Go.RowKit
open Go.Proofs.YtkjhnefbcnnjlaaGreat.Lk (HasRow HasLks.keep)
open Go.Proofs.YtkjhnefbcnnjlaaGreat.Tr (HasRts.keep)
open Go.Proofs.YtkjhnefbcnnjlaaGreat.Msg (Ev FitE evV evC)
open Go.Proofs.YtkjhnefbcnnjlaaGreat.Fib (Ro cells12)
open Go.Proofs.YtkjhnefbcnnjlaaGreat.Nt
open Go.Proofs.YtkjhnefbcnnjlaaGreat.Ord (St HasSts HasSts.keep HasEvs HasEvs.keep)
open Go.Proofs.YtkjhnefbcnnjlaaGreat.Addr (RowAt below2 below_new RowAt.lt RowAt.cell RowAt.below RowAt.new RowAt.alloc cells2 hiN loN Bl bl_ne wp_region_bl bl_call)
theorem own : ownKnob Tryz.prog.godebug = none := by kernel_rfl
theorem laidOut : laidOutB Tryz.prog = true := by kernel_rfl
def KB (Y W : World) : Prop := Below Y.heap.size Y W
theorem KB.keep {Y W W' : World} (h : KB Y W) (hb : Below W.heap.size W W') : KB Y W' := below2 (show Below Y.heap.size Y W from h) hb
set_option maxHeartbeats 32000000 in
set_option maxRecDepth 20000 in
theorem walks (so lo : Option Addr) (sn sc ln lc : Nat) (eo : Option Addr) (en ecap : Nat) (es : List Ev) (h : Int) (S : List St) (L : List Ro) (n A : NetT) (j : Nat) (zA ck : Int) (w : World) (hS : HasSts w (.slice so sn sc) S) (hL : HasRos w (.slice lo ln lc) L) (hE : HasEvs w (.slice eo en ecap) es) (HEN : Hid (en = es.length)) (hcap : en ≤ ecap) (hmx : (ecap : Int) ≤ 9223372036854775807) (HFE : Hid (∀ e ∈ es, FitE e))
    (cC : ∀ W, HasSts W (.slice so sn sc) S → HasRos W (.slice lo ln lc) L → Calls Tryz.prog 4 #[.agg #[.slice so sn sc, .slice lo ln lc]] W fun e w' => ∃ o1 n1 m1 o2 n2 m2, e = .returned (.agg #[.slice o1 n1 m1, .slice o2 n2 m2]) ∧ HasSts w' (.slice o1 n1 m1) S ∧ HasRos w' (.slice o2 n2 m2) L ∧ Below W.heap.size W w')
    (cP : ∀ (ev : Ev), FitE ev → ∀ W u v, HasSts W u S → HasRos W v L → Calls Tryz.prog 5 #[.agg #[u, v], evV ev, .int .i64 h] W (NetIs (applyN n ev h).1 (applyN n ev h).2 W))
    (cQ : ∀ (ev : Ev), FitE ev → ∀ W u v, HasSts W u S → HasRos W v L → Calls Tryz.prog 6 #[.agg #[u, v], evV ev, .int .i64 h] W (NetIs (applyN n ev h).1 (applyN n ev h).2 W))
    (cA : ∀ W u v, HasSts W u S → HasRos W v L → HasEvs W (.slice eo en ecap) es → Calls Tryz.prog 8 #[.agg #[u, v], .slice eo en ecap, .int .i64 h] W (AllIs A j zA W))
    (cB : ∀ W u v, HasSts W u S → HasRos W v L → HasEvs W (.slice eo en ecap) es → Calls Tryz.prog 9 #[.agg #[u, v], .slice eo en ecap, .int .i64 h] W (AllIs A j zA W))
    (cL : ∀ W, Calls Tryz.prog 10 #[] W fun e w' => e = .returned (.bool true) ∧ Below W.heap.size W w')
    (cK : ∀ W u v, HasSts W u S → HasRos W v L → Calls Tryz.prog 11 #[.agg #[u, v]] W fun e w' => e = .returned (.int .i64 ck) ∧ Below W.heap.size W w')
    (cR : ∀ W u v, HasSts W u S → HasRos W v L → Calls Tryz.prog 12 #[.agg #[u, v]] W fun e w' => e = .returned (.int .i64 ck) ∧ Below W.heap.size W w')
    (cS : ∀ W (m : NetT) u v x y, HasSts W u m.seats → HasRos W v m.ros → HasSts W x m.seats → HasRos W y m.ros → Calls Tryz.prog 7 #[.agg #[u, v], .agg #[x, y]] W fun e w' => e = .returned (.bool true) ∧ Below W.heap.size W w') :
    Calls Tryz.prog 3 #[.agg #[.slice so sn sc, .slice lo ln lc], .slice eo en ecap, .int .i64 h] w fun e w' => e = .returned (.bool true) ∧ Below w.heap.size w w' := by
  have hB := Below.refl w.heap.size w
  have HEV : Hid (∀ W : World, Below w.heap.size w W → HasEvs W (.slice eo en ecap) es) := fun W hb => hE.keep hb
  have hen : (en : Int) ≤ 9223372036854775807 := by omega
  clear hE
  go_enter Tryz.func3, Tryz.ntmps3
  obtain ⟨Y1, hY⟩ : ∃ Y, Y = (w.alloc (.cells #[.slice so sn sc, .slice lo ln lc] 25)) := ⟨_, rfl⟩
  have hbY : Below w.heap.size w Y1 := by rw [hY]; exact below_new (Below.refl _ _) _
  have hle : w.heap.size ≤ w.heap.size := hB.size
  obtain ⟨gn, hgn⟩ : ∃ g, g = w.heap.size := ⟨_, rfl⟩
  have rn : RowAt Y1 gn [.slice so sn sc, .slice lo ln lc] 25 := by
    have h := RowAt.new w [.slice so sn sc, .slice lo ln lc] 25
    rw [hgn, hY]; exact h
  have len : w.heap.size ≤ gn := by omega
  replace hS := hS.keep hbY
  replace hL := hL.keep hbY
  replace hB := below2 hB hbY
  go_upto_region 1 with fail
  rw [← hY, ← hgn]
  clear hY hbY hle hgn
  obtain ⟨n0, n1, nf⟩ := cells2 rn
  go_wp2_with fail
  clear n0 n1 nf
  go_at_call 4; refine (cC _ hS hL).mono ?_; rintro e w2 ⟨o1, n1, m1, o2, n2, m2, rfl, hT, hM, hb⟩
  replace rn := RowAt.below rn hb
  replace hS := hS.keep hb
  replace hL := hL.keep hb
  replace hB := below2 hB hb
  clear hb
  obtain ⟨Y3, hY⟩ : ∃ Y, Y = (w2.alloc (.cells #[.slice o1 n1 m1, .slice o2 n2 m2] 25)) := ⟨_, rfl⟩
  have hbY : Below w2.heap.size w2 Y3 := by rw [hY]; exact below_new (Below.refl _ _) _
  have hle : w.heap.size ≤ w2.heap.size := hB.size
  obtain ⟨gg, hgg⟩ : ∃ g, g = w2.heap.size := ⟨_, rfl⟩
  have rg : RowAt Y3 gg [.slice o1 n1 m1, .slice o2 n2 m2] 25 := by
    have h := RowAt.new w2 [.slice o1 n1 m1, .slice o2 n2 m2] 25
    rw [hgg, hY]; exact h
  have leg : w.heap.size ≤ gg := by omega
  have neng : gn ≠ gg := by have := RowAt.lt rn; omega
  replace rn := RowAt.below rn hbY
  replace hS := hS.keep hbY
  replace hL := hL.keep hbY
  replace hT := hT.keep hbY
  replace hM := hM.keep hbY
  replace hB := below2 hB hbY
  go_upto_region 2 with fail
  rw [← hY, ← hgg]
  clear hY hbY hle hgg
  clear cC
  have hK : KB Y3 Y3 := Below.refl _ _
  go_wp2_with fail
  go_loopw [24] (fun i wr => ∃ k : Nat, k ≤ en ∧ i = .int .i64 k ∧ KB Y3 wr) (fun i _ => en - (Go.RowKit.intOf i).toNat)
  case atStart => exact ⟨0, by omega, rfl, hK⟩
  case round =>
    obtain ⟨k, hk, rfl, hKr⟩ := hrel
    clear hK
    have hbl : Below Y3.heap.size Y3 wr := hKr
    by_cases hlt : k < en
    · have hkz : k < es.length := by rw [← HEN.out]; exact hlt
      replace rn := RowAt.below rn hbl
      replace rg := RowAt.below rg hbl
      replace hS := hS.keep hbl
      replace hL := hL.keep hbl
      replace hT := hT.keep hbl
      replace hM := hM.keep hbl
      replace hB := below2 hB hbl
      have hK := hKr
      clear hKr hbl
      obtain ⟨b1, i1, rfl, hb1, x0, x1, x2, x3, x4, x5, x6, x7, x8, x9, x10, x11⟩ := HasEvs.cell (HEV.out _ hB) k hkz
      have fe := HFE.out es[k] (List.getElem_mem hkz)
      obtain ⟨ev, hev⟩ : ∃ ev, ev = es[k] := ⟨_, rfl⟩
      rw [← hev] at x0 x1 x2 x3 x4 x5 x6 x7 x8 x9 x10 x11 fe
      clear hev
      have cp := cP ev fe
      have cq := cQ ev fe
      clear fe cP cQ
      unfold evV evC at cp cq
      have hki : (k : Int) < (en : Int) := by omega
      obtain ⟨Y4, hY⟩ : ∃ Y, Y = (wr.alloc (.cells #[.int .u8 (ev.kind : Int), .int .i64 ev.router, .int .u64 (ev.seq : Int), .int .i64 ev.time, .bool ev.pf.six, .int .u64 (hiN ev.pf.n : Int), .int .u64 (loN ev.pf.n : Int), .int .i64 ev.pf.len, .int .u8 (ev.act.k : Int), .int .i64 ev.act.i, .int .i64 ev.iface, .int .i64 ev.peer] 38)) := ⟨_, rfl⟩
      have hbY : Below wr.heap.size wr Y4 := by rw [hY]; exact below_new (Below.refl _ _) _
      have hle : w.heap.size ≤ wr.heap.size := hB.size
      obtain ⟨ge, hge⟩ : ∃ g, g = wr.heap.size := ⟨_, rfl⟩
      have re : RowAt Y4 ge [.int .u8 (ev.kind : Int), .int .i64 ev.router, .int .u64 (ev.seq : Int), .int .i64 ev.time, .bool ev.pf.six, .int .u64 (hiN ev.pf.n : Int), .int .u64 (loN ev.pf.n : Int), .int .i64 ev.pf.len, .int .u8 (ev.act.k : Int), .int .i64 ev.act.i, .int .i64 ev.iface, .int .i64 ev.peer] 38 := by
        have h := RowAt.new wr [.int .u8 (ev.kind : Int), .int .i64 ev.router, .int .u64 (ev.seq : Int), .int .i64 ev.time, .bool ev.pf.six, .int .u64 (hiN ev.pf.n : Int), .int .u64 (loN ev.pf.n : Int), .int .i64 ev.pf.len, .int .u8 (ev.act.k : Int), .int .i64 ev.act.i, .int .i64 ev.iface, .int .i64 ev.peer] 38
        rw [hge, hY]; exact h
      have lee : w.heap.size ≤ ge := by omega
      have nene : gn ≠ ge := by have := RowAt.lt rn; omega
      have nege : gg ≠ ge := by have := RowAt.lt rg; omega
      replace rn := RowAt.below rn hbY
      replace rg := RowAt.below rg hbY
      replace hS := hS.keep hbY
      replace hL := hL.keep hbY
      replace hT := hT.keep hbY
      replace hM := hM.keep hbY
      replace hK := hK.keep hbY
      replace hB := below2 hB hbY
      go_upto_region 5 with fail
      rw [← hY, ← hge]
      clear hY hbY hle hge
      clear x0 x1 x2 x3 x4 x5 x6 x7 x8 x9 x10 x11 hb1
      obtain ⟨g0, g1, gf⟩ := cells2 rg
      obtain ⟨e0, e1, e2, e3, e4, e5, e6, e7, e8, e9, e10, e11, ef⟩ := cells12 re
      go_wp2_with fail
      clear g0 g1 gf e0 e1 e2 e3 e4 e5 e6 e7 e8 e9 e10 e11 ef
      go_at_call 5; refine (cp _ _ _ hT hM).mono ?_; rintro e w5 ⟨a1, a2, a3, a4, a5, a6, rfl, hT1, hM1, hb⟩
      replace rn := RowAt.below rn hb
      replace rg := RowAt.below rg hb
      replace re := RowAt.below re hb
      replace hS := hS.keep hb
      replace hL := hL.keep hb
      replace hT := hT.keep hb
      replace hM := hM.keep hb
      replace hK := hK.keep hb
      replace hB := below2 hB hb
      clear hb
      obtain ⟨Y6, hY⟩ : ∃ Y, Y = (w5.alloc (.cells #[.slice a1 a2 a3, .slice a4 a5 a6] 25)) := ⟨_, rfl⟩
      have hbY : Below w5.heap.size w5 Y6 := by rw [hY]; exact below_new (Below.refl _ _) _
      have hle : w.heap.size ≤ w5.heap.size := hB.size
      obtain ⟨ga, hga⟩ : ∃ g, g = w5.heap.size := ⟨_, rfl⟩
      have ra : RowAt Y6 ga [.slice a1 a2 a3, .slice a4 a5 a6] 25 := by
        have h := RowAt.new w5 [.slice a1 a2 a3, .slice a4 a5 a6] 25
        rw [hga, hY]; exact h
      have lea : w.heap.size ≤ ga := by omega
      have nena : gn ≠ ga := by have := RowAt.lt rn; omega
      have nega : gg ≠ ga := by have := RowAt.lt rg; omega
      have neea : ge ≠ ga := by have := RowAt.lt re; omega
      replace rn := RowAt.below rn hbY
      replace rg := RowAt.below rg hbY
      replace re := RowAt.below re hbY
      replace hS := hS.keep hbY
      replace hL := hL.keep hbY
      replace hT := hT.keep hbY
      replace hM := hM.keep hbY
      replace hK := hK.keep hbY
      replace hT1 := hT1.keep hbY
      replace hM1 := hM1.keep hbY
      replace hB := below2 hB hbY
      go_upto_region 6 with fail
      rw [← hY, ← hga]
      clear hY hbY hle hga
      obtain ⟨n0, n1, nf⟩ := cells2 rn
      obtain ⟨e0, e1, e2, e3, e4, e5, e6, e7, e8, e9, e10, e11, ef⟩ := cells12 re
      go_wp2_with fail
      clear n0 n1 nf e0 e1 e2 e3 e4 e5 e6 e7 e8 e9 e10 e11 ef
      go_at_call 6; refine (cq _ _ _ hS hL).mono ?_; rintro e w7 ⟨d1, d2, d3, d4, d5, d6, rfl, hT2, hM2, hb⟩
      replace rn := RowAt.below rn hb
      replace rg := RowAt.below rg hb
      replace re := RowAt.below re hb
      replace ra := RowAt.below ra hb
      replace hS := hS.keep hb
      replace hL := hL.keep hb
      replace hT := hT.keep hb
      replace hM := hM.keep hb
      replace hK := hK.keep hb
      replace hT1 := hT1.keep hb
      replace hM1 := hM1.keep hb
      replace hB := below2 hB hb
      clear hb
      obtain ⟨Y8, hY⟩ : ∃ Y, Y = (w7.alloc (.cells #[.slice d1 d2 d3, .slice d4 d5 d6] 25)) := ⟨_, rfl⟩
      have hbY : Below w7.heap.size w7 Y8 := by rw [hY]; exact below_new (Below.refl _ _) _
      have hle : w.heap.size ≤ w7.heap.size := hB.size
      obtain ⟨gb, hgb⟩ : ∃ g, g = w7.heap.size := ⟨_, rfl⟩
      have rb : RowAt Y8 gb [.slice d1 d2 d3, .slice d4 d5 d6] 25 := by
        have h := RowAt.new w7 [.slice d1 d2 d3, .slice d4 d5 d6] 25
        rw [hgb, hY]; exact h
      have leb : w.heap.size ≤ gb := by omega
      have nenb : gn ≠ gb := by have := RowAt.lt rn; omega
      have negb : gg ≠ gb := by have := RowAt.lt rg; omega
      have neeb : ge ≠ gb := by have := RowAt.lt re; omega
      have neab : ga ≠ gb := by have := RowAt.lt ra; omega
      replace rn := RowAt.below rn hbY
      replace rg := RowAt.below rg hbY
      replace re := RowAt.below re hbY
      replace ra := RowAt.below ra hbY
      replace hS := hS.keep hbY
      replace hL := hL.keep hbY
      replace hT := hT.keep hbY
      replace hM := hM.keep hbY
      replace hK := hK.keep hbY
      replace hT1 := hT1.keep hbY
      replace hM1 := hM1.keep hbY
      replace hT2 := hT2.keep hbY
      replace hM2 := hM2.keep hbY
      replace hB := below2 hB hbY
      go_upto_region 7 with fail
      rw [← hY, ← hgb]
      clear hY hbY hle hgb
      clear cp cq
      obtain ⟨a0, a1, af⟩ := cells2 ra
      obtain ⟨b0, b1, bf⟩ := cells2 rb
      go_wp2_with fail
      clear a0 a1 af b0 b1 bf
      go_at_call 7; refine (cS _ _ _ _ _ _ hT1 hM1 hT2 hM2).mono ?_; rintro e w9 ⟨rfl, hb⟩
      replace rn := RowAt.below rn hb
      replace rg := RowAt.below rg hb
      replace re := RowAt.below re hb
      replace ra := RowAt.below ra hb
      replace rb := RowAt.below rb hb
      replace hS := hS.keep hb
      replace hL := hL.keep hb
      replace hT := hT.keep hb
      replace hM := hM.keep hb
      replace hK := hK.keep hb
      replace hT1 := hT1.keep hb
      replace hM1 := hM1.keep hb
      replace hT2 := hT2.keep hb
      replace hM2 := hM2.keep hb
      replace hB := below2 hB hb
      clear hb
      generalize (applyN n ev h).2 = zz at *
      go_wp2_with fail
      go_roundw
      case rel => exact ⟨k + 1, by omega, by go_num, hK⟩
      case measure => simp [Go.RowKit.intOf]; omega
    · have hkn2 : k = en := by omega
      subst hkn2
      have hkd : decide ((k : Int) < (k : Int)) = false := decide_eq_false (by omega)
      replace rn := RowAt.below rn hbl
      replace rg := RowAt.below rg hbl
      replace hS := hS.keep hbl
      replace hL := hL.keep hbl
      replace hT := hT.keep hbl
      replace hM := hM.keep hbl
      replace hB := below2 hB hbl
      clear hKr hbl cP cQ
      obtain ⟨g0, g1, gf⟩ := cells2 rg
      go_wp2_with fail
      clear g0 g1 gf
      go_at_call 8; refine (cA _ _ _ hT hM (HEV.out _ hB)).mono ?_; rintro e w4 ⟨a1, a2, a3, a4, a5, a6, rfl, hT1, hM1, hb⟩
      replace rn := RowAt.below rn hb
      replace rg := RowAt.below rg hb
      replace hS := hS.keep hb
      replace hL := hL.keep hb
      replace hT := hT.keep hb
      replace hM := hM.keep hb
      replace hB := below2 hB hb
      clear hb
      obtain ⟨Y5, hY⟩ : ∃ Y, Y = (w4.alloc (.cells #[.slice a1 a2 a3, .slice a4 a5 a6] 25)) := ⟨_, rfl⟩
      have hbY : Below w4.heap.size w4 Y5 := by rw [hY]; exact below_new (Below.refl _ _) _
      have hle : w.heap.size ≤ w4.heap.size := hB.size
      obtain ⟨ga, hga⟩ : ∃ g, g = w4.heap.size := ⟨_, rfl⟩
      have ra : RowAt Y5 ga [.slice a1 a2 a3, .slice a4 a5 a6] 25 := by
        have h := RowAt.new w4 [.slice a1 a2 a3, .slice a4 a5 a6] 25
        rw [hga, hY]; exact h
      have lea : w.heap.size ≤ ga := by omega
      have nena : gn ≠ ga := by have := RowAt.lt rn; omega
      have nega : gg ≠ ga := by have := RowAt.lt rg; omega
      replace rn := RowAt.below rn hbY
      replace rg := RowAt.below rg hbY
      replace hS := hS.keep hbY
      replace hL := hL.keep hbY
      replace hT := hT.keep hbY
      replace hM := hM.keep hbY
      replace hT1 := hT1.keep hbY
      replace hM1 := hM1.keep hbY
      replace hB := below2 hB hbY
      go_upto_region 11 with fail
      rw [← hY, ← hga]
      clear hY hbY hle hga
      obtain ⟨n0, n1, nf⟩ := cells2 rn
      go_wp2_with fail
      clear n0 n1 nf
      go_at_call 9; refine (cB _ _ _ hS hL (HEV.out _ hB)).mono ?_; rintro e w6 ⟨d1, d2, d3, d4, d5, d6, rfl, hT2, hM2, hb⟩
      replace rn := RowAt.below rn hb
      replace rg := RowAt.below rg hb
      replace ra := RowAt.below ra hb
      replace hS := hS.keep hb
      replace hL := hL.keep hb
      replace hT := hT.keep hb
      replace hM := hM.keep hb
      replace hT1 := hT1.keep hb
      replace hM1 := hM1.keep hb
      replace hB := below2 hB hb
      clear hb
      obtain ⟨Y7, hY⟩ : ∃ Y, Y = (w6.alloc (.cells #[.slice d1 d2 d3, .slice d4 d5 d6] 25)) := ⟨_, rfl⟩
      have hbY : Below w6.heap.size w6 Y7 := by rw [hY]; exact below_new (Below.refl _ _) _
      have hle : w.heap.size ≤ w6.heap.size := hB.size
      obtain ⟨gb, hgb⟩ : ∃ g, g = w6.heap.size := ⟨_, rfl⟩
      have rb : RowAt Y7 gb [.slice d1 d2 d3, .slice d4 d5 d6] 25 := by
        have h := RowAt.new w6 [.slice d1 d2 d3, .slice d4 d5 d6] 25
        rw [hgb, hY]; exact h
      have leb : w.heap.size ≤ gb := by omega
      have nenb : gn ≠ gb := by have := RowAt.lt rn; omega
      have negb : gg ≠ gb := by have := RowAt.lt rg; omega
      have neab : ga ≠ gb := by have := RowAt.lt ra; omega
      replace rn := RowAt.below rn hbY
      replace rg := RowAt.below rg hbY
      replace ra := RowAt.below ra hbY
      replace hS := hS.keep hbY
      replace hL := hL.keep hbY
      replace hT := hT.keep hbY
      replace hM := hM.keep hbY
      replace hT1 := hT1.keep hbY
      replace hM1 := hM1.keep hbY
      replace hT2 := hT2.keep hbY
      replace hM2 := hM2.keep hbY
      replace hB := below2 hB hbY
      go_upto_region 12 with fail
      rw [← hY, ← hgb]
      clear hY hbY hle hgb
      have d0 : ∀ p : Bl Y7, Calls Tryz.prog 10 #[] p.W fun e w' => e = .returned (.bool true) ∧ Below p.W.heap.size p.W w' := fun p => cL _
      have d1_ : ∀ p : Bl Y7, Calls Tryz.prog 11 #[.agg #[.slice o1 n1 m1, .slice o2 n2 m2]] p.W fun e w' => e = .returned (.int .i64 ck) ∧ Below p.W.heap.size p.W w' := fun p => cK _ _ _ (hT.keep p.h) (hM.keep p.h)
      have d2_ : ∀ p : Bl Y7, Calls Tryz.prog 12 #[.agg #[.slice so sn sc, .slice lo ln lc]] p.W fun e w' => e = .returned (.int .i64 ck) ∧ Below p.W.heap.size p.W w' := fun p => cR _ _ _ (hS.keep p.h) (hL.keep p.h)
      have d3_ : ∀ p : Bl Y7, Calls Tryz.prog 7 #[.agg #[.slice a1 a2 a3, .slice a4 a5 a6], .agg #[.slice d1 d2 d3, .slice d4 d5 d6]] p.W fun e w' => e = .returned (.bool true) ∧ Below p.W.heap.size p.W w' := fun p => cS _ A _ _ _ _ (hT1.keep p.h) (hM1.keep p.h) (hT2.keep p.h) (hM2.keep p.h)
      have d4_ : ∀ p : Bl Y7, Calls Tryz.prog 7 #[.agg #[.slice o1 n1 m1, .slice o2 n2 m2], .agg #[.slice so sn sc, .slice lo ln lc]] p.W fun e w' => e = .returned (.bool true) ∧ Below p.W.heap.size p.W w' := fun p => cS _ ⟨S, L⟩ _ _ _ _ (hT.keep p.h) (hM.keep p.h) (hS.keep p.h) (hL.keep p.h)
      have n0_ : ∀ p : Bl Y7, p.W.cell? ⟨gn, 0, none⟩ = some (.slice so sn sc) := fun p => (RowAt.below rn p.h).cell 0
      have n1_ : ∀ p : Bl Y7, p.W.cell? ⟨gn, 1, none⟩ = some (.slice lo ln lc) := fun p => (RowAt.below rn p.h).cell 1
      have g0_ : ∀ p : Bl Y7, p.W.cell? ⟨gg, 0, none⟩ = some (.slice o1 n1 m1) := fun p => (RowAt.below rg p.h).cell 0
      have g1_ : ∀ p : Bl Y7, p.W.cell? ⟨gg, 1, none⟩ = some (.slice o2 n2 m2) := fun p => (RowAt.below rg p.h).cell 1
      have a0_ : ∀ p : Bl Y7, p.W.cell? ⟨ga, 0, none⟩ = some (.slice a1 a2 a3) := fun p => (RowAt.below ra p.h).cell 0
      have a1_ : ∀ p : Bl Y7, p.W.cell? ⟨ga, 1, none⟩ = some (.slice a4 a5 a6) := fun p => (RowAt.below ra p.h).cell 1
      have b0_ : ∀ p : Bl Y7, p.W.cell? ⟨gb, 0, none⟩ = some (.slice d1 d2 d3) := fun p => (RowAt.below rb p.h).cell 0
      have b1_ : ∀ p : Bl Y7, p.W.cell? ⟨gb, 1, none⟩ = some (.slice d4 d5 d6) := fun p => (RowAt.below rb p.h).cell 1
      clear rn rg ra rb hT hM hS hL hT1 hM1 hT2 hM2 cA cB cL cK cR cS
      haveI := bl_ne Y7
      refine wp_region_bl (by kernel_rfl) (by kernel_rfl) ?_
      repeat (go_big_quiet_step (first | (go_at_call 10; with_reducible exact bl_call (d0 _)) | (go_at_call 11; with_reducible exact bl_call (d1_ _)) | (go_at_call 12; with_reducible exact bl_call (d2_ _)) | (go_at_call 7; with_reducible exact bl_call (d3_ _)) | (go_at_call 7; with_reducible exact bl_call (d4_ _))))
      refine wpQuiet_nil ?_
      intro wq hw'
      obtain ⟨⟨wz, hq⟩, hw2⟩ := hw'
      subst hw2
      have hW := below2 hB hq
      go_wp2_with fail
      go_ret
      exact ⟨rfl, hW⟩
theorem walk (n : NetT) (u v : Value) (ve : Value) (es : List Ev) (h : Int) (w : World) (b0 : HasSts w u n.seats) (c0 : HasRos w v n.ros) (f0 : FitN n) (s0 : n.seats.length * 32 ≤ 140737488351232 ∧ n.ros.length * 64 ≤ 140737488351232 ∧ ∀ R ∈ n.ros, R.rts.length * 48 ≤ 140737488351232 ∧ R.lks.length * 16 ≤ 140737488351232) (b1 : HasEvs w ve es) (f1 : ∀ e ∈ es, FitE e) (b2 : -9223372036854775808 ≤ h ∧ h ≤ 9223372036854775807) :
    Calls Tryz.prog 3 #[.agg #[u, v], ve, .int .i64 h] w fun e w' => e = .returned (.bool true) ∧ Below w.heap.size w w' := by
  obtain ⟨so, sc, rfl, _⟩ := Ord.HasRow.slice b0
  obtain ⟨lo, lc, rfl, _⟩ := HasRos.slice c0
  obtain ⟨eo, ec, rfl, q1, q2⟩ := Ord.HasRow.slice b1
  exact walks so lo _ sc _ lc eo _ ec es h n.seats n.ros n (allN n es h).1 (allN n es h).2.1 (allN n es h).2.2 (checkN n) w b0 c0 b1 rfl q1 (by omega) f1
    (fun W h1 h2 => rcopy_any n.seats n.ros _ _ W h1 h2 (by omega) (by omega) (fun R hR => by have := s0.2.2 R hR; omega))
    (fun ev fe W u v h1 h2 => Nt.apply_any n ev h u v W h1 h2 f0 fe) (fun ev fe W u v h1 h2 => rapplyN_any n ev h u v W h1 h2 f0 fe)
    (fun W u v h1 h2 h3 => Nt.all_any n es h u v _ W h1 h2 h3 f0 f1) (fun W u v h1 h2 h3 => rall_any n es h u v _ W h1 h2 h3 f0 f1)
    (fun W => Nt.lives_any W) (fun W u v h1 h2 => Nt.check_any n u v W h1 h2 f0.ros) (fun W u v h1 h2 => Nt.rcheck_any n u v W h1 h2 f0.ros)
    (fun W m u v x y h1 h2 h3 h4 => Nt.same_any m u v x y W h1 h2 h3 h4)

set_option maxRecDepth 100000 in
theorem lifted (os : Os) (started : os.Started) (H : Type) (enc : TypeId × Value → H) :
    ReturnsInHanded {} Tryz.checked os 3 .any (Rows.netAppliesSpec.pre6 enc Tryz.prog Tryz.f3 Rows.netAppliesRow.domain false) (Rows.netAppliesSpec.post enc Tryz.prog Tryz.f3 false true false false) := by
  refine returnsInHanded_of_change_sized (C := Tryz.checked) own started (by kernel_rfl) Tryz.func3
    (ChangeSpec.witness6 (enc := enc) (C := Tryz.checked) false ⟨#[], #[.agg #[.slice none 0 0, .slice none 0 0], .slice none 0 0, .int .i64 0], []⟩ 8 (by kernel_rfl) (by kernel_rfl) (by kernel_rfl) (by kernel_rfl)) ?_
  intro W base args ds gs before hval0 hW _ hsz0 _
  have hsz : (DataW.weightsEach Tryz.prog (Tryz.f3.params.toList ++ Rows.netAppliesSpec.plain.varTypes Tryz.prog) (ds ++ gs)).all (· ≤ reachBytes) = true := hsz0
  clear hsz0
  have hval : ∀ (j : Nat) t v, Tryz.f3.params[j]? = some t → args[j]? = some v → Value.okWide Tryz.prog W .any base t v := hval0
  have hW' := hW
  obtain ⟨p, q, hA0, hV, rfl, hfz, hnd⟩ := hW
  have hA : DataW.TrodAll enc Tryz.prog W 0 (fun _ => true) true Tryz.f3.params.toList args.toList ds p := hA0
  rw [Tryz.params3] at hA hval hsz
  obtain ⟨v0, vs0, d0, ds0, p0, q0, hargs, rfl, rfl, h0, r0⟩ := trodAll_cons hA
  obtain ⟨v1, vs1, d1, ds1, p1, q1, rfl, rfl, rfl, h1, r1⟩ := trodAll_cons r0
  obtain ⟨v2, vs2, d2, ds2, p2, q2, rfl, rfl, rfl, h2, r2⟩ := trodAll_cons r1
  obtain ⟨rfl, rfl, rfl⟩ := trodAll_nil r2
  obtain rfl : args = #[v0, v1, v2] := by cases args; simp_all
  obtain ⟨rfl, rfl⟩ := trodVars_none hV
  have k0 := h0
  have lt0 : ∀ x ∈ p0, x.block < W.heap.size := by obtain ⟨m, hm⟩ := k0; exact DataW.trod_lt m _ _ _ hm
  obtain ⟨N0, x0, y0, rfl, b0, c0, f0, s0⟩ := Nt.open_net_s (hval 0 25 v0 rfl rfl) h0 (fun n hn => by
    have := List.all_eq_true.1 hsz n (DataW.weights_mem_each (j := 0) rfl rfl n hn)
    simpa using this)
  obtain ⟨a1, len1, cap1, rfl⟩ := okWide_slice Tryz.underlying26 (hval 1 26 v1 rfl rfl)
  have k1 := h1
  have lt1 : ∀ x ∈ p1, x.block < W.heap.size := by obtain ⟨m, hm⟩ := k1; exact DataW.trod_lt m _ _ _ hm
  obtain ⟨fuel1, hf1⟩ := h1
  obtain ⟨z1, b1, f1⟩ := Ord.open_events hf1
  obtain ⟨a2, rfl, rfl, rfl, w2⟩ := open_int Tryz.underlying2 (hval 2 2 v2 rfl rfl) h2
  have b2 : -9223372036854775808 ≤ a2 ∧ a2 ≤ 9223372036854775807 := by simpa [Lit.wf, IntKind.min, IntKind.max, IntKind.signed, IntKind.bits] using w2
  clear hA0 hval0
  refine (walk N0 x0 y0 (.slice a1 len1 cap1) z1 a2 W b0 c0 f0 s0 b1 f1 b2).mono fun e W' ⟨he, bel⟩ => ?_
  subst he
  exact ⟨_, rfl, _, _, _, [], _, [], hW', trodAll_mk1 (shut_bool Tryz.underlying4 _), (trodAll_cons_mk (Below.trod laidOut (by kernel_rfl) (of_decide_eq_true (by kernel_rfl)) k0 bel lt0) (trodAll_cons_mk (Below.trod laidOut (by kernel_rfl) (of_decide_eq_true (by kernel_rfl)) k1 bel lt1) (trodAll_cons_mk (shut_int Tryz.underlying2 w2) trodAll_mk0))), rfl, bel.frame _, fun h => by cases h⟩

theorem over : Rows.netAppliesRow.holds Tryz.pinned (OpenSpec.ofChange Rows.netAppliesSpec) :=
  OpenClaim.holds_of_wide 3 Tryz.f3 rfl rfl rfl rfl rfl rfl rfl ⟨rfl, rfl, rfl, rfl, rfl⟩ rfl rfl rfl rfl rfl (by kernel_rfl) Tryz.func3 (by kernel_rfl)
    (of_decide_eq_true (by kernel_rfl)) (by unfold Func.isWrapper; first | (rw [if_pos (by decide +kernel)]; kernel_rfl) | (rw [if_neg (by decide +kernel)]; exact ⟨rfl, rfl⟩))
    (fun os started H enc _ => lifted os started H enc)
end netApplies
theorem napplies_holds : Rows.NetAppliesSaid := netApplies.over
#print axioms napplies_holds
end Go.Proofs.YtkjhnefbcnnjlaaGreat
