/- The document's answer of layer 11: whether an event is right, way by way. -/
import Derived.Test.YtkjhnefbcnnjlaaGreatNv17
import Derived.Test.YtkjhnefbcnnjlaaGreatNv05
import Derived.Test.YtkjhnefbcnnjlaaGreatNv32
set_option linter.unusedVariables false
namespace Go.Proofs.YtkjhnefbcnnjlaaGreat.Ord
open Go.RowKit
open Go.Proofs.YtkjhnefbcnnjlaaGreat.Msg (results_cell_tmp1)
open Go.Proofs.YtkjhnefbcnnjlaaGreat.Addr (RowAt below2 below_drew below_new bset RowAt.lt RowAt.cell RowAt.below RowAt.new RowAt.alloc cells4)
set_option maxHeartbeats 4000000 in
set_option maxRecDepth 20000 in
theorem rfind_any (l : List St) (v : Value) (r : Int) (w : World) (h : HasSts w v l) :
    Calls Tryz.prog 63 #[v, .int .i64 r] w fun e w' => e = .returned (.tuple #[stV (seatOf l r), .bool (isIn l r)]) ∧ Below w.heap.size w w' := by
  obtain ⟨o, c, rfl, hc1, hc2⟩ := HasRow.slice h
  have HR : Hid (∀ wr : World, Below w.heap.size w wr → HasSts wr (.slice o l.length c) l) := fun wr hb => h.keep hb
  obtain ⟨n, hn⟩ : ∃ n, n = l.length := ⟨_, rfl⟩
  have HN : Hid (n = l.length) := hn
  rw [← hn] at HR hc1 ⊢
  have hni : (n : Int) ≤ 9223372036854775807 := by omega
  obtain ⟨R, hR⟩ : ∃ R, R = (Value.tuple #[stV (seatOf l r), .bool (isIn l r)]) := ⟨_, rfl⟩
  have HD : Hid (R = .tuple #[stV ((findL (l.drop 0) r).getD zeroS), .bool (findL (l.drop 0) r).isSome]) := hR
  rw [← hR]
  obtain ⟨X, hX⟩ : ∃ X, X = w.alloc (.cells #[.int .i64 0, .int .u64 0, .int .i64 0, .bool false] 70) := ⟨_, rfl⟩
  have hB0 : Below w.heap.size w X := by rw [hX]; exact below_new (Below.refl _ _) _
  have rx : RowAt X w.heap.size [.int .i64 0, .int .u64 0, .int .i64 0, .bool false] 70 := by rw [hX]; exact RowAt.new _ _ _
  clear h hn hR
  go_enter Tryz.func63, Tryz.ntmps63
  go_upto_region 1 with fail
  rw [← hX]
  clear hX
  obtain ⟨g4, hg4⟩ : ∃ g, g = w.heap.size := ⟨_, rfl⟩
  have hgw : w.heap.size ≤ g4 := by omega
  rw [← hg4] at rx ⊢
  clear hg4
  go_wp2_with fail
  go_loopw [10] (fun i wr => ∃ k : Nat, k ≤ n ∧ i = .int .i64 k ∧ Below w.heap.size w wr ∧ Hid (RowAt wr g4 [.int .i64 0, .int .u64 0, .int .i64 0, .bool false] 70) ∧ Hid (R = .tuple #[stV ((findL (l.drop k) r).getD zeroS), .bool (findL (l.drop k) r).isSome])) (fun i _ => n - (intOf i).toNat)
  case atStart => exact ⟨0, by omega, rfl, hB0, rx, HD⟩
  case round =>
    obtain ⟨k, hk, rfl, hB, HX, HG⟩ := hrel
    have hh := HR.out _ hB
    by_cases hlt : k < n
    · have hkz : k < l.length := by rw [← HN.out]; exact hlt
      obtain ⟨g1, i1, rfl, hg1, a0, a1, a2, a3⟩ := HasSts.cell hh k hkz
      have hki : (k : Int) < (n : Int) := by omega
      have hst : findL (l.drop k) r = if decide (l[k].router = r) then some l[k] else findL (l.drop (k + 1)) r := by
        unfold findL
        rw [List.drop_eq_getElem_cons hkz, List.find?_cons]
        cases decide (l[k].router = r) <;> rfl
      have HB1 : Hid (decide (l[k].router = r) = true → R = .tuple #[.agg #[.int .i64 l[k].router, .int .u64 (l[k].seq : Int), .int .i64 l[k].time, .bool l[k].up], .bool true]) := fun e => by
        rw [HG.out, hst, e]; rfl
      have HB2 : Hid (decide (l[k].router = r) = false → R = .tuple #[stV ((findL (l.drop (k + 1)) r).getD zeroS), .bool (findL (l.drop (k + 1)) r).isSome]) := fun e => by
        rw [HG.out, hst, e]; rfl
      clear hst
      generalize l[k].router = ra at a0 HB1 HB2
      generalize (l[k].seq : Int) = rb at a1 HB1
      generalize l[k].time = rc at a2 HB1
      generalize l[k].up = ru at a3 HB1
      clear HG
      have rx := HX.out
      have hl4 := RowAt.lt rx
      go_upto_region 4 with fail
      obtain ⟨Y, hY⟩ : ∃ Y, Y = wr.alloc (.cells #[.int .i64 ra, .int .u64 rb, .int .i64 rc, .bool ru] 70) := ⟨_, rfl⟩
      have hbY : Below wr.heap.size wr Y := by rw [hY]; exact below_new (Below.refl _ _) _
      have ry : RowAt Y wr.heap.size [.int .i64 ra, .int .u64 rb, .int .i64 rc, .bool ru] 70 := by rw [hY]; exact RowAt.new _ _ _
      rw [← hY]
      replace rx := RowAt.below rx hbY
      have hBY := below2 hB hbY
      clear hY a0 a1 a2 a3 hh hg1
      obtain ⟨gs, hgs⟩ : ∃ g, g = wr.heap.size := ⟨_, rfl⟩
      rw [← hgs] at ry hl4 ⊢
      have hg4s : g4 ≠ gs := by omega
      clear hgs
      obtain ⟨x0, x1, x2, x3, xf⟩ := cells4 rx
      obtain ⟨z0, z1, z2, z3, zf⟩ := cells4 ry
      have hl5 := RowAt.lt rx
      cases hd : decide (ra = r)
      · have HS1 := HB2.out hd
        have hq : (ra == r) = false := by rw [beq_eq_false_iff_ne]; exact of_decide_eq_false hd
        have HX2 : Hid (RowAt Y g4 [.int .i64 0, .int .u64 0, .int .i64 0, .bool false] 70) := rx
        clear HB1 HB2 hd HX rx ry
        go_wp2_with fail
        go_roundw
        case rel => exact ⟨k + 1, by omega, by go_num, hBY, HX2, HS1⟩
        case measure => simp [intOf]; omega
      · have HV : Hid (R = .tuple #[.agg #[.int .i64 ra, .int .u64 rb, .int .i64 rc, .bool ru], .bool true]) := HB1.out hd
        have hq : (ra == r) = true := by rw [beq_iff_eq]; exact of_decide_eq_true hd
        clear HB1 HB2 hd HX rx ry
        go_wp2_with fail
        refine bodyPost_ret (v := .tuple #[.agg #[.int .i64 ra, .int .u64 rb, .int .i64 rc, .bool ru], .bool true]) ?_ rfl ⟨by rw [HV.out], ?_⟩
        any_goals (rw [results_cell_tmp1 rfl]; go_simp)
        all_goals (repeat' (first | with_reducible exact hBY | with_reducible apply below_drew | with_reducible refine bset ?_ (by omega)))
    · obtain rfl : k = n := by omega
      have HV : Hid (R = .tuple #[.agg #[.int .i64 0, .int .u64 0, .int .i64 0, .bool false], .bool false]) := by
        show _ = _
        rw [HG.out, List.drop_of_length_le (by rw [← HN.out]; exact Nat.le_refl _)]
        rfl
      have rx := HX.out
      obtain ⟨x0, x1, x2, x3, xf⟩ := cells4 rx
      have hl5 := RowAt.lt rx
      clear hh HG HX rx
      go_wp2_with fail
      refine bodyPost_ret (v := .tuple #[.agg #[.int .i64 0, .int .u64 0, .int .i64 0, .bool false], .bool false]) ?_ rfl ⟨by rw [HV.out], ?_⟩
      any_goals (rw [results_cell_tmp1 rfl]; go_simp)
      all_goals (repeat' (first | with_reducible exact hB | with_reducible apply below_drew | with_reducible refine bset ?_ (by omega)))
end Go.Proofs.YtkjhnefbcnnjlaaGreat.Ord
namespace Go.Proofs.YtkjhnefbcnnjlaaGreat.Msg
open Go.RowKit
open Go.Proofs.YtkjhnefbcnnjlaaGreat.Addr (okP)
/-- what an event of its kind may have, taken out of it -/
def wantE (e : Ev) : Ev := ⟨e.kind, e.router, e.seq, e.time, if e.kind = 3 ∨ e.kind = 4 then e.pf else zeroPf, if e.kind = 3 then e.act else zeroA, if e.kind = 5 ∨ e.kind = 6 then e.iface else 0, if e.kind = 5 then e.peer else 0⟩
def rangeB (e : Ev) : Bool := (decide (0 ≤ e.router) && decide (e.router ≤ 1048576)) && (decide (1 ≤ e.seq) && decide (e.seq ≤ 1099511627776)) && (decide (0 ≤ e.time) && decide (e.time ≤ 1099511627776))
def kindB (e : Ev) : Bool :=
  if e.kind = 1 ∨ e.kind = 2 then true
  else if e.kind = 3 then okP e.pf && okA e.act
  else if e.kind = 4 then okP e.pf
  else if e.kind = 5 then (decide (0 ≤ e.iface) && decide (e.iface ≤ 65536)) && (decide (0 ≤ e.peer) && decide (e.peer ≤ 1048576))
  else if e.kind = 6 then (decide (0 ≤ e.iface) && decide (e.iface ≤ 65536))
  else false
theorem okP_zero : okP zeroPf = true := by kernel_rfl
theorem want_un (e : Ev) : eqE (wantE e) e = eqE (unN e) zeroE := by
  rw [Bool.eq_iff_iff, eqE_iff, eqE_iff]
  obtain ⟨k, a, b, c, pf, ac, i, p⟩ := e
  unfold wantE unN zeroE
  simp only [Ev.mk.injEq, true_and]
  by_cases h3 : k = 3
  · subst h3; simp
    constructor <;> rintro ⟨h1, h2⟩ <;> exact ⟨h1.symm, h2.symm⟩
  by_cases h4 : k = 4
  · subst h4; simp
    constructor <;> rintro ⟨h1, h2, h3⟩ <;> exact ⟨h1.symm, h2.symm, h3.symm⟩
  by_cases h5 : k = 5
  · subst h5; simp
    constructor <;> rintro ⟨h1, h2⟩ <;> exact ⟨h1.symm, h2.symm⟩
  by_cases h6 : k = 6
  · subst h6; simp
    constructor <;> rintro ⟨h1, h2, h3⟩ <;> exact ⟨h1.symm, h2.symm, h3.symm⟩
  simp only [h3, h4, h5, h6, or_self, if_false]
  constructor <;> rintro ⟨h1, h2, h7, h8⟩ <;> exact ⟨h1.symm, h2.symm, h7.symm, h8.symm⟩
theorem okE_ref (e : Ev) : okE e = (rangeB e && kindB e && eqE (wantE e) e) := by
  rw [want_un]
  unfold okE
  cases hq : eqE (unN e) zeroE with
  | false => simp
  | true =>
    have hu := (eqE_iff _ _).1 hq
    simp only [Bool.and_true]
    have hz := okP_zero
    obtain ⟨k, a, b, c, pf, ac, i, p⟩ := e
    unfold unN zeroE at hu
    simp only [Ev.mk.injEq, true_and] at hu
    obtain ⟨h1, h2, h3, h4⟩ := hu
    unfold headB partsB rangeB kindB
    simp only
    by_cases k1 : k = 1
    · subst k1
      simp at h1 h2 h3 h4
      subst h1 h2 h3 h4
      simp [hz]
    by_cases k2 : k = 2
    · subst k2
      simp at h1 h2 h3 h4
      subst h1 h2 h3 h4
      simp [hz]
    by_cases k3 : k = 3
    · subst k3
      simp at h3 h4
      subst h3 h4
      simp
    by_cases k4 : k = 4
    · subst k4
      simp at h2 h3 h4
      subst h2 h3 h4
      simp
    by_cases k5 : k = 5
    · subst k5
      simp at h1 h2
      subst h1 h2
      simp [hz]
    by_cases k6 : k = 6
    · subst k6
      simp at h1 h2 h4
      subst h1 h2 h4
      simp [hz]
    have hno : (decide (1 ≤ k) && decide (k ≤ 6)) = false := by
      rw [Bool.and_eq_false_iff, decide_eq_false_iff_not, decide_eq_false_iff_not]
      omega
    rw [hno]
    simp [k1, k2, k3, k4, k5, k6]
theorem checkE_ref (e : Ev) : checkE e = if rangeB e && kindB e && eqE (wantE e) e then 0 else 2 := by unfold checkE; rw [okE_ref]
end Go.Proofs.YtkjhnefbcnnjlaaGreat.Msg
namespace Go.Proofs.YtkjhnefbcnnjlaaGreat.Msg
open Go.RowKit
open Go.Proofs.YtkjhnefbcnnjlaaGreat.Addr (RowAt below2 below_new RowAt.below RowAt.new RowAt.alloc)

set_option maxHeartbeats 4000000 in
theorem rck_r0 (k a b c hi lo l ak ai i p : Int) (sx : Bool) (w : World) (q0 : decide (a < 0) = true) :
    Calls Tryz.prog 62 #[.agg #[.int .u8 k, .int .i64 a, .int .u64 b, .int .i64 c, .bool sx, .int .u64 hi, .int .u64 lo, .int .i64 l, .int .u8 ak, .int .i64 ai, .int .i64 i, .int .i64 p]] w fun e w' => e = .returned (.int .i64 2) ∧ Below w.heap.size w w' := by
  obtain ⟨X, hX⟩ : ∃ X, X = w.alloc (.cells #[.int .u8 k, .int .i64 a, .int .u64 b, .int .i64 c, .bool sx, .int .u64 hi, .int .u64 lo, .int .i64 l, .int .u8 ak, .int .i64 ai, .int .i64 i, .int .i64 p] 38) := ⟨_, rfl⟩
  have hB : Below w.heap.size w X := by rw [hX]; exact below_new (Below.refl _ _) _
  have r0 : RowAt X w.heap.size [.int .u8 k, .int .i64 a, .int .u64 b, .int .i64 c, .bool sx, .int .u64 hi, .int .u64 lo, .int .i64 l, .int .u8 ak, .int .i64 ai, .int .i64 i, .int .i64 p] 38 := by rw [hX]; exact RowAt.new _ _ _
  go_enter Tryz.func62, Tryz.ntmps62
  go_upto_region 1 with fail
  rw [← hX]
  clear hX
  obtain ⟨g0, hg0⟩ : ∃ g, g = w.heap.size := ⟨_, rfl⟩
  have hgw : w.heap.size ≤ g0 := by omega
  rw [← hg0] at r0 ⊢
  clear hg0
  obtain ⟨⟨y0, y1, y2, y3, y4, y5⟩, ⟨y6, y7, y8, y9, y10, y11⟩, yf, hly⟩ := cells12' r0
  go_wp2_with fail
  go_ret
  exact ⟨rfl, hB⟩
set_option maxHeartbeats 4000000 in
theorem rck_r1 (k a b c hi lo l ak ai i p : Int) (sx : Bool) (w : World) (q0 : decide (a < 0) = false) (q1 : decide (1048576 < a) = true) :
    Calls Tryz.prog 62 #[.agg #[.int .u8 k, .int .i64 a, .int .u64 b, .int .i64 c, .bool sx, .int .u64 hi, .int .u64 lo, .int .i64 l, .int .u8 ak, .int .i64 ai, .int .i64 i, .int .i64 p]] w fun e w' => e = .returned (.int .i64 2) ∧ Below w.heap.size w w' := by
  obtain ⟨X, hX⟩ : ∃ X, X = w.alloc (.cells #[.int .u8 k, .int .i64 a, .int .u64 b, .int .i64 c, .bool sx, .int .u64 hi, .int .u64 lo, .int .i64 l, .int .u8 ak, .int .i64 ai, .int .i64 i, .int .i64 p] 38) := ⟨_, rfl⟩
  have hB : Below w.heap.size w X := by rw [hX]; exact below_new (Below.refl _ _) _
  have r0 : RowAt X w.heap.size [.int .u8 k, .int .i64 a, .int .u64 b, .int .i64 c, .bool sx, .int .u64 hi, .int .u64 lo, .int .i64 l, .int .u8 ak, .int .i64 ai, .int .i64 i, .int .i64 p] 38 := by rw [hX]; exact RowAt.new _ _ _
  go_enter Tryz.func62, Tryz.ntmps62
  go_upto_region 1 with fail
  rw [← hX]
  clear hX
  obtain ⟨g0, hg0⟩ : ∃ g, g = w.heap.size := ⟨_, rfl⟩
  have hgw : w.heap.size ≤ g0 := by omega
  rw [← hg0] at r0 ⊢
  clear hg0
  obtain ⟨⟨y0, y1, y2, y3, y4, y5⟩, ⟨y6, y7, y8, y9, y10, y11⟩, yf, hly⟩ := cells12' r0
  go_wp2_with fail
  go_ret
  exact ⟨rfl, hB⟩
set_option maxHeartbeats 4000000 in
theorem rck_r2 (k a b c hi lo l ak ai i p : Int) (sx : Bool) (w : World) (q0 : decide (a < 0) = false) (q1 : decide (1048576 < a) = false) (q2 : decide (b < 1) = true) :
    Calls Tryz.prog 62 #[.agg #[.int .u8 k, .int .i64 a, .int .u64 b, .int .i64 c, .bool sx, .int .u64 hi, .int .u64 lo, .int .i64 l, .int .u8 ak, .int .i64 ai, .int .i64 i, .int .i64 p]] w fun e w' => e = .returned (.int .i64 2) ∧ Below w.heap.size w w' := by
  obtain ⟨X, hX⟩ : ∃ X, X = w.alloc (.cells #[.int .u8 k, .int .i64 a, .int .u64 b, .int .i64 c, .bool sx, .int .u64 hi, .int .u64 lo, .int .i64 l, .int .u8 ak, .int .i64 ai, .int .i64 i, .int .i64 p] 38) := ⟨_, rfl⟩
  have hB : Below w.heap.size w X := by rw [hX]; exact below_new (Below.refl _ _) _
  have r0 : RowAt X w.heap.size [.int .u8 k, .int .i64 a, .int .u64 b, .int .i64 c, .bool sx, .int .u64 hi, .int .u64 lo, .int .i64 l, .int .u8 ak, .int .i64 ai, .int .i64 i, .int .i64 p] 38 := by rw [hX]; exact RowAt.new _ _ _
  go_enter Tryz.func62, Tryz.ntmps62
  go_upto_region 1 with fail
  rw [← hX]
  clear hX
  obtain ⟨g0, hg0⟩ : ∃ g, g = w.heap.size := ⟨_, rfl⟩
  have hgw : w.heap.size ≤ g0 := by omega
  rw [← hg0] at r0 ⊢
  clear hg0
  obtain ⟨⟨y0, y1, y2, y3, y4, y5⟩, ⟨y6, y7, y8, y9, y10, y11⟩, yf, hly⟩ := cells12' r0
  go_wp2_with fail
  go_ret
  exact ⟨rfl, hB⟩
set_option maxHeartbeats 4000000 in
theorem rck_r3 (k a b c hi lo l ak ai i p : Int) (sx : Bool) (w : World) (q0 : decide (a < 0) = false) (q1 : decide (1048576 < a) = false) (q2 : decide (b < 1) = false) (q3 : decide (1099511627776 < b) = true) :
    Calls Tryz.prog 62 #[.agg #[.int .u8 k, .int .i64 a, .int .u64 b, .int .i64 c, .bool sx, .int .u64 hi, .int .u64 lo, .int .i64 l, .int .u8 ak, .int .i64 ai, .int .i64 i, .int .i64 p]] w fun e w' => e = .returned (.int .i64 2) ∧ Below w.heap.size w w' := by
  obtain ⟨X, hX⟩ : ∃ X, X = w.alloc (.cells #[.int .u8 k, .int .i64 a, .int .u64 b, .int .i64 c, .bool sx, .int .u64 hi, .int .u64 lo, .int .i64 l, .int .u8 ak, .int .i64 ai, .int .i64 i, .int .i64 p] 38) := ⟨_, rfl⟩
  have hB : Below w.heap.size w X := by rw [hX]; exact below_new (Below.refl _ _) _
  have r0 : RowAt X w.heap.size [.int .u8 k, .int .i64 a, .int .u64 b, .int .i64 c, .bool sx, .int .u64 hi, .int .u64 lo, .int .i64 l, .int .u8 ak, .int .i64 ai, .int .i64 i, .int .i64 p] 38 := by rw [hX]; exact RowAt.new _ _ _
  go_enter Tryz.func62, Tryz.ntmps62
  go_upto_region 1 with fail
  rw [← hX]
  clear hX
  obtain ⟨g0, hg0⟩ : ∃ g, g = w.heap.size := ⟨_, rfl⟩
  have hgw : w.heap.size ≤ g0 := by omega
  rw [← hg0] at r0 ⊢
  clear hg0
  obtain ⟨⟨y0, y1, y2, y3, y4, y5⟩, ⟨y6, y7, y8, y9, y10, y11⟩, yf, hly⟩ := cells12' r0
  go_wp2_with fail
  go_ret
  exact ⟨rfl, hB⟩
set_option maxHeartbeats 4000000 in
theorem rck_r4 (k a b c hi lo l ak ai i p : Int) (sx : Bool) (w : World) (q0 : decide (a < 0) = false) (q1 : decide (1048576 < a) = false) (q2 : decide (b < 1) = false) (q3 : decide (1099511627776 < b) = false) (q4 : decide (c < 0) = true) :
    Calls Tryz.prog 62 #[.agg #[.int .u8 k, .int .i64 a, .int .u64 b, .int .i64 c, .bool sx, .int .u64 hi, .int .u64 lo, .int .i64 l, .int .u8 ak, .int .i64 ai, .int .i64 i, .int .i64 p]] w fun e w' => e = .returned (.int .i64 2) ∧ Below w.heap.size w w' := by
  obtain ⟨X, hX⟩ : ∃ X, X = w.alloc (.cells #[.int .u8 k, .int .i64 a, .int .u64 b, .int .i64 c, .bool sx, .int .u64 hi, .int .u64 lo, .int .i64 l, .int .u8 ak, .int .i64 ai, .int .i64 i, .int .i64 p] 38) := ⟨_, rfl⟩
  have hB : Below w.heap.size w X := by rw [hX]; exact below_new (Below.refl _ _) _
  have r0 : RowAt X w.heap.size [.int .u8 k, .int .i64 a, .int .u64 b, .int .i64 c, .bool sx, .int .u64 hi, .int .u64 lo, .int .i64 l, .int .u8 ak, .int .i64 ai, .int .i64 i, .int .i64 p] 38 := by rw [hX]; exact RowAt.new _ _ _
  go_enter Tryz.func62, Tryz.ntmps62
  go_upto_region 1 with fail
  rw [← hX]
  clear hX
  obtain ⟨g0, hg0⟩ : ∃ g, g = w.heap.size := ⟨_, rfl⟩
  have hgw : w.heap.size ≤ g0 := by omega
  rw [← hg0] at r0 ⊢
  clear hg0
  obtain ⟨⟨y0, y1, y2, y3, y4, y5⟩, ⟨y6, y7, y8, y9, y10, y11⟩, yf, hly⟩ := cells12' r0
  go_wp2_with fail
  go_ret
  exact ⟨rfl, hB⟩
set_option maxHeartbeats 4000000 in
theorem rck_r5 (k a b c hi lo l ak ai i p : Int) (sx : Bool) (w : World) (q0 : decide (a < 0) = false) (q1 : decide (1048576 < a) = false) (q2 : decide (b < 1) = false) (q3 : decide (1099511627776 < b) = false) (q4 : decide (c < 0) = false) (q5 : decide (1099511627776 < c) = true) :
    Calls Tryz.prog 62 #[.agg #[.int .u8 k, .int .i64 a, .int .u64 b, .int .i64 c, .bool sx, .int .u64 hi, .int .u64 lo, .int .i64 l, .int .u8 ak, .int .i64 ai, .int .i64 i, .int .i64 p]] w fun e w' => e = .returned (.int .i64 2) ∧ Below w.heap.size w w' := by
  obtain ⟨X, hX⟩ : ∃ X, X = w.alloc (.cells #[.int .u8 k, .int .i64 a, .int .u64 b, .int .i64 c, .bool sx, .int .u64 hi, .int .u64 lo, .int .i64 l, .int .u8 ak, .int .i64 ai, .int .i64 i, .int .i64 p] 38) := ⟨_, rfl⟩
  have hB : Below w.heap.size w X := by rw [hX]; exact below_new (Below.refl _ _) _
  have r0 : RowAt X w.heap.size [.int .u8 k, .int .i64 a, .int .u64 b, .int .i64 c, .bool sx, .int .u64 hi, .int .u64 lo, .int .i64 l, .int .u8 ak, .int .i64 ai, .int .i64 i, .int .i64 p] 38 := by rw [hX]; exact RowAt.new _ _ _
  go_enter Tryz.func62, Tryz.ntmps62
  go_upto_region 1 with fail
  rw [← hX]
  clear hX
  obtain ⟨g0, hg0⟩ : ∃ g, g = w.heap.size := ⟨_, rfl⟩
  have hgw : w.heap.size ≤ g0 := by omega
  rw [← hg0] at r0 ⊢
  clear hg0
  obtain ⟨⟨y0, y1, y2, y3, y4, y5⟩, ⟨y6, y7, y8, y9, y10, y11⟩, yf, hly⟩ := cells12' r0
  go_wp2_with fail
  go_ret
  exact ⟨rfl, hB⟩
set_option maxRecDepth 20000 in
set_option maxHeartbeats 4000000 in
theorem rck_1 (a b c hi lo l ak ai i p : Int) (sx : Bool) (w : World) (B3 : Bool) (q0 : decide (a < 0) = false) (q1 : decide (1048576 < a) = false) (q2 : decide (b < 1) = false) (q3 : decide (1099511627776 < b) = false) (q4 : decide (c < 0) = false) (q5 : decide (1099511627776 < c) = false) (hq : ∀ W : World, (binOp .neq 38 (.agg #[.int .u8 1, .int .i64 a, .int .u64 b, .int .i64 c, .bool false, .int .u64 0, .int .u64 0, .int .i64 0, .int .u8 0, .int .i64 0, .int .i64 0, .int .i64 0]) (.agg #[.int .u8 1, .int .i64 a, .int .u64 b, .int .i64 c, .bool sx, .int .u64 hi, .int .u64 lo, .int .i64 l, .int .u8 ak, .int .i64 ai, .int .i64 i, .int .i64 p])).run Tryz.prog W = .ok (.bool (!B3)) W) :
    Calls Tryz.prog 62 #[.agg #[.int .u8 1, .int .i64 a, .int .u64 b, .int .i64 c, .bool sx, .int .u64 hi, .int .u64 lo, .int .i64 l, .int .u8 ak, .int .i64 ai, .int .i64 i, .int .i64 p]] w fun e w' => e = .returned (.int .i64 (if B3 then 0 else 2)) ∧ Below w.heap.size w w' := by
  have hgd := ev_guard
  obtain ⟨X, hX⟩ : ∃ X, X = w.alloc (.cells #[.int .u8 1, .int .i64 a, .int .u64 b, .int .i64 c, .bool sx, .int .u64 hi, .int .u64 lo, .int .i64 l, .int .u8 ak, .int .i64 ai, .int .i64 i, .int .i64 p] 38) := ⟨_, rfl⟩
  have hB : Below w.heap.size w X := by rw [hX]; exact below_new (Below.refl _ _) _
  have r0 : RowAt X w.heap.size [.int .u8 1, .int .i64 a, .int .u64 b, .int .i64 c, .bool sx, .int .u64 hi, .int .u64 lo, .int .i64 l, .int .u8 ak, .int .i64 ai, .int .i64 i, .int .i64 p] 38 := by rw [hX]; exact RowAt.new _ _ _
  go_enter Tryz.func62, Tryz.ntmps62
  go_upto_region 1 with fail
  rw [← hX]
  clear hX
  obtain ⟨g0, hg0⟩ : ∃ g, g = w.heap.size := ⟨_, rfl⟩
  have hgw : w.heap.size ≤ g0 := by omega
  rw [← hg0] at r0 ⊢
  clear hg0
  obtain ⟨⟨y0, y1, y2, y3, y4, y5⟩, ⟨y6, y7, y8, y9, y10, y11⟩, yf, hly⟩ := cells12' r0
  go_upto_region 3 with fail
  go_upto_region 4 with fail
  obtain ⟨Y, hY⟩ : ∃ Y, Y = X.alloc (.cells #[.int .u8 1, .int .i64 a, .int .u64 b, .int .i64 c, .bool false, .int .u64 0, .int .u64 0, .int .i64 0, .int .u8 0, .int .i64 0, .int .i64 0, .int .i64 0] 38) := ⟨_, rfl⟩
  have hbY : Below X.heap.size X Y := by rw [hY]; exact below_new (Below.refl _ _) _
  have r1 : RowAt Y X.heap.size [.int .u8 1, .int .i64 a, .int .u64 b, .int .i64 c, .bool false, .int .u64 0, .int .u64 0, .int .i64 0, .int .u8 0, .int .i64 0, .int .i64 0, .int .i64 0] 38 := by rw [hY]; exact RowAt.new _ _ _
  rw [← hY]
  replace r0 := RowAt.below r0 hbY
  replace hB := below2 hB hbY
  obtain ⟨g1, hg1⟩ : ∃ g, g = X.heap.size := ⟨_, rfl⟩
  have hgl : g0 < g1 := by omega
  rw [← hg1] at r1 ⊢
  clear hg1 hY hbY y0 y1 y2 y3 y4 y5 y6 y7 y8 y9 y10 y11 yf hly q0 q1 q2 q3 q4 q5
  obtain ⟨⟨y0, y1, y2, y3, y4, y5⟩, ⟨y6, y7, y8, y9, y10, y11⟩, yf, hly⟩ := cells12' r0
  obtain ⟨⟨z0, z1, z2, z3, z4, z5⟩, ⟨z6, z7, z8, z9, z10, z11⟩, zf, hlz⟩ := cells12' r1
  cases B3
  all_goals
    simp only [Bool.not_false, Bool.not_true] at hq
    go_wp2_with fail
    go_ret
    exact ⟨rfl, hB⟩
set_option maxRecDepth 20000 in
set_option maxHeartbeats 4000000 in
theorem rck_2 (a b c hi lo l ak ai i p : Int) (sx : Bool) (w : World) (B3 : Bool) (q0 : decide (a < 0) = false) (q1 : decide (1048576 < a) = false) (q2 : decide (b < 1) = false) (q3 : decide (1099511627776 < b) = false) (q4 : decide (c < 0) = false) (q5 : decide (1099511627776 < c) = false) (hq : ∀ W : World, (binOp .neq 38 (.agg #[.int .u8 2, .int .i64 a, .int .u64 b, .int .i64 c, .bool false, .int .u64 0, .int .u64 0, .int .i64 0, .int .u8 0, .int .i64 0, .int .i64 0, .int .i64 0]) (.agg #[.int .u8 2, .int .i64 a, .int .u64 b, .int .i64 c, .bool sx, .int .u64 hi, .int .u64 lo, .int .i64 l, .int .u8 ak, .int .i64 ai, .int .i64 i, .int .i64 p])).run Tryz.prog W = .ok (.bool (!B3)) W) :
    Calls Tryz.prog 62 #[.agg #[.int .u8 2, .int .i64 a, .int .u64 b, .int .i64 c, .bool sx, .int .u64 hi, .int .u64 lo, .int .i64 l, .int .u8 ak, .int .i64 ai, .int .i64 i, .int .i64 p]] w fun e w' => e = .returned (.int .i64 (if B3 then 0 else 2)) ∧ Below w.heap.size w w' := by
  have hgd := ev_guard
  obtain ⟨X, hX⟩ : ∃ X, X = w.alloc (.cells #[.int .u8 2, .int .i64 a, .int .u64 b, .int .i64 c, .bool sx, .int .u64 hi, .int .u64 lo, .int .i64 l, .int .u8 ak, .int .i64 ai, .int .i64 i, .int .i64 p] 38) := ⟨_, rfl⟩
  have hB : Below w.heap.size w X := by rw [hX]; exact below_new (Below.refl _ _) _
  have r0 : RowAt X w.heap.size [.int .u8 2, .int .i64 a, .int .u64 b, .int .i64 c, .bool sx, .int .u64 hi, .int .u64 lo, .int .i64 l, .int .u8 ak, .int .i64 ai, .int .i64 i, .int .i64 p] 38 := by rw [hX]; exact RowAt.new _ _ _
  go_enter Tryz.func62, Tryz.ntmps62
  go_upto_region 1 with fail
  rw [← hX]
  clear hX
  obtain ⟨g0, hg0⟩ : ∃ g, g = w.heap.size := ⟨_, rfl⟩
  have hgw : w.heap.size ≤ g0 := by omega
  rw [← hg0] at r0 ⊢
  clear hg0
  obtain ⟨⟨y0, y1, y2, y3, y4, y5⟩, ⟨y6, y7, y8, y9, y10, y11⟩, yf, hly⟩ := cells12' r0
  go_upto_region 3 with fail
  go_upto_region 4 with fail
  obtain ⟨Y, hY⟩ : ∃ Y, Y = X.alloc (.cells #[.int .u8 2, .int .i64 a, .int .u64 b, .int .i64 c, .bool false, .int .u64 0, .int .u64 0, .int .i64 0, .int .u8 0, .int .i64 0, .int .i64 0, .int .i64 0] 38) := ⟨_, rfl⟩
  have hbY : Below X.heap.size X Y := by rw [hY]; exact below_new (Below.refl _ _) _
  have r1 : RowAt Y X.heap.size [.int .u8 2, .int .i64 a, .int .u64 b, .int .i64 c, .bool false, .int .u64 0, .int .u64 0, .int .i64 0, .int .u8 0, .int .i64 0, .int .i64 0, .int .i64 0] 38 := by rw [hY]; exact RowAt.new _ _ _
  rw [← hY]
  replace r0 := RowAt.below r0 hbY
  replace hB := below2 hB hbY
  obtain ⟨g1, hg1⟩ : ∃ g, g = X.heap.size := ⟨_, rfl⟩
  have hgl : g0 < g1 := by omega
  rw [← hg1] at r1 ⊢
  clear hg1 hY hbY y0 y1 y2 y3 y4 y5 y6 y7 y8 y9 y10 y11 yf hly q0 q1 q2 q3 q4 q5
  obtain ⟨⟨y0, y1, y2, y3, y4, y5⟩, ⟨y6, y7, y8, y9, y10, y11⟩, yf, hly⟩ := cells12' r0
  obtain ⟨⟨z0, z1, z2, z3, z4, z5⟩, ⟨z6, z7, z8, z9, z10, z11⟩, zf, hlz⟩ := cells12' r1
  cases B3
  all_goals
    simp only [Bool.not_false, Bool.not_true] at hq
    go_wp2_with fail
    go_ret
    exact ⟨rfl, hB⟩
set_option maxHeartbeats 4000000 in
theorem rck_o (k a b c hi lo l ak ai i p : Int) (sx : Bool) (w : World) (q0 : decide (a < 0) = false) (q1 : decide (1048576 < a) = false) (q2 : decide (b < 1) = false) (q3 : decide (1099511627776 < b) = false) (q4 : decide (c < 0) = false) (q5 : decide (1099511627776 < c) = false) (k1 : (k == 1) = false) (k2 : (k == 2) = false) (k3 : (k == 3) = false) (k4 : (k == 4) = false) (k5 : (k == 5) = false) (k6 : (k == 6) = false) :
    Calls Tryz.prog 62 #[.agg #[.int .u8 k, .int .i64 a, .int .u64 b, .int .i64 c, .bool sx, .int .u64 hi, .int .u64 lo, .int .i64 l, .int .u8 ak, .int .i64 ai, .int .i64 i, .int .i64 p]] w fun e w' => e = .returned (.int .i64 2) ∧ Below w.heap.size w w' := by
  have hgd := ev_guard
  obtain ⟨X, hX⟩ : ∃ X, X = w.alloc (.cells #[.int .u8 k, .int .i64 a, .int .u64 b, .int .i64 c, .bool sx, .int .u64 hi, .int .u64 lo, .int .i64 l, .int .u8 ak, .int .i64 ai, .int .i64 i, .int .i64 p] 38) := ⟨_, rfl⟩
  have hB : Below w.heap.size w X := by rw [hX]; exact below_new (Below.refl _ _) _
  have r0 : RowAt X w.heap.size [.int .u8 k, .int .i64 a, .int .u64 b, .int .i64 c, .bool sx, .int .u64 hi, .int .u64 lo, .int .i64 l, .int .u8 ak, .int .i64 ai, .int .i64 i, .int .i64 p] 38 := by rw [hX]; exact RowAt.new _ _ _
  go_enter Tryz.func62, Tryz.ntmps62
  go_upto_region 1 with fail
  rw [← hX]
  clear hX
  obtain ⟨g0, hg0⟩ : ∃ g, g = w.heap.size := ⟨_, rfl⟩
  have hgw : w.heap.size ≤ g0 := by omega
  rw [← hg0] at r0 ⊢
  clear hg0
  obtain ⟨⟨y0, y1, y2, y3, y4, y5⟩, ⟨y6, y7, y8, y9, y10, y11⟩, yf, hly⟩ := cells12' r0
  go_upto_region 3 with fail
  go_upto_region 4 with fail
  obtain ⟨Y, hY⟩ : ∃ Y, Y = X.alloc (.cells #[.int .u8 k, .int .i64 a, .int .u64 b, .int .i64 c, .bool false, .int .u64 0, .int .u64 0, .int .i64 0, .int .u8 0, .int .i64 0, .int .i64 0, .int .i64 0] 38) := ⟨_, rfl⟩
  have hbY : Below X.heap.size X Y := by rw [hY]; exact below_new (Below.refl _ _) _
  have r1 : RowAt Y X.heap.size [.int .u8 k, .int .i64 a, .int .u64 b, .int .i64 c, .bool false, .int .u64 0, .int .u64 0, .int .i64 0, .int .u8 0, .int .i64 0, .int .i64 0, .int .i64 0] 38 := by rw [hY]; exact RowAt.new _ _ _
  rw [← hY]
  replace r0 := RowAt.below r0 hbY
  replace hB := below2 hB hbY
  obtain ⟨g1, hg1⟩ : ∃ g, g = X.heap.size := ⟨_, rfl⟩
  have hgl : g0 < g1 := by omega
  rw [← hg1] at r1 ⊢
  clear hg1 hY hbY y0 y1 y2 y3 y4 y5 y6 y7 y8 y9 y10 y11 yf hly q0 q1 q2 q3 q4 q5
  obtain ⟨⟨y0, y1, y2, y3, y4, y5⟩, ⟨y6, y7, y8, y9, y10, y11⟩, yf, hly⟩ := cells12' r0
  obtain ⟨⟨z0, z1, z2, z3, z4, z5⟩, ⟨z6, z7, z8, z9, z10, z11⟩, zf, hlz⟩ := cells12' r1
  go_wp2_with fail
  go_ret
  exact ⟨rfl, hB⟩
end Go.Proofs.YtkjhnefbcnnjlaaGreat.Msg
