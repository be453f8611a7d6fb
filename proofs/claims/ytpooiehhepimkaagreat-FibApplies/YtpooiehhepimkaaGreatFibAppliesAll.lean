/- For all routers, events and numbers: spoorlaw17.FibApplies returns true, and changes nothing that was there. No condition. -/
import Derived.Test.YtpooiehhepimkaaGreatRows
import Derived.Test.YtpooiehhepimkaaGreatFibGL
import Derived.Test.YtpooiehhepimkaaGreatFibGZ
import Derived.Test.YtpooiehhepimkaaGreatAddrOpen
import Derived.Test.YtpooiehhepimkaaGreatMsgOpen
import Derived.Test.YtpooiehhepimkaaGreatFibGR
import Derived.BigQuiet
import Derived.ProofKit
import Derived.OpenShut
import Derived.ShutString
import Derived.SizedLaws
set_option linter.unusedVariables false
namespace Go.Proofs.YtpooiehhepimkaaGreat
namespace fibApplies
open Go.ChangeShapes Go.WideShapes Go.ChangeAt Go.RowKit
open Go.ChangeMaps (open_string shut_string)
open Go.Proofs.YtpooiehhepimkaaGreat.Lk (Lk HasLks FitL lkV peerL HasLks.keep)
open Go.Proofs.YtpooiehhepimkaaGreat.Tr (Rt HasRts HasRts.keep FitR FitP)
open Go.Proofs.YtpooiehhepimkaaGreat.Msg (Ev Ac FitA FitE evV evC acV)
open Go.Proofs.YtpooiehhepimkaaGreat.Fib
open Go.Proofs.YtpooiehhepimkaaGreat.Addr (Pf pfV adV hasB hiN loN rightB RowAt below2 below_drew below_new bset RowAt.lt RowAt.cell RowAt.frozen RowAt.below RowAt.drew RowAt.new RowAt.alloc RowAt.gkeep cells2 cells4 Bl bl_ne wp_region_bl bl_call bl_same)
theorem own : ownKnob Tryz.prog.godebug = none := by kernel_rfl
theorem laidOut : laidOutB Tryz.prog = true := by kernel_rfl
set_option maxHeartbeats 32000000 in
set_option maxRecDepth 20000 in
theorem walks (id : Int) (up : Bool) (rts : List Rt) (lks : List Lk) (o2 o3 : Option Addr) (n2 n3 m2 m3 : Nat) (kind router seq time : Int) (f0 : Bool) (f1 f2 f3 a0 a1 iface peer : Int) (j : Int) (ai mi : Int) (au mu : Bool) (ar mr : List Rt) (al ml : List Lk) (z1 z2 sv sw kc : Int) (w : World) (ha0 : HasRts w (.slice o2 n2 m2) rts) (hb0 : HasLks w (.slice o3 n3 m3) lks)
    (cY : ∀ W, HasRts W (.slice o2 n2 m2) rts → HasLks W (.slice o3 n3 m3) lks → Calls Tryz.prog 5 #[.agg #[.int .i64 id, .bool up, .slice o2 n2 m2, .slice o3 n3 m3]] W fun e w' => ∃ o2 n2 m2 o3 n3 m3, e = .returned (.agg #[.int .i64 id, .bool up, .slice o2 n2 m2, .slice o3 n3 m3]) ∧ HasRts w' (.slice o2 n2 m2) rts ∧ HasLks w' (.slice o3 n3 m3) lks ∧ Below W.heap.size W w')
    (c1 : ∀ W u v, HasRts W u rts → HasLks W v lks → Calls Tryz.prog 6 #[.agg #[.int .i64 id, .bool up, u, v], .agg #[.int .u8 kind, .int .i64 router, .int .u64 seq, .int .i64 time, .bool f0, .int .u64 f1, .int .u64 f2, .int .i64 f3, .int .u8 a0, .int .i64 a1, .int .i64 iface, .int .i64 peer]] W (RoAt ai au ar al z1 W))
    (c2 : ∀ W u v, HasRts W u rts → HasLks W v lks → Calls Tryz.prog 7 #[.agg #[.int .i64 id, .bool up, u, v], .agg #[.int .u8 kind, .int .i64 router, .int .u64 seq, .int .i64 time, .bool f0, .int .u64 f1, .int .u64 f2, .int .i64 f3, .int .u8 a0, .int .i64 a1, .int .i64 iface, .int .i64 peer]] W (RoAt ai au ar al z1 W))
    (c3 : ∀ W, Calls Tryz.prog 8 #[.int .i64 j] W (RoAt mi mu mr ml z2 W))
    (c4 : ∀ W, Calls Tryz.prog 9 #[.int .i64 j] W (RoAt mi mu mr ml z2 W))
    (c5 : ∀ W u v, HasRts W u rts → HasLks W v lks → Calls Tryz.prog 10 #[.agg #[.int .i64 id, .bool up, u, v]] W fun e w' => e = .returned (.tuple #[.int .i64 sv, .int .i64 sw]) ∧ Below W.heap.size W w')
    (c6 : ∀ W u v, HasRts W u rts → HasLks W v lks → Calls Tryz.prog 11 #[.agg #[.int .i64 id, .bool up, u, v]] W fun e w' => e = .returned (.tuple #[.int .i64 sv, .int .i64 sw]) ∧ Below W.heap.size W w')
    (c7 : ∀ W u v, HasRts W u rts → HasLks W v lks → Calls Tryz.prog 13 #[.agg #[.int .i64 id, .bool up, u, v]] W fun e w' => e = .returned (.int .i64 kc) ∧ Below W.heap.size W w')
    (c8 : ∀ W u v, HasRts W u rts → HasLks W v lks → Calls Tryz.prog 14 #[.agg #[.int .i64 id, .bool up, u, v]] W fun e w' => e = .returned (.int .i64 kc) ∧ Below W.heap.size W w')
    (cL : ∀ W, Calls Tryz.prog 12 #[] W fun e w' => e = .returned (.bool true) ∧ Below W.heap.size W w')
    (cS : ∀ W (R : Ro) (a b c d : Value), HasRts W a R.rts → HasLks W b R.lks → HasRts W c R.rts → HasLks W d R.lks → Calls Tryz.prog 15 #[.agg #[.int .i64 R.id, .bool R.up, a, b], .agg #[.int .i64 R.id, .bool R.up, c, d]] W fun e w' => e = .returned (.bool true) ∧ Below W.heap.size W w') :
    Calls Tryz.prog 3 #[.agg #[.int .i64 id, .bool up, .slice o2 n2 m2, .slice o3 n3 m3], .agg #[.int .u8 kind, .int .i64 router, .int .u64 seq, .int .i64 time, .bool f0, .int .u64 f1, .int .u64 f2, .int .i64 f3, .int .u8 a0, .int .i64 a1, .int .i64 iface, .int .i64 peer], .int .i64 j] w (BoolIs true w) := by
  have hB := Below.refl w.heap.size w
  go_enter Tryz.func3, Tryz.ntmps3
  obtain ⟨Y1, hY⟩ : ∃ Y, Y = ((w.alloc (.cells #[.int .i64 id, .bool up, .slice o2 n2 m2, .slice o3 n3 m3] 25)).alloc (.cells #[.int .u8 kind, .int .i64 router, .int .u64 seq, .int .i64 time, .bool f0, .int .u64 f1, .int .u64 f2, .int .i64 f3, .int .u8 a0, .int .i64 a1, .int .i64 iface, .int .i64 peer] 36)) := ⟨_, rfl⟩
  have hbY : Below w.heap.size w Y1 := by rw [hY]; exact below_new (below_new (Below.refl _ _) _) _
  have hle : w.heap.size ≤ w.heap.size := hB.size
  obtain ⟨gr, hgr⟩ : ∃ g, g = w.heap.size := ⟨_, rfl⟩
  have rr : RowAt Y1 gr [.int .i64 id, .bool up, .slice o2 n2 m2, .slice o3 n3 m3] 25 := by
    have h := (RowAt.new w [.int .i64 id, .bool up, .slice o2 n2 m2, .slice o3 n3 m3] 25).alloc (.cells #[.int .u8 kind, .int .i64 router, .int .u64 seq, .int .i64 time, .bool f0, .int .u64 f1, .int .u64 f2, .int .i64 f3, .int .u8 a0, .int .i64 a1, .int .i64 iface, .int .i64 peer] 36)
    rw [hgr, hY]; exact h
  have ler : w.heap.size ≤ gr := by omega
  obtain ⟨ge, hge⟩ : ∃ g, g = w.heap.size + 1 := ⟨_, rfl⟩
  have re : RowAt Y1 ge [.int .u8 kind, .int .i64 router, .int .u64 seq, .int .i64 time, .bool f0, .int .u64 f1, .int .u64 f2, .int .i64 f3, .int .u8 a0, .int .i64 a1, .int .i64 iface, .int .i64 peer] 36 := by
    have h := RowAt.new (w.alloc (.cells #[.int .i64 id, .bool up, .slice o2 n2 m2, .slice o3 n3 m3] 25)) [.int .u8 kind, .int .i64 router, .int .u64 seq, .int .i64 time, .bool f0, .int .u64 f1, .int .u64 f2, .int .i64 f3, .int .u8 a0, .int .i64 a1, .int .i64 iface, .int .i64 peer] 36
    simp only [World.size_alloc] at h
    rw [hge, hY]; exact h
  have lee : w.heap.size ≤ ge := by omega
  have nere : gr ≠ ge := by omega
  replace ha0 := ha0.keep hbY
  replace hb0 := hb0.keep hbY
  replace hB := below2 hB hbY
  go_upto_region 1 with fail
  rw [← hY, ← hge, ← hgr]
  clear hY hbY hle hgr hge
  obtain ⟨r0, r1, r2, r3, rf⟩ := cells4 rr
  go_wp2_with fail
  clear r0 r1 r2 r3 rf
  go_at_call 5; refine (cY _ ha0 hb0).mono ?_; rintro e w2 ⟨oa1, na1, ma1, ob1, nb1, mb1, rfl, ha1, hb1, hb⟩
  replace rr := RowAt.below rr hb
  replace re := RowAt.below re hb
  replace ha0 := ha0.keep hb
  replace hb0 := hb0.keep hb
  replace hB := below2 hB hb
  clear hb
  obtain ⟨Y3, hY⟩ : ∃ Y, Y = (w2.alloc (.cells #[.int .i64 id, .bool up, .slice oa1 na1 ma1, .slice ob1 nb1 mb1] 25)) := ⟨_, rfl⟩
  have hbY : Below w2.heap.size w2 Y3 := by rw [hY]; exact below_new (Below.refl _ _) _
  have hle : w.heap.size ≤ w2.heap.size := hB.size
  obtain ⟨gq, hgq⟩ : ∃ g, g = w2.heap.size := ⟨_, rfl⟩
  have rq : RowAt Y3 gq [.int .i64 id, .bool up, .slice oa1 na1 ma1, .slice ob1 nb1 mb1] 25 := by
    have h := RowAt.new w2 [.int .i64 id, .bool up, .slice oa1 na1 ma1, .slice ob1 nb1 mb1] 25
    rw [hgq, hY]; exact h
  have leq : w.heap.size ≤ gq := by omega
  have nerq : gr ≠ gq := by have := RowAt.lt rr; omega
  have neeq : ge ≠ gq := by have := RowAt.lt re; omega
  replace rr := RowAt.below rr hbY
  replace re := RowAt.below re hbY
  replace ha0 := ha0.keep hbY
  replace hb0 := hb0.keep hbY
  replace ha1 := ha1.keep hbY
  replace hb1 := hb1.keep hbY
  replace hB := below2 hB hbY
  go_upto_region 2 with fail
  rw [← hY, ← hgq]
  clear hY hbY hle hgq
  clear cY
  obtain ⟨q0, q1, q2, q3, qf⟩ := cells4 rq
  obtain ⟨e0, e1, e2, e3, e4, e5, e6, e7, e8, e9, e10, e11, ef⟩ := cells12 re
  go_wp2_with fail
  clear q0 q1 q2 q3 qf e0 e1 e2 e3 e4 e5 e6 e7 e8 e9 e10 e11 ef
  go_at_call 6; refine (c1 _ _ _ ha1 hb1).mono ?_; rintro e w4 ⟨oa2, na2, ma2, ob2, nb2, mb2, rfl, ha2, hb2, hb⟩
  replace rr := RowAt.below rr hb
  replace re := RowAt.below re hb
  replace rq := RowAt.below rq hb
  replace ha0 := ha0.keep hb
  replace hb0 := hb0.keep hb
  replace ha1 := ha1.keep hb
  replace hb1 := hb1.keep hb
  replace hB := below2 hB hb
  clear hb
  obtain ⟨Y5, hY⟩ : ∃ Y, Y = (w4.alloc (.cells #[.int .i64 ai, .bool au, .slice oa2 na2 ma2, .slice ob2 nb2 mb2] 25)) := ⟨_, rfl⟩
  have hbY : Below w4.heap.size w4 Y5 := by rw [hY]; exact below_new (Below.refl _ _) _
  have hle : w.heap.size ≤ w4.heap.size := hB.size
  obtain ⟨ga, hga⟩ : ∃ g, g = w4.heap.size := ⟨_, rfl⟩
  have ra : RowAt Y5 ga [.int .i64 ai, .bool au, .slice oa2 na2 ma2, .slice ob2 nb2 mb2] 25 := by
    have h := RowAt.new w4 [.int .i64 ai, .bool au, .slice oa2 na2 ma2, .slice ob2 nb2 mb2] 25
    rw [hga, hY]; exact h
  have lea : w.heap.size ≤ ga := by omega
  have nera : gr ≠ ga := by have := RowAt.lt rr; omega
  have neea : ge ≠ ga := by have := RowAt.lt re; omega
  have neqa : gq ≠ ga := by have := RowAt.lt rq; omega
  replace rr := RowAt.below rr hbY
  replace re := RowAt.below re hbY
  replace rq := RowAt.below rq hbY
  replace ha0 := ha0.keep hbY
  replace hb0 := hb0.keep hbY
  replace ha1 := ha1.keep hbY
  replace hb1 := hb1.keep hbY
  replace ha2 := ha2.keep hbY
  replace hb2 := hb2.keep hbY
  replace hB := below2 hB hbY
  go_upto_region 3 with fail
  rw [← hY, ← hga]
  clear hY hbY hle hga
  clear c1
  obtain ⟨r0, r1, r2, r3, rf⟩ := cells4 rr
  obtain ⟨e0, e1, e2, e3, e4, e5, e6, e7, e8, e9, e10, e11, ef⟩ := cells12 re
  go_wp2_with fail
  clear r0 r1 r2 r3 rf e0 e1 e2 e3 e4 e5 e6 e7 e8 e9 e10 e11 ef
  go_at_call 7; refine (c2 _ _ _ ha0 hb0).mono ?_; rintro e w6 ⟨oa3, na3, ma3, ob3, nb3, mb3, rfl, ha3, hb3, hb⟩
  replace rr := RowAt.below rr hb
  replace re := RowAt.below re hb
  replace rq := RowAt.below rq hb
  replace ra := RowAt.below ra hb
  replace ha0 := ha0.keep hb
  replace hb0 := hb0.keep hb
  replace ha1 := ha1.keep hb
  replace hb1 := hb1.keep hb
  replace ha2 := ha2.keep hb
  replace hb2 := hb2.keep hb
  replace hB := below2 hB hb
  clear hb
  obtain ⟨Y7, hY⟩ : ∃ Y, Y = (w6.alloc (.cells #[.int .i64 ai, .bool au, .slice oa3 na3 ma3, .slice ob3 nb3 mb3] 25)) := ⟨_, rfl⟩
  have hbY : Below w6.heap.size w6 Y7 := by rw [hY]; exact below_new (Below.refl _ _) _
  have hle : w.heap.size ≤ w6.heap.size := hB.size
  obtain ⟨gb, hgb⟩ : ∃ g, g = w6.heap.size := ⟨_, rfl⟩
  have rb : RowAt Y7 gb [.int .i64 ai, .bool au, .slice oa3 na3 ma3, .slice ob3 nb3 mb3] 25 := by
    have h := RowAt.new w6 [.int .i64 ai, .bool au, .slice oa3 na3 ma3, .slice ob3 nb3 mb3] 25
    rw [hgb, hY]; exact h
  have leb : w.heap.size ≤ gb := by omega
  have nerb : gr ≠ gb := by have := RowAt.lt rr; omega
  have neeb : ge ≠ gb := by have := RowAt.lt re; omega
  have neqb : gq ≠ gb := by have := RowAt.lt rq; omega
  have neab : ga ≠ gb := by have := RowAt.lt ra; omega
  replace rr := RowAt.below rr hbY
  replace re := RowAt.below re hbY
  replace rq := RowAt.below rq hbY
  replace ra := RowAt.below ra hbY
  replace ha0 := ha0.keep hbY
  replace hb0 := hb0.keep hbY
  replace ha1 := ha1.keep hbY
  replace hb1 := hb1.keep hbY
  replace ha2 := ha2.keep hbY
  replace hb2 := hb2.keep hbY
  replace ha3 := ha3.keep hbY
  replace hb3 := hb3.keep hbY
  replace hB := below2 hB hbY
  go_upto_region 4 with fail
  rw [← hY, ← hgb]
  clear hY hbY hle hgb
  clear c2
  clear re
  go_wp2_with fail
  go_at_call 8; refine (c3 _).mono ?_; rintro e w8 ⟨oa4, na4, ma4, ob4, nb4, mb4, rfl, ha4, hb4, hb⟩
  replace rr := RowAt.below rr hb
  replace rq := RowAt.below rq hb
  replace ra := RowAt.below ra hb
  replace rb := RowAt.below rb hb
  replace ha0 := ha0.keep hb
  replace hb0 := hb0.keep hb
  replace ha1 := ha1.keep hb
  replace hb1 := hb1.keep hb
  replace ha2 := ha2.keep hb
  replace hb2 := hb2.keep hb
  replace ha3 := ha3.keep hb
  replace hb3 := hb3.keep hb
  replace hB := below2 hB hb
  clear hb
  obtain ⟨Y9, hY⟩ : ∃ Y, Y = (w8.alloc (.cells #[.int .i64 mi, .bool mu, .slice oa4 na4 ma4, .slice ob4 nb4 mb4] 25)) := ⟨_, rfl⟩
  have hbY : Below w8.heap.size w8 Y9 := by rw [hY]; exact below_new (Below.refl _ _) _
  have hle : w.heap.size ≤ w8.heap.size := hB.size
  obtain ⟨gx, hgx⟩ : ∃ g, g = w8.heap.size := ⟨_, rfl⟩
  have rx : RowAt Y9 gx [.int .i64 mi, .bool mu, .slice oa4 na4 ma4, .slice ob4 nb4 mb4] 25 := by
    have h := RowAt.new w8 [.int .i64 mi, .bool mu, .slice oa4 na4 ma4, .slice ob4 nb4 mb4] 25
    rw [hgx, hY]; exact h
  have lex : w.heap.size ≤ gx := by omega
  have nerx : gr ≠ gx := by have := RowAt.lt rr; omega
  have neqx : gq ≠ gx := by have := RowAt.lt rq; omega
  have neax : ga ≠ gx := by have := RowAt.lt ra; omega
  have nebx : gb ≠ gx := by have := RowAt.lt rb; omega
  replace rr := RowAt.below rr hbY
  replace rq := RowAt.below rq hbY
  replace ra := RowAt.below ra hbY
  replace rb := RowAt.below rb hbY
  replace ha0 := ha0.keep hbY
  replace hb0 := hb0.keep hbY
  replace ha1 := ha1.keep hbY
  replace hb1 := hb1.keep hbY
  replace ha2 := ha2.keep hbY
  replace hb2 := hb2.keep hbY
  replace ha3 := ha3.keep hbY
  replace hb3 := hb3.keep hbY
  replace ha4 := ha4.keep hbY
  replace hb4 := hb4.keep hbY
  replace hB := below2 hB hbY
  go_upto_region 5 with fail
  rw [← hY, ← hgx]
  clear hY hbY hle hgx
  go_wp2_with fail
  go_at_call 9; refine (c4 _).mono ?_; rintro e w10 ⟨oa5, na5, ma5, ob5, nb5, mb5, rfl, ha5, hb5, hb⟩
  replace rr := RowAt.below rr hb
  replace rq := RowAt.below rq hb
  replace ra := RowAt.below ra hb
  replace rb := RowAt.below rb hb
  replace rx := RowAt.below rx hb
  replace ha0 := ha0.keep hb
  replace hb0 := hb0.keep hb
  replace ha1 := ha1.keep hb
  replace hb1 := hb1.keep hb
  replace ha2 := ha2.keep hb
  replace hb2 := hb2.keep hb
  replace ha3 := ha3.keep hb
  replace hb3 := hb3.keep hb
  replace ha4 := ha4.keep hb
  replace hb4 := hb4.keep hb
  replace hB := below2 hB hb
  clear hb
  obtain ⟨Y11, hY⟩ : ∃ Y, Y = (w10.alloc (.cells #[.int .i64 mi, .bool mu, .slice oa5 na5 ma5, .slice ob5 nb5 mb5] 25)) := ⟨_, rfl⟩
  have hbY : Below w10.heap.size w10 Y11 := by rw [hY]; exact below_new (Below.refl _ _) _
  have hle : w.heap.size ≤ w10.heap.size := hB.size
  obtain ⟨gy, hgy⟩ : ∃ g, g = w10.heap.size := ⟨_, rfl⟩
  have ry : RowAt Y11 gy [.int .i64 mi, .bool mu, .slice oa5 na5 ma5, .slice ob5 nb5 mb5] 25 := by
    have h := RowAt.new w10 [.int .i64 mi, .bool mu, .slice oa5 na5 ma5, .slice ob5 nb5 mb5] 25
    rw [hgy, hY]; exact h
  have ley : w.heap.size ≤ gy := by omega
  have nery : gr ≠ gy := by have := RowAt.lt rr; omega
  have neqy : gq ≠ gy := by have := RowAt.lt rq; omega
  have neay : ga ≠ gy := by have := RowAt.lt ra; omega
  have neby : gb ≠ gy := by have := RowAt.lt rb; omega
  have nexy : gx ≠ gy := by have := RowAt.lt rx; omega
  replace rr := RowAt.below rr hbY
  replace rq := RowAt.below rq hbY
  replace ra := RowAt.below ra hbY
  replace rb := RowAt.below rb hbY
  replace rx := RowAt.below rx hbY
  replace ha0 := ha0.keep hbY
  replace hb0 := hb0.keep hbY
  replace ha1 := ha1.keep hbY
  replace hb1 := hb1.keep hbY
  replace ha2 := ha2.keep hbY
  replace hb2 := hb2.keep hbY
  replace ha3 := ha3.keep hbY
  replace hb3 := hb3.keep hbY
  replace ha4 := ha4.keep hbY
  replace hb4 := hb4.keep hbY
  replace ha5 := ha5.keep hbY
  replace hb5 := hb5.keep hbY
  replace hB := below2 hB hbY
  go_upto_region 6 with fail
  rw [← hY, ← hgy]
  clear hY hbY hle hgy
  clear c3 c4
  obtain ⟨q0, q1, q2, q3, qf⟩ := cells4 rq
  go_wp2_with fail
  clear q0 q1 q2 q3 qf
  go_at_call 10; refine (c5 _ _ _ ha1 hb1).mono ?_; rintro e w12 ⟨rfl, hb⟩
  replace rr := RowAt.below rr hb
  replace rq := RowAt.below rq hb
  replace ra := RowAt.below ra hb
  replace rb := RowAt.below rb hb
  replace rx := RowAt.below rx hb
  replace ry := RowAt.below ry hb
  replace ha0 := ha0.keep hb
  replace hb0 := hb0.keep hb
  replace ha1 := ha1.keep hb
  replace hb1 := hb1.keep hb
  replace ha2 := ha2.keep hb
  replace hb2 := hb2.keep hb
  replace ha3 := ha3.keep hb
  replace hb3 := hb3.keep hb
  replace ha4 := ha4.keep hb
  replace hb4 := hb4.keep hb
  replace ha5 := ha5.keep hb
  replace hb5 := hb5.keep hb
  replace hB := below2 hB hb
  clear hb
  obtain ⟨r0, r1, r2, r3, rf⟩ := cells4 rr
  go_wp2_with fail
  clear r0 r1 r2 r3 rf
  go_at_call 11; refine (c6 _ _ _ ha0 hb0).mono ?_; rintro e w13 ⟨rfl, hb⟩
  replace rr := RowAt.below rr hb
  replace rq := RowAt.below rq hb
  replace ra := RowAt.below ra hb
  replace rb := RowAt.below rb hb
  replace rx := RowAt.below rx hb
  replace ry := RowAt.below ry hb
  replace ha0 := ha0.keep hb
  replace hb0 := hb0.keep hb
  replace ha1 := ha1.keep hb
  replace hb1 := hb1.keep hb
  replace ha2 := ha2.keep hb
  replace hb2 := hb2.keep hb
  replace ha3 := ha3.keep hb
  replace hb3 := hb3.keep hb
  replace ha4 := ha4.keep hb
  replace hb4 := hb4.keep hb
  replace ha5 := ha5.keep hb
  replace hb5 := hb5.keep hb
  replace hB := below2 hB hb
  clear hb
  clear c5 c6
  go_upto_region 8 with fail
  have d1 : ∀ p : Bl w13, Calls Tryz.prog 13 #[.agg #[.int .i64 id, .bool up, .slice oa1 na1 ma1, .slice ob1 nb1 mb1]] p.W fun e w' => e = .returned (.int .i64 kc) ∧ Below p.W.heap.size p.W w' := fun p => c7 _ _ _ (ha1.keep p.h) (hb1.keep p.h)
  have d2 : ∀ p : Bl w13, Calls Tryz.prog 14 #[.agg #[.int .i64 id, .bool up, .slice o2 n2 m2, .slice o3 n3 m3]] p.W fun e w' => e = .returned (.int .i64 kc) ∧ Below p.W.heap.size p.W w' := fun p => c8 _ _ _ (ha0.keep p.h) (hb0.keep p.h)
  have d3 : ∀ p : Bl w13, Calls Tryz.prog 15 #[.agg #[.int .i64 ai, .bool au, .slice oa2 na2 ma2, .slice ob2 nb2 mb2], .agg #[.int .i64 ai, .bool au, .slice oa3 na3 ma3, .slice ob3 nb3 mb3]] p.W fun e w' => e = .returned (.bool true) ∧ Below p.W.heap.size p.W w' := fun p => cS _ ⟨ai, au, ar, al⟩ _ _ _ _ (ha2.keep p.h) (hb2.keep p.h) (ha3.keep p.h) (hb3.keep p.h)
  have d4 : ∀ p : Bl w13, Calls Tryz.prog 15 #[.agg #[.int .i64 mi, .bool mu, .slice oa4 na4 ma4, .slice ob4 nb4 mb4], .agg #[.int .i64 mi, .bool mu, .slice oa5 na5 ma5, .slice ob5 nb5 mb5]] p.W fun e w' => e = .returned (.bool true) ∧ Below p.W.heap.size p.W w' := fun p => cS _ ⟨mi, mu, mr, ml⟩ _ _ _ _ (ha4.keep p.h) (hb4.keep p.h) (ha5.keep p.h) (hb5.keep p.h)
  have d5 : ∀ p : Bl w13, Calls Tryz.prog 15 #[.agg #[.int .i64 id, .bool up, .slice oa1 na1 ma1, .slice ob1 nb1 mb1], .agg #[.int .i64 id, .bool up, .slice o2 n2 m2, .slice o3 n3 m3]] p.W fun e w' => e = .returned (.bool true) ∧ Below p.W.heap.size p.W w' := fun p => cS _ ⟨id, up, rts, lks⟩ _ _ _ _ (ha1.keep p.h) (hb1.keep p.h) (ha0.keep p.h) (hb0.keep p.h)
  have d0 : ∀ p : Bl w13, Calls Tryz.prog 12 #[] p.W fun e w' => e = .returned (.bool true) ∧ Below p.W.heap.size p.W w' := fun p => cL _
  have q0 : ∀ p : Bl w13, p.W.cell? ⟨gq, 0, none⟩ = some (.int .i64 id) := fun p => (RowAt.below rq p.h).cell 0
  have q1 : ∀ p : Bl w13, p.W.cell? ⟨gq, 1, none⟩ = some (.bool up) := fun p => (RowAt.below rq p.h).cell 1
  have q2 : ∀ p : Bl w13, p.W.cell? ⟨gq, 2, none⟩ = some (.slice oa1 na1 ma1) := fun p => (RowAt.below rq p.h).cell 2
  have q3 : ∀ p : Bl w13, p.W.cell? ⟨gq, 3, none⟩ = some (.slice ob1 nb1 mb1) := fun p => (RowAt.below rq p.h).cell 3
  have r0 : ∀ p : Bl w13, p.W.cell? ⟨gr, 0, none⟩ = some (.int .i64 id) := fun p => (RowAt.below rr p.h).cell 0
  have r1 : ∀ p : Bl w13, p.W.cell? ⟨gr, 1, none⟩ = some (.bool up) := fun p => (RowAt.below rr p.h).cell 1
  have r2 : ∀ p : Bl w13, p.W.cell? ⟨gr, 2, none⟩ = some (.slice o2 n2 m2) := fun p => (RowAt.below rr p.h).cell 2
  have r3 : ∀ p : Bl w13, p.W.cell? ⟨gr, 3, none⟩ = some (.slice o3 n3 m3) := fun p => (RowAt.below rr p.h).cell 3
  have a0 : ∀ p : Bl w13, p.W.cell? ⟨ga, 0, none⟩ = some (.int .i64 ai) := fun p => (RowAt.below ra p.h).cell 0
  have a1 : ∀ p : Bl w13, p.W.cell? ⟨ga, 1, none⟩ = some (.bool au) := fun p => (RowAt.below ra p.h).cell 1
  have a2 : ∀ p : Bl w13, p.W.cell? ⟨ga, 2, none⟩ = some (.slice oa2 na2 ma2) := fun p => (RowAt.below ra p.h).cell 2
  have a3 : ∀ p : Bl w13, p.W.cell? ⟨ga, 3, none⟩ = some (.slice ob2 nb2 mb2) := fun p => (RowAt.below ra p.h).cell 3
  have b0 : ∀ p : Bl w13, p.W.cell? ⟨gb, 0, none⟩ = some (.int .i64 ai) := fun p => (RowAt.below rb p.h).cell 0
  have b1 : ∀ p : Bl w13, p.W.cell? ⟨gb, 1, none⟩ = some (.bool au) := fun p => (RowAt.below rb p.h).cell 1
  have b2 : ∀ p : Bl w13, p.W.cell? ⟨gb, 2, none⟩ = some (.slice oa3 na3 ma3) := fun p => (RowAt.below rb p.h).cell 2
  have b3 : ∀ p : Bl w13, p.W.cell? ⟨gb, 3, none⟩ = some (.slice ob3 nb3 mb3) := fun p => (RowAt.below rb p.h).cell 3
  have x0 : ∀ p : Bl w13, p.W.cell? ⟨gx, 0, none⟩ = some (.int .i64 mi) := fun p => (RowAt.below rx p.h).cell 0
  have x1 : ∀ p : Bl w13, p.W.cell? ⟨gx, 1, none⟩ = some (.bool mu) := fun p => (RowAt.below rx p.h).cell 1
  have x2 : ∀ p : Bl w13, p.W.cell? ⟨gx, 2, none⟩ = some (.slice oa4 na4 ma4) := fun p => (RowAt.below rx p.h).cell 2
  have x3 : ∀ p : Bl w13, p.W.cell? ⟨gx, 3, none⟩ = some (.slice ob4 nb4 mb4) := fun p => (RowAt.below rx p.h).cell 3
  have y0 : ∀ p : Bl w13, p.W.cell? ⟨gy, 0, none⟩ = some (.int .i64 mi) := fun p => (RowAt.below ry p.h).cell 0
  have y1 : ∀ p : Bl w13, p.W.cell? ⟨gy, 1, none⟩ = some (.bool mu) := fun p => (RowAt.below ry p.h).cell 1
  have y2 : ∀ p : Bl w13, p.W.cell? ⟨gy, 2, none⟩ = some (.slice oa5 na5 ma5) := fun p => (RowAt.below ry p.h).cell 2
  have y3 : ∀ p : Bl w13, p.W.cell? ⟨gy, 3, none⟩ = some (.slice ob5 nb5 mb5) := fun p => (RowAt.below ry p.h).cell 3
  clear rq rr ra rb rx ry ha0 hb0 ha1 hb1 ha2 hb2 ha3 hb3 ha4 hb4 ha5 hb5 c7 c8 cL cS ler lee leq lea leb lex ley
  haveI := bl_ne w13
  refine wp_region_bl (by kernel_rfl) (by kernel_rfl) ?_
  repeat (go_big_quiet_step (first | (go_at_call 12; with_reducible exact bl_call (d0 _)) | (go_at_call 13; with_reducible exact bl_call (d1 _)) | (go_at_call 14; with_reducible exact bl_call (d2 _)) | (go_at_call 15; with_reducible exact bl_call (d3 _)) | (go_at_call 15; with_reducible exact bl_call (d4 _)) | (go_at_call 15; with_reducible exact bl_call (d5 _))))
  refine wpQuiet_nil ?_
  intro wq hw'
  obtain ⟨⟨wz, hq⟩, hw2⟩ := hw'
  subst hw2
  have hW := below2 hB hq
  go_wp2_with fail
  go_ret
  exact ⟨rfl, hW⟩
theorem walk (R : Ro) (x y : Value) (e : Ev) (j : Int) (w : World) (b0 : HasRts w x R.rts) (c0 : HasLks w y R.lks) (f0 : FitRo R) (s0 : R.rts.length * 48 ≤ 140737488351232 ∧ R.lks.length * 16 ≤ 140737488351232) (b1 : FitE e) (b2 : -9223372036854775808 ≤ j ∧ j ≤ 9223372036854775807) :
    Calls Tryz.prog 3 #[.agg #[.int .i64 R.id, .bool R.up, x, y], evV e, .int .i64 j] w fun e w' => e = .returned (.bool true) ∧ Below w.heap.size w w' := by
  obtain ⟨o2, m2, rfl, _⟩ := Lk.HasRow.slice b0
  obtain ⟨o3, m3, rfl, _⟩ := Lk.HasRow.slice c0
  exact walks R.id R.up R.rts R.lks o2 o3 _ _ m2 m3 e.kind e.router e.seq e.time e.pf.six _ _ e.pf.len e.act.k e.act.i e.iface e.peer j _ _ _ _ _ _ _ _ _ _ (sizeRo R).1 (sizeRo R).2 (checkRo R) w b0 c0
    (fun W h h' => copy_any R _ _ W h h' (by omega) (by omega))
    (fun W u v h h' => apply_any R e u v W h h' f0 b1) (fun W u v h h' => rapply_any R e u v W h h' f0 b1)
    (fun W => make_any j W) (fun W => rmake_any j W) (fun W u v h h' => size_fn R u v W h h' f0) (fun W u v h h' => rsize_any R u v W h h' f0)
    (fun W u v h h' => check_any R u v W h h' f0.rts) (fun W u v h h' => rcheck_any R u v W h h' f0.rts) (fun W => lives_any W)
    (fun W S a b c d h1 h2 h3 h4 => same_any S a b c d W h1 h2 h3 h4)

set_option maxRecDepth 100000 in
theorem lifted (os : Os) (started : os.Started) (H : Type) (enc : TypeId × Value → H) :
    ReturnsInHanded {} Tryz.checked os 3 .any (Rows.fibAppliesSpec.pre6 enc Tryz.prog Tryz.f3 Rows.fibAppliesRow.domain false) (Rows.fibAppliesSpec.post enc Tryz.prog Tryz.f3 false true false false) := by
  refine returnsInHanded_of_change_sized (C := Tryz.checked) own started (by kernel_rfl) Tryz.func3
    (ChangeSpec.witness6 (enc := enc) (C := Tryz.checked) false ⟨#[], #[.agg #[.int .i64 0, .bool false, .slice none 0 0, .slice none 0 0], .agg #[.int .u8 0, .int .i64 0, .int .u64 0, .int .i64 0, .bool false, .int .u64 0, .int .u64 0, .int .i64 0, .int .u8 0, .int .i64 0, .int .i64 0, .int .i64 0], .int .i64 0], []⟩ 8 (by kernel_rfl) (by kernel_rfl) (by kernel_rfl) (by kernel_rfl)) ?_
  intro W base args ds gs before hval0 hW _ hsz0 _
  have hsz : (DataW.weightsEach Tryz.prog (Tryz.f3.params.toList ++ Rows.fibAppliesSpec.plain.varTypes Tryz.prog) (ds ++ gs)).all (· ≤ reachBytes) = true := hsz0
  clear hsz0
  have hval : ∀ (j : Nat) t v, Tryz.f3.params[j]? = some t → args[j]? = some v → Value.okWide Tryz.prog W .any base t v := hval0
  have hW' := hW
  obtain ⟨p, q, hA0, hV, rfl, hfz, hnd⟩ := hW
  have hA : DataW.TrodAll enc Tryz.prog W 0 (fun _ => true) true Tryz.f3.params.toList args.toList ds p := hA0
  rw [Tryz.params3] at hA hval hsz
  obtain ⟨v0, vs0, d0, ds0, p0, q0, hargs, rfl, rfl, h0, r0⟩ := trodAll_cons hA
  obtain ⟨v1, vs1, d1, ds1, p1, q1, rfl, rfl, rfl, h1, r1⟩ := trodAll_cons r0
  obtain ⟨v2, vs2, d2, ds2, p2, q2, rfl, rfl, rfl, h2, r2⟩ := trodAll_cons r1
  obtain ⟨rfl, rfl, rfl⟩ := trodAll_nil r2
  obtain rfl : args = #[v0, v1, v2] := by cases args; simp_all
  obtain ⟨rfl, rfl⟩ := trodVars_none hV
  have k0 := h0
  have lt0 : ∀ x ∈ p0, x.block < W.heap.size := by obtain ⟨m, hm⟩ := k0; exact DataW.trod_lt m _ _ _ hm
  obtain ⟨R0, x0, y0, rfl, b0, c0, f0, s0⟩ := Fib.open_router_s (hval 0 25 v0 rfl rfl) h0 (fun n hn => by
    have := List.all_eq_true.1 hsz n (DataW.weights_mem_each (j := 0) rfl rfl n hn)
    simpa using this)
  have k1 := h1
  have lt1 : ∀ x ∈ p1, x.block < W.heap.size := by obtain ⟨m, hm⟩ := k1; exact DataW.trod_lt m _ _ _ hm
  obtain ⟨n1, rfl, b1⟩ := Msg.open_event (hval 1 36 v1 rfl rfl) h1
  obtain ⟨a2, rfl, rfl, rfl, w2⟩ := open_int Tryz.underlying3 (hval 2 3 v2 rfl rfl) h2
  have b2 : -9223372036854775808 ≤ a2 ∧ a2 ≤ 9223372036854775807 := by simpa [Lit.wf, IntKind.min, IntKind.max, IntKind.signed, IntKind.bits] using w2
  clear hA0 hval0
  refine (walk R0 x0 y0 n1 a2 W b0 c0 f0 s0 b1 b2).mono fun e W' ⟨he, bel⟩ => ?_
  subst he
  exact ⟨_, rfl, _, _, _, [], _, [], hW', trodAll_mk1 (shut_bool Tryz.underlying4 _), (trodAll_cons_mk (Below.trod laidOut (by kernel_rfl) (of_decide_eq_true (by kernel_rfl)) k0 bel lt0) (trodAll_cons_mk (Below.trod laidOut (by kernel_rfl) (of_decide_eq_true (by kernel_rfl)) k1 bel lt1) (trodAll_cons_mk (shut_int Tryz.underlying3 w2) trodAll_mk0))), rfl, bel.frame _, fun h => by cases h⟩

theorem over : Rows.fibAppliesRow.holds Tryz.pinned (OpenSpec.ofChange Rows.fibAppliesSpec) :=
  OpenClaim.holds_of_wide 3 Tryz.f3 rfl rfl rfl rfl rfl rfl rfl ⟨rfl, rfl, rfl, rfl, rfl⟩ rfl rfl rfl rfl rfl (by kernel_rfl) Tryz.func3 (by kernel_rfl)
    (of_decide_eq_true (by kernel_rfl)) (by unfold Func.isWrapper; first | (rw [if_pos (by decide +kernel)]; kernel_rfl) | (rw [if_neg (by decide +kernel)]; exact ⟨rfl, rfl⟩))
    (fun os started H enc _ => lifted os started H enc)
end fibApplies
theorem fapplies_holds : Rows.FibAppliesSaid := fibApplies.over
#print axioms fapplies_holds
end Go.Proofs.YtpooiehhepimkaaGreat
