/- For all routers and events: spoorlaw17.FibRight returns true, and changes nothing that was there. No condition. -/
import Derived.Test.YtpooiehhepimkaaRows
import Derived.Test.YtpooiehhepimkaaFibLZ
import Derived.Test.YtpooiehhepimkaaFibZ
import Derived.Test.YtpooiehhepimkaaAddrOpen
import Derived.Test.YtpooiehhepimkaaMsgOpen
import Derived.ProofKit
import Derived.OpenShut
import Derived.ShutString
import Derived.SizedLaws
set_option linter.unusedVariables false
namespace Go.Proofs.Ytpooiehhepimkaa
namespace fibRight
open Go.ChangeShapes Go.WideShapes Go.ChangeAt Go.RowKit
open Go.ChangeMaps (open_string shut_string)
open Go.Proofs.Ytpooiehhepimkaa.Lk (Lk HasLks FitL lkV peerL HasLks.keep)
open Go.Proofs.Ytpooiehhepimkaa.Tr (Rt HasRts HasRts.keep FitR FitP)
open Go.Proofs.Ytpooiehhepimkaa.Msg (Ev Ac FitA FitE evV evC acV)
open Go.Proofs.Ytpooiehhepimkaa.Fib
open Go.Proofs.Ytpooiehhepimkaa.Addr (Pf pfV adV hasB hiN loN rightB RowAt below2 below_drew below_new bset RowAt.lt RowAt.cell RowAt.frozen RowAt.below RowAt.drew RowAt.new RowAt.alloc RowAt.gkeep cells2 cells4)
theorem own : ownKnob Try.prog.godebug = none := by kernel_rfl
theorem laidOut : laidOutB Try.prog = true := by kernel_rfl
set_option maxHeartbeats 16000000 in
set_option maxRecDepth 20000 in
theorem walk_a (id : Int) (up : Bool) (rts : List Rt) (lks : List Lk) (o2 o3 : Option Addr) (n2 n3 m2 m3 : Nat) (kind : Nat) (router : Int) (seq : Nat) (time : Int) (pf : Pf) (act : Ac) (iface peer : Int) (xi : Int) (xu : Bool) (xr : List Rt) (xl : List Lk) (z : Int) (w : World) (ha0 : HasRts w (.slice o2 n2 m2) rts) (hb0 : HasLks w (.slice o3 n3 m3) lks)
    (c1 : ∀ W, HasRts W (.slice o2 n2 m2) rts → HasLks W (.slice o3 n3 m3) lks → Calls Try.prog 10 #[.agg #[.int .i64 id, .bool up, .slice o2 n2 m2, .slice o3 n3 m3], .agg #[.int .u8 (kind : Int), .int .i64 router, .int .u64 (seq : Int), .int .i64 time, .bool pf.six, .int .u64 (hiN pf.n : Int), .int .u64 (loN pf.n : Int), .int .i64 pf.len, .int .u8 (act.k : Int), .int .i64 act.i, .int .i64 iface, .int .i64 peer]] W (RoAt xi xu xr xl 2 W)) :
    Calls Try.prog 4 #[.agg #[.int .i64 id, .bool up, .slice o2 n2 m2, .slice o3 n3 m3], .agg #[.int .u8 (kind : Int), .int .i64 router, .int .u64 (seq : Int), .int .i64 time, .bool pf.six, .int .u64 (hiN pf.n : Int), .int .u64 (loN pf.n : Int), .int .i64 pf.len, .int .u8 (act.k : Int), .int .i64 act.i, .int .i64 iface, .int .i64 peer]] w (BoolIs true w) := by
  have hB := Below.refl w.heap.size w
  go_enter Try.func4, Try.ntmps4
  obtain ⟨Y1, hY⟩ : ∃ Y, Y = ((w.alloc (.cells #[.int .i64 id, .bool up, .slice o2 n2 m2, .slice o3 n3 m3] 25)).alloc (.cells #[.int .u8 (kind : Int), .int .i64 router, .int .u64 (seq : Int), .int .i64 time, .bool pf.six, .int .u64 (hiN pf.n : Int), .int .u64 (loN pf.n : Int), .int .i64 pf.len, .int .u8 (act.k : Int), .int .i64 act.i, .int .i64 iface, .int .i64 peer] 44)) := ⟨_, rfl⟩
  have hbY : Below w.heap.size w Y1 := by rw [hY]; exact below_new (below_new (Below.refl _ _) _) _
  have hle : w.heap.size ≤ w.heap.size := hB.size
  obtain ⟨gr, hgr⟩ : ∃ g, g = w.heap.size := ⟨_, rfl⟩
  have rr : RowAt Y1 gr [.int .i64 id, .bool up, .slice o2 n2 m2, .slice o3 n3 m3] 25 := by
    have h := (RowAt.new w [.int .i64 id, .bool up, .slice o2 n2 m2, .slice o3 n3 m3] 25).alloc (.cells #[.int .u8 (kind : Int), .int .i64 router, .int .u64 (seq : Int), .int .i64 time, .bool pf.six, .int .u64 (hiN pf.n : Int), .int .u64 (loN pf.n : Int), .int .i64 pf.len, .int .u8 (act.k : Int), .int .i64 act.i, .int .i64 iface, .int .i64 peer] 44)
    rw [hgr, hY]; exact h
  have ler : w.heap.size ≤ gr := by omega
  obtain ⟨ge, hge⟩ : ∃ g, g = w.heap.size + 1 := ⟨_, rfl⟩
  have re : RowAt Y1 ge [.int .u8 (kind : Int), .int .i64 router, .int .u64 (seq : Int), .int .i64 time, .bool pf.six, .int .u64 (hiN pf.n : Int), .int .u64 (loN pf.n : Int), .int .i64 pf.len, .int .u8 (act.k : Int), .int .i64 act.i, .int .i64 iface, .int .i64 peer] 44 := by
    have h := RowAt.new (w.alloc (.cells #[.int .i64 id, .bool up, .slice o2 n2 m2, .slice o3 n3 m3] 25)) [.int .u8 (kind : Int), .int .i64 router, .int .u64 (seq : Int), .int .i64 time, .bool pf.six, .int .u64 (hiN pf.n : Int), .int .u64 (loN pf.n : Int), .int .i64 pf.len, .int .u8 (act.k : Int), .int .i64 act.i, .int .i64 iface, .int .i64 peer] 44
    simp only [World.size_alloc] at h
    rw [hge, hY]; exact h
  have lee : w.heap.size ≤ ge := by omega
  have nere : gr ≠ ge := by omega
  replace ha0 := ha0.keep hbY
  replace hb0 := hb0.keep hbY
  replace hB := below2 hB hbY
  go_upto_region 1 with fail
  rw [← hY, ← hge, ← hgr]
  clear hY hbY hle hgr hge
  go_wp2_with fail
  go_at_call 9; refine (lives_any _).mono ?_; rintro e w2 ⟨rfl, hb⟩
  replace rr := RowAt.below rr hb
  replace re := RowAt.below re hb
  replace ha0 := ha0.keep hb
  replace hb0 := hb0.keep hb
  replace hB := below2 hB hb
  clear hb
  obtain ⟨r0, r1, r2, r3, rf⟩ := cells4 rr
  obtain ⟨e0, e1, e2, e3, e4, e5, e6, e7, e8, e9, e10, e11, ef⟩ := cells12 re
  go_wp2_with fail
  clear r0 r1 r2 r3 rf e0 e1 e2 e3 e4 e5 e6 e7 e8 e9 e10 e11 ef
  go_at_call 10; refine (c1 _ ha0 hb0).mono ?_; rintro e w3 ⟨oa1, na1, ma1, ob1, nb1, mb1, rfl, ha1, hb1, hb⟩
  replace rr := RowAt.below rr hb
  replace re := RowAt.below re hb
  replace ha0 := ha0.keep hb
  replace hb0 := hb0.keep hb
  replace hB := below2 hB hb
  clear hb
  obtain ⟨Y4, hY⟩ : ∃ Y, Y = (w3.alloc (.cells #[.int .i64 xi, .bool xu, .slice oa1 na1 ma1, .slice ob1 nb1 mb1] 25)) := ⟨_, rfl⟩
  have hbY : Below w3.heap.size w3 Y4 := by rw [hY]; exact below_new (Below.refl _ _) _
  have hle : w.heap.size ≤ w3.heap.size := hB.size
  obtain ⟨gx, hgx⟩ : ∃ g, g = w3.heap.size := ⟨_, rfl⟩
  have rx : RowAt Y4 gx [.int .i64 xi, .bool xu, .slice oa1 na1 ma1, .slice ob1 nb1 mb1] 25 := by
    have h := RowAt.new w3 [.int .i64 xi, .bool xu, .slice oa1 na1 ma1, .slice ob1 nb1 mb1] 25
    rw [hgx, hY]; exact h
  have lex : w.heap.size ≤ gx := by omega
  have nerx : gr ≠ gx := by have := RowAt.lt rr; omega
  have neex : ge ≠ gx := by have := RowAt.lt re; omega
  replace rr := RowAt.below rr hbY
  replace re := RowAt.below re hbY
  replace ha0 := ha0.keep hbY
  replace hb0 := hb0.keep hbY
  replace ha1 := ha1.keep hbY
  replace hb1 := hb1.keep hbY
  replace hB := below2 hB hbY
  go_upto_region 4 with fail
  rw [← hY, ← hgx]
  clear hY hbY hle hgx
  obtain ⟨x0, x1, x2, x3, xf⟩ := cells4 rx
  obtain ⟨r0, r1, r2, r3, rf⟩ := cells4 rr
  go_wp2_with fail
  go_ret
  exact ⟨rfl, hB⟩
set_option maxHeartbeats 16000000 in
set_option maxRecDepth 20000 in
theorem walk_b (id : Int) (up : Bool) (rts : List Rt) (lks : List Lk) (o2 o3 : Option Addr) (n2 n3 m2 m3 : Nat) (kind : Nat) (router : Int) (seq : Nat) (time : Int) (pf : Pf) (act : Ac) (iface peer : Int) (xi : Int) (xu : Bool) (xr : List Rt) (xl : List Lk) (z : Int) (w : World) (ha0 : HasRts w (.slice o2 n2 m2) rts) (hb0 : HasLks w (.slice o3 n3 m3) lks)
    (c1 : ∀ W, HasRts W (.slice o2 n2 m2) rts → HasLks W (.slice o3 n3 m3) lks → Calls Try.prog 10 #[.agg #[.int .i64 id, .bool up, .slice o2 n2 m2, .slice o3 n3 m3], .agg #[.int .u8 (kind : Int), .int .i64 router, .int .u64 (seq : Int), .int .i64 time, .bool pf.six, .int .u64 (hiN pf.n : Int), .int .u64 (loN pf.n : Int), .int .i64 pf.len, .int .u8 (act.k : Int), .int .i64 act.i, .int .i64 iface, .int .i64 peer]] W (RoAt id up rts lks z W)) (hz : z ≠ 0) (hz2 : z ≠ 2) :
    Calls Try.prog 4 #[.agg #[.int .i64 id, .bool up, .slice o2 n2 m2, .slice o3 n3 m3], .agg #[.int .u8 (kind : Int), .int .i64 router, .int .u64 (seq : Int), .int .i64 time, .bool pf.six, .int .u64 (hiN pf.n : Int), .int .u64 (loN pf.n : Int), .int .i64 pf.len, .int .u8 (act.k : Int), .int .i64 act.i, .int .i64 iface, .int .i64 peer]] w (BoolIs true w) := by
  have hB := Below.refl w.heap.size w
  go_enter Try.func4, Try.ntmps4
  obtain ⟨Y1, hY⟩ : ∃ Y, Y = ((w.alloc (.cells #[.int .i64 id, .bool up, .slice o2 n2 m2, .slice o3 n3 m3] 25)).alloc (.cells #[.int .u8 (kind : Int), .int .i64 router, .int .u64 (seq : Int), .int .i64 time, .bool pf.six, .int .u64 (hiN pf.n : Int), .int .u64 (loN pf.n : Int), .int .i64 pf.len, .int .u8 (act.k : Int), .int .i64 act.i, .int .i64 iface, .int .i64 peer] 44)) := ⟨_, rfl⟩
  have hbY : Below w.heap.size w Y1 := by rw [hY]; exact below_new (below_new (Below.refl _ _) _) _
  have hle : w.heap.size ≤ w.heap.size := hB.size
  obtain ⟨gr, hgr⟩ : ∃ g, g = w.heap.size := ⟨_, rfl⟩
  have rr : RowAt Y1 gr [.int .i64 id, .bool up, .slice o2 n2 m2, .slice o3 n3 m3] 25 := by
    have h := (RowAt.new w [.int .i64 id, .bool up, .slice o2 n2 m2, .slice o3 n3 m3] 25).alloc (.cells #[.int .u8 (kind : Int), .int .i64 router, .int .u64 (seq : Int), .int .i64 time, .bool pf.six, .int .u64 (hiN pf.n : Int), .int .u64 (loN pf.n : Int), .int .i64 pf.len, .int .u8 (act.k : Int), .int .i64 act.i, .int .i64 iface, .int .i64 peer] 44)
    rw [hgr, hY]; exact h
  have ler : w.heap.size ≤ gr := by omega
  obtain ⟨ge, hge⟩ : ∃ g, g = w.heap.size + 1 := ⟨_, rfl⟩
  have re : RowAt Y1 ge [.int .u8 (kind : Int), .int .i64 router, .int .u64 (seq : Int), .int .i64 time, .bool pf.six, .int .u64 (hiN pf.n : Int), .int .u64 (loN pf.n : Int), .int .i64 pf.len, .int .u8 (act.k : Int), .int .i64 act.i, .int .i64 iface, .int .i64 peer] 44 := by
    have h := RowAt.new (w.alloc (.cells #[.int .i64 id, .bool up, .slice o2 n2 m2, .slice o3 n3 m3] 25)) [.int .u8 (kind : Int), .int .i64 router, .int .u64 (seq : Int), .int .i64 time, .bool pf.six, .int .u64 (hiN pf.n : Int), .int .u64 (loN pf.n : Int), .int .i64 pf.len, .int .u8 (act.k : Int), .int .i64 act.i, .int .i64 iface, .int .i64 peer] 44
    simp only [World.size_alloc] at h
    rw [hge, hY]; exact h
  have lee : w.heap.size ≤ ge := by omega
  have nere : gr ≠ ge := by omega
  replace ha0 := ha0.keep hbY
  replace hb0 := hb0.keep hbY
  replace hB := below2 hB hbY
  go_upto_region 1 with fail
  rw [← hY, ← hge, ← hgr]
  clear hY hbY hle hgr hge
  go_wp2_with fail
  go_at_call 9; refine (lives_any _).mono ?_; rintro e w2 ⟨rfl, hb⟩
  replace rr := RowAt.below rr hb
  replace re := RowAt.below re hb
  replace ha0 := ha0.keep hb
  replace hb0 := hb0.keep hb
  replace hB := below2 hB hb
  clear hb
  obtain ⟨r0, r1, r2, r3, rf⟩ := cells4 rr
  obtain ⟨e0, e1, e2, e3, e4, e5, e6, e7, e8, e9, e10, e11, ef⟩ := cells12 re
  go_wp2_with fail
  clear r0 r1 r2 r3 rf e0 e1 e2 e3 e4 e5 e6 e7 e8 e9 e10 e11 ef
  go_at_call 10; refine (c1 _ ha0 hb0).mono ?_; rintro e w3 ⟨oa1, na1, ma1, ob1, nb1, mb1, rfl, ha1, hb1, hb⟩
  replace rr := RowAt.below rr hb
  replace re := RowAt.below re hb
  replace ha0 := ha0.keep hb
  replace hb0 := hb0.keep hb
  replace hB := below2 hB hb
  clear hb
  obtain ⟨Y4, hY⟩ : ∃ Y, Y = (w3.alloc (.cells #[.int .i64 id, .bool up, .slice oa1 na1 ma1, .slice ob1 nb1 mb1] 25)) := ⟨_, rfl⟩
  have hbY : Below w3.heap.size w3 Y4 := by rw [hY]; exact below_new (Below.refl _ _) _
  have hle : w.heap.size ≤ w3.heap.size := hB.size
  obtain ⟨gx, hgx⟩ : ∃ g, g = w3.heap.size := ⟨_, rfl⟩
  have rx : RowAt Y4 gx [.int .i64 id, .bool up, .slice oa1 na1 ma1, .slice ob1 nb1 mb1] 25 := by
    have h := RowAt.new w3 [.int .i64 id, .bool up, .slice oa1 na1 ma1, .slice ob1 nb1 mb1] 25
    rw [hgx, hY]; exact h
  have lex : w.heap.size ≤ gx := by omega
  have nerx : gr ≠ gx := by have := RowAt.lt rr; omega
  have neex : ge ≠ gx := by have := RowAt.lt re; omega
  replace rr := RowAt.below rr hbY
  replace re := RowAt.below re hbY
  replace ha0 := ha0.keep hbY
  replace hb0 := hb0.keep hbY
  replace ha1 := ha1.keep hbY
  replace hb1 := hb1.keep hbY
  replace hB := below2 hB hbY
  go_upto_region 4 with fail
  rw [← hY, ← hgx]
  clear hY hbY hle hgx
  have hz0 : (z == 0) = false := beq_eq_false_iff_ne.2 hz
  have hz2b : (z == 2) = false := beq_eq_false_iff_ne.2 hz2
  obtain ⟨x0, x1, x2, x3, xf⟩ := cells4 rx
  obtain ⟨r0, r1, r2, r3, rf⟩ := cells4 rr
  go_wp2_with fail
  clear x0 x1 x2 x3 xf r0 r1 r2 r3 rf
  go_at_call 14; refine (same_any ⟨id, up, rts, lks⟩ _ _ _ _ _ ha1 hb1 ha0 hb0).mono ?_; rintro e w5 ⟨rfl, hb⟩
  replace rr := RowAt.below rr hb
  replace re := RowAt.below re hb
  replace rx := RowAt.below rx hb
  replace ha0 := ha0.keep hb
  replace hb0 := hb0.keep hb
  replace ha1 := ha1.keep hb
  replace hb1 := hb1.keep hb
  replace hB := below2 hB hb
  clear hb
  go_wp2_with fail
  go_ret
  exact ⟨rfl, hB⟩
set_option maxHeartbeats 16000000 in
set_option maxRecDepth 20000 in
theorem walk_1 (id : Int) (up : Bool) (rts : List Rt) (lks : List Lk) (o2 o3 : Option Addr) (n2 n3 m2 m3 : Nat) (router : Int) (seq : Nat) (time : Int) (pf : Pf) (act : Ac) (iface peer : Int) (xi : Int) (xu : Bool) (xr : List Rt) (xl : List Lk) (z : Int) (w : World) (ha0 : HasRts w (.slice o2 n2 m2) rts) (hb0 : HasLks w (.slice o3 n3 m3) lks)
    (c1 : ∀ W, HasRts W (.slice o2 n2 m2) rts → HasLks W (.slice o3 n3 m3) lks → Calls Try.prog 10 #[.agg #[.int .i64 id, .bool up, .slice o2 n2 m2, .slice o3 n3 m3], .agg #[.int .u8 1, .int .i64 router, .int .u64 (seq : Int), .int .i64 time, .bool pf.six, .int .u64 (hiN pf.n : Int), .int .u64 (loN pf.n : Int), .int .i64 pf.len, .int .u8 (act.k : Int), .int .i64 act.i, .int .i64 iface, .int .i64 peer]] W (RoAt id true rts lks 0 W))
    (c2 : ∀ W u v, HasRts W u rts → HasLks W v lks → Calls Try.prog 11 #[.agg #[.int .i64 id, .bool true, u, v]] W fun e w' => e = .returned (.int .i64 0) ∧ Below W.heap.size W w') :
    Calls Try.prog 4 #[.agg #[.int .i64 id, .bool up, .slice o2 n2 m2, .slice o3 n3 m3], .agg #[.int .u8 1, .int .i64 router, .int .u64 (seq : Int), .int .i64 time, .bool pf.six, .int .u64 (hiN pf.n : Int), .int .u64 (loN pf.n : Int), .int .i64 pf.len, .int .u8 (act.k : Int), .int .i64 act.i, .int .i64 iface, .int .i64 peer]] w (BoolIs true w) := by
  have hB := Below.refl w.heap.size w
  go_enter Try.func4, Try.ntmps4
  obtain ⟨Y1, hY⟩ : ∃ Y, Y = ((w.alloc (.cells #[.int .i64 id, .bool up, .slice o2 n2 m2, .slice o3 n3 m3] 25)).alloc (.cells #[.int .u8 1, .int .i64 router, .int .u64 (seq : Int), .int .i64 time, .bool pf.six, .int .u64 (hiN pf.n : Int), .int .u64 (loN pf.n : Int), .int .i64 pf.len, .int .u8 (act.k : Int), .int .i64 act.i, .int .i64 iface, .int .i64 peer] 44)) := ⟨_, rfl⟩
  have hbY : Below w.heap.size w Y1 := by rw [hY]; exact below_new (below_new (Below.refl _ _) _) _
  have hle : w.heap.size ≤ w.heap.size := hB.size
  obtain ⟨gr, hgr⟩ : ∃ g, g = w.heap.size := ⟨_, rfl⟩
  have rr : RowAt Y1 gr [.int .i64 id, .bool up, .slice o2 n2 m2, .slice o3 n3 m3] 25 := by
    have h := (RowAt.new w [.int .i64 id, .bool up, .slice o2 n2 m2, .slice o3 n3 m3] 25).alloc (.cells #[.int .u8 1, .int .i64 router, .int .u64 (seq : Int), .int .i64 time, .bool pf.six, .int .u64 (hiN pf.n : Int), .int .u64 (loN pf.n : Int), .int .i64 pf.len, .int .u8 (act.k : Int), .int .i64 act.i, .int .i64 iface, .int .i64 peer] 44)
    rw [hgr, hY]; exact h
  have ler : w.heap.size ≤ gr := by omega
  obtain ⟨ge, hge⟩ : ∃ g, g = w.heap.size + 1 := ⟨_, rfl⟩
  have re : RowAt Y1 ge [.int .u8 1, .int .i64 router, .int .u64 (seq : Int), .int .i64 time, .bool pf.six, .int .u64 (hiN pf.n : Int), .int .u64 (loN pf.n : Int), .int .i64 pf.len, .int .u8 (act.k : Int), .int .i64 act.i, .int .i64 iface, .int .i64 peer] 44 := by
    have h := RowAt.new (w.alloc (.cells #[.int .i64 id, .bool up, .slice o2 n2 m2, .slice o3 n3 m3] 25)) [.int .u8 1, .int .i64 router, .int .u64 (seq : Int), .int .i64 time, .bool pf.six, .int .u64 (hiN pf.n : Int), .int .u64 (loN pf.n : Int), .int .i64 pf.len, .int .u8 (act.k : Int), .int .i64 act.i, .int .i64 iface, .int .i64 peer] 44
    simp only [World.size_alloc] at h
    rw [hge, hY]; exact h
  have lee : w.heap.size ≤ ge := by omega
  have nere : gr ≠ ge := by omega
  replace ha0 := ha0.keep hbY
  replace hb0 := hb0.keep hbY
  replace hB := below2 hB hbY
  go_upto_region 1 with fail
  rw [← hY, ← hge, ← hgr]
  clear hY hbY hle hgr hge
  go_wp2_with fail
  go_at_call 9; refine (lives_any _).mono ?_; rintro e w2 ⟨rfl, hb⟩
  replace rr := RowAt.below rr hb
  replace re := RowAt.below re hb
  replace ha0 := ha0.keep hb
  replace hb0 := hb0.keep hb
  replace hB := below2 hB hb
  clear hb
  obtain ⟨r0, r1, r2, r3, rf⟩ := cells4 rr
  obtain ⟨e0, e1, e2, e3, e4, e5, e6, e7, e8, e9, e10, e11, ef⟩ := cells12 re
  go_wp2_with fail
  clear r0 r1 r2 r3 rf e0 e1 e2 e3 e4 e5 e6 e7 e8 e9 e10 e11 ef
  go_at_call 10; refine (c1 _ ha0 hb0).mono ?_; rintro e w3 ⟨oa1, na1, ma1, ob1, nb1, mb1, rfl, ha1, hb1, hb⟩
  replace rr := RowAt.below rr hb
  replace re := RowAt.below re hb
  replace ha0 := ha0.keep hb
  replace hb0 := hb0.keep hb
  replace hB := below2 hB hb
  clear hb
  obtain ⟨Y4, hY⟩ : ∃ Y, Y = (w3.alloc (.cells #[.int .i64 id, .bool true, .slice oa1 na1 ma1, .slice ob1 nb1 mb1] 25)) := ⟨_, rfl⟩
  have hbY : Below w3.heap.size w3 Y4 := by rw [hY]; exact below_new (Below.refl _ _) _
  have hle : w.heap.size ≤ w3.heap.size := hB.size
  obtain ⟨gx, hgx⟩ : ∃ g, g = w3.heap.size := ⟨_, rfl⟩
  have rx : RowAt Y4 gx [.int .i64 id, .bool true, .slice oa1 na1 ma1, .slice ob1 nb1 mb1] 25 := by
    have h := RowAt.new w3 [.int .i64 id, .bool true, .slice oa1 na1 ma1, .slice ob1 nb1 mb1] 25
    rw [hgx, hY]; exact h
  have lex : w.heap.size ≤ gx := by omega
  have nerx : gr ≠ gx := by have := RowAt.lt rr; omega
  have neex : ge ≠ gx := by have := RowAt.lt re; omega
  replace rr := RowAt.below rr hbY
  replace re := RowAt.below re hbY
  replace ha0 := ha0.keep hbY
  replace hb0 := hb0.keep hbY
  replace ha1 := ha1.keep hbY
  replace hb1 := hb1.keep hbY
  replace hB := below2 hB hbY
  go_upto_region 4 with fail
  rw [← hY, ← hgx]
  clear hY hbY hle hgx
  obtain ⟨x0, x1, x2, x3, xf⟩ := cells4 rx
  go_wp2_with fail
  clear x0 x1 x2 x3 xf
  go_at_call 11; refine (c2 _ _ _ ha1 hb1).mono ?_; rintro e w5 ⟨rfl, hb⟩
  replace rr := RowAt.below rr hb
  replace re := RowAt.below re hb
  replace rx := RowAt.below rx hb
  replace ha0 := ha0.keep hb
  replace hb0 := hb0.keep hb
  replace ha1 := ha1.keep hb
  replace hb1 := hb1.keep hb
  replace hB := below2 hB hb
  clear hb
  obtain ⟨x0, x1, x2, x3, xf⟩ := cells4 rx
  obtain ⟨r0, r1, r2, r3, rf⟩ := cells4 rr
  obtain ⟨e0, e1, e2, e3, e4, e5, e6, e7, e8, e9, e10, e11, ef⟩ := cells12 re
  go_wp2_with fail
  clear x0 x1 x2 x3 xf r0 r1 r2 r3 rf e0 e1 e2 e3 e4 e5 e6 e7 e8 e9 e10 e11 ef
  go_at_call 12; refine (Tr.same_any rts _ _ _ ha1 ha0).mono ?_; rintro e w6 ⟨rfl, hb⟩
  replace rr := RowAt.below rr hb
  replace re := RowAt.below re hb
  replace rx := RowAt.below rx hb
  replace ha0 := ha0.keep hb
  replace hb0 := hb0.keep hb
  replace ha1 := ha1.keep hb
  replace hb1 := hb1.keep hb
  replace hB := below2 hB hb
  clear hb
  obtain ⟨x0, x1, x2, x3, xf⟩ := cells4 rx
  obtain ⟨r0, r1, r2, r3, rf⟩ := cells4 rr
  obtain ⟨e0, e1, e2, e3, e4, e5, e6, e7, e8, e9, e10, e11, ef⟩ := cells12 re
  go_wp2_with fail
  clear x0 x1 x2 x3 xf r0 r1 r2 r3 rf e0 e1 e2 e3 e4 e5 e6 e7 e8 e9 e10 e11 ef
  go_at_call 13; refine (Lk.same_any lks _ _ _ hb1 hb0).mono ?_; rintro e w7 ⟨rfl, hb⟩
  replace rr := RowAt.below rr hb
  replace re := RowAt.below re hb
  replace rx := RowAt.below rx hb
  replace ha0 := ha0.keep hb
  replace hb0 := hb0.keep hb
  replace ha1 := ha1.keep hb
  replace hb1 := hb1.keep hb
  replace hB := below2 hB hb
  clear hb
  go_wp2_with fail
  go_ret
  exact ⟨rfl, hB⟩
set_option maxHeartbeats 16000000 in
set_option maxRecDepth 20000 in
theorem walk_2 (id : Int) (up : Bool) (rts : List Rt) (lks : List Lk) (o2 o3 : Option Addr) (n2 n3 m2 m3 : Nat) (router : Int) (seq : Nat) (time : Int) (pf : Pf) (act : Ac) (iface peer : Int) (xi : Int) (xu : Bool) (xr : List Rt) (xl : List Lk) (z : Int) (w : World) (ha0 : HasRts w (.slice o2 n2 m2) rts) (hb0 : HasLks w (.slice o3 n3 m3) lks)
    (c1 : ∀ W, HasRts W (.slice o2 n2 m2) rts → HasLks W (.slice o3 n3 m3) lks → Calls Try.prog 10 #[.agg #[.int .i64 id, .bool up, .slice o2 n2 m2, .slice o3 n3 m3], .agg #[.int .u8 2, .int .i64 router, .int .u64 (seq : Int), .int .i64 time, .bool pf.six, .int .u64 (hiN pf.n : Int), .int .u64 (loN pf.n : Int), .int .i64 pf.len, .int .u8 (act.k : Int), .int .i64 act.i, .int .i64 iface, .int .i64 peer]] W (RoAt id false xr xl 0 W))
    (c2 : ∀ W u v, HasRts W u xr → HasLks W v xl → Calls Try.prog 11 #[.agg #[.int .i64 id, .bool false, u, v]] W fun e w' => e = .returned (.int .i64 0) ∧ Below W.heap.size W w') :
    Calls Try.prog 4 #[.agg #[.int .i64 id, .bool up, .slice o2 n2 m2, .slice o3 n3 m3], .agg #[.int .u8 2, .int .i64 router, .int .u64 (seq : Int), .int .i64 time, .bool pf.six, .int .u64 (hiN pf.n : Int), .int .u64 (loN pf.n : Int), .int .i64 pf.len, .int .u8 (act.k : Int), .int .i64 act.i, .int .i64 iface, .int .i64 peer]] w (BoolIs true w) := by
  have hB := Below.refl w.heap.size w
  go_enter Try.func4, Try.ntmps4
  obtain ⟨Y1, hY⟩ : ∃ Y, Y = ((w.alloc (.cells #[.int .i64 id, .bool up, .slice o2 n2 m2, .slice o3 n3 m3] 25)).alloc (.cells #[.int .u8 2, .int .i64 router, .int .u64 (seq : Int), .int .i64 time, .bool pf.six, .int .u64 (hiN pf.n : Int), .int .u64 (loN pf.n : Int), .int .i64 pf.len, .int .u8 (act.k : Int), .int .i64 act.i, .int .i64 iface, .int .i64 peer] 44)) := ⟨_, rfl⟩
  have hbY : Below w.heap.size w Y1 := by rw [hY]; exact below_new (below_new (Below.refl _ _) _) _
  have hle : w.heap.size ≤ w.heap.size := hB.size
  obtain ⟨gr, hgr⟩ : ∃ g, g = w.heap.size := ⟨_, rfl⟩
  have rr : RowAt Y1 gr [.int .i64 id, .bool up, .slice o2 n2 m2, .slice o3 n3 m3] 25 := by
    have h := (RowAt.new w [.int .i64 id, .bool up, .slice o2 n2 m2, .slice o3 n3 m3] 25).alloc (.cells #[.int .u8 2, .int .i64 router, .int .u64 (seq : Int), .int .i64 time, .bool pf.six, .int .u64 (hiN pf.n : Int), .int .u64 (loN pf.n : Int), .int .i64 pf.len, .int .u8 (act.k : Int), .int .i64 act.i, .int .i64 iface, .int .i64 peer] 44)
    rw [hgr, hY]; exact h
  have ler : w.heap.size ≤ gr := by omega
  obtain ⟨ge, hge⟩ : ∃ g, g = w.heap.size + 1 := ⟨_, rfl⟩
  have re : RowAt Y1 ge [.int .u8 2, .int .i64 router, .int .u64 (seq : Int), .int .i64 time, .bool pf.six, .int .u64 (hiN pf.n : Int), .int .u64 (loN pf.n : Int), .int .i64 pf.len, .int .u8 (act.k : Int), .int .i64 act.i, .int .i64 iface, .int .i64 peer] 44 := by
    have h := RowAt.new (w.alloc (.cells #[.int .i64 id, .bool up, .slice o2 n2 m2, .slice o3 n3 m3] 25)) [.int .u8 2, .int .i64 router, .int .u64 (seq : Int), .int .i64 time, .bool pf.six, .int .u64 (hiN pf.n : Int), .int .u64 (loN pf.n : Int), .int .i64 pf.len, .int .u8 (act.k : Int), .int .i64 act.i, .int .i64 iface, .int .i64 peer] 44
    simp only [World.size_alloc] at h
    rw [hge, hY]; exact h
  have lee : w.heap.size ≤ ge := by omega
  have nere : gr ≠ ge := by omega
  replace ha0 := ha0.keep hbY
  replace hb0 := hb0.keep hbY
  replace hB := below2 hB hbY
  go_upto_region 1 with fail
  rw [← hY, ← hge, ← hgr]
  clear hY hbY hle hgr hge
  go_wp2_with fail
  go_at_call 9; refine (lives_any _).mono ?_; rintro e w2 ⟨rfl, hb⟩
  replace rr := RowAt.below rr hb
  replace re := RowAt.below re hb
  replace ha0 := ha0.keep hb
  replace hb0 := hb0.keep hb
  replace hB := below2 hB hb
  clear hb
  obtain ⟨r0, r1, r2, r3, rf⟩ := cells4 rr
  obtain ⟨e0, e1, e2, e3, e4, e5, e6, e7, e8, e9, e10, e11, ef⟩ := cells12 re
  go_wp2_with fail
  clear r0 r1 r2 r3 rf e0 e1 e2 e3 e4 e5 e6 e7 e8 e9 e10 e11 ef
  go_at_call 10; refine (c1 _ ha0 hb0).mono ?_; rintro e w3 ⟨oa1, na1, ma1, ob1, nb1, mb1, rfl, ha1, hb1, hb⟩
  replace rr := RowAt.below rr hb
  replace re := RowAt.below re hb
  replace ha0 := ha0.keep hb
  replace hb0 := hb0.keep hb
  replace hB := below2 hB hb
  clear hb
  obtain ⟨Y4, hY⟩ : ∃ Y, Y = (w3.alloc (.cells #[.int .i64 id, .bool false, .slice oa1 na1 ma1, .slice ob1 nb1 mb1] 25)) := ⟨_, rfl⟩
  have hbY : Below w3.heap.size w3 Y4 := by rw [hY]; exact below_new (Below.refl _ _) _
  have hle : w.heap.size ≤ w3.heap.size := hB.size
  obtain ⟨gx, hgx⟩ : ∃ g, g = w3.heap.size := ⟨_, rfl⟩
  have rx : RowAt Y4 gx [.int .i64 id, .bool false, .slice oa1 na1 ma1, .slice ob1 nb1 mb1] 25 := by
    have h := RowAt.new w3 [.int .i64 id, .bool false, .slice oa1 na1 ma1, .slice ob1 nb1 mb1] 25
    rw [hgx, hY]; exact h
  have lex : w.heap.size ≤ gx := by omega
  have nerx : gr ≠ gx := by have := RowAt.lt rr; omega
  have neex : ge ≠ gx := by have := RowAt.lt re; omega
  replace rr := RowAt.below rr hbY
  replace re := RowAt.below re hbY
  replace ha0 := ha0.keep hbY
  replace hb0 := hb0.keep hbY
  replace ha1 := ha1.keep hbY
  replace hb1 := hb1.keep hbY
  replace hB := below2 hB hbY
  go_upto_region 4 with fail
  rw [← hY, ← hgx]
  clear hY hbY hle hgx
  obtain ⟨x0, x1, x2, x3, xf⟩ := cells4 rx
  go_wp2_with fail
  clear x0 x1 x2 x3 xf
  go_at_call 11; refine (c2 _ _ _ ha1 hb1).mono ?_; rintro e w5 ⟨rfl, hb⟩
  replace rr := RowAt.below rr hb
  replace re := RowAt.below re hb
  replace rx := RowAt.below rx hb
  replace ha0 := ha0.keep hb
  replace hb0 := hb0.keep hb
  replace ha1 := ha1.keep hb
  replace hb1 := hb1.keep hb
  replace hB := below2 hB hb
  clear hb
  obtain ⟨x0, x1, x2, x3, xf⟩ := cells4 rx
  obtain ⟨r0, r1, r2, r3, rf⟩ := cells4 rr
  obtain ⟨e0, e1, e2, e3, e4, e5, e6, e7, e8, e9, e10, e11, ef⟩ := cells12 re
  go_wp2_with fail
  go_ret
  exact ⟨rfl, hB⟩
set_option maxHeartbeats 16000000 in
set_option maxRecDepth 20000 in
theorem walk_3 (id : Int) (up : Bool) (rts : List Rt) (lks : List Lk) (o2 o3 : Option Addr) (n2 n3 m2 m3 : Nat) (router : Int) (seq : Nat) (time : Int) (pf : Pf) (act : Ac) (iface peer : Int) (xi : Int) (xu : Bool) (xr : List Rt) (xl : List Lk) (z : Int) (w : World) (ha0 : HasRts w (.slice o2 n2 m2) rts) (hb0 : HasLks w (.slice o3 n3 m3) lks)
    (c1 : ∀ W, HasRts W (.slice o2 n2 m2) rts → HasLks W (.slice o3 n3 m3) lks → Calls Try.prog 10 #[.agg #[.int .i64 id, .bool up, .slice o2 n2 m2, .slice o3 n3 m3], .agg #[.int .u8 3, .int .i64 router, .int .u64 (seq : Int), .int .i64 time, .bool pf.six, .int .u64 (hiN pf.n : Int), .int .u64 (loN pf.n : Int), .int .i64 pf.len, .int .u8 (act.k : Int), .int .i64 act.i, .int .i64 iface, .int .i64 peer]] W (RoAt id true xr lks 0 W))
    (c2 : ∀ W u v, HasRts W u xr → HasLks W v lks → Calls Try.prog 11 #[.agg #[.int .i64 id, .bool true, u, v]] W fun e w' => e = .returned (.int .i64 0) ∧ Below W.heap.size W w') :
    Calls Try.prog 4 #[.agg #[.int .i64 id, .bool up, .slice o2 n2 m2, .slice o3 n3 m3], .agg #[.int .u8 3, .int .i64 router, .int .u64 (seq : Int), .int .i64 time, .bool pf.six, .int .u64 (hiN pf.n : Int), .int .u64 (loN pf.n : Int), .int .i64 pf.len, .int .u8 (act.k : Int), .int .i64 act.i, .int .i64 iface, .int .i64 peer]] w (BoolIs true w) := by
  have hB := Below.refl w.heap.size w
  go_enter Try.func4, Try.ntmps4
  obtain ⟨Y1, hY⟩ : ∃ Y, Y = ((w.alloc (.cells #[.int .i64 id, .bool up, .slice o2 n2 m2, .slice o3 n3 m3] 25)).alloc (.cells #[.int .u8 3, .int .i64 router, .int .u64 (seq : Int), .int .i64 time, .bool pf.six, .int .u64 (hiN pf.n : Int), .int .u64 (loN pf.n : Int), .int .i64 pf.len, .int .u8 (act.k : Int), .int .i64 act.i, .int .i64 iface, .int .i64 peer] 44)) := ⟨_, rfl⟩
  have hbY : Below w.heap.size w Y1 := by rw [hY]; exact below_new (below_new (Below.refl _ _) _) _
  have hle : w.heap.size ≤ w.heap.size := hB.size
  obtain ⟨gr, hgr⟩ : ∃ g, g = w.heap.size := ⟨_, rfl⟩
  have rr : RowAt Y1 gr [.int .i64 id, .bool up, .slice o2 n2 m2, .slice o3 n3 m3] 25 := by
    have h := (RowAt.new w [.int .i64 id, .bool up, .slice o2 n2 m2, .slice o3 n3 m3] 25).alloc (.cells #[.int .u8 3, .int .i64 router, .int .u64 (seq : Int), .int .i64 time, .bool pf.six, .int .u64 (hiN pf.n : Int), .int .u64 (loN pf.n : Int), .int .i64 pf.len, .int .u8 (act.k : Int), .int .i64 act.i, .int .i64 iface, .int .i64 peer] 44)
    rw [hgr, hY]; exact h
  have ler : w.heap.size ≤ gr := by omega
  obtain ⟨ge, hge⟩ : ∃ g, g = w.heap.size + 1 := ⟨_, rfl⟩
  have re : RowAt Y1 ge [.int .u8 3, .int .i64 router, .int .u64 (seq : Int), .int .i64 time, .bool pf.six, .int .u64 (hiN pf.n : Int), .int .u64 (loN pf.n : Int), .int .i64 pf.len, .int .u8 (act.k : Int), .int .i64 act.i, .int .i64 iface, .int .i64 peer] 44 := by
    have h := RowAt.new (w.alloc (.cells #[.int .i64 id, .bool up, .slice o2 n2 m2, .slice o3 n3 m3] 25)) [.int .u8 3, .int .i64 router, .int .u64 (seq : Int), .int .i64 time, .bool pf.six, .int .u64 (hiN pf.n : Int), .int .u64 (loN pf.n : Int), .int .i64 pf.len, .int .u8 (act.k : Int), .int .i64 act.i, .int .i64 iface, .int .i64 peer] 44
    simp only [World.size_alloc] at h
    rw [hge, hY]; exact h
  have lee : w.heap.size ≤ ge := by omega
  have nere : gr ≠ ge := by omega
  replace ha0 := ha0.keep hbY
  replace hb0 := hb0.keep hbY
  replace hB := below2 hB hbY
  go_upto_region 1 with fail
  rw [← hY, ← hge, ← hgr]
  clear hY hbY hle hgr hge
  go_wp2_with fail
  go_at_call 9; refine (lives_any _).mono ?_; rintro e w2 ⟨rfl, hb⟩
  replace rr := RowAt.below rr hb
  replace re := RowAt.below re hb
  replace ha0 := ha0.keep hb
  replace hb0 := hb0.keep hb
  replace hB := below2 hB hb
  clear hb
  obtain ⟨r0, r1, r2, r3, rf⟩ := cells4 rr
  obtain ⟨e0, e1, e2, e3, e4, e5, e6, e7, e8, e9, e10, e11, ef⟩ := cells12 re
  go_wp2_with fail
  clear r0 r1 r2 r3 rf e0 e1 e2 e3 e4 e5 e6 e7 e8 e9 e10 e11 ef
  go_at_call 10; refine (c1 _ ha0 hb0).mono ?_; rintro e w3 ⟨oa1, na1, ma1, ob1, nb1, mb1, rfl, ha1, hb1, hb⟩
  replace rr := RowAt.below rr hb
  replace re := RowAt.below re hb
  replace ha0 := ha0.keep hb
  replace hb0 := hb0.keep hb
  replace hB := below2 hB hb
  clear hb
  obtain ⟨Y4, hY⟩ : ∃ Y, Y = (w3.alloc (.cells #[.int .i64 id, .bool true, .slice oa1 na1 ma1, .slice ob1 nb1 mb1] 25)) := ⟨_, rfl⟩
  have hbY : Below w3.heap.size w3 Y4 := by rw [hY]; exact below_new (Below.refl _ _) _
  have hle : w.heap.size ≤ w3.heap.size := hB.size
  obtain ⟨gx, hgx⟩ : ∃ g, g = w3.heap.size := ⟨_, rfl⟩
  have rx : RowAt Y4 gx [.int .i64 id, .bool true, .slice oa1 na1 ma1, .slice ob1 nb1 mb1] 25 := by
    have h := RowAt.new w3 [.int .i64 id, .bool true, .slice oa1 na1 ma1, .slice ob1 nb1 mb1] 25
    rw [hgx, hY]; exact h
  have lex : w.heap.size ≤ gx := by omega
  have nerx : gr ≠ gx := by have := RowAt.lt rr; omega
  have neex : ge ≠ gx := by have := RowAt.lt re; omega
  replace rr := RowAt.below rr hbY
  replace re := RowAt.below re hbY
  replace ha0 := ha0.keep hbY
  replace hb0 := hb0.keep hbY
  replace ha1 := ha1.keep hbY
  replace hb1 := hb1.keep hbY
  replace hB := below2 hB hbY
  go_upto_region 4 with fail
  rw [← hY, ← hgx]
  clear hY hbY hle hgx
  obtain ⟨x0, x1, x2, x3, xf⟩ := cells4 rx
  go_wp2_with fail
  clear x0 x1 x2 x3 xf
  go_at_call 11; refine (c2 _ _ _ ha1 hb1).mono ?_; rintro e w5 ⟨rfl, hb⟩
  replace rr := RowAt.below rr hb
  replace re := RowAt.below re hb
  replace rx := RowAt.below rx hb
  replace ha0 := ha0.keep hb
  replace hb0 := hb0.keep hb
  replace ha1 := ha1.keep hb
  replace hb1 := hb1.keep hb
  replace hB := below2 hB hb
  clear hb
  obtain ⟨x0, x1, x2, x3, xf⟩ := cells4 rx
  obtain ⟨r0, r1, r2, r3, rf⟩ := cells4 rr
  obtain ⟨e0, e1, e2, e3, e4, e5, e6, e7, e8, e9, e10, e11, ef⟩ := cells12 re
  go_wp2_with fail
  clear x0 x1 x2 x3 xf r0 r1 r2 r3 rf e0 e1 e2 e3 e4 e5 e6 e7 e8 e9 e10 e11 ef
  go_at_call 13; refine (Lk.same_any lks _ _ _ hb1 hb0).mono ?_; rintro e w6 ⟨rfl, hb⟩
  replace rr := RowAt.below rr hb
  replace re := RowAt.below re hb
  replace rx := RowAt.below rx hb
  replace ha0 := ha0.keep hb
  replace hb0 := hb0.keep hb
  replace ha1 := ha1.keep hb
  replace hb1 := hb1.keep hb
  replace hB := below2 hB hb
  clear hb
  go_wp2_with fail
  go_ret
  exact ⟨rfl, hB⟩
set_option maxHeartbeats 16000000 in
set_option maxRecDepth 20000 in
theorem walk_4 (id : Int) (up : Bool) (rts : List Rt) (lks : List Lk) (o2 o3 : Option Addr) (n2 n3 m2 m3 : Nat) (router : Int) (seq : Nat) (time : Int) (pf : Pf) (act : Ac) (iface peer : Int) (xi : Int) (xu : Bool) (xr : List Rt) (xl : List Lk) (z : Int) (w : World) (ha0 : HasRts w (.slice o2 n2 m2) rts) (hb0 : HasLks w (.slice o3 n3 m3) lks)
    (c1 : ∀ W, HasRts W (.slice o2 n2 m2) rts → HasLks W (.slice o3 n3 m3) lks → Calls Try.prog 10 #[.agg #[.int .i64 id, .bool up, .slice o2 n2 m2, .slice o3 n3 m3], .agg #[.int .u8 4, .int .i64 router, .int .u64 (seq : Int), .int .i64 time, .bool pf.six, .int .u64 (hiN pf.n : Int), .int .u64 (loN pf.n : Int), .int .i64 pf.len, .int .u8 (act.k : Int), .int .i64 act.i, .int .i64 iface, .int .i64 peer]] W (RoAt id true xr lks 0 W))
    (c2 : ∀ W u v, HasRts W u xr → HasLks W v lks → Calls Try.prog 11 #[.agg #[.int .i64 id, .bool true, u, v]] W fun e w' => e = .returned (.int .i64 0) ∧ Below W.heap.size W w') :
    Calls Try.prog 4 #[.agg #[.int .i64 id, .bool up, .slice o2 n2 m2, .slice o3 n3 m3], .agg #[.int .u8 4, .int .i64 router, .int .u64 (seq : Int), .int .i64 time, .bool pf.six, .int .u64 (hiN pf.n : Int), .int .u64 (loN pf.n : Int), .int .i64 pf.len, .int .u8 (act.k : Int), .int .i64 act.i, .int .i64 iface, .int .i64 peer]] w (BoolIs true w) := by
  have hB := Below.refl w.heap.size w
  go_enter Try.func4, Try.ntmps4
  obtain ⟨Y1, hY⟩ : ∃ Y, Y = ((w.alloc (.cells #[.int .i64 id, .bool up, .slice o2 n2 m2, .slice o3 n3 m3] 25)).alloc (.cells #[.int .u8 4, .int .i64 router, .int .u64 (seq : Int), .int .i64 time, .bool pf.six, .int .u64 (hiN pf.n : Int), .int .u64 (loN pf.n : Int), .int .i64 pf.len, .int .u8 (act.k : Int), .int .i64 act.i, .int .i64 iface, .int .i64 peer] 44)) := ⟨_, rfl⟩
  have hbY : Below w.heap.size w Y1 := by rw [hY]; exact below_new (below_new (Below.refl _ _) _) _
  have hle : w.heap.size ≤ w.heap.size := hB.size
  obtain ⟨gr, hgr⟩ : ∃ g, g = w.heap.size := ⟨_, rfl⟩
  have rr : RowAt Y1 gr [.int .i64 id, .bool up, .slice o2 n2 m2, .slice o3 n3 m3] 25 := by
    have h := (RowAt.new w [.int .i64 id, .bool up, .slice o2 n2 m2, .slice o3 n3 m3] 25).alloc (.cells #[.int .u8 4, .int .i64 router, .int .u64 (seq : Int), .int .i64 time, .bool pf.six, .int .u64 (hiN pf.n : Int), .int .u64 (loN pf.n : Int), .int .i64 pf.len, .int .u8 (act.k : Int), .int .i64 act.i, .int .i64 iface, .int .i64 peer] 44)
    rw [hgr, hY]; exact h
  have ler : w.heap.size ≤ gr := by omega
  obtain ⟨ge, hge⟩ : ∃ g, g = w.heap.size + 1 := ⟨_, rfl⟩
  have re : RowAt Y1 ge [.int .u8 4, .int .i64 router, .int .u64 (seq : Int), .int .i64 time, .bool pf.six, .int .u64 (hiN pf.n : Int), .int .u64 (loN pf.n : Int), .int .i64 pf.len, .int .u8 (act.k : Int), .int .i64 act.i, .int .i64 iface, .int .i64 peer] 44 := by
    have h := RowAt.new (w.alloc (.cells #[.int .i64 id, .bool up, .slice o2 n2 m2, .slice o3 n3 m3] 25)) [.int .u8 4, .int .i64 router, .int .u64 (seq : Int), .int .i64 time, .bool pf.six, .int .u64 (hiN pf.n : Int), .int .u64 (loN pf.n : Int), .int .i64 pf.len, .int .u8 (act.k : Int), .int .i64 act.i, .int .i64 iface, .int .i64 peer] 44
    simp only [World.size_alloc] at h
    rw [hge, hY]; exact h
  have lee : w.heap.size ≤ ge := by omega
  have nere : gr ≠ ge := by omega
  replace ha0 := ha0.keep hbY
  replace hb0 := hb0.keep hbY
  replace hB := below2 hB hbY
  go_upto_region 1 with fail
  rw [← hY, ← hge, ← hgr]
  clear hY hbY hle hgr hge
  go_wp2_with fail
  go_at_call 9; refine (lives_any _).mono ?_; rintro e w2 ⟨rfl, hb⟩
  replace rr := RowAt.below rr hb
  replace re := RowAt.below re hb
  replace ha0 := ha0.keep hb
  replace hb0 := hb0.keep hb
  replace hB := below2 hB hb
  clear hb
  obtain ⟨r0, r1, r2, r3, rf⟩ := cells4 rr
  obtain ⟨e0, e1, e2, e3, e4, e5, e6, e7, e8, e9, e10, e11, ef⟩ := cells12 re
  go_wp2_with fail
  clear r0 r1 r2 r3 rf e0 e1 e2 e3 e4 e5 e6 e7 e8 e9 e10 e11 ef
  go_at_call 10; refine (c1 _ ha0 hb0).mono ?_; rintro e w3 ⟨oa1, na1, ma1, ob1, nb1, mb1, rfl, ha1, hb1, hb⟩
  replace rr := RowAt.below rr hb
  replace re := RowAt.below re hb
  replace ha0 := ha0.keep hb
  replace hb0 := hb0.keep hb
  replace hB := below2 hB hb
  clear hb
  obtain ⟨Y4, hY⟩ : ∃ Y, Y = (w3.alloc (.cells #[.int .i64 id, .bool true, .slice oa1 na1 ma1, .slice ob1 nb1 mb1] 25)) := ⟨_, rfl⟩
  have hbY : Below w3.heap.size w3 Y4 := by rw [hY]; exact below_new (Below.refl _ _) _
  have hle : w.heap.size ≤ w3.heap.size := hB.size
  obtain ⟨gx, hgx⟩ : ∃ g, g = w3.heap.size := ⟨_, rfl⟩
  have rx : RowAt Y4 gx [.int .i64 id, .bool true, .slice oa1 na1 ma1, .slice ob1 nb1 mb1] 25 := by
    have h := RowAt.new w3 [.int .i64 id, .bool true, .slice oa1 na1 ma1, .slice ob1 nb1 mb1] 25
    rw [hgx, hY]; exact h
  have lex : w.heap.size ≤ gx := by omega
  have nerx : gr ≠ gx := by have := RowAt.lt rr; omega
  have neex : ge ≠ gx := by have := RowAt.lt re; omega
  replace rr := RowAt.below rr hbY
  replace re := RowAt.below re hbY
  replace ha0 := ha0.keep hbY
  replace hb0 := hb0.keep hbY
  replace ha1 := ha1.keep hbY
  replace hb1 := hb1.keep hbY
  replace hB := below2 hB hbY
  go_upto_region 4 with fail
  rw [← hY, ← hgx]
  clear hY hbY hle hgx
  obtain ⟨x0, x1, x2, x3, xf⟩ := cells4 rx
  go_wp2_with fail
  clear x0 x1 x2 x3 xf
  go_at_call 11; refine (c2 _ _ _ ha1 hb1).mono ?_; rintro e w5 ⟨rfl, hb⟩
  replace rr := RowAt.below rr hb
  replace re := RowAt.below re hb
  replace rx := RowAt.below rx hb
  replace ha0 := ha0.keep hb
  replace hb0 := hb0.keep hb
  replace ha1 := ha1.keep hb
  replace hb1 := hb1.keep hb
  replace hB := below2 hB hb
  clear hb
  obtain ⟨x0, x1, x2, x3, xf⟩ := cells4 rx
  obtain ⟨r0, r1, r2, r3, rf⟩ := cells4 rr
  obtain ⟨e0, e1, e2, e3, e4, e5, e6, e7, e8, e9, e10, e11, ef⟩ := cells12 re
  go_wp2_with fail
  clear x0 x1 x2 x3 xf r0 r1 r2 r3 rf e0 e1 e2 e3 e4 e5 e6 e7 e8 e9 e10 e11 ef
  go_at_call 13; refine (Lk.same_any lks _ _ _ hb1 hb0).mono ?_; rintro e w6 ⟨rfl, hb⟩
  replace rr := RowAt.below rr hb
  replace re := RowAt.below re hb
  replace rx := RowAt.below rx hb
  replace ha0 := ha0.keep hb
  replace hb0 := hb0.keep hb
  replace ha1 := ha1.keep hb
  replace hb1 := hb1.keep hb
  replace hB := below2 hB hb
  clear hb
  go_wp2_with fail
  go_ret
  exact ⟨rfl, hB⟩
set_option maxHeartbeats 16000000 in
set_option maxRecDepth 20000 in
theorem walk_5 (id : Int) (up : Bool) (rts : List Rt) (lks : List Lk) (o2 o3 : Option Addr) (n2 n3 m2 m3 : Nat) (router : Int) (seq : Nat) (time : Int) (pf : Pf) (act : Ac) (iface peer : Int) (xi : Int) (xu : Bool) (xr : List Rt) (xl : List Lk) (z : Int) (w : World) (ha0 : HasRts w (.slice o2 n2 m2) rts) (hb0 : HasLks w (.slice o3 n3 m3) lks)
    (c1 : ∀ W, HasRts W (.slice o2 n2 m2) rts → HasLks W (.slice o3 n3 m3) lks → Calls Try.prog 10 #[.agg #[.int .i64 id, .bool up, .slice o2 n2 m2, .slice o3 n3 m3], .agg #[.int .u8 5, .int .i64 router, .int .u64 (seq : Int), .int .i64 time, .bool pf.six, .int .u64 (hiN pf.n : Int), .int .u64 (loN pf.n : Int), .int .i64 pf.len, .int .u8 (act.k : Int), .int .i64 act.i, .int .i64 iface, .int .i64 peer]] W (RoAt id true rts xl 0 W))
    (c2 : ∀ W u v, HasRts W u rts → HasLks W v xl → Calls Try.prog 11 #[.agg #[.int .i64 id, .bool true, u, v]] W fun e w' => e = .returned (.int .i64 0) ∧ Below W.heap.size W w') :
    Calls Try.prog 4 #[.agg #[.int .i64 id, .bool up, .slice o2 n2 m2, .slice o3 n3 m3], .agg #[.int .u8 5, .int .i64 router, .int .u64 (seq : Int), .int .i64 time, .bool pf.six, .int .u64 (hiN pf.n : Int), .int .u64 (loN pf.n : Int), .int .i64 pf.len, .int .u8 (act.k : Int), .int .i64 act.i, .int .i64 iface, .int .i64 peer]] w (BoolIs true w) := by
  have hB := Below.refl w.heap.size w
  go_enter Try.func4, Try.ntmps4
  obtain ⟨Y1, hY⟩ : ∃ Y, Y = ((w.alloc (.cells #[.int .i64 id, .bool up, .slice o2 n2 m2, .slice o3 n3 m3] 25)).alloc (.cells #[.int .u8 5, .int .i64 router, .int .u64 (seq : Int), .int .i64 time, .bool pf.six, .int .u64 (hiN pf.n : Int), .int .u64 (loN pf.n : Int), .int .i64 pf.len, .int .u8 (act.k : Int), .int .i64 act.i, .int .i64 iface, .int .i64 peer] 44)) := ⟨_, rfl⟩
  have hbY : Below w.heap.size w Y1 := by rw [hY]; exact below_new (below_new (Below.refl _ _) _) _
  have hle : w.heap.size ≤ w.heap.size := hB.size
  obtain ⟨gr, hgr⟩ : ∃ g, g = w.heap.size := ⟨_, rfl⟩
  have rr : RowAt Y1 gr [.int .i64 id, .bool up, .slice o2 n2 m2, .slice o3 n3 m3] 25 := by
    have h := (RowAt.new w [.int .i64 id, .bool up, .slice o2 n2 m2, .slice o3 n3 m3] 25).alloc (.cells #[.int .u8 5, .int .i64 router, .int .u64 (seq : Int), .int .i64 time, .bool pf.six, .int .u64 (hiN pf.n : Int), .int .u64 (loN pf.n : Int), .int .i64 pf.len, .int .u8 (act.k : Int), .int .i64 act.i, .int .i64 iface, .int .i64 peer] 44)
    rw [hgr, hY]; exact h
  have ler : w.heap.size ≤ gr := by omega
  obtain ⟨ge, hge⟩ : ∃ g, g = w.heap.size + 1 := ⟨_, rfl⟩
  have re : RowAt Y1 ge [.int .u8 5, .int .i64 router, .int .u64 (seq : Int), .int .i64 time, .bool pf.six, .int .u64 (hiN pf.n : Int), .int .u64 (loN pf.n : Int), .int .i64 pf.len, .int .u8 (act.k : Int), .int .i64 act.i, .int .i64 iface, .int .i64 peer] 44 := by
    have h := RowAt.new (w.alloc (.cells #[.int .i64 id, .bool up, .slice o2 n2 m2, .slice o3 n3 m3] 25)) [.int .u8 5, .int .i64 router, .int .u64 (seq : Int), .int .i64 time, .bool pf.six, .int .u64 (hiN pf.n : Int), .int .u64 (loN pf.n : Int), .int .i64 pf.len, .int .u8 (act.k : Int), .int .i64 act.i, .int .i64 iface, .int .i64 peer] 44
    simp only [World.size_alloc] at h
    rw [hge, hY]; exact h
  have lee : w.heap.size ≤ ge := by omega
  have nere : gr ≠ ge := by omega
  replace ha0 := ha0.keep hbY
  replace hb0 := hb0.keep hbY
  replace hB := below2 hB hbY
  go_upto_region 1 with fail
  rw [← hY, ← hge, ← hgr]
  clear hY hbY hle hgr hge
  go_wp2_with fail
  go_at_call 9; refine (lives_any _).mono ?_; rintro e w2 ⟨rfl, hb⟩
  replace rr := RowAt.below rr hb
  replace re := RowAt.below re hb
  replace ha0 := ha0.keep hb
  replace hb0 := hb0.keep hb
  replace hB := below2 hB hb
  clear hb
  obtain ⟨r0, r1, r2, r3, rf⟩ := cells4 rr
  obtain ⟨e0, e1, e2, e3, e4, e5, e6, e7, e8, e9, e10, e11, ef⟩ := cells12 re
  go_wp2_with fail
  clear r0 r1 r2 r3 rf e0 e1 e2 e3 e4 e5 e6 e7 e8 e9 e10 e11 ef
  go_at_call 10; refine (c1 _ ha0 hb0).mono ?_; rintro e w3 ⟨oa1, na1, ma1, ob1, nb1, mb1, rfl, ha1, hb1, hb⟩
  replace rr := RowAt.below rr hb
  replace re := RowAt.below re hb
  replace ha0 := ha0.keep hb
  replace hb0 := hb0.keep hb
  replace hB := below2 hB hb
  clear hb
  obtain ⟨Y4, hY⟩ : ∃ Y, Y = (w3.alloc (.cells #[.int .i64 id, .bool true, .slice oa1 na1 ma1, .slice ob1 nb1 mb1] 25)) := ⟨_, rfl⟩
  have hbY : Below w3.heap.size w3 Y4 := by rw [hY]; exact below_new (Below.refl _ _) _
  have hle : w.heap.size ≤ w3.heap.size := hB.size
  obtain ⟨gx, hgx⟩ : ∃ g, g = w3.heap.size := ⟨_, rfl⟩
  have rx : RowAt Y4 gx [.int .i64 id, .bool true, .slice oa1 na1 ma1, .slice ob1 nb1 mb1] 25 := by
    have h := RowAt.new w3 [.int .i64 id, .bool true, .slice oa1 na1 ma1, .slice ob1 nb1 mb1] 25
    rw [hgx, hY]; exact h
  have lex : w.heap.size ≤ gx := by omega
  have nerx : gr ≠ gx := by have := RowAt.lt rr; omega
  have neex : ge ≠ gx := by have := RowAt.lt re; omega
  replace rr := RowAt.below rr hbY
  replace re := RowAt.below re hbY
  replace ha0 := ha0.keep hbY
  replace hb0 := hb0.keep hbY
  replace ha1 := ha1.keep hbY
  replace hb1 := hb1.keep hbY
  replace hB := below2 hB hbY
  go_upto_region 4 with fail
  rw [← hY, ← hgx]
  clear hY hbY hle hgx
  obtain ⟨x0, x1, x2, x3, xf⟩ := cells4 rx
  go_wp2_with fail
  clear x0 x1 x2 x3 xf
  go_at_call 11; refine (c2 _ _ _ ha1 hb1).mono ?_; rintro e w5 ⟨rfl, hb⟩
  replace rr := RowAt.below rr hb
  replace re := RowAt.below re hb
  replace rx := RowAt.below rx hb
  replace ha0 := ha0.keep hb
  replace hb0 := hb0.keep hb
  replace ha1 := ha1.keep hb
  replace hb1 := hb1.keep hb
  replace hB := below2 hB hb
  clear hb
  obtain ⟨x0, x1, x2, x3, xf⟩ := cells4 rx
  obtain ⟨r0, r1, r2, r3, rf⟩ := cells4 rr
  obtain ⟨e0, e1, e2, e3, e4, e5, e6, e7, e8, e9, e10, e11, ef⟩ := cells12 re
  go_wp2_with fail
  clear x0 x1 x2 x3 xf r0 r1 r2 r3 rf e0 e1 e2 e3 e4 e5 e6 e7 e8 e9 e10 e11 ef
  go_at_call 12; refine (Tr.same_any rts _ _ _ ha1 ha0).mono ?_; rintro e w6 ⟨rfl, hb⟩
  replace rr := RowAt.below rr hb
  replace re := RowAt.below re hb
  replace rx := RowAt.below rx hb
  replace ha0 := ha0.keep hb
  replace hb0 := hb0.keep hb
  replace ha1 := ha1.keep hb
  replace hb1 := hb1.keep hb
  replace hB := below2 hB hb
  clear hb
  go_wp2_with fail
  go_ret
  exact ⟨rfl, hB⟩
set_option maxHeartbeats 16000000 in
set_option maxRecDepth 20000 in
theorem walk_6 (id : Int) (up : Bool) (rts : List Rt) (lks : List Lk) (o2 o3 : Option Addr) (n2 n3 m2 m3 : Nat) (router : Int) (seq : Nat) (time : Int) (pf : Pf) (act : Ac) (iface peer : Int) (xi : Int) (xu : Bool) (xr : List Rt) (xl : List Lk) (z : Int) (w : World) (ha0 : HasRts w (.slice o2 n2 m2) rts) (hb0 : HasLks w (.slice o3 n3 m3) lks)
    (c1 : ∀ W, HasRts W (.slice o2 n2 m2) rts → HasLks W (.slice o3 n3 m3) lks → Calls Try.prog 10 #[.agg #[.int .i64 id, .bool up, .slice o2 n2 m2, .slice o3 n3 m3], .agg #[.int .u8 6, .int .i64 router, .int .u64 (seq : Int), .int .i64 time, .bool pf.six, .int .u64 (hiN pf.n : Int), .int .u64 (loN pf.n : Int), .int .i64 pf.len, .int .u8 (act.k : Int), .int .i64 act.i, .int .i64 iface, .int .i64 peer]] W (RoAt id true rts xl 0 W))
    (c2 : ∀ W u v, HasRts W u rts → HasLks W v xl → Calls Try.prog 11 #[.agg #[.int .i64 id, .bool true, u, v]] W fun e w' => e = .returned (.int .i64 0) ∧ Below W.heap.size W w') :
    Calls Try.prog 4 #[.agg #[.int .i64 id, .bool up, .slice o2 n2 m2, .slice o3 n3 m3], .agg #[.int .u8 6, .int .i64 router, .int .u64 (seq : Int), .int .i64 time, .bool pf.six, .int .u64 (hiN pf.n : Int), .int .u64 (loN pf.n : Int), .int .i64 pf.len, .int .u8 (act.k : Int), .int .i64 act.i, .int .i64 iface, .int .i64 peer]] w (BoolIs true w) := by
  have hB := Below.refl w.heap.size w
  go_enter Try.func4, Try.ntmps4
  obtain ⟨Y1, hY⟩ : ∃ Y, Y = ((w.alloc (.cells #[.int .i64 id, .bool up, .slice o2 n2 m2, .slice o3 n3 m3] 25)).alloc (.cells #[.int .u8 6, .int .i64 router, .int .u64 (seq : Int), .int .i64 time, .bool pf.six, .int .u64 (hiN pf.n : Int), .int .u64 (loN pf.n : Int), .int .i64 pf.len, .int .u8 (act.k : Int), .int .i64 act.i, .int .i64 iface, .int .i64 peer] 44)) := ⟨_, rfl⟩
  have hbY : Below w.heap.size w Y1 := by rw [hY]; exact below_new (below_new (Below.refl _ _) _) _
  have hle : w.heap.size ≤ w.heap.size := hB.size
  obtain ⟨gr, hgr⟩ : ∃ g, g = w.heap.size := ⟨_, rfl⟩
  have rr : RowAt Y1 gr [.int .i64 id, .bool up, .slice o2 n2 m2, .slice o3 n3 m3] 25 := by
    have h := (RowAt.new w [.int .i64 id, .bool up, .slice o2 n2 m2, .slice o3 n3 m3] 25).alloc (.cells #[.int .u8 6, .int .i64 router, .int .u64 (seq : Int), .int .i64 time, .bool pf.six, .int .u64 (hiN pf.n : Int), .int .u64 (loN pf.n : Int), .int .i64 pf.len, .int .u8 (act.k : Int), .int .i64 act.i, .int .i64 iface, .int .i64 peer] 44)
    rw [hgr, hY]; exact h
  have ler : w.heap.size ≤ gr := by omega
  obtain ⟨ge, hge⟩ : ∃ g, g = w.heap.size + 1 := ⟨_, rfl⟩
  have re : RowAt Y1 ge [.int .u8 6, .int .i64 router, .int .u64 (seq : Int), .int .i64 time, .bool pf.six, .int .u64 (hiN pf.n : Int), .int .u64 (loN pf.n : Int), .int .i64 pf.len, .int .u8 (act.k : Int), .int .i64 act.i, .int .i64 iface, .int .i64 peer] 44 := by
    have h := RowAt.new (w.alloc (.cells #[.int .i64 id, .bool up, .slice o2 n2 m2, .slice o3 n3 m3] 25)) [.int .u8 6, .int .i64 router, .int .u64 (seq : Int), .int .i64 time, .bool pf.six, .int .u64 (hiN pf.n : Int), .int .u64 (loN pf.n : Int), .int .i64 pf.len, .int .u8 (act.k : Int), .int .i64 act.i, .int .i64 iface, .int .i64 peer] 44
    simp only [World.size_alloc] at h
    rw [hge, hY]; exact h
  have lee : w.heap.size ≤ ge := by omega
  have nere : gr ≠ ge := by omega
  replace ha0 := ha0.keep hbY
  replace hb0 := hb0.keep hbY
  replace hB := below2 hB hbY
  go_upto_region 1 with fail
  rw [← hY, ← hge, ← hgr]
  clear hY hbY hle hgr hge
  go_wp2_with fail
  go_at_call 9; refine (lives_any _).mono ?_; rintro e w2 ⟨rfl, hb⟩
  replace rr := RowAt.below rr hb
  replace re := RowAt.below re hb
  replace ha0 := ha0.keep hb
  replace hb0 := hb0.keep hb
  replace hB := below2 hB hb
  clear hb
  obtain ⟨r0, r1, r2, r3, rf⟩ := cells4 rr
  obtain ⟨e0, e1, e2, e3, e4, e5, e6, e7, e8, e9, e10, e11, ef⟩ := cells12 re
  go_wp2_with fail
  clear r0 r1 r2 r3 rf e0 e1 e2 e3 e4 e5 e6 e7 e8 e9 e10 e11 ef
  go_at_call 10; refine (c1 _ ha0 hb0).mono ?_; rintro e w3 ⟨oa1, na1, ma1, ob1, nb1, mb1, rfl, ha1, hb1, hb⟩
  replace rr := RowAt.below rr hb
  replace re := RowAt.below re hb
  replace ha0 := ha0.keep hb
  replace hb0 := hb0.keep hb
  replace hB := below2 hB hb
  clear hb
  obtain ⟨Y4, hY⟩ : ∃ Y, Y = (w3.alloc (.cells #[.int .i64 id, .bool true, .slice oa1 na1 ma1, .slice ob1 nb1 mb1] 25)) := ⟨_, rfl⟩
  have hbY : Below w3.heap.size w3 Y4 := by rw [hY]; exact below_new (Below.refl _ _) _
  have hle : w.heap.size ≤ w3.heap.size := hB.size
  obtain ⟨gx, hgx⟩ : ∃ g, g = w3.heap.size := ⟨_, rfl⟩
  have rx : RowAt Y4 gx [.int .i64 id, .bool true, .slice oa1 na1 ma1, .slice ob1 nb1 mb1] 25 := by
    have h := RowAt.new w3 [.int .i64 id, .bool true, .slice oa1 na1 ma1, .slice ob1 nb1 mb1] 25
    rw [hgx, hY]; exact h
  have lex : w.heap.size ≤ gx := by omega
  have nerx : gr ≠ gx := by have := RowAt.lt rr; omega
  have neex : ge ≠ gx := by have := RowAt.lt re; omega
  replace rr := RowAt.below rr hbY
  replace re := RowAt.below re hbY
  replace ha0 := ha0.keep hbY
  replace hb0 := hb0.keep hbY
  replace ha1 := ha1.keep hbY
  replace hb1 := hb1.keep hbY
  replace hB := below2 hB hbY
  go_upto_region 4 with fail
  rw [← hY, ← hgx]
  clear hY hbY hle hgx
  obtain ⟨x0, x1, x2, x3, xf⟩ := cells4 rx
  go_wp2_with fail
  clear x0 x1 x2 x3 xf
  go_at_call 11; refine (c2 _ _ _ ha1 hb1).mono ?_; rintro e w5 ⟨rfl, hb⟩
  replace rr := RowAt.below rr hb
  replace re := RowAt.below re hb
  replace rx := RowAt.below rx hb
  replace ha0 := ha0.keep hb
  replace hb0 := hb0.keep hb
  replace ha1 := ha1.keep hb
  replace hb1 := hb1.keep hb
  replace hB := below2 hB hb
  clear hb
  obtain ⟨x0, x1, x2, x3, xf⟩ := cells4 rx
  obtain ⟨r0, r1, r2, r3, rf⟩ := cells4 rr
  obtain ⟨e0, e1, e2, e3, e4, e5, e6, e7, e8, e9, e10, e11, ef⟩ := cells12 re
  go_wp2_with fail
  clear x0 x1 x2 x3 xf r0 r1 r2 r3 rf e0 e1 e2 e3 e4 e5 e6 e7 e8 e9 e10 e11 ef
  go_at_call 12; refine (Tr.same_any rts _ _ _ ha1 ha0).mono ?_; rintro e w6 ⟨rfl, hb⟩
  replace rr := RowAt.below rr hb
  replace re := RowAt.below re hb
  replace rx := RowAt.below rx hb
  replace ha0 := ha0.keep hb
  replace hb0 := hb0.keep hb
  replace ha1 := ha1.keep hb
  replace hb1 := hb1.keep hb
  replace hB := below2 hB hb
  clear hb
  go_wp2_with fail
  go_ret
  exact ⟨rfl, hB⟩
theorem walk (R : Ro) (x y : Value) (e : Ev) (w : World) (b0 : HasRts w x R.rts) (c0 : HasLks w y R.lks) (f0 : FitRo R) (b1 : FitE e) :
    Calls Try.prog 4 #[.agg #[.int .i64 R.id, .bool R.up, x, y], evV e] w fun e w' => e = .returned (.bool true) ∧ Below w.heap.size w w' := by
  obtain ⟨o2, m2, rfl, _⟩ := Lk.HasRow.slice b0
  obtain ⟨o3, m3, rfl, _⟩ := Lk.HasRow.slice c0
  have fX := fit_apply f0 b1
  have c1 := fun W h h' => apply_any R e (.slice o2 R.rts.length m2) (.slice o3 R.lks.length m3) W h h' f0 b1
  have c2 := fun W u v h h' => check_any (applyRo R e).1 u v W h h' fX.rts
  rcases apply_cases R e with ⟨a1, a2, a3, a4, a5, a6, a7, a8, a9, a10⟩ | ⟨a1, a2⟩ | ⟨a1, a2, a3, a4⟩
  · rw [show checkRo (applyRo R e).1 = 0 by unfold checkRo; rw [a6]; rfl] at c2
    unfold RoIs at c1
    rw [a1, a7, a8] at c1
    rw [a7, a8] at c2
    have hk := (okE_parts a3).1
    obtain ⟨kind, router, seq, time, pf, act, iface, peer⟩ := e
    simp only at hk a8 a9 a10
    have hk6 : kind = 1 ∨ kind = 2 ∨ kind = 3 ∨ kind = 4 ∨ kind = 5 ∨ kind = 6 := by omega
    rcases hk6 with rfl | rfl | rfl | rfl | rfl | rfl
    · rw [a9 (by omega), a10 (by omega)] at c1 c2
      exact walk_1 R.id R.up R.rts R.lks o2 o3 _ _ m2 m3 router seq time pf act iface peer R.id R.up [] [] 0 w b0 c0 c1 c2
    · exact walk_2 R.id R.up R.rts R.lks o2 o3 _ _ m2 m3 router seq time pf act iface peer R.id R.up _ _ 0 w b0 c0 c1 c2
    · rw [a10 (by omega)] at c1 c2
      exact walk_3 R.id R.up R.rts R.lks o2 o3 _ _ m2 m3 router seq time pf act iface peer R.id R.up _ [] 0 w b0 c0 c1 c2
    · rw [a10 (by omega)] at c1 c2
      exact walk_4 R.id R.up R.rts R.lks o2 o3 _ _ m2 m3 router seq time pf act iface peer R.id R.up _ [] 0 w b0 c0 c1 c2
    · rw [a9 (by omega)] at c1 c2
      exact walk_5 R.id R.up R.rts R.lks o2 o3 _ _ m2 m3 router seq time pf act iface peer R.id R.up [] _ 0 w b0 c0 c1 c2
    · rw [a9 (by omega)] at c1 c2
      exact walk_6 R.id R.up R.rts R.lks o2 o3 _ _ m2 m3 router seq time pf act iface peer R.id R.up [] _ 0 w b0 c0 c1 c2
  · rw [a1] at c1
    exact walk_a R.id R.up R.rts R.lks o2 o3 _ _ m2 m3 e.kind e.router e.seq e.time e.pf e.act e.iface e.peer _ _ _ _ 0 w b0 c0 c1
  · rw [a3] at c1
    exact walk_b R.id R.up R.rts R.lks o2 o3 _ _ m2 m3 e.kind e.router e.seq e.time e.pf e.act e.iface e.peer R.id R.up [] [] _ w b0 c0 c1 a1 a2

set_option maxRecDepth 100000 in
theorem lifted (os : Os) (started : os.Started) (H : Type) (enc : TypeId × Value → H) :
    ReturnsInHanded {} Try.checked os 4 .any (Rows.fibRightSpec.pre6 enc Try.prog Try.f4 Rows.fibRightRow.domain false) (Rows.fibRightSpec.post enc Try.prog Try.f4 false true false false) := by
  refine returnsInHanded_of_change_sized (C := Try.checked) own started (by kernel_rfl) Try.func4
    (ChangeSpec.witness6 (enc := enc) (C := Try.checked) false ⟨#[], #[.agg #[.int .i64 0, .bool false, .slice none 0 0, .slice none 0 0], .agg #[.int .u8 0, .int .i64 0, .int .u64 0, .int .i64 0, .bool false, .int .u64 0, .int .u64 0, .int .i64 0, .int .u8 0, .int .i64 0, .int .i64 0, .int .i64 0]], []⟩ 8 (by kernel_rfl) (by kernel_rfl) (by kernel_rfl) (by kernel_rfl)) ?_
  intro W base args ds gs before hval0 hW _ hsz0 _
  have hsz : (DataW.weightsEach Try.prog (Try.f4.params.toList ++ Rows.fibRightSpec.plain.varTypes Try.prog) (ds ++ gs)).all (· ≤ reachBytes) = true := hsz0
  clear hsz0
  have hval : ∀ (j : Nat) t v, Try.f4.params[j]? = some t → args[j]? = some v → Value.okWide Try.prog W .any base t v := hval0
  have hW' := hW
  obtain ⟨p, q, hA0, hV, rfl, hfz, hnd⟩ := hW
  have hA : DataW.TrodAll enc Try.prog W 0 (fun _ => true) true Try.f4.params.toList args.toList ds p := hA0
  rw [Try.params4] at hA hval hsz
  obtain ⟨v0, vs0, d0, ds0, p0, q0, hargs, rfl, rfl, h0, r0⟩ := trodAll_cons hA
  obtain ⟨v1, vs1, d1, ds1, p1, q1, rfl, rfl, rfl, h1, r1⟩ := trodAll_cons r0
  obtain ⟨rfl, rfl, rfl⟩ := trodAll_nil r1
  obtain rfl : args = #[v0, v1] := by cases args; simp_all
  obtain ⟨rfl, rfl⟩ := trodVars_none hV
  have k0 := h0
  have lt0 : ∀ x ∈ p0, x.block < W.heap.size := by obtain ⟨m, hm⟩ := k0; exact DataW.trod_lt m _ _ _ hm
  obtain ⟨R0, x0, y0, rfl, b0, c0, f0⟩ := Fib.open_router (hval 0 25 v0 rfl rfl) h0
  have k1 := h1
  have lt1 : ∀ x ∈ p1, x.block < W.heap.size := by obtain ⟨m, hm⟩ := k1; exact DataW.trod_lt m _ _ _ hm
  obtain ⟨n1, rfl, b1⟩ := Msg.open_event (hval 1 44 v1 rfl rfl) h1
  clear hA0 hval0
  refine (walk R0 x0 y0 n1 W b0 c0 f0 b1).mono fun e W' ⟨he, bel⟩ => ?_
  subst he
  exact ⟨_, rfl, _, _, _, [], _, [], hW', trodAll_mk1 (shut_bool Try.underlying4 _), (trodAll_cons_mk (Below.trod laidOut (by kernel_rfl) (of_decide_eq_true (by kernel_rfl)) k0 bel lt0) (trodAll_cons_mk (Below.trod laidOut (by kernel_rfl) (of_decide_eq_true (by kernel_rfl)) k1 bel lt1) trodAll_mk0)), rfl, bel.frame _, fun h => by cases h⟩

theorem over : Rows.fibRightRow.holds Try.pinned (OpenSpec.ofChange Rows.fibRightSpec) :=
  OpenClaim.holds_of_wide 4 Try.f4 rfl rfl rfl rfl rfl rfl rfl ⟨rfl, rfl, rfl, rfl, rfl⟩ rfl rfl rfl rfl rfl (by kernel_rfl) Try.func4 (by kernel_rfl)
    (of_decide_eq_true (by kernel_rfl)) (by unfold Func.isWrapper; first | (rw [if_pos (by decide +kernel)]; kernel_rfl) | (rw [if_neg (by decide +kernel)]; exact ⟨rfl, rfl⟩))
    (fun os started H enc _ => lifted os started H enc)
end fibRight
theorem fright_holds : Rows.FibRightSaid := fibRight.over
#print axioms fright_holds
end Go.Proofs.Ytpooiehhepimkaa
