/- For all routers, kinds and addresses: spoorlaw17.FibEnded returns true, and changes nothing that was there. No condition. -/
import Derived.Test.YtpooiehhepimkaaRows
import Derived.Test.YtpooiehhepimkaaFibLZ
import Derived.Test.YtpooiehhepimkaaFibZ
import Derived.Test.YtpooiehhepimkaaAddrOpen
import Derived.Test.YtpooiehhepimkaaMsgOpen
import Derived.ProofKit
import Derived.OpenShut
import Derived.ShutString
import Derived.SizedLaws
set_option linter.unusedVariables false
namespace Go.Proofs.Ytpooiehhepimkaa
namespace fibEnded
open Go.ChangeShapes Go.WideShapes Go.ChangeAt Go.RowKit
open Go.ChangeMaps (open_string shut_string)
open Go.Proofs.Ytpooiehhepimkaa.Lk (Lk HasLks FitL lkV peerL HasLks.keep)
open Go.Proofs.Ytpooiehhepimkaa.Tr (Rt HasRts HasRts.keep FitR FitP)
open Go.Proofs.Ytpooiehhepimkaa.Msg (Ev Ac FitA FitE evV evC acV)
open Go.Proofs.Ytpooiehhepimkaa.Fib
open Go.Proofs.Ytpooiehhepimkaa.Addr (Pf pfV adV hasB hiN loN rightB RowAt below2 below_drew below_new bset RowAt.lt RowAt.cell RowAt.frozen RowAt.below RowAt.drew RowAt.new RowAt.alloc RowAt.gkeep cells2 cells4)
theorem own : ownKnob Try.prog.godebug = none := by kernel_rfl
theorem laidOut : laidOutB Try.prog = true := by kernel_rfl
set_option maxHeartbeats 16000000 in
set_option maxRecDepth 20000 in
theorem walk_no (id : Int) (up : Bool) (rts : List Rt) (lks : List Lk) (o2 o3 : Option Addr) (n2 n3 m2 m3 : Nat) (six : Bool) (a : Nat) (xi yi : Int) (xu yu : Bool) (xr yr : List Rt) (xl yl : List Lk) (z1 z2 z3 z4 : Int) (hk kk : Nat) (hp kp : Int) (w : World) (ha0 : HasRts w (.slice o2 n2 m2) rts) (hb0 : HasLks w (.slice o3 n3 m3) lks)
    (c1 : ∀ W, HasRts W (.slice o2 n2 m2) rts → HasLks W (.slice o3 n3 m3) lks → Calls Try.prog 10 #[.agg #[.int .i64 id, .bool up, .slice o2 n2 m2, .slice o3 n3 m3], .agg #[.int .u8 2, .int .i64 id, .int .u64 1, .int .i64 0, .bool false, .int .u64 0, .int .u64 0, .int .i64 0, .int .u8 0, .int .i64 0, .int .i64 0, .int .i64 0]] W (RoAt xi xu xr xl z1 W))
    (c2 : ∀ W u v, HasRts W u xr → HasLks W v xl → Calls Try.prog 10 #[.agg #[.int .i64 xi, .bool xu, u, v], .agg #[.int .u8 1, .int .i64 id, .int .u64 2, .int .i64 0, .bool false, .int .u64 0, .int .u64 0, .int .i64 0, .int .u8 0, .int .i64 0, .int .i64 0, .int .i64 0]] W (RoAt yi yu yr yl z2 W))
    (c3 : ∀ W u v, HasRts W u xr → HasLks W v xl → Calls Try.prog 7 #[.agg #[.int .i64 xi, .bool xu, u, v], .bool six, .agg #[.int .u64 (hiN a : Int), .int .u64 (loN a : Int)]] W fun e w' => e = .returned (.tuple #[.agg #[.int .u8 (hk : Int), .int .i64 hp], .int .i64 z3]) ∧ Below W.heap.size W w')
    (c4 : ∀ W u v, HasRts W u yr → HasLks W v yl → Calls Try.prog 7 #[.agg #[.int .i64 yi, .bool yu, u, v], .bool six, .agg #[.int .u64 (hiN a : Int), .int .u64 (loN a : Int)]] W fun e w' => e = .returned (.tuple #[.agg #[.int .u8 (kk : Int), .int .i64 kp], .int .i64 z4]) ∧ Below W.heap.size W w') (hw : ¬ z1 = 0) :
    Calls Try.prog 5 #[.agg #[.int .i64 id, .bool up, .slice o2 n2 m2, .slice o3 n3 m3], .bool six, .agg #[.int .u64 (hiN a : Int), .int .u64 (loN a : Int)]] w (BoolIs true w) := by
  skip
  have hB := Below.refl w.heap.size w
  go_enter Try.func5, Try.ntmps5
  obtain ⟨Y1, hY⟩ : ∃ Y, Y = ((w.alloc (.cells #[.int .i64 id, .bool up, .slice o2 n2 m2, .slice o3 n3 m3] 25)).alloc (.cells #[.int .u64 (hiN a : Int), .int .u64 (loN a : Int)] 28)) := ⟨_, rfl⟩
  have hbY : Below w.heap.size w Y1 := by rw [hY]; exact below_new (below_new (Below.refl _ _) _) _
  have hle : w.heap.size ≤ w.heap.size := hB.size
  obtain ⟨gr, hgr⟩ : ∃ g, g = w.heap.size := ⟨_, rfl⟩
  have rr : RowAt Y1 gr [.int .i64 id, .bool up, .slice o2 n2 m2, .slice o3 n3 m3] 25 := by
    have h := (RowAt.new w [.int .i64 id, .bool up, .slice o2 n2 m2, .slice o3 n3 m3] 25).alloc (.cells #[.int .u64 (hiN a : Int), .int .u64 (loN a : Int)] 28)
    rw [hgr, hY]; exact h
  have ler : w.heap.size ≤ gr := by omega
  obtain ⟨ga, hga⟩ : ∃ g, g = w.heap.size + 1 := ⟨_, rfl⟩
  have ra : RowAt Y1 ga [.int .u64 (hiN a : Int), .int .u64 (loN a : Int)] 28 := by
    have h := RowAt.new (w.alloc (.cells #[.int .i64 id, .bool up, .slice o2 n2 m2, .slice o3 n3 m3] 25)) [.int .u64 (hiN a : Int), .int .u64 (loN a : Int)] 28
    simp only [World.size_alloc] at h
    rw [hga, hY]; exact h
  have lea : w.heap.size ≤ ga := by omega
  have nera : gr ≠ ga := by omega
  replace ha0 := ha0.keep hbY
  replace hb0 := hb0.keep hbY
  replace hB := below2 hB hbY
  go_upto_region 1 with fail
  rw [← hY, ← hga, ← hgr]
  clear hY hbY hle hgr hga
  go_wp2_with fail
  go_at_call 9; refine (lives_any _).mono ?_; rintro e w2 ⟨rfl, hb⟩
  replace rr := RowAt.below rr hb
  replace ra := RowAt.below ra hb
  replace ha0 := ha0.keep hb
  replace hb0 := hb0.keep hb
  replace hB := below2 hB hb
  clear hb
  obtain ⟨r0, r1, r2, r3, rf⟩ := cells4 rr
  go_wp2_with fail
  clear r0 r1 r2 r3 rf
  go_at_call 10; refine (c1 _ ha0 hb0).mono ?_; rintro e w3 ⟨oa1, na1, ma1, ob1, nb1, mb1, rfl, ha1, hb1, hb⟩
  replace rr := RowAt.below rr hb
  replace ra := RowAt.below ra hb
  replace ha0 := ha0.keep hb
  replace hb0 := hb0.keep hb
  replace hB := below2 hB hb
  clear hb
  obtain ⟨Y4, hY⟩ : ∃ Y, Y = (w3.alloc (.cells #[.int .i64 xi, .bool xu, .slice oa1 na1 ma1, .slice ob1 nb1 mb1] 25)) := ⟨_, rfl⟩
  have hbY : Below w3.heap.size w3 Y4 := by rw [hY]; exact below_new (Below.refl _ _) _
  have hle : w.heap.size ≤ w3.heap.size := hB.size
  obtain ⟨gx, hgx⟩ : ∃ g, g = w3.heap.size := ⟨_, rfl⟩
  have rx : RowAt Y4 gx [.int .i64 xi, .bool xu, .slice oa1 na1 ma1, .slice ob1 nb1 mb1] 25 := by
    have h := RowAt.new w3 [.int .i64 xi, .bool xu, .slice oa1 na1 ma1, .slice ob1 nb1 mb1] 25
    rw [hgx, hY]; exact h
  have lex : w.heap.size ≤ gx := by omega
  have nerx : gr ≠ gx := by have := RowAt.lt rr; omega
  have neax : ga ≠ gx := by have := RowAt.lt ra; omega
  replace rr := RowAt.below rr hbY
  replace ra := RowAt.below ra hbY
  replace ha0 := ha0.keep hbY
  replace hb0 := hb0.keep hbY
  replace ha1 := ha1.keep hbY
  replace hb1 := hb1.keep hbY
  replace hB := below2 hB hbY
  go_upto_region 4 with fail
  rw [← hY, ← hgx]
  clear hY hbY hle hgx
  obtain ⟨x0, x1, x2, x3, xf⟩ := cells4 rx
  obtain ⟨r0, r1, r2, r3, rf⟩ := cells4 rr
  go_wp2_with fail
  clear x0 x1 x2 x3 xf r0 r1 r2 r3 rf
  go_at_call 10; refine (c2 _ _ _ ha1 hb1).mono ?_; rintro e w5 ⟨oa2, na2, ma2, ob2, nb2, mb2, rfl, ha2, hb2, hb⟩
  replace rr := RowAt.below rr hb
  replace ra := RowAt.below ra hb
  replace rx := RowAt.below rx hb
  replace ha0 := ha0.keep hb
  replace hb0 := hb0.keep hb
  replace ha1 := ha1.keep hb
  replace hb1 := hb1.keep hb
  replace hB := below2 hB hb
  clear hb
  obtain ⟨Y6, hY⟩ : ∃ Y, Y = (w5.alloc (.cells #[.int .i64 yi, .bool yu, .slice oa2 na2 ma2, .slice ob2 nb2 mb2] 25)) := ⟨_, rfl⟩
  have hbY : Below w5.heap.size w5 Y6 := by rw [hY]; exact below_new (Below.refl _ _) _
  have hle : w.heap.size ≤ w5.heap.size := hB.size
  obtain ⟨gy, hgy⟩ : ∃ g, g = w5.heap.size := ⟨_, rfl⟩
  have ry : RowAt Y6 gy [.int .i64 yi, .bool yu, .slice oa2 na2 ma2, .slice ob2 nb2 mb2] 25 := by
    have h := RowAt.new w5 [.int .i64 yi, .bool yu, .slice oa2 na2 ma2, .slice ob2 nb2 mb2] 25
    rw [hgy, hY]; exact h
  have ley : w.heap.size ≤ gy := by omega
  have nery : gr ≠ gy := by have := RowAt.lt rr; omega
  have neay : ga ≠ gy := by have := RowAt.lt ra; omega
  have nexy : gx ≠ gy := by have := RowAt.lt rx; omega
  replace rr := RowAt.below rr hbY
  replace ra := RowAt.below ra hbY
  replace rx := RowAt.below rx hbY
  replace ha0 := ha0.keep hbY
  replace hb0 := hb0.keep hbY
  replace ha1 := ha1.keep hbY
  replace hb1 := hb1.keep hbY
  replace ha2 := ha2.keep hbY
  replace hb2 := hb2.keep hbY
  replace hB := below2 hB hbY
  go_upto_region 5 with fail
  rw [← hY, ← hgy]
  clear hY hbY hle hgy
  clear rr ha0 hb0
  obtain ⟨x0, x1, x2, x3, xf⟩ := cells4 rx
  obtain ⟨a0, a1, af⟩ := cells2 ra
  go_wp2_with fail
  clear x0 x1 x2 x3 xf a0 a1 af
  go_at_call 7; refine (c3 _ _ _ ha1 hb1).mono ?_; rintro e w7 ⟨rfl, hb⟩
  replace ra := RowAt.below ra hb
  replace rx := RowAt.below rx hb
  replace ry := RowAt.below ry hb
  replace ha1 := ha1.keep hb
  replace hb1 := hb1.keep hb
  replace ha2 := ha2.keep hb
  replace hb2 := hb2.keep hb
  replace hB := below2 hB hb
  clear hb
  obtain ⟨Y8, hY⟩ : ∃ Y, Y = (w7.alloc (.cells #[.int .u8 (hk : Int), .int .i64 hp] 31)) := ⟨_, rfl⟩
  have hbY : Below w7.heap.size w7 Y8 := by rw [hY]; exact below_new (Below.refl _ _) _
  have hle : w.heap.size ≤ w7.heap.size := hB.size
  obtain ⟨gh, hgh⟩ : ∃ g, g = w7.heap.size := ⟨_, rfl⟩
  have rh : RowAt Y8 gh [.int .u8 (hk : Int), .int .i64 hp] 31 := by
    have h := RowAt.new w7 [.int .u8 (hk : Int), .int .i64 hp] 31
    rw [hgh, hY]; exact h
  have leh : w.heap.size ≤ gh := by omega
  have neah : ga ≠ gh := by have := RowAt.lt ra; omega
  have nexh : gx ≠ gh := by have := RowAt.lt rx; omega
  have neyh : gy ≠ gh := by have := RowAt.lt ry; omega
  replace ra := RowAt.below ra hbY
  replace rx := RowAt.below rx hbY
  replace ry := RowAt.below ry hbY
  replace ha1 := ha1.keep hbY
  replace hb1 := hb1.keep hbY
  replace ha2 := ha2.keep hbY
  replace hb2 := hb2.keep hbY
  replace hB := below2 hB hbY
  go_upto_region 6 with fail
  rw [← hY, ← hgh]
  clear hY hbY hle hgh
  clear rx ha1 hb1
  obtain ⟨y0, y1, y2, y3, yf⟩ := cells4 ry
  obtain ⟨a0, a1, af⟩ := cells2 ra
  go_wp2_with fail
  clear y0 y1 y2 y3 yf a0 a1 af
  go_at_call 7; refine (c4 _ _ _ ha2 hb2).mono ?_; rintro e w9 ⟨rfl, hb⟩
  replace ra := RowAt.below ra hb
  replace ry := RowAt.below ry hb
  replace rh := RowAt.below rh hb
  replace ha2 := ha2.keep hb
  replace hb2 := hb2.keep hb
  replace hB := below2 hB hb
  clear hb
  obtain ⟨Y10, hY⟩ : ∃ Y, Y = (w9.alloc (.cells #[.int .u8 (kk : Int), .int .i64 kp] 31)) := ⟨_, rfl⟩
  have hbY : Below w9.heap.size w9 Y10 := by rw [hY]; exact below_new (Below.refl _ _) _
  have hle : w.heap.size ≤ w9.heap.size := hB.size
  obtain ⟨gk, hgk⟩ : ∃ g, g = w9.heap.size := ⟨_, rfl⟩
  have rk : RowAt Y10 gk [.int .u8 (kk : Int), .int .i64 kp] 31 := by
    have h := RowAt.new w9 [.int .u8 (kk : Int), .int .i64 kp] 31
    rw [hgk, hY]; exact h
  have lek : w.heap.size ≤ gk := by omega
  have neak : ga ≠ gk := by have := RowAt.lt ra; omega
  have neyk : gy ≠ gk := by have := RowAt.lt ry; omega
  have nehk : gh ≠ gk := by have := RowAt.lt rh; omega
  replace ra := RowAt.below ra hbY
  replace ry := RowAt.below ry hbY
  replace rh := RowAt.below rh hbY
  replace ha2 := ha2.keep hbY
  replace hb2 := hb2.keep hbY
  replace hB := below2 hB hbY
  go_upto_region 7 with fail
  rw [← hY, ← hgk]
  clear hY hbY hle hgk
  clear ra ha2 hb2
  obtain ⟨y0, y1, y2, y3, yf⟩ := cells4 ry
  obtain ⟨h0, h1, hf⟩ := cells2 rh
  obtain ⟨k0, k1, kf⟩ := cells2 rk
  have hwb : (z1 != 0) = true := by simpa using hw
  go_wp2_with fail
  go_ret
  exact ⟨rfl, hB⟩
set_option maxHeartbeats 16000000 in
set_option maxRecDepth 20000 in
theorem walk_yes (id : Int) (up : Bool) (rts : List Rt) (lks : List Lk) (o2 o3 : Option Addr) (n2 n3 m2 m3 : Nat) (six : Bool) (a : Nat) (xi yi : Int) (xu yu : Bool) (xr yr : List Rt) (xl yl : List Lk) (z1 z2 z3 z4 : Int) (hk kk : Nat) (hp kp : Int) (w : World) (ha0 : HasRts w (.slice o2 n2 m2) rts) (hb0 : HasLks w (.slice o3 n3 m3) lks)
    (c1 : ∀ W, HasRts W (.slice o2 n2 m2) rts → HasLks W (.slice o3 n3 m3) lks → Calls Try.prog 10 #[.agg #[.int .i64 id, .bool up, .slice o2 n2 m2, .slice o3 n3 m3], .agg #[.int .u8 2, .int .i64 id, .int .u64 1, .int .i64 0, .bool false, .int .u64 0, .int .u64 0, .int .i64 0, .int .u8 0, .int .i64 0, .int .i64 0, .int .i64 0]] W (RoAt xi xu xr xl 0 W))
    (c2 : ∀ W u v, HasRts W u xr → HasLks W v xl → Calls Try.prog 10 #[.agg #[.int .i64 xi, .bool xu, u, v], .agg #[.int .u8 1, .int .i64 id, .int .u64 2, .int .i64 0, .bool false, .int .u64 0, .int .u64 0, .int .i64 0, .int .u8 0, .int .i64 0, .int .i64 0, .int .i64 0]] W (RoAt yi yu yr yl z2 W))
    (c3 : ∀ W u v, HasRts W u xr → HasLks W v xl → Calls Try.prog 7 #[.agg #[.int .i64 xi, .bool xu, u, v], .bool six, .agg #[.int .u64 (hiN a : Int), .int .u64 (loN a : Int)]] W fun e w' => e = .returned (.tuple #[.agg #[.int .u8 0, .int .i64 0], .int .i64 z3]) ∧ Below W.heap.size W w')
    (c4 : ∀ W u v, HasRts W u yr → HasLks W v yl → Calls Try.prog 7 #[.agg #[.int .i64 yi, .bool yu, u, v], .bool six, .agg #[.int .u64 (hiN a : Int), .int .u64 (loN a : Int)]] W fun e w' => e = .returned (.tuple #[.agg #[.int .u8 0, .int .i64 0], .int .i64 z4]) ∧ Below W.heap.size W w') (hw2 : z2 = 0) (hyu : yu = true) (hw3 : z3 = z4) :
    Calls Try.prog 5 #[.agg #[.int .i64 id, .bool up, .slice o2 n2 m2, .slice o3 n3 m3], .bool six, .agg #[.int .u64 (hiN a : Int), .int .u64 (loN a : Int)]] w (BoolIs true w) := by
  subst hw2 hyu hw3
  have hB := Below.refl w.heap.size w
  go_enter Try.func5, Try.ntmps5
  obtain ⟨Y1, hY⟩ : ∃ Y, Y = ((w.alloc (.cells #[.int .i64 id, .bool up, .slice o2 n2 m2, .slice o3 n3 m3] 25)).alloc (.cells #[.int .u64 (hiN a : Int), .int .u64 (loN a : Int)] 28)) := ⟨_, rfl⟩
  have hbY : Below w.heap.size w Y1 := by rw [hY]; exact below_new (below_new (Below.refl _ _) _) _
  have hle : w.heap.size ≤ w.heap.size := hB.size
  obtain ⟨gr, hgr⟩ : ∃ g, g = w.heap.size := ⟨_, rfl⟩
  have rr : RowAt Y1 gr [.int .i64 id, .bool up, .slice o2 n2 m2, .slice o3 n3 m3] 25 := by
    have h := (RowAt.new w [.int .i64 id, .bool up, .slice o2 n2 m2, .slice o3 n3 m3] 25).alloc (.cells #[.int .u64 (hiN a : Int), .int .u64 (loN a : Int)] 28)
    rw [hgr, hY]; exact h
  have ler : w.heap.size ≤ gr := by omega
  obtain ⟨ga, hga⟩ : ∃ g, g = w.heap.size + 1 := ⟨_, rfl⟩
  have ra : RowAt Y1 ga [.int .u64 (hiN a : Int), .int .u64 (loN a : Int)] 28 := by
    have h := RowAt.new (w.alloc (.cells #[.int .i64 id, .bool up, .slice o2 n2 m2, .slice o3 n3 m3] 25)) [.int .u64 (hiN a : Int), .int .u64 (loN a : Int)] 28
    simp only [World.size_alloc] at h
    rw [hga, hY]; exact h
  have lea : w.heap.size ≤ ga := by omega
  have nera : gr ≠ ga := by omega
  replace ha0 := ha0.keep hbY
  replace hb0 := hb0.keep hbY
  replace hB := below2 hB hbY
  go_upto_region 1 with fail
  rw [← hY, ← hga, ← hgr]
  clear hY hbY hle hgr hga
  go_wp2_with fail
  go_at_call 9; refine (lives_any _).mono ?_; rintro e w2 ⟨rfl, hb⟩
  replace rr := RowAt.below rr hb
  replace ra := RowAt.below ra hb
  replace ha0 := ha0.keep hb
  replace hb0 := hb0.keep hb
  replace hB := below2 hB hb
  clear hb
  obtain ⟨r0, r1, r2, r3, rf⟩ := cells4 rr
  go_wp2_with fail
  clear r0 r1 r2 r3 rf
  go_at_call 10; refine (c1 _ ha0 hb0).mono ?_; rintro e w3 ⟨oa1, na1, ma1, ob1, nb1, mb1, rfl, ha1, hb1, hb⟩
  replace rr := RowAt.below rr hb
  replace ra := RowAt.below ra hb
  replace ha0 := ha0.keep hb
  replace hb0 := hb0.keep hb
  replace hB := below2 hB hb
  clear hb
  obtain ⟨Y4, hY⟩ : ∃ Y, Y = (w3.alloc (.cells #[.int .i64 xi, .bool xu, .slice oa1 na1 ma1, .slice ob1 nb1 mb1] 25)) := ⟨_, rfl⟩
  have hbY : Below w3.heap.size w3 Y4 := by rw [hY]; exact below_new (Below.refl _ _) _
  have hle : w.heap.size ≤ w3.heap.size := hB.size
  obtain ⟨gx, hgx⟩ : ∃ g, g = w3.heap.size := ⟨_, rfl⟩
  have rx : RowAt Y4 gx [.int .i64 xi, .bool xu, .slice oa1 na1 ma1, .slice ob1 nb1 mb1] 25 := by
    have h := RowAt.new w3 [.int .i64 xi, .bool xu, .slice oa1 na1 ma1, .slice ob1 nb1 mb1] 25
    rw [hgx, hY]; exact h
  have lex : w.heap.size ≤ gx := by omega
  have nerx : gr ≠ gx := by have := RowAt.lt rr; omega
  have neax : ga ≠ gx := by have := RowAt.lt ra; omega
  replace rr := RowAt.below rr hbY
  replace ra := RowAt.below ra hbY
  replace ha0 := ha0.keep hbY
  replace hb0 := hb0.keep hbY
  replace ha1 := ha1.keep hbY
  replace hb1 := hb1.keep hbY
  replace hB := below2 hB hbY
  go_upto_region 4 with fail
  rw [← hY, ← hgx]
  clear hY hbY hle hgx
  obtain ⟨x0, x1, x2, x3, xf⟩ := cells4 rx
  obtain ⟨r0, r1, r2, r3, rf⟩ := cells4 rr
  go_wp2_with fail
  clear x0 x1 x2 x3 xf r0 r1 r2 r3 rf
  go_at_call 10; refine (c2 _ _ _ ha1 hb1).mono ?_; rintro e w5 ⟨oa2, na2, ma2, ob2, nb2, mb2, rfl, ha2, hb2, hb⟩
  replace rr := RowAt.below rr hb
  replace ra := RowAt.below ra hb
  replace rx := RowAt.below rx hb
  replace ha0 := ha0.keep hb
  replace hb0 := hb0.keep hb
  replace ha1 := ha1.keep hb
  replace hb1 := hb1.keep hb
  replace hB := below2 hB hb
  clear hb
  obtain ⟨Y6, hY⟩ : ∃ Y, Y = (w5.alloc (.cells #[.int .i64 yi, .bool true, .slice oa2 na2 ma2, .slice ob2 nb2 mb2] 25)) := ⟨_, rfl⟩
  have hbY : Below w5.heap.size w5 Y6 := by rw [hY]; exact below_new (Below.refl _ _) _
  have hle : w.heap.size ≤ w5.heap.size := hB.size
  obtain ⟨gy, hgy⟩ : ∃ g, g = w5.heap.size := ⟨_, rfl⟩
  have ry : RowAt Y6 gy [.int .i64 yi, .bool true, .slice oa2 na2 ma2, .slice ob2 nb2 mb2] 25 := by
    have h := RowAt.new w5 [.int .i64 yi, .bool true, .slice oa2 na2 ma2, .slice ob2 nb2 mb2] 25
    rw [hgy, hY]; exact h
  have ley : w.heap.size ≤ gy := by omega
  have nery : gr ≠ gy := by have := RowAt.lt rr; omega
  have neay : ga ≠ gy := by have := RowAt.lt ra; omega
  have nexy : gx ≠ gy := by have := RowAt.lt rx; omega
  replace rr := RowAt.below rr hbY
  replace ra := RowAt.below ra hbY
  replace rx := RowAt.below rx hbY
  replace ha0 := ha0.keep hbY
  replace hb0 := hb0.keep hbY
  replace ha1 := ha1.keep hbY
  replace hb1 := hb1.keep hbY
  replace ha2 := ha2.keep hbY
  replace hb2 := hb2.keep hbY
  replace hB := below2 hB hbY
  go_upto_region 5 with fail
  rw [← hY, ← hgy]
  clear hY hbY hle hgy
  clear rr ha0 hb0
  obtain ⟨x0, x1, x2, x3, xf⟩ := cells4 rx
  obtain ⟨a0, a1, af⟩ := cells2 ra
  go_wp2_with fail
  clear x0 x1 x2 x3 xf a0 a1 af
  go_at_call 7; refine (c3 _ _ _ ha1 hb1).mono ?_; rintro e w7 ⟨rfl, hb⟩
  replace ra := RowAt.below ra hb
  replace rx := RowAt.below rx hb
  replace ry := RowAt.below ry hb
  replace ha1 := ha1.keep hb
  replace hb1 := hb1.keep hb
  replace ha2 := ha2.keep hb
  replace hb2 := hb2.keep hb
  replace hB := below2 hB hb
  clear hb
  obtain ⟨Y8, hY⟩ : ∃ Y, Y = (w7.alloc (.cells #[.int .u8 0, .int .i64 0] 31)) := ⟨_, rfl⟩
  have hbY : Below w7.heap.size w7 Y8 := by rw [hY]; exact below_new (Below.refl _ _) _
  have hle : w.heap.size ≤ w7.heap.size := hB.size
  obtain ⟨gh, hgh⟩ : ∃ g, g = w7.heap.size := ⟨_, rfl⟩
  have rh : RowAt Y8 gh [.int .u8 0, .int .i64 0] 31 := by
    have h := RowAt.new w7 [.int .u8 0, .int .i64 0] 31
    rw [hgh, hY]; exact h
  have leh : w.heap.size ≤ gh := by omega
  have neah : ga ≠ gh := by have := RowAt.lt ra; omega
  have nexh : gx ≠ gh := by have := RowAt.lt rx; omega
  have neyh : gy ≠ gh := by have := RowAt.lt ry; omega
  replace ra := RowAt.below ra hbY
  replace rx := RowAt.below rx hbY
  replace ry := RowAt.below ry hbY
  replace ha1 := ha1.keep hbY
  replace hb1 := hb1.keep hbY
  replace ha2 := ha2.keep hbY
  replace hb2 := hb2.keep hbY
  replace hB := below2 hB hbY
  go_upto_region 6 with fail
  rw [← hY, ← hgh]
  clear hY hbY hle hgh
  clear rx ha1 hb1
  obtain ⟨y0, y1, y2, y3, yf⟩ := cells4 ry
  obtain ⟨a0, a1, af⟩ := cells2 ra
  go_wp2_with fail
  clear y0 y1 y2 y3 yf a0 a1 af
  go_at_call 7; refine (c4 _ _ _ ha2 hb2).mono ?_; rintro e w9 ⟨rfl, hb⟩
  replace ra := RowAt.below ra hb
  replace ry := RowAt.below ry hb
  replace rh := RowAt.below rh hb
  replace ha2 := ha2.keep hb
  replace hb2 := hb2.keep hb
  replace hB := below2 hB hb
  clear hb
  obtain ⟨Y10, hY⟩ : ∃ Y, Y = (w9.alloc (.cells #[.int .u8 0, .int .i64 0] 31)) := ⟨_, rfl⟩
  have hbY : Below w9.heap.size w9 Y10 := by rw [hY]; exact below_new (Below.refl _ _) _
  have hle : w.heap.size ≤ w9.heap.size := hB.size
  obtain ⟨gk, hgk⟩ : ∃ g, g = w9.heap.size := ⟨_, rfl⟩
  have rk : RowAt Y10 gk [.int .u8 0, .int .i64 0] 31 := by
    have h := RowAt.new w9 [.int .u8 0, .int .i64 0] 31
    rw [hgk, hY]; exact h
  have lek : w.heap.size ≤ gk := by omega
  have neak : ga ≠ gk := by have := RowAt.lt ra; omega
  have neyk : gy ≠ gk := by have := RowAt.lt ry; omega
  have nehk : gh ≠ gk := by have := RowAt.lt rh; omega
  replace ra := RowAt.below ra hbY
  replace ry := RowAt.below ry hbY
  replace rh := RowAt.below rh hbY
  replace ha2 := ha2.keep hbY
  replace hb2 := hb2.keep hbY
  replace hB := below2 hB hbY
  go_upto_region 7 with fail
  rw [← hY, ← hgk]
  clear hY hbY hle hgk
  clear ra ha2 hb2
  obtain ⟨y0, y1, y2, y3, yf⟩ := cells4 ry
  obtain ⟨h0, h1, hf⟩ := cells2 rh
  obtain ⟨k0, k1, kf⟩ := cells2 rk
  go_wp2_with fail
  go_ret
  exact ⟨rfl, hB⟩
theorem fitP_ev (k : Nat) (id : Int) (s : Nat) (hk : k ≤ 6) (hs : s ≤ 6) (h : -9223372036854775808 ≤ id ∧ id ≤ 9223372036854775807) : FitE (evP k id s) := ⟨by show (k : Int) ≤ _; omega, h, by show (s : Int) ≤ _; omega, by show (-9223372036854775808 : Int) ≤ 0 ∧ (0 : Int) ≤ 9223372036854775807; decide, by show (-9223372036854775808 : Int) ≤ 0 ∧ (0 : Int) ≤ 9223372036854775807; decide, by show (0 : Nat) < _; decide, ⟨by show ((0 : Nat) : Int) ≤ _; omega, by show (-9223372036854775808 : Int) ≤ 0; decide, by show (0 : Int) ≤ 9223372036854775807; decide⟩, by show (-9223372036854775808 : Int) ≤ 0 ∧ (0 : Int) ≤ 9223372036854775807; decide, by show (-9223372036854775808 : Int) ≤ 0 ∧ (0 : Int) ≤ 9223372036854775807; decide⟩
theorem walk (R : Ro) (x y : Value) (six : Bool) (a : Nat) (w : World) (b0 : HasRts w x R.rts) (c0 : HasLks w y R.lks) (f0 : FitRo R) (b2 : a < 2 ^ 128) :
    Calls Try.prog 5 #[.agg #[.int .i64 R.id, .bool R.up, x, y], .bool six, adV a] w fun e w' => e = .returned (.bool true) ∧ Below w.heap.size w w' := by
  obtain ⟨o2, m2, rfl, _⟩ := Lk.HasRow.slice b0
  obtain ⟨o3, m3, rfl, _⟩ := Lk.HasRow.slice c0
  have fe1 := fitP_ev 2 R.id 1 (by omega) (by omega) f0.id
  have fe2 := fitP_ev 1 R.id 2 (by omega) (by omega) f0.id
  have fX := fit_apply f0 fe1
  have fY := fit_apply fX fe2
  have c1 := fun W h h' => apply_any R (evP 2 R.id 1) (.slice o2 R.rts.length m2) (.slice o3 R.lks.length m3) W h h' f0 fe1
  have c2 := fun W u v h h' => apply_any (applyRo R (evP 2 R.id 1)).1 (evP 1 R.id 2) u v W h h' fX fe2
  have c3 := fun W u v h h' => hop_any (applyRo R (evP 2 R.id 1)).1 six a u v W h h' fX b2
  have c4 := fun W u v h h' => hop_any (applyRo (applyRo R (evP 2 R.id 1)).1 (evP 1 R.id 2)).1 six a u v W h h' fY b2
  rw [show evV (evP 2 R.id 1) = .agg #[.int .u8 2, .int .i64 R.id, .int .u64 1, .int .i64 0, .bool false, .int .u64 0, .int .u64 0, .int .i64 0, .int .u8 0, .int .i64 0, .int .i64 0, .int .i64 0] by unfold evV evC evP; simp only [Msg.hi0, Msg.lo0]; rfl] at c1
  rw [show evV (evP 1 R.id 2) = .agg #[.int .u8 1, .int .i64 R.id, .int .u64 2, .int .i64 0, .bool false, .int .u64 0, .int .u64 0, .int .i64 0, .int .u8 0, .int .i64 0, .int .i64 0, .int .i64 0] by unfold evV evC evP; simp only [Msg.hi0, Msg.lo0]; rfl] at c2
  by_cases hw : (applyRo R (evP 2 R.id 1)).2 = 0
  · obtain ⟨h1, h2, h3, h4, h5⟩ := ended hw six a
    rw [hw] at c1
    rw [h4] at c3
    rw [h5] at c4
    exact walk_yes R.id R.up R.rts R.lks o2 o3 _ _ m2 m3 six a _ _ _ _ _ _ _ _ 0 _ _ _ 0 0 0 0 w b0 c0 c1 c2 c3 c4 h1 h2 h3
  · exact walk_no R.id R.up R.rts R.lks o2 o3 _ _ m2 m3 six a _ _ _ _ _ _ _ _ _ _ _ _ _ _ _ _ w b0 c0 c1 c2 c3 c4 hw

set_option maxRecDepth 100000 in
theorem lifted (os : Os) (started : os.Started) (H : Type) (enc : TypeId × Value → H) :
    ReturnsInHanded {} Try.checked os 5 .any (Rows.fibEndedSpec.pre6 enc Try.prog Try.f5 Rows.fibEndedRow.domain false) (Rows.fibEndedSpec.post enc Try.prog Try.f5 false true false false) := by
  refine returnsInHanded_of_change_sized (C := Try.checked) own started (by kernel_rfl) Try.func5
    (ChangeSpec.witness6 (enc := enc) (C := Try.checked) false ⟨#[], #[.agg #[.int .i64 0, .bool false, .slice none 0 0, .slice none 0 0], .bool false, .agg #[.int .u64 0, .int .u64 0]], []⟩ 8 (by kernel_rfl) (by kernel_rfl) (by kernel_rfl) (by kernel_rfl)) ?_
  intro W base args ds gs before hval0 hW _ hsz0 _
  have hsz : (DataW.weightsEach Try.prog (Try.f5.params.toList ++ Rows.fibEndedSpec.plain.varTypes Try.prog) (ds ++ gs)).all (· ≤ reachBytes) = true := hsz0
  clear hsz0
  have hval : ∀ (j : Nat) t v, Try.f5.params[j]? = some t → args[j]? = some v → Value.okWide Try.prog W .any base t v := hval0
  have hW' := hW
  obtain ⟨p, q, hA0, hV, rfl, hfz, hnd⟩ := hW
  have hA : DataW.TrodAll enc Try.prog W 0 (fun _ => true) true Try.f5.params.toList args.toList ds p := hA0
  rw [Try.params5] at hA hval hsz
  obtain ⟨v0, vs0, d0, ds0, p0, q0, hargs, rfl, rfl, h0, r0⟩ := trodAll_cons hA
  obtain ⟨v1, vs1, d1, ds1, p1, q1, rfl, rfl, rfl, h1, r1⟩ := trodAll_cons r0
  obtain ⟨v2, vs2, d2, ds2, p2, q2, rfl, rfl, rfl, h2, r2⟩ := trodAll_cons r1
  obtain ⟨rfl, rfl, rfl⟩ := trodAll_nil r2
  obtain rfl : args = #[v0, v1, v2] := by cases args; simp_all
  obtain ⟨rfl, rfl⟩ := trodVars_none hV
  have k0 := h0
  have lt0 : ∀ x ∈ p0, x.block < W.heap.size := by obtain ⟨m, hm⟩ := k0; exact DataW.trod_lt m _ _ _ hm
  obtain ⟨R0, x0, y0, rfl, b0, c0, f0⟩ := Fib.open_router (hval 0 25 v0 rfl rfl) h0
  obtain ⟨a1, rfl, rfl, rfl⟩ := open_bool Try.underlying4 (hval 1 4 v1 rfl rfl) h1
  have k2 := h2
  have lt2 : ∀ x ∈ p2, x.block < W.heap.size := by obtain ⟨m, hm⟩ := k2; exact DataW.trod_lt m _ _ _ hm
  obtain ⟨n2, rfl, b2⟩ := Addr.open_addr (hval 2 28 v2 rfl rfl) h2
  clear hA0 hval0
  refine (walk R0 x0 y0 a1 n2 W b0 c0 f0 b2).mono fun e W' ⟨he, bel⟩ => ?_
  subst he
  exact ⟨_, rfl, _, _, _, [], _, [], hW', trodAll_mk1 (shut_bool Try.underlying4 _), (trodAll_cons_mk (Below.trod laidOut (by kernel_rfl) (of_decide_eq_true (by kernel_rfl)) k0 bel lt0) (trodAll_cons_mk (shut_bool Try.underlying4 a1) (trodAll_cons_mk (Below.trod laidOut (by kernel_rfl) (of_decide_eq_true (by kernel_rfl)) k2 bel lt2) trodAll_mk0))), rfl, bel.frame _, fun h => by cases h⟩

theorem over : Rows.fibEndedRow.holds Try.pinned (OpenSpec.ofChange Rows.fibEndedSpec) :=
  OpenClaim.holds_of_wide 5 Try.f5 rfl rfl rfl rfl rfl rfl rfl ⟨rfl, rfl, rfl, rfl, rfl⟩ rfl rfl rfl rfl rfl (by kernel_rfl) Try.func5 (by kernel_rfl)
    (of_decide_eq_true (by kernel_rfl)) (by unfold Func.isWrapper; first | (rw [if_pos (by decide +kernel)]; kernel_rfl) | (rw [if_neg (by decide +kernel)]; exact ⟨rfl, rfl⟩))
    (fun os started H enc _ => lifted os started H enc)
end fibEnded
theorem fended_holds : Rows.FibEndedSaid := fibEnded.over
#print axioms fended_holds
end Go.Proofs.Ytpooiehhepimkaa
