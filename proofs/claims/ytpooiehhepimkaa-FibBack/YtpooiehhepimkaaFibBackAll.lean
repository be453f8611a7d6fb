/- For all routers, prefixes, actions and links: spoorlaw17.FibBack returns true, and changes nothing that was there. No condition. -/
import Derived.Test.YtpooiehhepimkaaRows
import Derived.Test.YtpooiehhepimkaaFibLZ
import Derived.Test.YtpooiehhepimkaaFibZ
import Derived.Test.YtpooiehhepimkaaAddrOpen
import Derived.Test.YtpooiehhepimkaaMsgOpen
import Derived.Test.YtpooiehhepimkaaMsgPfEq
import Derived.ProofKit
import Derived.OpenShut
import Derived.ShutString
import Derived.SizedLaws
set_option linter.unusedVariables false
namespace Go.Proofs.Ytpooiehhepimkaa
namespace fibBack
open Go.ChangeShapes Go.WideShapes Go.ChangeAt Go.RowKit
open Go.ChangeMaps (open_string shut_string)
open Go.Proofs.Ytpooiehhepimkaa.Lk (Lk HasLks FitL lkV peerL HasLks.keep)
open Go.Proofs.Ytpooiehhepimkaa.Tr (Rt HasRts HasRts.keep FitR FitP)
open Go.Proofs.Ytpooiehhepimkaa.Msg (Ev Ac FitA FitE evV evC acV)
open Go.Proofs.Ytpooiehhepimkaa.Fib
open Go.Proofs.Ytpooiehhepimkaa.Addr (Pf pfV adV hasB hiN loN rightB RowAt below2 below_drew below_new bset RowAt.lt RowAt.cell RowAt.frozen RowAt.below RowAt.drew RowAt.new RowAt.alloc RowAt.gkeep cells2 cells4)
theorem own : ownKnob Try.prog.godebug = none := by kernel_rfl
theorem laidOut : laidOutB Try.prog = true := by kernel_rfl
set_option maxHeartbeats 32000000 in
set_option maxRecDepth 20000 in
theorem walks (id : Int) (up : Bool) (rts : List Rt) (lks : List Lk) (o2 o3 : Option Addr) (n2 n3 m2 m3 : Nat) (pf : Pf) (act : Ac) (xi xp : Int) (ai ci : Int) (au cu : Bool) (ar cr : List Rt) (al cl : List Lk) (z1 z3 : Int) (bt dt : Ro × Int) (w : World) (ha0 : HasRts w (.slice o2 n2 m2) rts) (hb0 : HasLks w (.slice o3 n3 m3) lks)
    (hn2 : n2 = rts.length) (hn3 : n3 = lks.length) (hm2 : (n2 : Int) ≤ 9223372036854775807) (hm3 : (n3 : Int) ≤ 9223372036854775807)
    (c1 : ∀ W, HasRts W (.slice o2 n2 m2) rts → HasLks W (.slice o3 n3 m3) lks → Calls Try.prog 10 #[.agg #[.int .i64 id, .bool up, .slice o2 n2 m2, .slice o3 n3 m3], .agg #[.int .u8 3, .int .i64 id, .int .u64 1, .int .i64 0, .bool pf.six, .int .u64 (hiN pf.n : Int), .int .u64 (loN pf.n : Int), .int .i64 pf.len, .int .u8 (act.k : Int), .int .i64 act.i, .int .i64 0, .int .i64 0]] W (RoAt ai au ar al z1 W))
    (c2 : ∀ W u v, HasRts W u ar → HasLks W v al → Calls Try.prog 10 #[.agg #[.int .i64 ai, .bool au, u, v], .agg #[.int .u8 4, .int .i64 id, .int .u64 2, .int .i64 0, .bool pf.six, .int .u64 (hiN pf.n : Int), .int .u64 (loN pf.n : Int), .int .i64 pf.len, .int .u8 0, .int .i64 0, .int .i64 0, .int .i64 0]] W (RoAt bt.1.id bt.1.up bt.1.rts bt.1.lks bt.2 W))
    (c3 : ∀ W, HasRts W (.slice o2 n2 m2) rts → HasLks W (.slice o3 n3 m3) lks → Calls Try.prog 10 #[.agg #[.int .i64 id, .bool up, .slice o2 n2 m2, .slice o3 n3 m3], .agg #[.int .u8 5, .int .i64 id, .int .u64 1, .int .i64 0, .bool false, .int .u64 0, .int .u64 0, .int .i64 0, .int .u8 0, .int .i64 0, .int .i64 xi, .int .i64 xp]] W (RoAt ci cu cr cl z3 W))
    (c4 : ∀ W u v, HasRts W u cr → HasLks W v cl → Calls Try.prog 10 #[.agg #[.int .i64 ci, .bool cu, u, v], .agg #[.int .u8 6, .int .i64 id, .int .u64 2, .int .i64 0, .bool false, .int .u64 0, .int .u64 0, .int .i64 0, .int .u8 0, .int .i64 0, .int .i64 xi, .int .i64 0]] W (RoAt dt.1.id dt.1.up dt.1.rts dt.1.lks dt.2 W))
    (HB : Hid ((∀ y ∈ rts, y.pf ≠ pf) → z1 = 0 → bt = (⟨id, up, rts, lks⟩, 0))) (HD : Hid ((∀ y ∈ lks, y.iface ≠ xi) → z3 = 0 → dt = (⟨id, up, rts, lks⟩, 0))) :
    Calls Try.prog 6 #[.agg #[.int .i64 id, .bool up, .slice o2 n2 m2, .slice o3 n3 m3], .agg #[.bool pf.six, .int .u64 (hiN pf.n : Int), .int .u64 (loN pf.n : Int), .int .i64 pf.len], .agg #[.int .u8 (act.k : Int), .int .i64 act.i], .agg #[.int .i64 xi, .int .i64 xp]] w (BoolIs true w) := by
  have HN2 : Hid (n2 = rts.length) := hn2
  have HN3 : Hid (n3 = lks.length) := hn3
  clear hn2 hn3
  have heq := fun (y : Rt) => Msg.pf_eqb y.pf pf
  have hB := Below.refl w.heap.size w
  go_enter Try.func6, Try.ntmps6
  obtain ⟨Y1, hY⟩ : ∃ Y, Y = ((((w.alloc (.cells #[.int .i64 id, .bool up, .slice o2 n2 m2, .slice o3 n3 m3] 25)).alloc (.cells #[.bool pf.six, .int .u64 (hiN pf.n : Int), .int .u64 (loN pf.n : Int), .int .i64 pf.len] 39)).alloc (.cells #[.int .u8 (act.k : Int), .int .i64 act.i] 42)).alloc (.cells #[.int .i64 xi, .int .i64 xp] 53)) := ⟨_, rfl⟩
  have hbY : Below w.heap.size w Y1 := by rw [hY]; exact below_new (below_new (below_new (below_new (Below.refl _ _) _) _) _) _
  have hle : w.heap.size ≤ w.heap.size := hB.size
  obtain ⟨gr, hgr⟩ : ∃ g, g = w.heap.size := ⟨_, rfl⟩
  have rr : RowAt Y1 gr [.int .i64 id, .bool up, .slice o2 n2 m2, .slice o3 n3 m3] 25 := by
    have h := (((RowAt.new w [.int .i64 id, .bool up, .slice o2 n2 m2, .slice o3 n3 m3] 25).alloc (.cells #[.bool pf.six, .int .u64 (hiN pf.n : Int), .int .u64 (loN pf.n : Int), .int .i64 pf.len] 39)).alloc (.cells #[.int .u8 (act.k : Int), .int .i64 act.i] 42)).alloc (.cells #[.int .i64 xi, .int .i64 xp] 53)
    rw [hgr, hY]; exact h
  have ler : w.heap.size ≤ gr := by omega
  obtain ⟨gp, hgp⟩ : ∃ g, g = w.heap.size + 1 := ⟨_, rfl⟩
  have rp : RowAt Y1 gp [.bool pf.six, .int .u64 (hiN pf.n : Int), .int .u64 (loN pf.n : Int), .int .i64 pf.len] 39 := by
    have h := ((RowAt.new (w.alloc (.cells #[.int .i64 id, .bool up, .slice o2 n2 m2, .slice o3 n3 m3] 25)) [.bool pf.six, .int .u64 (hiN pf.n : Int), .int .u64 (loN pf.n : Int), .int .i64 pf.len] 39).alloc (.cells #[.int .u8 (act.k : Int), .int .i64 act.i] 42)).alloc (.cells #[.int .i64 xi, .int .i64 xp] 53)
    simp only [World.size_alloc] at h
    rw [hgp, hY]; exact h
  have lep : w.heap.size ≤ gp := by omega
  have nerp : gr ≠ gp := by omega
  obtain ⟨gc, hgc⟩ : ∃ g, g = w.heap.size + 1 + 1 := ⟨_, rfl⟩
  have rc : RowAt Y1 gc [.int .u8 (act.k : Int), .int .i64 act.i] 42 := by
    have h := (RowAt.new ((w.alloc (.cells #[.int .i64 id, .bool up, .slice o2 n2 m2, .slice o3 n3 m3] 25)).alloc (.cells #[.bool pf.six, .int .u64 (hiN pf.n : Int), .int .u64 (loN pf.n : Int), .int .i64 pf.len] 39)) [.int .u8 (act.k : Int), .int .i64 act.i] 42).alloc (.cells #[.int .i64 xi, .int .i64 xp] 53)
    simp only [World.size_alloc] at h
    rw [hgc, hY]; exact h
  have lec : w.heap.size ≤ gc := by omega
  have nerc : gr ≠ gc := by omega
  have nepc : gp ≠ gc := by omega
  obtain ⟨gx, hgx⟩ : ∃ g, g = w.heap.size + 1 + 1 + 1 := ⟨_, rfl⟩
  have rx : RowAt Y1 gx [.int .i64 xi, .int .i64 xp] 53 := by
    have h := RowAt.new (((w.alloc (.cells #[.int .i64 id, .bool up, .slice o2 n2 m2, .slice o3 n3 m3] 25)).alloc (.cells #[.bool pf.six, .int .u64 (hiN pf.n : Int), .int .u64 (loN pf.n : Int), .int .i64 pf.len] 39)).alloc (.cells #[.int .u8 (act.k : Int), .int .i64 act.i] 42)) [.int .i64 xi, .int .i64 xp] 53
    simp only [World.size_alloc] at h
    rw [hgx, hY]; exact h
  have lex : w.heap.size ≤ gx := by omega
  have nerx : gr ≠ gx := by omega
  have nepx : gp ≠ gx := by omega
  have necx : gc ≠ gx := by omega
  replace ha0 := ha0.keep hbY
  replace hb0 := hb0.keep hbY
  replace hB := below2 hB hbY
  go_upto_region 1 with fail
  rw [← hY, ← hgx, ← hgc, ← hgp, ← hgr]
  clear hY hbY hle hgr hgp hgc hgx
  go_wp2_with fail
  go_at_call 9; refine (lives_any _).mono ?_; rintro e w2 ⟨rfl, hb⟩
  replace rr := RowAt.below rr hb
  replace rp := RowAt.below rp hb
  replace rc := RowAt.below rc hb
  replace rx := RowAt.below rx hb
  replace ha0 := ha0.keep hb
  replace hb0 := hb0.keep hb
  replace hB := below2 hB hb
  clear hb
  obtain ⟨r0, r1, r2, r3, rf⟩ := cells4 rr
  go_wp2_with fail
  clear r0 r1 r2 r3 rf
  go_loopw [26] (fun i wr => ∃ k : Nat, k ≤ n2 ∧ i = .int .i64 k ∧ Hid (Below w2.heap.size w2 wr ∧ ∀ j (h : j < rts.length), j < k → rts[j].pf ≠ pf)) (fun i _ => n2 - (intOf i).toNat)
  case atStart => exact ⟨0, by omega, rfl, Below.refl _ _, fun j h h' => by omega⟩
  case round =>
    obtain ⟨k, hk, rfl, HI⟩ := hrel
    by_cases hlt : k < n2
    · have hkz : k < rts.length := by rw [← HN2.out]; exact hlt
      have hbl := HI.out.1
      obtain ⟨g1, i1, rfl, hgl, a1⟩ := Tr.HasRts.cell (ha0.keep hbl) k hkz
      have hq := heq rts[k]
      have HK : Hid (∀ q : Bool, q = Msg.eqP rts[k].pf pf → q = false → rts[k].pf ≠ pf) := fun q e e2 => (Msg.eqP_not _ _).1 (by rw [← e, e2])
      generalize Msg.eqP rts[k].pf pf = q at hq HK
      have x0 := a1 0 (by omega)
      have x1 := a1 1 (by omega)
      have x2 := a1 2 (by omega)
      have x3 := a1 3 (by omega)
      have x4 := a1 4 (by omega)
      have x5 := a1 5 (by omega)
      unfold Tr.rtC at x0 x1 x2 x3 x4 x5
      simp only [List.getElem?_cons_succ, List.getElem?_cons_zero, Nat.add_zero] at x0 x1 x2 x3 x4 x5
      clear a1
      generalize rts[k].pf.six = p0 at x0 hq
      generalize ((hiN rts[k].pf.n : Nat) : Int) = p1 at x1 hq
      generalize ((loN rts[k].pf.n : Nat) : Int) = p2 at x2 hq
      generalize rts[k].pf.len = p3 at x3 hq
      generalize ((rts[k].act.k : Nat) : Int) = p4 at x4
      generalize rts[k].act.i = p5 at x5
      have hki : (k : Int) < (n2 : Int) := by omega
      obtain ⟨Y, hY⟩ : ∃ Y, Y = wr.alloc (.cells #[.bool p0, .int .u64 p1, .int .u64 p2, .int .i64 p3, .int .u8 p4, .int .i64 p5] 55) := ⟨_, rfl⟩
      have hbY : Below wr.heap.size wr Y := by rw [hY]; exact below_new (Below.refl _ _) _
      have rY : RowAt Y wr.heap.size [.bool p0, .int .u64 p1, .int .u64 p2, .int .i64 p3, .int .u8 p4, .int .i64 p5] 55 := by rw [hY]; exact RowAt.new _ _ _
      go_upto_region 6 with fail
      rw [← hY]
      clear hY x0 x1 x2 x3 x4 x5
      have y0 := RowAt.cell rY 0
      have y1 := RowAt.cell rY 1
      have y2 := RowAt.cell rY 2
      have y3 := RowAt.cell rY 3
      have yf := RowAt.frozen rY
      simp only [List.getElem?_cons_succ, List.getElem?_cons_zero] at y0 y1 y2 y3
      obtain ⟨q0, q1, q2, q3, qf⟩ := cells4 (RowAt.below (RowAt.below rp hbl) hbY)
      have hbn : Below w2.heap.size w2 Y := below2 hbl hbY
      clear rY
      cases hqq : q
      · have hne := HK.out q rfl hqq
        rw [hqq] at hq
        go_wp2_with fail
        go_roundw
        case rel => exact ⟨k + 1, by omega, by go_num, hbn, fun j h h' => by
          rcases Nat.lt_or_ge j k with h9 | h9
          · exact HI.out.2 j h h9
          · have : j = k := by omega
            subst this; exact hne⟩
        case measure => simp [intOf]; omega
      · rw [hqq] at hq
        go_wp2_with fail
        go_ret
        exact ⟨rfl, below2 hB hbn⟩
    · have hno1 : ∀ y ∈ rts, y.pf ≠ pf := fun y hy => by
        obtain ⟨j, hj, rfl⟩ := List.getElem_of_mem hy
        exact HI.out.2 j hj (by have := HN2.out; omega)
      have hbl := HI.out.1
      have hkf : decide ((k : Int) < (n2 : Int)) = false := decide_eq_false (by omega)
      clear HI heq
      obtain ⟨wa, hwa⟩ : ∃ wa, wa = wr := ⟨_, rfl⟩
      subst hwa
      replace rr := RowAt.below rr hbl
      replace rp := RowAt.below rp hbl
      replace rc := RowAt.below rc hbl
      replace rx := RowAt.below rx hbl
      replace ha0 := ha0.keep hbl
      replace hb0 := hb0.keep hbl
      replace hB := below2 hB hbl
      clear hbl
      obtain ⟨r0, r1, r2, r3, rf⟩ := cells4 rr
      go_wp2_with fail
      clear r0 r1 r2 r3 rf
      go_loopw [38] (fun i wr => ∃ k : Nat, k ≤ n3 ∧ i = .int .i64 k ∧ Hid (Below wa.heap.size wa wr ∧ ∀ j (h : j < lks.length), j < k → lks[j].iface ≠ xi)) (fun i _ => n3 - (intOf i).toNat)
      case atStart => exact ⟨0, by omega, rfl, Below.refl _ _, fun j h h' => by omega⟩
      case round =>
        obtain ⟨k2, hk2, rfl, HI⟩ := hrel
        by_cases hlt2 : k2 < n3
        · have hkz : k2 < lks.length := by rw [← HN3.out]; exact hlt2
          have hbl := HI.out.1
          obtain ⟨g1, i1, rfl, hgl, x0, x1⟩ := Lk.HasLks.cell (hb0.keep hbl) k2 hkz
          obtain ⟨p0, hp0⟩ : ∃ p, p = lks[k2].iface := ⟨_, rfl⟩
          rw [← hp0] at x0
          have HK : Hid (p0 = lks[k2].iface) := hp0
          clear hp0
          generalize lks[k2].peer = p1 at x1
          have hki : (k2 : Int) < (n3 : Int) := by omega
          obtain ⟨Y, hY⟩ : ∃ Y, Y = wr.alloc (.cells #[.int .i64 p0, .int .i64 p1] 53) := ⟨_, rfl⟩
          have hbY : Below wr.heap.size wr Y := by rw [hY]; exact below_new (Below.refl _ _) _
          have rY : RowAt Y wr.heap.size [.int .i64 p0, .int .i64 p1] 53 := by rw [hY]; exact RowAt.new _ _ _
          go_upto_region 12 with fail
          rw [← hY]
          clear hY x0 x1
          obtain ⟨y0, y1, yf⟩ := cells2 rY
          obtain ⟨q0, q1, qf⟩ := cells2 (RowAt.below (RowAt.below rx hbl) hbY)
          have hbn : Below wa.heap.size wa Y := below2 hbl hbY
          clear rY
          by_cases hqq : p0 = xi
          · have hqb : (p0 == xi) = true := by simpa using hqq
            clear hqq HK
            go_wp2_with fail
            go_ret
            exact ⟨rfl, below2 hB hbn⟩
          · have hne : lks[k2].iface ≠ xi := fun h => hqq (HK.out.trans h)
            have hqb : (p0 == xi) = false := by simpa using hqq
            clear hqq HK
            go_wp2_with fail
            go_roundw
            case rel => exact ⟨k2 + 1, by omega, by go_num, hbn, fun j h h' => by
              rcases Nat.lt_or_ge j k2 with h9 | h9
              · exact HI.out.2 j h h9
              · have : j = k2 := by omega
                subst this; exact hne⟩
            case measure => simp [intOf]; omega
        · have hno2 : ∀ y ∈ lks, y.iface ≠ xi := fun y hy => by
            obtain ⟨j, hj, rfl⟩ := List.getElem_of_mem hy
            exact HI.out.2 j hj (by have := HN3.out; omega)
          have hbl := HI.out.1
          have hkf2 : decide ((k2 : Int) < (n3 : Int)) = false := decide_eq_false (by omega)
          clear HI
          obtain ⟨wb, hwb⟩ : ∃ wb, wb = wr := ⟨_, rfl⟩
          subst hwb
          replace HB := HB.out hno1
          replace HD := HD.out hno2
          clear hno1 hno2
          replace rr := RowAt.below rr hbl
          replace rp := RowAt.below rp hbl
          replace rc := RowAt.below rc hbl
          replace rx := RowAt.below rx hbl
          replace ha0 := ha0.keep hbl
          replace hb0 := hb0.keep hbl
          replace hB := below2 hB hbl
          clear hbl
          by_cases hz1 : z1 = 0
          · by_cases hz3 : z3 = 0
            · have e := HB hz1
              clear HB
              subst e
              subst hz1
              replace c2 : ∀ W u v, HasRts W u ar → HasLks W v al → Calls Try.prog 10 #[.agg #[.int .i64 ai, .bool au, u, v], .agg #[.int .u8 4, .int .i64 id, .int .u64 2, .int .i64 0, .bool pf.six, .int .u64 (hiN pf.n : Int), .int .u64 (loN pf.n : Int), .int .i64 pf.len, .int .u8 0, .int .i64 0, .int .i64 0, .int .i64 0]] W (RoAt id up rts lks 0 W) := c2
              have e := HD hz3
              clear HD
              subst e
              subst hz3
              replace c4 : ∀ W u v, HasRts W u cr → HasLks W v cl → Calls Try.prog 10 #[.agg #[.int .i64 ci, .bool cu, u, v], .agg #[.int .u8 6, .int .i64 id, .int .u64 2, .int .i64 0, .bool false, .int .u64 0, .int .u64 0, .int .i64 0, .int .u8 0, .int .i64 0, .int .i64 xi, .int .i64 0]] W (RoAt id up rts lks 0 W) := c4
              obtain ⟨r0, r1, r2, r3, rf⟩ := cells4 rr
              obtain ⟨p0, p1, p2, p3, pf⟩ := cells4 rp
              obtain ⟨c0, c1, cf⟩ := cells2 rc
              go_wp2_with fail
              clear r0 r1 r2 r3 rf p0 p1 p2 p3 pf c0 c1 cf
              go_at_call 10; refine (c1 _ ha0 hb0).mono ?_; rintro e w3 ⟨oa1, na1, ma1, ob1, nb1, mb1, rfl, ha1, hb1, hb⟩
              replace rr := RowAt.below rr hb
              replace rp := RowAt.below rp hb
              replace rc := RowAt.below rc hb
              replace rx := RowAt.below rx hb
              replace ha0 := ha0.keep hb
              replace hb0 := hb0.keep hb
              replace hB := below2 hB hb
              clear hb
              obtain ⟨Y4, hY⟩ : ∃ Y, Y = (w3.alloc (.cells #[.int .i64 ai, .bool au, .slice oa1 na1 ma1, .slice ob1 nb1 mb1] 25)) := ⟨_, rfl⟩
              have hbY : Below w3.heap.size w3 Y4 := by rw [hY]; exact below_new (Below.refl _ _) _
              have hle : w.heap.size ≤ w3.heap.size := hB.size
              obtain ⟨ga, hga⟩ : ∃ g, g = w3.heap.size := ⟨_, rfl⟩
              have ra : RowAt Y4 ga [.int .i64 ai, .bool au, .slice oa1 na1 ma1, .slice ob1 nb1 mb1] 25 := by
                have h := RowAt.new w3 [.int .i64 ai, .bool au, .slice oa1 na1 ma1, .slice ob1 nb1 mb1] 25
                rw [hga, hY]; exact h
              have lea : w.heap.size ≤ ga := by omega
              have nera : gr ≠ ga := by have := RowAt.lt rr; omega
              have nepa : gp ≠ ga := by have := RowAt.lt rp; omega
              have neca : gc ≠ ga := by have := RowAt.lt rc; omega
              have nexa : gx ≠ ga := by have := RowAt.lt rx; omega
              replace rr := RowAt.below rr hbY
              replace rp := RowAt.below rp hbY
              replace rc := RowAt.below rc hbY
              replace rx := RowAt.below rx hbY
              replace ha0 := ha0.keep hbY
              replace hb0 := hb0.keep hbY
              replace ha1 := ha1.keep hbY
              replace hb1 := hb1.keep hbY
              replace hB := below2 hB hbY
              go_upto_region 16 with fail
              rw [← hY, ← hga]
              clear hY hbY hle hga
              obtain ⟨a0, a1, a2, a3, af⟩ := cells4 ra
              obtain ⟨r0, r1, r2, r3, rf⟩ := cells4 rr
              obtain ⟨p0, p1, p2, p3, pf⟩ := cells4 rp
              go_wp2_with fail
              clear a0 a1 a2 a3 af r0 r1 r2 r3 rf p0 p1 p2 p3 pf
              go_at_call 10; refine (c2 _ _ _ ha1 hb1).mono ?_; rintro e w5 ⟨oa2, na2, ma2, ob2, nb2, mb2, rfl, ha2, hb2, hb⟩
              replace rr := RowAt.below rr hb
              replace rp := RowAt.below rp hb
              replace rc := RowAt.below rc hb
              replace rx := RowAt.below rx hb
              replace ra := RowAt.below ra hb
              replace ha0 := ha0.keep hb
              replace hb0 := hb0.keep hb
              replace ha1 := ha1.keep hb
              replace hb1 := hb1.keep hb
              replace hB := below2 hB hb
              clear hb
              obtain ⟨Y6, hY⟩ : ∃ Y, Y = (w5.alloc (.cells #[.int .i64 id, .bool up, .slice oa2 na2 ma2, .slice ob2 nb2 mb2] 25)) := ⟨_, rfl⟩
              have hbY : Below w5.heap.size w5 Y6 := by rw [hY]; exact below_new (Below.refl _ _) _
              have hle : w.heap.size ≤ w5.heap.size := hB.size
              obtain ⟨gb, hgb⟩ : ∃ g, g = w5.heap.size := ⟨_, rfl⟩
              have rb : RowAt Y6 gb [.int .i64 id, .bool up, .slice oa2 na2 ma2, .slice ob2 nb2 mb2] 25 := by
                have h := RowAt.new w5 [.int .i64 id, .bool up, .slice oa2 na2 ma2, .slice ob2 nb2 mb2] 25
                rw [hgb, hY]; exact h
              have leb : w.heap.size ≤ gb := by omega
              have nerb : gr ≠ gb := by have := RowAt.lt rr; omega
              have nepb : gp ≠ gb := by have := RowAt.lt rp; omega
              have necb : gc ≠ gb := by have := RowAt.lt rc; omega
              have nexb : gx ≠ gb := by have := RowAt.lt rx; omega
              have neab : ga ≠ gb := by have := RowAt.lt ra; omega
              replace rr := RowAt.below rr hbY
              replace rp := RowAt.below rp hbY
              replace rc := RowAt.below rc hbY
              replace rx := RowAt.below rx hbY
              replace ra := RowAt.below ra hbY
              replace ha0 := ha0.keep hbY
              replace hb0 := hb0.keep hbY
              replace ha1 := ha1.keep hbY
              replace hb1 := hb1.keep hbY
              replace ha2 := ha2.keep hbY
              replace hb2 := hb2.keep hbY
              replace hB := below2 hB hbY
              go_upto_region 17 with fail
              rw [← hY, ← hgb]
              clear hY hbY hle hgb
              clear ra rp rc ha1 hb1
              obtain ⟨r0, r1, r2, r3, rf⟩ := cells4 rr
              obtain ⟨x0, x1, xf⟩ := cells2 rx
              go_wp2_with fail
              clear r0 r1 r2 r3 rf x0 x1 xf
              go_at_call 10; refine (c3 _ ha0 hb0).mono ?_; rintro e w7 ⟨oa3, na3, ma3, ob3, nb3, mb3, rfl, ha3, hb3, hb⟩
              replace rr := RowAt.below rr hb
              replace rx := RowAt.below rx hb
              replace rb := RowAt.below rb hb
              replace ha0 := ha0.keep hb
              replace hb0 := hb0.keep hb
              replace ha2 := ha2.keep hb
              replace hb2 := hb2.keep hb
              replace hB := below2 hB hb
              clear hb
              obtain ⟨Y8, hY⟩ : ∃ Y, Y = (w7.alloc (.cells #[.int .i64 ci, .bool cu, .slice oa3 na3 ma3, .slice ob3 nb3 mb3] 25)) := ⟨_, rfl⟩
              have hbY : Below w7.heap.size w7 Y8 := by rw [hY]; exact below_new (Below.refl _ _) _
              have hle : w.heap.size ≤ w7.heap.size := hB.size
              obtain ⟨gg, hgg⟩ : ∃ g, g = w7.heap.size := ⟨_, rfl⟩
              have rg : RowAt Y8 gg [.int .i64 ci, .bool cu, .slice oa3 na3 ma3, .slice ob3 nb3 mb3] 25 := by
                have h := RowAt.new w7 [.int .i64 ci, .bool cu, .slice oa3 na3 ma3, .slice ob3 nb3 mb3] 25
                rw [hgg, hY]; exact h
              have leg : w.heap.size ≤ gg := by omega
              have nerg : gr ≠ gg := by have := RowAt.lt rr; omega
              have nexg : gx ≠ gg := by have := RowAt.lt rx; omega
              have nebg : gb ≠ gg := by have := RowAt.lt rb; omega
              replace rr := RowAt.below rr hbY
              replace rx := RowAt.below rx hbY
              replace rb := RowAt.below rb hbY
              replace ha0 := ha0.keep hbY
              replace hb0 := hb0.keep hbY
              replace ha2 := ha2.keep hbY
              replace hb2 := hb2.keep hbY
              replace ha3 := ha3.keep hbY
              replace hb3 := hb3.keep hbY
              replace hB := below2 hB hbY
              go_upto_region 18 with fail
              rw [← hY, ← hgg]
              clear hY hbY hle hgg
              obtain ⟨g0, g1, g2, g3, gf⟩ := cells4 rg
              obtain ⟨r0, r1, r2, r3, rf⟩ := cells4 rr
              obtain ⟨x0, x1, xf⟩ := cells2 rx
              go_wp2_with fail
              clear g0 g1 g2 g3 gf r0 r1 r2 r3 rf x0 x1 xf
              go_at_call 10; refine (c4 _ _ _ ha3 hb3).mono ?_; rintro e w9 ⟨oa4, na4, ma4, ob4, nb4, mb4, rfl, ha4, hb4, hb⟩
              replace rr := RowAt.below rr hb
              replace rx := RowAt.below rx hb
              replace rb := RowAt.below rb hb
              replace rg := RowAt.below rg hb
              replace ha0 := ha0.keep hb
              replace hb0 := hb0.keep hb
              replace ha2 := ha2.keep hb
              replace hb2 := hb2.keep hb
              replace ha3 := ha3.keep hb
              replace hb3 := hb3.keep hb
              replace hB := below2 hB hb
              clear hb
              obtain ⟨Y10, hY⟩ : ∃ Y, Y = (w9.alloc (.cells #[.int .i64 id, .bool up, .slice oa4 na4 ma4, .slice ob4 nb4 mb4] 25)) := ⟨_, rfl⟩
              have hbY : Below w9.heap.size w9 Y10 := by rw [hY]; exact below_new (Below.refl _ _) _
              have hle : w.heap.size ≤ w9.heap.size := hB.size
              obtain ⟨gd, hgd⟩ : ∃ g, g = w9.heap.size := ⟨_, rfl⟩
              have rd : RowAt Y10 gd [.int .i64 id, .bool up, .slice oa4 na4 ma4, .slice ob4 nb4 mb4] 25 := by
                have h := RowAt.new w9 [.int .i64 id, .bool up, .slice oa4 na4 ma4, .slice ob4 nb4 mb4] 25
                rw [hgd, hY]; exact h
              have led : w.heap.size ≤ gd := by omega
              have nerd : gr ≠ gd := by have := RowAt.lt rr; omega
              have nexd : gx ≠ gd := by have := RowAt.lt rx; omega
              have nebd : gb ≠ gd := by have := RowAt.lt rb; omega
              have negd : gg ≠ gd := by have := RowAt.lt rg; omega
              replace rr := RowAt.below rr hbY
              replace rx := RowAt.below rx hbY
              replace rb := RowAt.below rb hbY
              replace rg := RowAt.below rg hbY
              replace ha0 := ha0.keep hbY
              replace hb0 := hb0.keep hbY
              replace ha2 := ha2.keep hbY
              replace hb2 := hb2.keep hbY
              replace ha3 := ha3.keep hbY
              replace hb3 := hb3.keep hbY
              replace ha4 := ha4.keep hbY
              replace hb4 := hb4.keep hbY
              replace hB := below2 hB hbY
              go_upto_region 19 with fail
              rw [← hY, ← hgd]
              clear hY hbY hle hgd
              clear rg rx ha3 hb3
              obtain ⟨b0, b1, b2, b3, bf⟩ := cells4 rb
              obtain ⟨r0, r1, r2, r3, rf⟩ := cells4 rr
              go_wp2_with fail
              clear b0 b1 b2 b3 bf r0 r1 r2 r3 rf
              go_at_call 14; refine (same_any ⟨id, up, rts, lks⟩ _ _ _ _ _ ha2 hb2 ha0 hb0).mono ?_; rintro e w11 ⟨rfl, hb⟩
              replace rr := RowAt.below rr hb
              replace rb := RowAt.below rb hb
              replace rd := RowAt.below rd hb
              replace ha0 := ha0.keep hb
              replace hb0 := hb0.keep hb
              replace ha2 := ha2.keep hb
              replace hb2 := hb2.keep hb
              replace ha4 := ha4.keep hb
              replace hb4 := hb4.keep hb
              replace hB := below2 hB hb
              clear hb
              obtain ⟨d0, d1, d2, d3, df⟩ := cells4 rd
              obtain ⟨r0, r1, r2, r3, rf⟩ := cells4 rr
              go_wp2_with fail
              clear d0 d1 d2 d3 df r0 r1 r2 r3 rf
              go_at_call 14; refine (same_any ⟨id, up, rts, lks⟩ _ _ _ _ _ ha4 hb4 ha0 hb0).mono ?_; rintro e w12 ⟨rfl, hb⟩
              replace rr := RowAt.below rr hb
              replace rb := RowAt.below rb hb
              replace rd := RowAt.below rd hb
              replace ha0 := ha0.keep hb
              replace hb0 := hb0.keep hb
              replace ha2 := ha2.keep hb
              replace hb2 := hb2.keep hb
              replace ha4 := ha4.keep hb
              replace hb4 := hb4.keep hb
              replace hB := below2 hB hb
              clear hb
              go_wp2_with fail
              go_ret
              exact ⟨rfl, hB⟩
            · have e := HB hz1
              clear HB
              subst e
              subst hz1
              replace c2 : ∀ W u v, HasRts W u ar → HasLks W v al → Calls Try.prog 10 #[.agg #[.int .i64 ai, .bool au, u, v], .agg #[.int .u8 4, .int .i64 id, .int .u64 2, .int .i64 0, .bool pf.six, .int .u64 (hiN pf.n : Int), .int .u64 (loN pf.n : Int), .int .i64 pf.len, .int .u8 0, .int .i64 0, .int .i64 0, .int .i64 0]] W (RoAt id up rts lks 0 W) := c2
              clear HD
              obtain ⟨⟨di, du, dr, dl⟩, z3b⟩ := dt
              replace c4 : ∀ W u v, HasRts W u cr → HasLks W v cl → Calls Try.prog 10 #[.agg #[.int .i64 ci, .bool cu, u, v], .agg #[.int .u8 6, .int .i64 id, .int .u64 2, .int .i64 0, .bool false, .int .u64 0, .int .u64 0, .int .i64 0, .int .u8 0, .int .i64 0, .int .i64 xi, .int .i64 0]] W (RoAt di du dr dl z3b W) := c4
              have hz3b : (z3 != 0) = true := by simpa using hz3
              clear hz3
              obtain ⟨r0, r1, r2, r3, rf⟩ := cells4 rr
              obtain ⟨p0, p1, p2, p3, pf⟩ := cells4 rp
              obtain ⟨c0, c1, cf⟩ := cells2 rc
              go_wp2_with fail
              clear r0 r1 r2 r3 rf p0 p1 p2 p3 pf c0 c1 cf
              go_at_call 10; refine (c1 _ ha0 hb0).mono ?_; rintro e w3 ⟨oa1, na1, ma1, ob1, nb1, mb1, rfl, ha1, hb1, hb⟩
              replace rr := RowAt.below rr hb
              replace rp := RowAt.below rp hb
              replace rc := RowAt.below rc hb
              replace rx := RowAt.below rx hb
              replace ha0 := ha0.keep hb
              replace hb0 := hb0.keep hb
              replace hB := below2 hB hb
              clear hb
              obtain ⟨Y4, hY⟩ : ∃ Y, Y = (w3.alloc (.cells #[.int .i64 ai, .bool au, .slice oa1 na1 ma1, .slice ob1 nb1 mb1] 25)) := ⟨_, rfl⟩
              have hbY : Below w3.heap.size w3 Y4 := by rw [hY]; exact below_new (Below.refl _ _) _
              have hle : w.heap.size ≤ w3.heap.size := hB.size
              obtain ⟨ga, hga⟩ : ∃ g, g = w3.heap.size := ⟨_, rfl⟩
              have ra : RowAt Y4 ga [.int .i64 ai, .bool au, .slice oa1 na1 ma1, .slice ob1 nb1 mb1] 25 := by
                have h := RowAt.new w3 [.int .i64 ai, .bool au, .slice oa1 na1 ma1, .slice ob1 nb1 mb1] 25
                rw [hga, hY]; exact h
              have lea : w.heap.size ≤ ga := by omega
              have nera : gr ≠ ga := by have := RowAt.lt rr; omega
              have nepa : gp ≠ ga := by have := RowAt.lt rp; omega
              have neca : gc ≠ ga := by have := RowAt.lt rc; omega
              have nexa : gx ≠ ga := by have := RowAt.lt rx; omega
              replace rr := RowAt.below rr hbY
              replace rp := RowAt.below rp hbY
              replace rc := RowAt.below rc hbY
              replace rx := RowAt.below rx hbY
              replace ha0 := ha0.keep hbY
              replace hb0 := hb0.keep hbY
              replace ha1 := ha1.keep hbY
              replace hb1 := hb1.keep hbY
              replace hB := below2 hB hbY
              go_upto_region 16 with fail
              rw [← hY, ← hga]
              clear hY hbY hle hga
              obtain ⟨a0, a1, a2, a3, af⟩ := cells4 ra
              obtain ⟨r0, r1, r2, r3, rf⟩ := cells4 rr
              obtain ⟨p0, p1, p2, p3, pf⟩ := cells4 rp
              go_wp2_with fail
              clear a0 a1 a2 a3 af r0 r1 r2 r3 rf p0 p1 p2 p3 pf
              go_at_call 10; refine (c2 _ _ _ ha1 hb1).mono ?_; rintro e w5 ⟨oa2, na2, ma2, ob2, nb2, mb2, rfl, ha2, hb2, hb⟩
              replace rr := RowAt.below rr hb
              replace rp := RowAt.below rp hb
              replace rc := RowAt.below rc hb
              replace rx := RowAt.below rx hb
              replace ra := RowAt.below ra hb
              replace ha0 := ha0.keep hb
              replace hb0 := hb0.keep hb
              replace ha1 := ha1.keep hb
              replace hb1 := hb1.keep hb
              replace hB := below2 hB hb
              clear hb
              obtain ⟨Y6, hY⟩ : ∃ Y, Y = (w5.alloc (.cells #[.int .i64 id, .bool up, .slice oa2 na2 ma2, .slice ob2 nb2 mb2] 25)) := ⟨_, rfl⟩
              have hbY : Below w5.heap.size w5 Y6 := by rw [hY]; exact below_new (Below.refl _ _) _
              have hle : w.heap.size ≤ w5.heap.size := hB.size
              obtain ⟨gb, hgb⟩ : ∃ g, g = w5.heap.size := ⟨_, rfl⟩
              have rb : RowAt Y6 gb [.int .i64 id, .bool up, .slice oa2 na2 ma2, .slice ob2 nb2 mb2] 25 := by
                have h := RowAt.new w5 [.int .i64 id, .bool up, .slice oa2 na2 ma2, .slice ob2 nb2 mb2] 25
                rw [hgb, hY]; exact h
              have leb : w.heap.size ≤ gb := by omega
              have nerb : gr ≠ gb := by have := RowAt.lt rr; omega
              have nepb : gp ≠ gb := by have := RowAt.lt rp; omega
              have necb : gc ≠ gb := by have := RowAt.lt rc; omega
              have nexb : gx ≠ gb := by have := RowAt.lt rx; omega
              have neab : ga ≠ gb := by have := RowAt.lt ra; omega
              replace rr := RowAt.below rr hbY
              replace rp := RowAt.below rp hbY
              replace rc := RowAt.below rc hbY
              replace rx := RowAt.below rx hbY
              replace ra := RowAt.below ra hbY
              replace ha0 := ha0.keep hbY
              replace hb0 := hb0.keep hbY
              replace ha1 := ha1.keep hbY
              replace hb1 := hb1.keep hbY
              replace ha2 := ha2.keep hbY
              replace hb2 := hb2.keep hbY
              replace hB := below2 hB hbY
              go_upto_region 17 with fail
              rw [← hY, ← hgb]
              clear hY hbY hle hgb
              clear ra rp rc ha1 hb1
              obtain ⟨r0, r1, r2, r3, rf⟩ := cells4 rr
              obtain ⟨x0, x1, xf⟩ := cells2 rx
              go_wp2_with fail
              clear r0 r1 r2 r3 rf x0 x1 xf
              go_at_call 10; refine (c3 _ ha0 hb0).mono ?_; rintro e w7 ⟨oa3, na3, ma3, ob3, nb3, mb3, rfl, ha3, hb3, hb⟩
              replace rr := RowAt.below rr hb
              replace rx := RowAt.below rx hb
              replace rb := RowAt.below rb hb
              replace ha0 := ha0.keep hb
              replace hb0 := hb0.keep hb
              replace ha2 := ha2.keep hb
              replace hb2 := hb2.keep hb
              replace hB := below2 hB hb
              clear hb
              obtain ⟨Y8, hY⟩ : ∃ Y, Y = (w7.alloc (.cells #[.int .i64 ci, .bool cu, .slice oa3 na3 ma3, .slice ob3 nb3 mb3] 25)) := ⟨_, rfl⟩
              have hbY : Below w7.heap.size w7 Y8 := by rw [hY]; exact below_new (Below.refl _ _) _
              have hle : w.heap.size ≤ w7.heap.size := hB.size
              obtain ⟨gg, hgg⟩ : ∃ g, g = w7.heap.size := ⟨_, rfl⟩
              have rg : RowAt Y8 gg [.int .i64 ci, .bool cu, .slice oa3 na3 ma3, .slice ob3 nb3 mb3] 25 := by
                have h := RowAt.new w7 [.int .i64 ci, .bool cu, .slice oa3 na3 ma3, .slice ob3 nb3 mb3] 25
                rw [hgg, hY]; exact h
              have leg : w.heap.size ≤ gg := by omega
              have nerg : gr ≠ gg := by have := RowAt.lt rr; omega
              have nexg : gx ≠ gg := by have := RowAt.lt rx; omega
              have nebg : gb ≠ gg := by have := RowAt.lt rb; omega
              replace rr := RowAt.below rr hbY
              replace rx := RowAt.below rx hbY
              replace rb := RowAt.below rb hbY
              replace ha0 := ha0.keep hbY
              replace hb0 := hb0.keep hbY
              replace ha2 := ha2.keep hbY
              replace hb2 := hb2.keep hbY
              replace ha3 := ha3.keep hbY
              replace hb3 := hb3.keep hbY
              replace hB := below2 hB hbY
              go_upto_region 18 with fail
              rw [← hY, ← hgg]
              clear hY hbY hle hgg
              obtain ⟨g0, g1, g2, g3, gf⟩ := cells4 rg
              obtain ⟨r0, r1, r2, r3, rf⟩ := cells4 rr
              obtain ⟨x0, x1, xf⟩ := cells2 rx
              go_wp2_with fail
              clear g0 g1 g2 g3 gf r0 r1 r2 r3 rf x0 x1 xf
              go_at_call 10; refine (c4 _ _ _ ha3 hb3).mono ?_; rintro e w9 ⟨oa4, na4, ma4, ob4, nb4, mb4, rfl, ha4, hb4, hb⟩
              replace rr := RowAt.below rr hb
              replace rx := RowAt.below rx hb
              replace rb := RowAt.below rb hb
              replace rg := RowAt.below rg hb
              replace ha0 := ha0.keep hb
              replace hb0 := hb0.keep hb
              replace ha2 := ha2.keep hb
              replace hb2 := hb2.keep hb
              replace ha3 := ha3.keep hb
              replace hb3 := hb3.keep hb
              replace hB := below2 hB hb
              clear hb
              obtain ⟨Y10, hY⟩ : ∃ Y, Y = (w9.alloc (.cells #[.int .i64 di, .bool du, .slice oa4 na4 ma4, .slice ob4 nb4 mb4] 25)) := ⟨_, rfl⟩
              have hbY : Below w9.heap.size w9 Y10 := by rw [hY]; exact below_new (Below.refl _ _) _
              have hle : w.heap.size ≤ w9.heap.size := hB.size
              obtain ⟨gd, hgd⟩ : ∃ g, g = w9.heap.size := ⟨_, rfl⟩
              have rd : RowAt Y10 gd [.int .i64 di, .bool du, .slice oa4 na4 ma4, .slice ob4 nb4 mb4] 25 := by
                have h := RowAt.new w9 [.int .i64 di, .bool du, .slice oa4 na4 ma4, .slice ob4 nb4 mb4] 25
                rw [hgd, hY]; exact h
              have led : w.heap.size ≤ gd := by omega
              have nerd : gr ≠ gd := by have := RowAt.lt rr; omega
              have nexd : gx ≠ gd := by have := RowAt.lt rx; omega
              have nebd : gb ≠ gd := by have := RowAt.lt rb; omega
              have negd : gg ≠ gd := by have := RowAt.lt rg; omega
              replace rr := RowAt.below rr hbY
              replace rx := RowAt.below rx hbY
              replace rb := RowAt.below rb hbY
              replace rg := RowAt.below rg hbY
              replace ha0 := ha0.keep hbY
              replace hb0 := hb0.keep hbY
              replace ha2 := ha2.keep hbY
              replace hb2 := hb2.keep hbY
              replace ha3 := ha3.keep hbY
              replace hb3 := hb3.keep hbY
              replace ha4 := ha4.keep hbY
              replace hb4 := hb4.keep hbY
              replace hB := below2 hB hbY
              go_upto_region 19 with fail
              rw [← hY, ← hgd]
              clear hY hbY hle hgd
              clear rg rx ha3 hb3 ha4 hb4
              obtain ⟨b0, b1, b2, b3, bf⟩ := cells4 rb
              obtain ⟨r0, r1, r2, r3, rf⟩ := cells4 rr
              go_wp2_with fail
              clear b0 b1 b2 b3 bf r0 r1 r2 r3 rf
              go_at_call 14; refine (same_any ⟨id, up, rts, lks⟩ _ _ _ _ _ ha2 hb2 ha0 hb0).mono ?_; rintro e w11 ⟨rfl, hb⟩
              replace rr := RowAt.below rr hb
              replace rb := RowAt.below rb hb
              replace rd := RowAt.below rd hb
              replace ha0 := ha0.keep hb
              replace hb0 := hb0.keep hb
              replace ha2 := ha2.keep hb
              replace hb2 := hb2.keep hb
              replace hB := below2 hB hb
              clear hb
              go_wp2_with fail
              go_ret
              exact ⟨rfl, hB⟩
          · by_cases hz3 : z3 = 0
            · clear HB
              obtain ⟨⟨bi, bu, br, bl⟩, z1b⟩ := bt
              replace c2 : ∀ W u v, HasRts W u ar → HasLks W v al → Calls Try.prog 10 #[.agg #[.int .i64 ai, .bool au, u, v], .agg #[.int .u8 4, .int .i64 id, .int .u64 2, .int .i64 0, .bool pf.six, .int .u64 (hiN pf.n : Int), .int .u64 (loN pf.n : Int), .int .i64 pf.len, .int .u8 0, .int .i64 0, .int .i64 0, .int .i64 0]] W (RoAt bi bu br bl z1b W) := c2
              have hz1b : (z1 != 0) = true := by simpa using hz1
              clear hz1
              have e := HD hz3
              clear HD
              subst e
              subst hz3
              replace c4 : ∀ W u v, HasRts W u cr → HasLks W v cl → Calls Try.prog 10 #[.agg #[.int .i64 ci, .bool cu, u, v], .agg #[.int .u8 6, .int .i64 id, .int .u64 2, .int .i64 0, .bool false, .int .u64 0, .int .u64 0, .int .i64 0, .int .u8 0, .int .i64 0, .int .i64 xi, .int .i64 0]] W (RoAt id up rts lks 0 W) := c4
              obtain ⟨r0, r1, r2, r3, rf⟩ := cells4 rr
              obtain ⟨p0, p1, p2, p3, pf⟩ := cells4 rp
              obtain ⟨c0, c1, cf⟩ := cells2 rc
              go_wp2_with fail
              clear r0 r1 r2 r3 rf p0 p1 p2 p3 pf c0 c1 cf
              go_at_call 10; refine (c1 _ ha0 hb0).mono ?_; rintro e w3 ⟨oa1, na1, ma1, ob1, nb1, mb1, rfl, ha1, hb1, hb⟩
              replace rr := RowAt.below rr hb
              replace rp := RowAt.below rp hb
              replace rc := RowAt.below rc hb
              replace rx := RowAt.below rx hb
              replace ha0 := ha0.keep hb
              replace hb0 := hb0.keep hb
              replace hB := below2 hB hb
              clear hb
              obtain ⟨Y4, hY⟩ : ∃ Y, Y = (w3.alloc (.cells #[.int .i64 ai, .bool au, .slice oa1 na1 ma1, .slice ob1 nb1 mb1] 25)) := ⟨_, rfl⟩
              have hbY : Below w3.heap.size w3 Y4 := by rw [hY]; exact below_new (Below.refl _ _) _
              have hle : w.heap.size ≤ w3.heap.size := hB.size
              obtain ⟨ga, hga⟩ : ∃ g, g = w3.heap.size := ⟨_, rfl⟩
              have ra : RowAt Y4 ga [.int .i64 ai, .bool au, .slice oa1 na1 ma1, .slice ob1 nb1 mb1] 25 := by
                have h := RowAt.new w3 [.int .i64 ai, .bool au, .slice oa1 na1 ma1, .slice ob1 nb1 mb1] 25
                rw [hga, hY]; exact h
              have lea : w.heap.size ≤ ga := by omega
              have nera : gr ≠ ga := by have := RowAt.lt rr; omega
              have nepa : gp ≠ ga := by have := RowAt.lt rp; omega
              have neca : gc ≠ ga := by have := RowAt.lt rc; omega
              have nexa : gx ≠ ga := by have := RowAt.lt rx; omega
              replace rr := RowAt.below rr hbY
              replace rp := RowAt.below rp hbY
              replace rc := RowAt.below rc hbY
              replace rx := RowAt.below rx hbY
              replace ha0 := ha0.keep hbY
              replace hb0 := hb0.keep hbY
              replace ha1 := ha1.keep hbY
              replace hb1 := hb1.keep hbY
              replace hB := below2 hB hbY
              go_upto_region 16 with fail
              rw [← hY, ← hga]
              clear hY hbY hle hga
              obtain ⟨a0, a1, a2, a3, af⟩ := cells4 ra
              obtain ⟨r0, r1, r2, r3, rf⟩ := cells4 rr
              obtain ⟨p0, p1, p2, p3, pf⟩ := cells4 rp
              go_wp2_with fail
              clear a0 a1 a2 a3 af r0 r1 r2 r3 rf p0 p1 p2 p3 pf
              go_at_call 10; refine (c2 _ _ _ ha1 hb1).mono ?_; rintro e w5 ⟨oa2, na2, ma2, ob2, nb2, mb2, rfl, ha2, hb2, hb⟩
              replace rr := RowAt.below rr hb
              replace rp := RowAt.below rp hb
              replace rc := RowAt.below rc hb
              replace rx := RowAt.below rx hb
              replace ra := RowAt.below ra hb
              replace ha0 := ha0.keep hb
              replace hb0 := hb0.keep hb
              replace ha1 := ha1.keep hb
              replace hb1 := hb1.keep hb
              replace hB := below2 hB hb
              clear hb
              obtain ⟨Y6, hY⟩ : ∃ Y, Y = (w5.alloc (.cells #[.int .i64 bi, .bool bu, .slice oa2 na2 ma2, .slice ob2 nb2 mb2] 25)) := ⟨_, rfl⟩
              have hbY : Below w5.heap.size w5 Y6 := by rw [hY]; exact below_new (Below.refl _ _) _
              have hle : w.heap.size ≤ w5.heap.size := hB.size
              obtain ⟨gb, hgb⟩ : ∃ g, g = w5.heap.size := ⟨_, rfl⟩
              have rb : RowAt Y6 gb [.int .i64 bi, .bool bu, .slice oa2 na2 ma2, .slice ob2 nb2 mb2] 25 := by
                have h := RowAt.new w5 [.int .i64 bi, .bool bu, .slice oa2 na2 ma2, .slice ob2 nb2 mb2] 25
                rw [hgb, hY]; exact h
              have leb : w.heap.size ≤ gb := by omega
              have nerb : gr ≠ gb := by have := RowAt.lt rr; omega
              have nepb : gp ≠ gb := by have := RowAt.lt rp; omega
              have necb : gc ≠ gb := by have := RowAt.lt rc; omega
              have nexb : gx ≠ gb := by have := RowAt.lt rx; omega
              have neab : ga ≠ gb := by have := RowAt.lt ra; omega
              replace rr := RowAt.below rr hbY
              replace rp := RowAt.below rp hbY
              replace rc := RowAt.below rc hbY
              replace rx := RowAt.below rx hbY
              replace ra := RowAt.below ra hbY
              replace ha0 := ha0.keep hbY
              replace hb0 := hb0.keep hbY
              replace ha1 := ha1.keep hbY
              replace hb1 := hb1.keep hbY
              replace ha2 := ha2.keep hbY
              replace hb2 := hb2.keep hbY
              replace hB := below2 hB hbY
              go_upto_region 17 with fail
              rw [← hY, ← hgb]
              clear hY hbY hle hgb
              clear ra rp rc ha1 hb1 ha2 hb2
              obtain ⟨r0, r1, r2, r3, rf⟩ := cells4 rr
              obtain ⟨x0, x1, xf⟩ := cells2 rx
              go_wp2_with fail
              clear r0 r1 r2 r3 rf x0 x1 xf
              go_at_call 10; refine (c3 _ ha0 hb0).mono ?_; rintro e w7 ⟨oa3, na3, ma3, ob3, nb3, mb3, rfl, ha3, hb3, hb⟩
              replace rr := RowAt.below rr hb
              replace rx := RowAt.below rx hb
              replace rb := RowAt.below rb hb
              replace ha0 := ha0.keep hb
              replace hb0 := hb0.keep hb
              replace hB := below2 hB hb
              clear hb
              obtain ⟨Y8, hY⟩ : ∃ Y, Y = (w7.alloc (.cells #[.int .i64 ci, .bool cu, .slice oa3 na3 ma3, .slice ob3 nb3 mb3] 25)) := ⟨_, rfl⟩
              have hbY : Below w7.heap.size w7 Y8 := by rw [hY]; exact below_new (Below.refl _ _) _
              have hle : w.heap.size ≤ w7.heap.size := hB.size
              obtain ⟨gg, hgg⟩ : ∃ g, g = w7.heap.size := ⟨_, rfl⟩
              have rg : RowAt Y8 gg [.int .i64 ci, .bool cu, .slice oa3 na3 ma3, .slice ob3 nb3 mb3] 25 := by
                have h := RowAt.new w7 [.int .i64 ci, .bool cu, .slice oa3 na3 ma3, .slice ob3 nb3 mb3] 25
                rw [hgg, hY]; exact h
              have leg : w.heap.size ≤ gg := by omega
              have nerg : gr ≠ gg := by have := RowAt.lt rr; omega
              have nexg : gx ≠ gg := by have := RowAt.lt rx; omega
              have nebg : gb ≠ gg := by have := RowAt.lt rb; omega
              replace rr := RowAt.below rr hbY
              replace rx := RowAt.below rx hbY
              replace rb := RowAt.below rb hbY
              replace ha0 := ha0.keep hbY
              replace hb0 := hb0.keep hbY
              replace ha3 := ha3.keep hbY
              replace hb3 := hb3.keep hbY
              replace hB := below2 hB hbY
              go_upto_region 18 with fail
              rw [← hY, ← hgg]
              clear hY hbY hle hgg
              obtain ⟨g0, g1, g2, g3, gf⟩ := cells4 rg
              obtain ⟨r0, r1, r2, r3, rf⟩ := cells4 rr
              obtain ⟨x0, x1, xf⟩ := cells2 rx
              go_wp2_with fail
              clear g0 g1 g2 g3 gf r0 r1 r2 r3 rf x0 x1 xf
              go_at_call 10; refine (c4 _ _ _ ha3 hb3).mono ?_; rintro e w9 ⟨oa4, na4, ma4, ob4, nb4, mb4, rfl, ha4, hb4, hb⟩
              replace rr := RowAt.below rr hb
              replace rx := RowAt.below rx hb
              replace rb := RowAt.below rb hb
              replace rg := RowAt.below rg hb
              replace ha0 := ha0.keep hb
              replace hb0 := hb0.keep hb
              replace ha3 := ha3.keep hb
              replace hb3 := hb3.keep hb
              replace hB := below2 hB hb
              clear hb
              obtain ⟨Y10, hY⟩ : ∃ Y, Y = (w9.alloc (.cells #[.int .i64 id, .bool up, .slice oa4 na4 ma4, .slice ob4 nb4 mb4] 25)) := ⟨_, rfl⟩
              have hbY : Below w9.heap.size w9 Y10 := by rw [hY]; exact below_new (Below.refl _ _) _
              have hle : w.heap.size ≤ w9.heap.size := hB.size
              obtain ⟨gd, hgd⟩ : ∃ g, g = w9.heap.size := ⟨_, rfl⟩
              have rd : RowAt Y10 gd [.int .i64 id, .bool up, .slice oa4 na4 ma4, .slice ob4 nb4 mb4] 25 := by
                have h := RowAt.new w9 [.int .i64 id, .bool up, .slice oa4 na4 ma4, .slice ob4 nb4 mb4] 25
                rw [hgd, hY]; exact h
              have led : w.heap.size ≤ gd := by omega
              have nerd : gr ≠ gd := by have := RowAt.lt rr; omega
              have nexd : gx ≠ gd := by have := RowAt.lt rx; omega
              have nebd : gb ≠ gd := by have := RowAt.lt rb; omega
              have negd : gg ≠ gd := by have := RowAt.lt rg; omega
              replace rr := RowAt.below rr hbY
              replace rx := RowAt.below rx hbY
              replace rb := RowAt.below rb hbY
              replace rg := RowAt.below rg hbY
              replace ha0 := ha0.keep hbY
              replace hb0 := hb0.keep hbY
              replace ha3 := ha3.keep hbY
              replace hb3 := hb3.keep hbY
              replace ha4 := ha4.keep hbY
              replace hb4 := hb4.keep hbY
              replace hB := below2 hB hbY
              go_upto_region 19 with fail
              rw [← hY, ← hgd]
              clear hY hbY hle hgd
              clear rg rx ha3 hb3
              obtain ⟨d0, d1, d2, d3, df⟩ := cells4 rd
              obtain ⟨r0, r1, r2, r3, rf⟩ := cells4 rr
              go_wp2_with fail
              clear d0 d1 d2 d3 df r0 r1 r2 r3 rf
              go_at_call 14; refine (same_any ⟨id, up, rts, lks⟩ _ _ _ _ _ ha4 hb4 ha0 hb0).mono ?_; rintro e w11 ⟨rfl, hb⟩
              replace rr := RowAt.below rr hb
              replace rb := RowAt.below rb hb
              replace rd := RowAt.below rd hb
              replace ha0 := ha0.keep hb
              replace hb0 := hb0.keep hb
              replace ha4 := ha4.keep hb
              replace hb4 := hb4.keep hb
              replace hB := below2 hB hb
              clear hb
              go_wp2_with fail
              go_ret
              exact ⟨rfl, hB⟩
            · clear HB
              obtain ⟨⟨bi, bu, br, bl⟩, z1b⟩ := bt
              replace c2 : ∀ W u v, HasRts W u ar → HasLks W v al → Calls Try.prog 10 #[.agg #[.int .i64 ai, .bool au, u, v], .agg #[.int .u8 4, .int .i64 id, .int .u64 2, .int .i64 0, .bool pf.six, .int .u64 (hiN pf.n : Int), .int .u64 (loN pf.n : Int), .int .i64 pf.len, .int .u8 0, .int .i64 0, .int .i64 0, .int .i64 0]] W (RoAt bi bu br bl z1b W) := c2
              have hz1b : (z1 != 0) = true := by simpa using hz1
              clear hz1
              clear HD
              obtain ⟨⟨di, du, dr, dl⟩, z3b⟩ := dt
              replace c4 : ∀ W u v, HasRts W u cr → HasLks W v cl → Calls Try.prog 10 #[.agg #[.int .i64 ci, .bool cu, u, v], .agg #[.int .u8 6, .int .i64 id, .int .u64 2, .int .i64 0, .bool false, .int .u64 0, .int .u64 0, .int .i64 0, .int .u8 0, .int .i64 0, .int .i64 xi, .int .i64 0]] W (RoAt di du dr dl z3b W) := c4
              have hz3b : (z3 != 0) = true := by simpa using hz3
              clear hz3
              obtain ⟨r0, r1, r2, r3, rf⟩ := cells4 rr
              obtain ⟨p0, p1, p2, p3, pf⟩ := cells4 rp
              obtain ⟨c0, c1, cf⟩ := cells2 rc
              go_wp2_with fail
              clear r0 r1 r2 r3 rf p0 p1 p2 p3 pf c0 c1 cf
              go_at_call 10; refine (c1 _ ha0 hb0).mono ?_; rintro e w3 ⟨oa1, na1, ma1, ob1, nb1, mb1, rfl, ha1, hb1, hb⟩
              replace rr := RowAt.below rr hb
              replace rp := RowAt.below rp hb
              replace rc := RowAt.below rc hb
              replace rx := RowAt.below rx hb
              replace ha0 := ha0.keep hb
              replace hb0 := hb0.keep hb
              replace hB := below2 hB hb
              clear hb
              obtain ⟨Y4, hY⟩ : ∃ Y, Y = (w3.alloc (.cells #[.int .i64 ai, .bool au, .slice oa1 na1 ma1, .slice ob1 nb1 mb1] 25)) := ⟨_, rfl⟩
              have hbY : Below w3.heap.size w3 Y4 := by rw [hY]; exact below_new (Below.refl _ _) _
              have hle : w.heap.size ≤ w3.heap.size := hB.size
              obtain ⟨ga, hga⟩ : ∃ g, g = w3.heap.size := ⟨_, rfl⟩
              have ra : RowAt Y4 ga [.int .i64 ai, .bool au, .slice oa1 na1 ma1, .slice ob1 nb1 mb1] 25 := by
                have h := RowAt.new w3 [.int .i64 ai, .bool au, .slice oa1 na1 ma1, .slice ob1 nb1 mb1] 25
                rw [hga, hY]; exact h
              have lea : w.heap.size ≤ ga := by omega
              have nera : gr ≠ ga := by have := RowAt.lt rr; omega
              have nepa : gp ≠ ga := by have := RowAt.lt rp; omega
              have neca : gc ≠ ga := by have := RowAt.lt rc; omega
              have nexa : gx ≠ ga := by have := RowAt.lt rx; omega
              replace rr := RowAt.below rr hbY
              replace rp := RowAt.below rp hbY
              replace rc := RowAt.below rc hbY
              replace rx := RowAt.below rx hbY
              replace ha0 := ha0.keep hbY
              replace hb0 := hb0.keep hbY
              replace ha1 := ha1.keep hbY
              replace hb1 := hb1.keep hbY
              replace hB := below2 hB hbY
              go_upto_region 16 with fail
              rw [← hY, ← hga]
              clear hY hbY hle hga
              obtain ⟨a0, a1, a2, a3, af⟩ := cells4 ra
              obtain ⟨r0, r1, r2, r3, rf⟩ := cells4 rr
              obtain ⟨p0, p1, p2, p3, pf⟩ := cells4 rp
              go_wp2_with fail
              clear a0 a1 a2 a3 af r0 r1 r2 r3 rf p0 p1 p2 p3 pf
              go_at_call 10; refine (c2 _ _ _ ha1 hb1).mono ?_; rintro e w5 ⟨oa2, na2, ma2, ob2, nb2, mb2, rfl, ha2, hb2, hb⟩
              replace rr := RowAt.below rr hb
              replace rp := RowAt.below rp hb
              replace rc := RowAt.below rc hb
              replace rx := RowAt.below rx hb
              replace ra := RowAt.below ra hb
              replace ha0 := ha0.keep hb
              replace hb0 := hb0.keep hb
              replace ha1 := ha1.keep hb
              replace hb1 := hb1.keep hb
              replace hB := below2 hB hb
              clear hb
              obtain ⟨Y6, hY⟩ : ∃ Y, Y = (w5.alloc (.cells #[.int .i64 bi, .bool bu, .slice oa2 na2 ma2, .slice ob2 nb2 mb2] 25)) := ⟨_, rfl⟩
              have hbY : Below w5.heap.size w5 Y6 := by rw [hY]; exact below_new (Below.refl _ _) _
              have hle : w.heap.size ≤ w5.heap.size := hB.size
              obtain ⟨gb, hgb⟩ : ∃ g, g = w5.heap.size := ⟨_, rfl⟩
              have rb : RowAt Y6 gb [.int .i64 bi, .bool bu, .slice oa2 na2 ma2, .slice ob2 nb2 mb2] 25 := by
                have h := RowAt.new w5 [.int .i64 bi, .bool bu, .slice oa2 na2 ma2, .slice ob2 nb2 mb2] 25
                rw [hgb, hY]; exact h
              have leb : w.heap.size ≤ gb := by omega
              have nerb : gr ≠ gb := by have := RowAt.lt rr; omega
              have nepb : gp ≠ gb := by have := RowAt.lt rp; omega
              have necb : gc ≠ gb := by have := RowAt.lt rc; omega
              have nexb : gx ≠ gb := by have := RowAt.lt rx; omega
              have neab : ga ≠ gb := by have := RowAt.lt ra; omega
              replace rr := RowAt.below rr hbY
              replace rp := RowAt.below rp hbY
              replace rc := RowAt.below rc hbY
              replace rx := RowAt.below rx hbY
              replace ra := RowAt.below ra hbY
              replace ha0 := ha0.keep hbY
              replace hb0 := hb0.keep hbY
              replace ha1 := ha1.keep hbY
              replace hb1 := hb1.keep hbY
              replace ha2 := ha2.keep hbY
              replace hb2 := hb2.keep hbY
              replace hB := below2 hB hbY
              go_upto_region 17 with fail
              rw [← hY, ← hgb]
              clear hY hbY hle hgb
              clear ra rp rc ha1 hb1 ha2 hb2
              obtain ⟨r0, r1, r2, r3, rf⟩ := cells4 rr
              obtain ⟨x0, x1, xf⟩ := cells2 rx
              go_wp2_with fail
              clear r0 r1 r2 r3 rf x0 x1 xf
              go_at_call 10; refine (c3 _ ha0 hb0).mono ?_; rintro e w7 ⟨oa3, na3, ma3, ob3, nb3, mb3, rfl, ha3, hb3, hb⟩
              replace rr := RowAt.below rr hb
              replace rx := RowAt.below rx hb
              replace rb := RowAt.below rb hb
              replace ha0 := ha0.keep hb
              replace hb0 := hb0.keep hb
              replace hB := below2 hB hb
              clear hb
              obtain ⟨Y8, hY⟩ : ∃ Y, Y = (w7.alloc (.cells #[.int .i64 ci, .bool cu, .slice oa3 na3 ma3, .slice ob3 nb3 mb3] 25)) := ⟨_, rfl⟩
              have hbY : Below w7.heap.size w7 Y8 := by rw [hY]; exact below_new (Below.refl _ _) _
              have hle : w.heap.size ≤ w7.heap.size := hB.size
              obtain ⟨gg, hgg⟩ : ∃ g, g = w7.heap.size := ⟨_, rfl⟩
              have rg : RowAt Y8 gg [.int .i64 ci, .bool cu, .slice oa3 na3 ma3, .slice ob3 nb3 mb3] 25 := by
                have h := RowAt.new w7 [.int .i64 ci, .bool cu, .slice oa3 na3 ma3, .slice ob3 nb3 mb3] 25
                rw [hgg, hY]; exact h
              have leg : w.heap.size ≤ gg := by omega
              have nerg : gr ≠ gg := by have := RowAt.lt rr; omega
              have nexg : gx ≠ gg := by have := RowAt.lt rx; omega
              have nebg : gb ≠ gg := by have := RowAt.lt rb; omega
              replace rr := RowAt.below rr hbY
              replace rx := RowAt.below rx hbY
              replace rb := RowAt.below rb hbY
              replace ha0 := ha0.keep hbY
              replace hb0 := hb0.keep hbY
              replace ha3 := ha3.keep hbY
              replace hb3 := hb3.keep hbY
              replace hB := below2 hB hbY
              go_upto_region 18 with fail
              rw [← hY, ← hgg]
              clear hY hbY hle hgg
              obtain ⟨g0, g1, g2, g3, gf⟩ := cells4 rg
              obtain ⟨r0, r1, r2, r3, rf⟩ := cells4 rr
              obtain ⟨x0, x1, xf⟩ := cells2 rx
              go_wp2_with fail
              clear g0 g1 g2 g3 gf r0 r1 r2 r3 rf x0 x1 xf
              go_at_call 10; refine (c4 _ _ _ ha3 hb3).mono ?_; rintro e w9 ⟨oa4, na4, ma4, ob4, nb4, mb4, rfl, ha4, hb4, hb⟩
              replace rr := RowAt.below rr hb
              replace rx := RowAt.below rx hb
              replace rb := RowAt.below rb hb
              replace rg := RowAt.below rg hb
              replace ha0 := ha0.keep hb
              replace hb0 := hb0.keep hb
              replace ha3 := ha3.keep hb
              replace hb3 := hb3.keep hb
              replace hB := below2 hB hb
              clear hb
              obtain ⟨Y10, hY⟩ : ∃ Y, Y = (w9.alloc (.cells #[.int .i64 di, .bool du, .slice oa4 na4 ma4, .slice ob4 nb4 mb4] 25)) := ⟨_, rfl⟩
              have hbY : Below w9.heap.size w9 Y10 := by rw [hY]; exact below_new (Below.refl _ _) _
              have hle : w.heap.size ≤ w9.heap.size := hB.size
              obtain ⟨gd, hgd⟩ : ∃ g, g = w9.heap.size := ⟨_, rfl⟩
              have rd : RowAt Y10 gd [.int .i64 di, .bool du, .slice oa4 na4 ma4, .slice ob4 nb4 mb4] 25 := by
                have h := RowAt.new w9 [.int .i64 di, .bool du, .slice oa4 na4 ma4, .slice ob4 nb4 mb4] 25
                rw [hgd, hY]; exact h
              have led : w.heap.size ≤ gd := by omega
              have nerd : gr ≠ gd := by have := RowAt.lt rr; omega
              have nexd : gx ≠ gd := by have := RowAt.lt rx; omega
              have nebd : gb ≠ gd := by have := RowAt.lt rb; omega
              have negd : gg ≠ gd := by have := RowAt.lt rg; omega
              replace rr := RowAt.below rr hbY
              replace rx := RowAt.below rx hbY
              replace rb := RowAt.below rb hbY
              replace rg := RowAt.below rg hbY
              replace ha0 := ha0.keep hbY
              replace hb0 := hb0.keep hbY
              replace ha3 := ha3.keep hbY
              replace hb3 := hb3.keep hbY
              replace ha4 := ha4.keep hbY
              replace hb4 := hb4.keep hbY
              replace hB := below2 hB hbY
              go_upto_region 19 with fail
              rw [← hY, ← hgd]
              clear hY hbY hle hgd
              clear rg rx ha3 hb3 ha4 hb4
              go_wp2_with fail
              go_ret
              exact ⟨rfl, hB⟩
theorem walk (R : Ro) (x y : Value) (p : Pf) (a : Ac) (k : Lk) (w : World) (b0 : HasRts w x R.rts) (c0 : HasLks w y R.lks) (f0 : FitRo R) (b1 : (-9223372036854775808 ≤ p.len ∧ p.len ≤ 9223372036854775807) ∧ p.n < 2 ^ 128) (b2 : FitA a) (b3 : FitL k) :
    Calls Try.prog 6 #[.agg #[.int .i64 R.id, .bool R.up, x, y], pfV p, acV a, lkV k] w fun e w' => e = .returned (.bool true) ∧ Below w.heap.size w w' := by
  obtain ⟨o2, m2, rfl, hm2⟩ := Lk.HasRow.slice b0
  obtain ⟨o3, m3, rfl, hm3⟩ := Lk.HasRow.slice c0
  have z1 : (-9223372036854775808 : Int) ≤ 0 ∧ (0 : Int) ≤ 9223372036854775807 := by decide
  have z2 : (0 : Nat) < 2 ^ 128 := by decide
  have z3 : FitA ⟨0, 0⟩ := ⟨by decide, by decide, by decide⟩
  have fe3 : FitE ⟨3, R.id, 1, 0, p, a, 0, 0⟩ := ⟨by show ((3 : Nat) : Int) ≤ 255; decide, f0.id, by show ((1 : Nat) : Int) ≤ 18446744073709551615; decide, z1, b1.1, b1.2, b2, z1, z1⟩
  have fe4 : FitE ⟨4, R.id, 2, 0, p, ⟨0, 0⟩, 0, 0⟩ := ⟨by show ((4 : Nat) : Int) ≤ 255; decide, f0.id, by show ((2 : Nat) : Int) ≤ 18446744073709551615; decide, z1, b1.1, b1.2, z3, z1, z1⟩
  have fe5 : FitE ⟨5, R.id, 1, 0, ⟨false, 0, 0⟩, ⟨0, 0⟩, k.iface, k.peer⟩ := ⟨by show ((5 : Nat) : Int) ≤ 255; decide, f0.id, by show ((1 : Nat) : Int) ≤ 18446744073709551615; decide, z1, z1, z2, z3, b3.1, b3.2⟩
  have fe6 : FitE ⟨6, R.id, 2, 0, ⟨false, 0, 0⟩, ⟨0, 0⟩, k.iface, 0⟩ := ⟨by show ((6 : Nat) : Int) ≤ 255; decide, f0.id, by show ((2 : Nat) : Int) ≤ 18446744073709551615; decide, z1, z1, z2, z3, b3.1, z1⟩
  have fA := fit_apply f0 fe3
  have fC := fit_apply f0 fe5
  have c1 := fun W h h' => apply_any R ⟨3, R.id, 1, 0, p, a, 0, 0⟩ (.slice o2 R.rts.length m2) (.slice o3 R.lks.length m3) W h h' f0 fe3
  have c2 := fun W u v h h' => apply_any (applyRo R ⟨3, R.id, 1, 0, p, a, 0, 0⟩).1 ⟨4, R.id, 2, 0, p, ⟨0, 0⟩, 0, 0⟩ u v W h h' fA fe4
  have c3 := fun W h h' => apply_any R ⟨5, R.id, 1, 0, ⟨false, 0, 0⟩, ⟨0, 0⟩, k.iface, k.peer⟩ (.slice o2 R.rts.length m2) (.slice o3 R.lks.length m3) W h h' f0 fe5
  have c4 := fun W u v h h' => apply_any (applyRo R ⟨5, R.id, 1, 0, ⟨false, 0, 0⟩, ⟨0, 0⟩, k.iface, k.peer⟩).1 ⟨6, R.id, 2, 0, ⟨false, 0, 0⟩, ⟨0, 0⟩, k.iface, 0⟩ u v W h h' fC fe6
  have hB : (∀ y ∈ R.rts, y.pf ≠ p) → (applyRo R ⟨3, R.id, 1, 0, p, a, 0, 0⟩).2 = 0 → applyRo (applyRo R ⟨3, R.id, 1, 0, p, a, 0, 0⟩).1 ⟨4, R.id, 2, 0, p, ⟨0, 0⟩, 0, 0⟩ = (R, 0) := fun h h' => back_route h h'
  have hD : (∀ y ∈ R.lks, y.iface ≠ k.iface) → (applyRo R ⟨5, R.id, 1, 0, ⟨false, 0, 0⟩, ⟨0, 0⟩, k.iface, k.peer⟩).2 = 0 → applyRo (applyRo R ⟨5, R.id, 1, 0, ⟨false, 0, 0⟩, ⟨0, 0⟩, k.iface, k.peer⟩).1 ⟨6, R.id, 2, 0, ⟨false, 0, 0⟩, ⟨0, 0⟩, k.iface, 0⟩ = (R, 0) := fun h h' => back_link h h'
  unfold evV evC at c1 c2 c3 c4
  simp only [Msg.hi0, Msg.lo0] at c3 c4
  generalize applyRo (applyRo R ⟨3, R.id, 1, 0, p, a, 0, 0⟩).1 ⟨4, R.id, 2, 0, p, ⟨0, 0⟩, 0, 0⟩ = bt at c2 hB
  generalize applyRo (applyRo R ⟨5, R.id, 1, 0, ⟨false, 0, 0⟩, ⟨0, 0⟩, k.iface, k.peer⟩).1 ⟨6, R.id, 2, 0, ⟨false, 0, 0⟩, ⟨0, 0⟩, k.iface, 0⟩ = dt at c4 hD
  generalize applyRo R ⟨3, R.id, 1, 0, p, a, 0, 0⟩ = At at c1 c2 hB
  generalize applyRo R ⟨5, R.id, 1, 0, ⟨false, 0, 0⟩, ⟨0, 0⟩, k.iface, k.peer⟩ = Ct at c3 c4 hD
  exact walks R.id R.up R.rts R.lks o2 o3 _ _ m2 m3 p a k.iface k.peer At.1.id Ct.1.id At.1.up Ct.1.up At.1.rts Ct.1.rts At.1.lks Ct.1.lks At.2 Ct.2 bt dt w b0 c0 rfl rfl (by omega) (by omega) c1 c2 c3 c4 hB hD

set_option maxRecDepth 100000 in
theorem lifted (os : Os) (started : os.Started) (H : Type) (enc : TypeId × Value → H) :
    ReturnsInHanded {} Try.checked os 6 .any (Rows.fibBackSpec.pre6 enc Try.prog Try.f6 Rows.fibBackRow.domain false) (Rows.fibBackSpec.post enc Try.prog Try.f6 false true false false) := by
  refine returnsInHanded_of_change_sized (C := Try.checked) own started (by kernel_rfl) Try.func6
    (ChangeSpec.witness6 (enc := enc) (C := Try.checked) false ⟨#[], #[.agg #[.int .i64 0, .bool false, .slice none 0 0, .slice none 0 0], .agg #[.bool false, .int .u64 0, .int .u64 0, .int .i64 0], .agg #[.int .u8 0, .int .i64 0], .agg #[.int .i64 0, .int .i64 0]], []⟩ 8 (by kernel_rfl) (by kernel_rfl) (by kernel_rfl) (by kernel_rfl)) ?_
  intro W base args ds gs before hval0 hW _ hsz0 _
  have hsz : (DataW.weightsEach Try.prog (Try.f6.params.toList ++ Rows.fibBackSpec.plain.varTypes Try.prog) (ds ++ gs)).all (· ≤ reachBytes) = true := hsz0
  clear hsz0
  have hval : ∀ (j : Nat) t v, Try.f6.params[j]? = some t → args[j]? = some v → Value.okWide Try.prog W .any base t v := hval0
  have hW' := hW
  obtain ⟨p, q, hA0, hV, rfl, hfz, hnd⟩ := hW
  have hA : DataW.TrodAll enc Try.prog W 0 (fun _ => true) true Try.f6.params.toList args.toList ds p := hA0
  rw [Try.params6] at hA hval hsz
  obtain ⟨v0, vs0, d0, ds0, p0, q0, hargs, rfl, rfl, h0, r0⟩ := trodAll_cons hA
  obtain ⟨v1, vs1, d1, ds1, p1, q1, rfl, rfl, rfl, h1, r1⟩ := trodAll_cons r0
  obtain ⟨v2, vs2, d2, ds2, p2, q2, rfl, rfl, rfl, h2, r2⟩ := trodAll_cons r1
  obtain ⟨v3, vs3, d3, ds3, p3, q3, rfl, rfl, rfl, h3, r3⟩ := trodAll_cons r2
  obtain ⟨rfl, rfl, rfl⟩ := trodAll_nil r3
  obtain rfl : args = #[v0, v1, v2, v3] := by cases args; simp_all
  obtain ⟨rfl, rfl⟩ := trodVars_none hV
  have k0 := h0
  have lt0 : ∀ x ∈ p0, x.block < W.heap.size := by obtain ⟨m, hm⟩ := k0; exact DataW.trod_lt m _ _ _ hm
  obtain ⟨R0, x0, y0, rfl, b0, c0, f0⟩ := Fib.open_router (hval 0 25 v0 rfl rfl) h0
  have k1 := h1
  have lt1 : ∀ x ∈ p1, x.block < W.heap.size := by obtain ⟨m, hm⟩ := k1; exact DataW.trod_lt m _ _ _ hm
  obtain ⟨n1, rfl, b1⟩ := Addr.open_prefix (hval 1 39 v1 rfl rfl) h1
  have k2 := h2
  have lt2 : ∀ x ∈ p2, x.block < W.heap.size := by obtain ⟨m, hm⟩ := k2; exact DataW.trod_lt m _ _ _ hm
  obtain ⟨n2, rfl, b2⟩ := Msg.open_action (hval 2 42 v2 rfl rfl) h2
  have k3 := h3
  have lt3 : ∀ x ∈ p3, x.block < W.heap.size := by obtain ⟨m, hm⟩ := k3; exact DataW.trod_lt m _ _ _ hm
  obtain ⟨n3, rfl, b3⟩ := Lk.open_link (hval 3 53 v3 rfl rfl) h3
  clear hA0 hval0
  refine (walk R0 x0 y0 n1 n2 n3 W b0 c0 f0 b1 b2 b3).mono fun e W' ⟨he, bel⟩ => ?_
  subst he
  exact ⟨_, rfl, _, _, _, [], _, [], hW', trodAll_mk1 (shut_bool Try.underlying4 _), (trodAll_cons_mk (Below.trod laidOut (by kernel_rfl) (of_decide_eq_true (by kernel_rfl)) k0 bel lt0) (trodAll_cons_mk (Below.trod laidOut (by kernel_rfl) (of_decide_eq_true (by kernel_rfl)) k1 bel lt1) (trodAll_cons_mk (Below.trod laidOut (by kernel_rfl) (of_decide_eq_true (by kernel_rfl)) k2 bel lt2) (trodAll_cons_mk (Below.trod laidOut (by kernel_rfl) (of_decide_eq_true (by kernel_rfl)) k3 bel lt3) trodAll_mk0)))), rfl, bel.frame _, fun h => by cases h⟩

theorem over : Rows.fibBackRow.holds Try.pinned (OpenSpec.ofChange Rows.fibBackSpec) :=
  OpenClaim.holds_of_wide 6 Try.f6 rfl rfl rfl rfl rfl rfl rfl ⟨rfl, rfl, rfl, rfl, rfl⟩ rfl rfl rfl rfl rfl (by kernel_rfl) Try.func6 (by kernel_rfl)
    (of_decide_eq_true (by kernel_rfl)) (by unfold Func.isWrapper; first | (rw [if_pos (by decide +kernel)]; kernel_rfl) | (rw [if_neg (by decide +kernel)]; exact ⟨rfl, rfl⟩))
    (fun os started H enc _ => lifted os started H enc)
end fibBack
theorem fback_holds : Rows.FibBackSaid := fibBack.over
#print axioms fback_holds
end Go.Proofs.Ytpooiehhepimkaa
