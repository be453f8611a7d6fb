/- For all nets, a router, a kind and an address: spoorlaw18.NetAsks returns true, and changes nothing that was there. No condition. -/
import Derived.Test.YtbglbegljkgknaaGreatNq42
import Derived.Test.YtbglbegljkgknaaGreatNq16
import Derived.Test.YtbglbegljkgknaaGreatRows
import Derived.Test.YtbglbegljkgknaaGreatNq41
import Derived.Test.YtbglbegljkgknaaGreatNs07
import Derived.ProofKit
import Derived.OpenShut
import Derived.ShutString
import Derived.SizedLaws
set_option linter.unusedVariables false
namespace Go.Proofs.YtbglbegljkgknaaGreat.Nt
open Go.ChangeShapes Go.WideShapes Go.ChangeAt Go.RowKit
open Go.Proofs.YtbglbegljkgknaaGreat.Lk (HasLks FitL HasRow hasRow_nil row_of flat_get)
open Go.Proofs.YtbglbegljkgknaaGreat.Tr (HasRts FitR)
open Go.Proofs.YtbglbegljkgknaaGreat.Fib
open Go.Proofs.YtbglbegljkgknaaGreat.Ord (St HasSts)
section
variable {H : Type} {enc : TypeId × Value → H} {W : World} {base : Nat} {spare : Nat → Bool} {held : Bool}
set_option maxRecDepth 100000 in
theorem open_routers {v : Value} {fuel : Nat} {x : DataW H × List MemPlace} (h : DataW.trod enc Tryz.prog W base spare held fuel 23 [v] = some x) : ∃ L : List Ro, HasRos W v L ∧ ∀ R ∈ L, FitRo R := by
  rcases Go.Deep.open_slice Tryz.underlying23 h with ⟨hcs, _⟩ | ⟨a, l, c, m, n, D, Pl, hcs, _, hl, hm, hmm, _, hx⟩
  · injection hcs with e; subst e
    exact ⟨[], hasRos_nil _, by simp⟩
  · injection hcs with e; subst e
    have hlm : l ≤ m := by rw [hmm]; split <;> omega
    have hA : ∀ i, ∃ p : RoM, i < l → (∀ j, j < 4 → W.cell? (a.add (i * 4 + j)) = (roC p)[j]?) ∧ RowsOf W p ∧ FitRo p.ro := fun i => by
      by_cases hi : i < l
      · obtain ⟨cs', h1, h2⟩ := hx i (by omega)
        rw [show Tryz.prog.cellsOf 51 = 4 from by kernel_rfl] at h1
        obtain ⟨_, hlen, hcell⟩ := World.cells?_some h1
        obtain ⟨c0, c1, c2, c3, rfl⟩ : ∃ c0 c1 c2 c3, cs' = [c0, c1, c2, c3] := by
          match cs', hlen with
          | [c0, c1, c2, c3], _ => exact ⟨c0, c1, c2, c3, rfl⟩
        obtain ⟨R, e0, e1, r1, r2, fR⟩ := open_ro4 h2
        refine ⟨⟨R, c2, c3⟩, fun _ => ⟨fun j hj => ?_, ⟨r1, r2⟩, fR⟩⟩
        have hh : roC ⟨R, c2, c3⟩ = [c0, c1, c2, c3] := by rw [e0, e1]; rfl
        rw [hh]
        have := hcell j hj
        rw [Go.Deep.add_add] at this
        rw [this]
      · exact ⟨⟨zeroRo, .bool false, .bool false⟩, fun h => absurd h hi⟩
    obtain ⟨F, hF⟩ := Classical.axiomOfChoice hA
    refine ⟨rosOf ((List.range l).map F), ⟨(List.range l).map F, rfl, ?_, fun p hp => ?_⟩, fun R hR => ?_⟩
    · rw [List.length_map, List.length_range]
      refine row_of (by decide) hl hm (by rw [roCs_len]; simp) (fun j hj => ?_)
      have hj2 : j / 4 < l := by omega
      obtain ⟨hc, _⟩ := hF (j / 4) hj2
      show _ = (((List.range l).map F).flatMap roC)[j]?
      rw [flat_get roC 4 (by decide) (fun x => rfl) _ j (by simp; omega)]
      simp only [List.getElem_map, List.getElem_range]
      rw [← hc (j % 4) (by omega)]
      congr 2
      omega
    · obtain ⟨i, hi, rfl⟩ := List.mem_map.1 hp
      exact (hF i (List.mem_range.1 hi)).2.1
    · unfold rosOf at hR
      obtain ⟨p, hp, rfl⟩ := List.mem_map.1 hR
      obtain ⟨i, hi, rfl⟩ := List.mem_map.1 hp
      exact (hF i (List.mem_range.1 hi)).2.2
set_option maxRecDepth 100000 in
theorem open_net2 {s c : Value} {fuel : Nat} {d : DataW H × List MemPlace} (hf : DataW.trod enc Tryz.prog W base spare held fuel 25 [s, c] = some d) : ∃ n : NetT, HasSts W s n.seats ∧ HasRos W c n.ros ∧ FitN n := by
  obtain ⟨xs, n, _, _, hlen, hxl, hfs⟩ := DataW.trod_struct Tryz.underlying25 hf
  have g0 : DataW.trod enc Tryz.prog W base spare held n 22 ((([s, c] : List Value).drop 0).take (Tryz.prog.cellsOf 22)) = xs[0]? := hfs 0 _ rfl
  have g1 : DataW.trod enc Tryz.prog W base spare held n 23 ((([s, c] : List Value).drop 1).take (Tryz.prog.cellsOf 23)) = xs[1]? := hfs 1 _ rfl
  have hx4 : xs.length = 2 := hxl
  rw [List.getElem?_eq_getElem (by omega)] at g0 g1
  rw [show Tryz.prog.cellsOf 22 = 1 from by kernel_rfl] at g0
  rw [show Tryz.prog.cellsOf 23 = 1 from by kernel_rfl] at g1
  obtain ⟨zs, hs, hzl⟩ := Ord.open_seats (v := s) g0
  obtain ⟨qs, hp, hql⟩ := open_routers (v := c) g1
  exact ⟨⟨zs, qs⟩, hs, hp, hzl, hql⟩
set_option maxRecDepth 100000 in
theorem open_net {v : Value} {d : DataW H} {ps : List MemPlace} {r : Reach} {b0 : Nat} (hval : Value.okWide Tryz.prog W r b0 25 v) (h : DataW.Trod enc Tryz.prog W base spare held 25 v d ps) : ∃ (n : NetT) (a b : Value), v = .agg #[a, b] ∧ HasSts W a n.seats ∧ HasRos W b n.ros ∧ FitN n := by
  obtain ⟨cs, rfl, hsz⟩ := okWide_struct Tryz.underlying25 hval
  obtain ⟨fuel, hf⟩ := h
  rw [show Tryz.prog.cellsOf 25 = 2 from by kernel_rfl] at hsz
  obtain ⟨s, c, rfl⟩ : ∃ s c, cs = #[s, c] := by
    obtain ⟨l⟩ := cs
    match l, hsz with
    | [s, c], _ => exact ⟨s, c, rfl⟩
  obtain ⟨n, h1, h2, h3⟩ := open_net2 hf
  exact ⟨n, s, c, rfl, h1, h2, h3⟩
end
end Go.Proofs.YtbglbegljkgknaaGreat.Nt
namespace Go.Proofs.YtbglbegljkgknaaGreat
namespace netAsks
open Go.ChangeShapes Go.WideShapes Go.ChangeAt Go.RowKit
open Go.ChangeMaps (open_string shut_string)
open Go.Proofs.YtbglbegljkgknaaGreat.Lk (HasLks HasRow HasLks.keep hasRow_own)
open Go.Proofs.YtbglbegljkgknaaGreat.Tr (Rt HasRts HasRts.keep)
open Go.Proofs.YtbglbegljkgknaaGreat.Msg (Ev Ac okE FitE evV evC)
open Go.Proofs.YtbglbegljkgknaaGreat.Fib (Ro RoIs FitRo cells12)
open Go.Proofs.YtbglbegljkgknaaGreat.Nt
open Go.Proofs.YtbglbegljkgknaaGreat.Ord (St HasSts HasSts.keep nextL okL)
open Go.Proofs.YtbglbegljkgknaaGreat.Addr (RowAt below2 below_drew below_new bset RowAt.lt RowAt.cell RowAt.frozen RowAt.below RowAt.drew RowAt.new RowAt.alloc RowAt.set1 RowAt.gkeep gset grefl cells2 cells4 hiN loN)
theorem own : ownKnob Tryz.prog.godebug = none := by kernel_rfl
theorem laidOut : laidOutB Tryz.prog = true := by kernel_rfl
set_option maxHeartbeats 16000000 in
set_option maxRecDepth 20000 in
theorem walks (so lo : Option Addr) (sn sc ln lc : Nat) (id : Int) (six : Bool) (ah al hk hp z1 z2 z3 z4 : Int) (R : Ro) (S : List St) (L : List Ro) (w : World) (hS : HasSts w (.slice so sn sc) S) (hL : HasRos w (.slice lo ln lc) L)
    (c1 : ∀ W u v, HasSts W u S → HasRos W v L → Calls Tryz.prog 17 #[.agg #[u, v], .int .i64 id] W (RoIs R z1 W)) (c2 : ∀ W u v, HasSts W u S → HasRos W v L → Calls Tryz.prog 18 #[.agg #[u, v], .int .i64 id] W (RoIs R z1 W)) (c3 : ∀ W u v, HasSts W u S → HasRos W v L → Calls Tryz.prog 19 #[.agg #[u, v], .int .i64 id, .bool six, .agg #[.int .u64 ah, .int .u64 al]] W fun e w' => e = .returned (.tuple #[.agg #[.int .u8 hk, .int .i64 hp], .int .i64 z2]) ∧ Below W.heap.size W w') (c4 : ∀ W u v, HasSts W u S → HasRos W v L → Calls Tryz.prog 20 #[.agg #[u, v], .int .i64 id, .bool six, .agg #[.int .u64 ah, .int .u64 al]] W fun e w' => e = .returned (.tuple #[.agg #[.int .u8 hk, .int .i64 hp], .int .i64 z2]) ∧ Below W.heap.size W w') (c5 : ∀ W u v, HasSts W u S → HasRos W v L → Calls Tryz.prog 21 #[.agg #[u, v]] W fun e w' => e = .returned (.tuple #[.int .i64 z3, .int .i64 z4]) ∧ Below W.heap.size W w') (c6 : ∀ W u v, HasSts W u S → HasRos W v L → Calls Tryz.prog 22 #[.agg #[u, v]] W fun e w' => e = .returned (.tuple #[.int .i64 z3, .int .i64 z4]) ∧ Below W.heap.size W w') :
    Calls Tryz.prog 4 #[.agg #[.slice so sn sc, .slice lo ln lc], .int .i64 id, .bool six, .agg #[.int .u64 ah, .int .u64 al]] w (BoolIs true w) := by
  have hB := Below.refl w.heap.size w
  go_enter Tryz.func4, Tryz.ntmps4
  obtain ⟨Y1, hY⟩ : ∃ Y, Y = ((w.alloc (.cells #[.slice so sn sc, .slice lo ln lc] 25)).alloc (.cells #[.int .u64 ah, .int .u64 al] 31)) := ⟨_, rfl⟩
  have hbY : Below w.heap.size w Y1 := by rw [hY]; exact below_new (below_new (Below.refl _ _) _) _
  have hle : w.heap.size ≤ w.heap.size := hB.size
  obtain ⟨gn, hgn⟩ : ∃ g, g = w.heap.size := ⟨_, rfl⟩
  have rn : RowAt Y1 gn [.slice so sn sc, .slice lo ln lc] 25 := by
    have h := (RowAt.new w [.slice so sn sc, .slice lo ln lc] 25).alloc (.cells #[.int .u64 ah, .int .u64 al] 31)
    rw [hgn, hY]; exact h
  have len : w.heap.size ≤ gn := by omega
  obtain ⟨ga, hga⟩ : ∃ g, g = w.heap.size + 1 := ⟨_, rfl⟩
  have ra : RowAt Y1 ga [.int .u64 ah, .int .u64 al] 31 := by
    have h := RowAt.new (w.alloc (.cells #[.slice so sn sc, .slice lo ln lc] 25)) [.int .u64 ah, .int .u64 al] 31
    simp only [World.size_alloc] at h
    rw [hga, hY]; exact h
  have lea : w.heap.size ≤ ga := by omega
  have nena : gn ≠ ga := by omega
  replace hS := hS.keep hbY
  replace hL := hL.keep hbY
  replace hB := below2 hB hbY
  go_upto_region 1 with fail
  rw [← hY, ← hga, ← hgn]
  clear hY hbY hle hgn hga
  obtain ⟨n0, n1, nf⟩ := cells2 rn
  go_wp2_with fail
  clear n0 n1 nf
  go_at_call 17; refine (c1 _ _ _ hS hL).mono ?_; rintro e w2 ⟨a1, b1, c1_, d1, i1, g1_, rfl, hT1, hM1, hb⟩
  replace rn := RowAt.below rn hb
  replace ra := RowAt.below ra hb
  replace hS := hS.keep hb
  replace hL := hL.keep hb
  replace hB := below2 hB hb
  clear hb
  obtain ⟨Y3, hY⟩ : ∃ Y, Y = (w2.alloc (.cells #[.int .i64 R.id, .bool R.up, .slice a1 b1 c1_, .slice d1 i1 g1_] 51)) := ⟨_, rfl⟩
  have hbY : Below w2.heap.size w2 Y3 := by rw [hY]; exact below_new (Below.refl _ _) _
  have hle : w.heap.size ≤ w2.heap.size := hB.size
  obtain ⟨gx, hgx⟩ : ∃ g, g = w2.heap.size := ⟨_, rfl⟩
  have rx : RowAt Y3 gx [.int .i64 R.id, .bool R.up, .slice a1 b1 c1_, .slice d1 i1 g1_] 51 := by
    have h := RowAt.new w2 [.int .i64 R.id, .bool R.up, .slice a1 b1 c1_, .slice d1 i1 g1_] 51
    rw [hgx, hY]; exact h
  have lex : w.heap.size ≤ gx := by omega
  have nenx : gn ≠ gx := by have := RowAt.lt rn; omega
  have neax : ga ≠ gx := by have := RowAt.lt ra; omega
  replace rn := RowAt.below rn hbY
  replace ra := RowAt.below ra hbY
  replace hS := hS.keep hbY
  replace hL := hL.keep hbY
  replace hT1 := hT1.keep hbY
  replace hM1 := hM1.keep hbY
  replace hB := below2 hB hbY
  go_upto_region 2 with fail
  rw [← hY, ← hgx]
  clear hY hbY hle hgx
  obtain ⟨n0, n1, nf⟩ := cells2 rn
  go_wp2_with fail
  clear n0 n1 nf
  go_at_call 18; refine (c2 _ _ _ hS hL).mono ?_; rintro e w4 ⟨a2, b2, c2_, d2, i2, g2_, rfl, hT2, hM2, hb⟩
  replace rn := RowAt.below rn hb
  replace ra := RowAt.below ra hb
  replace rx := RowAt.below rx hb
  replace hS := hS.keep hb
  replace hL := hL.keep hb
  replace hT1 := hT1.keep hb
  replace hM1 := hM1.keep hb
  replace hB := below2 hB hb
  clear hb
  obtain ⟨Y5, hY⟩ : ∃ Y, Y = (w4.alloc (.cells #[.int .i64 R.id, .bool R.up, .slice a2 b2 c2_, .slice d2 i2 g2_] 51)) := ⟨_, rfl⟩
  have hbY : Below w4.heap.size w4 Y5 := by rw [hY]; exact below_new (Below.refl _ _) _
  have hle : w.heap.size ≤ w4.heap.size := hB.size
  obtain ⟨gy, hgy⟩ : ∃ g, g = w4.heap.size := ⟨_, rfl⟩
  have ry : RowAt Y5 gy [.int .i64 R.id, .bool R.up, .slice a2 b2 c2_, .slice d2 i2 g2_] 51 := by
    have h := RowAt.new w4 [.int .i64 R.id, .bool R.up, .slice a2 b2 c2_, .slice d2 i2 g2_] 51
    rw [hgy, hY]; exact h
  have ley : w.heap.size ≤ gy := by omega
  have neny : gn ≠ gy := by have := RowAt.lt rn; omega
  have neay : ga ≠ gy := by have := RowAt.lt ra; omega
  have nexy : gx ≠ gy := by have := RowAt.lt rx; omega
  replace rn := RowAt.below rn hbY
  replace ra := RowAt.below ra hbY
  replace rx := RowAt.below rx hbY
  replace hS := hS.keep hbY
  replace hL := hL.keep hbY
  replace hT1 := hT1.keep hbY
  replace hM1 := hM1.keep hbY
  replace hT2 := hT2.keep hbY
  replace hM2 := hM2.keep hbY
  replace hB := below2 hB hbY
  go_upto_region 3 with fail
  rw [← hY, ← hgy]
  clear hY hbY hle hgy
  obtain ⟨n0, n1, nf⟩ := cells2 rn
  obtain ⟨a0, a1, af⟩ := cells2 ra
  go_wp2_with fail
  clear n0 n1 nf a0 a1 af
  go_at_call 19; refine (c3 _ _ _ hS hL).mono ?_; rintro e w6 ⟨rfl, hb⟩
  replace rn := RowAt.below rn hb
  replace ra := RowAt.below ra hb
  replace rx := RowAt.below rx hb
  replace ry := RowAt.below ry hb
  replace hS := hS.keep hb
  replace hL := hL.keep hb
  replace hT1 := hT1.keep hb
  replace hM1 := hM1.keep hb
  replace hT2 := hT2.keep hb
  replace hM2 := hM2.keep hb
  replace hB := below2 hB hb
  clear hb
  obtain ⟨Y7, hY⟩ : ∃ Y, Y = (w6.alloc (.cells #[.int .u8 hk, .int .i64 hp] 56)) := ⟨_, rfl⟩
  have hbY : Below w6.heap.size w6 Y7 := by rw [hY]; exact below_new (Below.refl _ _) _
  have hle : w.heap.size ≤ w6.heap.size := hB.size
  obtain ⟨gh, hgh⟩ : ∃ g, g = w6.heap.size := ⟨_, rfl⟩
  have rh : RowAt Y7 gh [.int .u8 hk, .int .i64 hp] 56 := by
    have h := RowAt.new w6 [.int .u8 hk, .int .i64 hp] 56
    rw [hgh, hY]; exact h
  have leh : w.heap.size ≤ gh := by omega
  have nenh : gn ≠ gh := by have := RowAt.lt rn; omega
  have neah : ga ≠ gh := by have := RowAt.lt ra; omega
  have nexh : gx ≠ gh := by have := RowAt.lt rx; omega
  have neyh : gy ≠ gh := by have := RowAt.lt ry; omega
  replace rn := RowAt.below rn hbY
  replace ra := RowAt.below ra hbY
  replace rx := RowAt.below rx hbY
  replace ry := RowAt.below ry hbY
  replace hS := hS.keep hbY
  replace hL := hL.keep hbY
  replace hT1 := hT1.keep hbY
  replace hM1 := hM1.keep hbY
  replace hT2 := hT2.keep hbY
  replace hM2 := hM2.keep hbY
  replace hB := below2 hB hbY
  go_upto_region 4 with fail
  rw [← hY, ← hgh]
  clear hY hbY hle hgh
  obtain ⟨n0, n1, nf⟩ := cells2 rn
  obtain ⟨a0, a1, af⟩ := cells2 ra
  go_wp2_with fail
  clear n0 n1 nf a0 a1 af
  go_at_call 20; refine (c4 _ _ _ hS hL).mono ?_; rintro e w8 ⟨rfl, hb⟩
  replace rn := RowAt.below rn hb
  replace ra := RowAt.below ra hb
  replace rx := RowAt.below rx hb
  replace ry := RowAt.below ry hb
  replace rh := RowAt.below rh hb
  replace hS := hS.keep hb
  replace hL := hL.keep hb
  replace hT1 := hT1.keep hb
  replace hM1 := hM1.keep hb
  replace hT2 := hT2.keep hb
  replace hM2 := hM2.keep hb
  replace hB := below2 hB hb
  clear hb
  obtain ⟨Y9, hY⟩ : ∃ Y, Y = (w8.alloc (.cells #[.int .u8 hk, .int .i64 hp] 56)) := ⟨_, rfl⟩
  have hbY : Below w8.heap.size w8 Y9 := by rw [hY]; exact below_new (Below.refl _ _) _
  have hle : w.heap.size ≤ w8.heap.size := hB.size
  obtain ⟨gq, hgq⟩ : ∃ g, g = w8.heap.size := ⟨_, rfl⟩
  have rq : RowAt Y9 gq [.int .u8 hk, .int .i64 hp] 56 := by
    have h := RowAt.new w8 [.int .u8 hk, .int .i64 hp] 56
    rw [hgq, hY]; exact h
  have leq : w.heap.size ≤ gq := by omega
  have nenq : gn ≠ gq := by have := RowAt.lt rn; omega
  have neaq : ga ≠ gq := by have := RowAt.lt ra; omega
  have nexq : gx ≠ gq := by have := RowAt.lt rx; omega
  have neyq : gy ≠ gq := by have := RowAt.lt ry; omega
  have nehq : gh ≠ gq := by have := RowAt.lt rh; omega
  replace rn := RowAt.below rn hbY
  replace ra := RowAt.below ra hbY
  replace rx := RowAt.below rx hbY
  replace ry := RowAt.below ry hbY
  replace rh := RowAt.below rh hbY
  replace hS := hS.keep hbY
  replace hL := hL.keep hbY
  replace hT1 := hT1.keep hbY
  replace hM1 := hM1.keep hbY
  replace hT2 := hT2.keep hbY
  replace hM2 := hM2.keep hbY
  replace hB := below2 hB hbY
  go_upto_region 5 with fail
  rw [← hY, ← hgq]
  clear hY hbY hle hgq
  obtain ⟨n0, n1, nf⟩ := cells2 rn
  go_wp2_with fail
  clear n0 n1 nf
  go_at_call 21; refine (c5 _ _ _ hS hL).mono ?_; rintro e w10 ⟨rfl, hb⟩
  replace rn := RowAt.below rn hb
  replace ra := RowAt.below ra hb
  replace rx := RowAt.below rx hb
  replace ry := RowAt.below ry hb
  replace rh := RowAt.below rh hb
  replace rq := RowAt.below rq hb
  replace hS := hS.keep hb
  replace hL := hL.keep hb
  replace hT1 := hT1.keep hb
  replace hM1 := hM1.keep hb
  replace hT2 := hT2.keep hb
  replace hM2 := hM2.keep hb
  replace hB := below2 hB hb
  clear hb
  obtain ⟨n0, n1, nf⟩ := cells2 rn
  go_wp2_with fail
  clear n0 n1 nf
  go_at_call 22; refine (c6 _ _ _ hS hL).mono ?_; rintro e w11 ⟨rfl, hb⟩
  replace rn := RowAt.below rn hb
  replace ra := RowAt.below ra hb
  replace rx := RowAt.below rx hb
  replace ry := RowAt.below ry hb
  replace rh := RowAt.below rh hb
  replace rq := RowAt.below rq hb
  replace hS := hS.keep hb
  replace hL := hL.keep hb
  replace hT1 := hT1.keep hb
  replace hM1 := hM1.keep hb
  replace hT2 := hT2.keep hb
  replace hM2 := hM2.keep hb
  replace hB := below2 hB hb
  clear hb
  clear rn ra hS hL
  go_wp2_with fail
  go_at_call 14; refine (lives_any _).mono ?_; rintro e w12 ⟨rfl, hb⟩
  replace rx := RowAt.below rx hb
  replace ry := RowAt.below ry hb
  replace rh := RowAt.below rh hb
  replace rq := RowAt.below rq hb
  replace hT1 := hT1.keep hb
  replace hM1 := hM1.keep hb
  replace hT2 := hT2.keep hb
  replace hM2 := hM2.keep hb
  replace hB := below2 hB hb
  clear hb
  obtain ⟨x0, x1, x2, x3, xf⟩ := cells4 rx
  obtain ⟨y0, y1, y2, y3, yf⟩ := cells4 ry
  go_wp2_with fail
  clear x0 x1 x2 x3 xf y0 y1 y2 y3 yf
  go_at_call 23; refine (Fib.same_any R _ _ _ _ _ hT1 hM1 hT2 hM2).mono ?_; rintro e w13 ⟨rfl, hb⟩
  replace rx := RowAt.below rx hb
  replace ry := RowAt.below ry hb
  replace rh := RowAt.below rh hb
  replace rq := RowAt.below rq hb
  replace hT1 := hT1.keep hb
  replace hM1 := hM1.keep hb
  replace hT2 := hT2.keep hb
  replace hM2 := hM2.keep hb
  replace hB := below2 hB hb
  clear hb
  obtain ⟨h0, h1, hf⟩ := cells2 rh
  obtain ⟨q0, q1, qf⟩ := cells2 rq
  go_wp2_with fail
  go_ret
  exact ⟨rfl, hB⟩
theorem walk (n : NetT) (x y : Value) (id : Int) (six : Bool) (a : Nat) (w : World) (b0 : HasSts w x n.seats) (c0 : HasRos w y n.ros) (f0 : FitN n) (b1 : -9223372036854775808 ≤ id ∧ id ≤ 9223372036854775807) (b3 : a < 2 ^ 128) :
    Calls Tryz.prog 4 #[.agg #[x, y], .int .i64 id, .bool six, Addr.adV a] w fun e w' => e = .returned (.bool true) ∧ Below w.heap.size w w' := by
  obtain ⟨so, sc, rfl, _⟩ := Ord.HasRow.slice b0
  obtain ⟨lo, lc, rfl, q1, q2⟩ := HasRos.slice c0
  exact walks so lo _ sc _ lc id six (hiN a : Int) (loN a : Int) _ _ _ _ _ _ _ n.seats n.ros w b0 c0
    (fun W u v h1 h2 => findF_any n id u v W h1 h2 f0) (fun W u v h1 h2 => rfindF_any n id u v W h1 h2 f0)
    (fun W u v h1 h2 => hopF_any n id six a u v W h1 h2 f0 b3) (fun W u v h1 h2 => rhopF_any n id six a u v W h1 h2 f0 b3)
    (fun W u v h1 h2 => sizeF_any n u v W h1 h2 f0) (fun W u v h1 h2 => rsizeF_any n u v W h1 h2 f0)

set_option maxRecDepth 100000 in
theorem lifted (os : Os) (started : os.Started) (H : Type) (enc : TypeId × Value → H) :
    ReturnsInHanded {} Tryz.checked os 4 .any (Rows.netAsksSpec.pre6 enc Tryz.prog Tryz.f4 Rows.netAsksRow.domain false) (Rows.netAsksSpec.post enc Tryz.prog Tryz.f4 false true false false) := by
  refine returnsInHanded_of_change_sized (C := Tryz.checked) own started (by kernel_rfl) Tryz.func4
    (ChangeSpec.witness6 (enc := enc) (C := Tryz.checked) false ⟨#[], #[.agg #[.slice none 0 0, .slice none 0 0], .int .i64 0, .bool false, .agg #[.int .u64 0, .int .u64 0]], []⟩ 8 (by kernel_rfl) (by kernel_rfl) (by kernel_rfl) (by kernel_rfl)) ?_
  intro W base args ds gs before hval0 hW _ hsz0 _
  have hsz : (DataW.weightsEach Tryz.prog (Tryz.f4.params.toList ++ Rows.netAsksSpec.plain.varTypes Tryz.prog) (ds ++ gs)).all (· ≤ reachBytes) = true := hsz0
  clear hsz0
  have hval : ∀ (j : Nat) t v, Tryz.f4.params[j]? = some t → args[j]? = some v → Value.okWide Tryz.prog W .any base t v := hval0
  have hW' := hW
  obtain ⟨p, q, hA0, hV, rfl, hfz, hnd⟩ := hW
  have hA : DataW.TrodAll enc Tryz.prog W 0 (fun _ => true) true Tryz.f4.params.toList args.toList ds p := hA0
  rw [Tryz.params4] at hA hval hsz
  obtain ⟨v0, vs0, d0, ds0, p0, q0, hargs, rfl, rfl, h0, r0⟩ := trodAll_cons hA
  obtain ⟨v1, vs1, d1, ds1, p1, q1, rfl, rfl, rfl, h1, r1⟩ := trodAll_cons r0
  obtain ⟨v2, vs2, d2, ds2, p2, q2, rfl, rfl, rfl, h2, r2⟩ := trodAll_cons r1
  obtain ⟨v3, vs3, d3, ds3, p3, q3, rfl, rfl, rfl, h3, r3⟩ := trodAll_cons r2
  obtain ⟨rfl, rfl, rfl⟩ := trodAll_nil r3
  obtain rfl : args = #[v0, v1, v2, v3] := by cases args; simp_all
  obtain ⟨rfl, rfl⟩ := trodVars_none hV
  have k0 := h0
  have lt0 : ∀ x ∈ p0, x.block < W.heap.size := by obtain ⟨m, hm⟩ := k0; exact DataW.trod_lt m _ _ _ hm
  obtain ⟨N0, x0, y0, rfl, b0, c0, f0⟩ := Nt.open_net (hval 0 25 v0 rfl rfl) h0
  obtain ⟨a1, rfl, rfl, rfl, w1⟩ := open_int Tryz.underlying3 (hval 1 3 v1 rfl rfl) h1
  have b1 : -9223372036854775808 ≤ a1 ∧ a1 ≤ 9223372036854775807 := by simpa [Lit.wf, IntKind.min, IntKind.max, IntKind.signed, IntKind.bits] using w1
  obtain ⟨a2, rfl, rfl, rfl⟩ := open_bool Tryz.underlying4 (hval 2 4 v2 rfl rfl) h2
  have k3 := h3
  have lt3 : ∀ x ∈ p3, x.block < W.heap.size := by obtain ⟨m, hm⟩ := k3; exact DataW.trod_lt m _ _ _ hm
  obtain ⟨n3, rfl, b3⟩ := Addr.open_addr (hval 3 31 v3 rfl rfl) h3
  clear hA0 hval0
  refine (walk N0 x0 y0 a1 a2 n3 W b0 c0 f0 b1 b3).mono fun e W' ⟨he, bel⟩ => ?_
  subst he
  exact ⟨_, rfl, _, _, _, [], _, [], hW', trodAll_mk1 (shut_bool Tryz.underlying4 _), (trodAll_cons_mk (Below.trod laidOut (by kernel_rfl) (of_decide_eq_true (by kernel_rfl)) k0 bel lt0) (trodAll_cons_mk (shut_int Tryz.underlying3 w1) (trodAll_cons_mk (shut_bool Tryz.underlying4 a2) (trodAll_cons_mk (Below.trod laidOut (by kernel_rfl) (of_decide_eq_true (by kernel_rfl)) k3 bel lt3) trodAll_mk0)))), rfl, bel.frame _, fun h => by cases h⟩

theorem over : Rows.netAsksRow.holds Tryz.pinned (OpenSpec.ofChange Rows.netAsksSpec) :=
  OpenClaim.holds_of_wide 4 Tryz.f4 rfl rfl rfl rfl rfl rfl rfl ⟨rfl, rfl, rfl, rfl, rfl⟩ rfl rfl rfl rfl rfl (by kernel_rfl) Tryz.func4 (by kernel_rfl)
    (of_decide_eq_true (by kernel_rfl)) (by unfold Func.isWrapper; first | (rw [if_pos (by decide +kernel)]; kernel_rfl) | (rw [if_neg (by decide +kernel)]; exact ⟨rfl, rfl⟩))
    (fun os started H enc _ => lifted os started H enc)
end netAsks
theorem nasks_holds : Rows.NetAsksSaid := netAsks.over
#print axioms nasks_holds
end Go.Proofs.YtbglbegljkgknaaGreat
