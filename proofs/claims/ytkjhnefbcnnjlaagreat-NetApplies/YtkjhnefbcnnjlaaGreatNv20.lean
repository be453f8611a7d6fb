/- What partsBytes, Put, PutPrefix and PutAction return. -/
import Derived.Test.YtkjhnefbcnnjlaaGreatNv14
import Derived.Test.YtkjhnefbcnnjlaaGreatNv16
import Derived.Test.YtkjhnefbcnnjlaaGreatNv17
import Derived.Test.YtkjhnefbcnnjlaaGreatNv13
import Derived.Test.YtkjhnefbcnnjlaaGreatNv19
import Derived.Test.YtkjhnefbcnnjlaaGreatNv09
import Derived.Test.YtkjhnefbcnnjlaaGreatNv04
import Derived.Test.YtkjhnefbcnnjlaaGreatNv05
set_option linter.unusedVariables false
namespace Go.Proofs.YtkjhnefbcnnjlaaGreat.Nt
open Go.RowKit
open Go.Proofs.YtkjhnefbcnnjlaaGreat.Lk (HasLks HasLks.keep hasRow_own)
open Go.Proofs.YtkjhnefbcnnjlaaGreat.Tr (HasRts HasRts.keep)
open Go.Proofs.YtkjhnefbcnnjlaaGreat.Fib
open Go.Proofs.YtkjhnefbcnnjlaaGreat.Ord (St HasSts HasSts.keep)
open Go.Proofs.YtkjhnefbcnnjlaaGreat.Addr (RowAt below2 below_new bset RowAt.lt RowAt.cell RowAt.below RowAt.drew RowAt.new RowAt.alloc RowAt.set1 gset grefl cells2 cells4)
def PartR (A B : List Ro) (R : Ro) (w : World) (e : Ending) (w' : World) : Prop :=
  ∃ oa na ca o1 n1 c1 o2 n2 c2 ob nb cb, e = .returned (.tuple #[.slice oa na ca, .agg #[.int .i64 R.id, .bool R.up, .slice o1 n1 c1, .slice o2 n2 c2], .slice ob nb cb]) ∧ HasRos w' (.slice oa na ca) A ∧ HasRos w' (.slice ob nb cb) B ∧ HasRts w' (.slice o1 n1 c1) R.rts ∧ HasLks w' (.slice o2 n2 c2) R.lks ∧ Below w.heap.size w w'
/-- a fabric that holds a net, behind a call that may have changed it -/
def FabIs (gf : Nat) (n : NetT) (z : Int) (w : World) (e : Ending) (w' : World) : Prop :=
  ∃ o1 n1 m1 o2 n2 m2, e = .returned (.int .i64 z) ∧ RowAt w' gf [.slice o1 n1 m1, .slice o2 n2 m2] 54 ∧ HasSts w' (.slice o1 n1 m1) n.seats ∧ HasRos w' (.slice o2 n2 m2) n.ros ∧ Below gf w w'
theorem lit_ro {W : World} {R : Ro} {o1 o2 : Option Addr} {n1 n2 c1 c2 : Nat} (h1 : HasRts W (.slice o1 n1 c1) R.rts) (h2 : HasLks W (.slice o2 n2 c2) R.lks) : HasRos (W.alloc (.cells #[.int .i64 R.id, .bool R.up, .slice o1 n1 c1, .slice o2 n2 c2] 51)) (.slice (some ⟨W.heap.size, 0, none⟩) 1 1) [R] :=
  ⟨[⟨R, .slice o1 n1 c1, .slice o2 n2 c2⟩], rfl, hasRow_own (World.ownsRow_lit (base := W.heap.size) W #[.int .i64 R.id, .bool R.up, .slice o1 n1 c1, .slice o2 n2 c2] 1 (Nat.le_refl _) (by decide) rfl), fun m hm => by
    rw [List.mem_singleton] at hm
    subst hm
    exact ⟨h1.keep (below_new (Below.refl _ _) _), h2.keep (below_new (Below.refl _ _) _)⟩⟩
set_option maxHeartbeats 16000000 in
set_option maxRecDepth 20000 in
theorem take_seat (gf : Nat) (so lo : Option Addr) (sn sc ln lc : Nat) (ea eb ec ed : Int) (ee : Bool) (ef eg eh ei ej ek el : Int) (h : Int) (S S1 : List St) (L A B P : List Ro) (R Q : Ro) (z1 z2 : Int) (zz : Nat) (w : World) (rf : RowAt w gf [.slice so sn sc, .slice lo ln lc] 54) (hS : HasSts w (.slice so sn sc) S) (hL : HasRos w (.slice lo ln lc) L)
    (hz1 : ¬ z1 = 0) (c1 : ∀ W, HasSts W (.slice so sn sc) S → Calls Tryz.prog 31 #[.slice so sn sc, .agg #[.int .u8 ea, .int .i64 eb, .int .u64 ec, .int .i64 ed, .bool ee, .int .u64 ef, .int .u64 eg, .int .i64 eh, .int .u8 ei, .int .i64 ej, .int .i64 ek, .int .i64 el], .int .i64 h] W fun e w' => ∃ o n m, e = .returned (.tuple #[.slice o n m, .int .i64 z1]) ∧ HasSts w' (.slice o n m) S1 ∧ Below W.heap.size W w') :
    Calls Tryz.prog 15 #[.pointer (some ⟨gf, 0, none⟩), .agg #[.int .u8 ea, .int .i64 eb, .int .u64 ec, .int .i64 ed, .bool ee, .int .u64 ef, .int .u64 eg, .int .i64 eh, .int .u8 ei, .int .i64 ej, .int .i64 ek, .int .i64 el], .int .i64 h] w (FabIs gf ⟨S, L⟩ z1 w) := by
  have hB := Below.refl w.heap.size w
  have HGF : Hid (gf < w.heap.size) := RowAt.lt rf
  go_enter Tryz.func15, Tryz.ntmps15
  obtain ⟨Y1, hY⟩ : ∃ Y, Y = (w.alloc (.cells #[.int .u8 ea, .int .i64 eb, .int .u64 ec, .int .i64 ed, .bool ee, .int .u64 ef, .int .u64 eg, .int .i64 eh, .int .u8 ei, .int .i64 ej, .int .i64 ek, .int .i64 el] 38)) := ⟨_, rfl⟩
  have hbY : Below w.heap.size w Y1 := by rw [hY]; exact below_new (Below.refl _ _) _
  have hle : w.heap.size ≤ w.heap.size := hB.size
  obtain ⟨ge, hge⟩ : ∃ g, g = w.heap.size := ⟨_, rfl⟩
  have re : RowAt Y1 ge [.int .u8 ea, .int .i64 eb, .int .u64 ec, .int .i64 ed, .bool ee, .int .u64 ef, .int .u64 eg, .int .i64 eh, .int .u8 ei, .int .i64 ej, .int .i64 ek, .int .i64 el] 38 := by
    have h := RowAt.new w [.int .u8 ea, .int .i64 eb, .int .u64 ec, .int .i64 ed, .bool ee, .int .u64 ef, .int .u64 eg, .int .i64 eh, .int .u8 ei, .int .i64 ej, .int .i64 ek, .int .i64 el] 38
    rw [hge, hY]; exact h
  have lee : w.heap.size ≤ ge := by omega
  have nefe : gf ≠ ge := by have := RowAt.lt rf; omega
  replace rf := RowAt.below rf hbY
  replace hS := hS.keep hbY
  replace hL := hL.keep hbY
  replace hB := below2 hB hbY
  go_upto_region 1 with fail
  rw [← hY, ← hge]
  clear hY hbY hle hge
  obtain ⟨f0, f1, ff⟩ := cells2 rf
  obtain ⟨e0, e1, e2, e3, e4, e5, e6, e7, e8, e9, e10, e11, ef⟩ := cells12 re
  have hltf : gf < Y1.heap.size := RowAt.lt rf
  go_region_with (first
    | (go_at_call 31
       refine (c1 _ (hS.keep (Below.refl _ _).drew)).mono ?_
       rintro e w1 ⟨o1, n1, m1, rfl, hT, hb'⟩
       have hb : Below Y1.heap.size Y1 w1 := below2 (Below.refl _ _).drew hb'))
  all_goals
    clear f0 f1 ff e0 e1 e2 e3 e4 e5 e6 e7 e8 e9 e10 e11 ef
    replace rf := RowAt.below rf hb
    replace re := RowAt.below re hb
    replace hS := hS.keep hb
    replace hL := hL.keep hb
    replace hB := below2 hB hb
    clear hb hb' hltf c1
    go_wp2_with fail
    go_ret
    exact ⟨_, _, _, _, _, _, rfl, rf, hS, hL, hB.mono (Nat.le_of_lt HGF.out)⟩
set_option maxHeartbeats 16000000 in
set_option maxRecDepth 20000 in
theorem take_fib (gf : Nat) (so lo : Option Addr) (sn sc ln lc : Nat) (ea eb ec ed : Int) (ee : Bool) (ef eg eh ei ej ek el : Int) (h : Int) (S S1 : List St) (L A B P : List Ro) (R Q : Ro) (z1 z2 : Int) (zz : Nat) (w : World) (rf : RowAt w gf [.slice so sn sc, .slice lo ln lc] 54) (hS : HasSts w (.slice so sn sc) S) (hL : HasRos w (.slice lo ln lc) L)
    (hz2 : ¬ z2 = 0) (c1 : ∀ W, HasSts W (.slice so sn sc) S → Calls Tryz.prog 31 #[.slice so sn sc, .agg #[.int .u8 ea, .int .i64 eb, .int .u64 ec, .int .i64 ed, .bool ee, .int .u64 ef, .int .u64 eg, .int .i64 eh, .int .u8 ei, .int .i64 ej, .int .i64 ek, .int .i64 el], .int .i64 h] W fun e w' => ∃ o n m, e = .returned (.tuple #[.slice o n m, .int .i64 0]) ∧ HasSts w' (.slice o n m) S1 ∧ Below W.heap.size W w') (c2 : ∀ W, RowAt W gf [.slice so sn sc, .slice lo ln lc] 54 → HasRos W (.slice lo ln lc) L → Calls Tryz.prog 32 #[.pointer (some ⟨gf, 0, none⟩), .int .i64 eb] W (PartR A B R W)) (c3 : ∀ W x y, HasRts W x R.rts → HasLks W y R.lks → Calls Tryz.prog 33 #[.agg #[.int .i64 R.id, .bool R.up, x, y], .agg #[.int .u8 ea, .int .i64 eb, .int .u64 ec, .int .i64 ed, .bool ee, .int .u64 ef, .int .u64 eg, .int .i64 eh, .int .u8 ei, .int .i64 ej, .int .i64 ek, .int .i64 el]] W (RoIs Q z2 W)) :
    Calls Tryz.prog 15 #[.pointer (some ⟨gf, 0, none⟩), .agg #[.int .u8 ea, .int .i64 eb, .int .u64 ec, .int .i64 ed, .bool ee, .int .u64 ef, .int .u64 eg, .int .i64 eh, .int .u8 ei, .int .i64 ej, .int .i64 ek, .int .i64 el], .int .i64 h] w (FabIs gf ⟨S, L⟩ z2 w) := by
  have hB := Below.refl w.heap.size w
  have HGF : Hid (gf < w.heap.size) := RowAt.lt rf
  go_enter Tryz.func15, Tryz.ntmps15
  obtain ⟨Y1, hY⟩ : ∃ Y, Y = (w.alloc (.cells #[.int .u8 ea, .int .i64 eb, .int .u64 ec, .int .i64 ed, .bool ee, .int .u64 ef, .int .u64 eg, .int .i64 eh, .int .u8 ei, .int .i64 ej, .int .i64 ek, .int .i64 el] 38)) := ⟨_, rfl⟩
  have hbY : Below w.heap.size w Y1 := by rw [hY]; exact below_new (Below.refl _ _) _
  have hle : w.heap.size ≤ w.heap.size := hB.size
  obtain ⟨ge, hge⟩ : ∃ g, g = w.heap.size := ⟨_, rfl⟩
  have re : RowAt Y1 ge [.int .u8 ea, .int .i64 eb, .int .u64 ec, .int .i64 ed, .bool ee, .int .u64 ef, .int .u64 eg, .int .i64 eh, .int .u8 ei, .int .i64 ej, .int .i64 ek, .int .i64 el] 38 := by
    have h := RowAt.new w [.int .u8 ea, .int .i64 eb, .int .u64 ec, .int .i64 ed, .bool ee, .int .u64 ef, .int .u64 eg, .int .i64 eh, .int .u8 ei, .int .i64 ej, .int .i64 ek, .int .i64 el] 38
    rw [hge, hY]; exact h
  have lee : w.heap.size ≤ ge := by omega
  have nefe : gf ≠ ge := by have := RowAt.lt rf; omega
  replace rf := RowAt.below rf hbY
  replace hS := hS.keep hbY
  replace hL := hL.keep hbY
  replace hB := below2 hB hbY
  go_upto_region 1 with fail
  rw [← hY, ← hge]
  clear hY hbY hle hge
  obtain ⟨f0, f1, ff⟩ := cells2 rf
  obtain ⟨e0, e1, e2, e3, e4, e5, e6, e7, e8, e9, e10, e11, ef⟩ := cells12 re
  have hltf : gf < Y1.heap.size := RowAt.lt rf
  go_region_with (first
    | (go_at_call 31
       refine (c1 _ (hS.keep (Below.refl _ _).drew)).mono ?_
       rintro e w1 ⟨o1, n1, m1, rfl, hT, hb'⟩
       have hb : Below Y1.heap.size Y1 w1 := below2 (Below.refl _ _).drew hb'))
  all_goals
    clear f0 f1 ff e0 e1 e2 e3 e4 e5 e6 e7 e8 e9 e10 e11 ef
    replace rf := RowAt.below rf hb
    replace re := RowAt.below re hb
    replace hS := hS.keep hb
    replace hL := hL.keep hb
    replace hB := below2 hB hb
    clear hb hb' hltf c1
    obtain ⟨e0, e1, e2, e3, e4, e5, e6, e7, e8, e9, e10, e11, ef⟩ := cells12 re
    obtain ⟨f0, f1, ff⟩ := cells2 rf
    go_wp2_with fail
    clear e0 e1 e2 e3 e4 e5 e6 e7 e8 e9 e10 e11 ef f0 f1 ff
    go_at_call 32; refine (c2 _ rf hL).mono ?_; rintro e w6 ⟨oa, na, ca, x1, y1, u1, x2, y2, u2, ob, nb, cb, rfl, hA, hBB, hr1, hr2, hb⟩
    replace rf := RowAt.below rf hb
    replace re := RowAt.below re hb
    replace hS := hS.keep hb
    replace hL := hL.keep hb
    replace hT := hT.keep hb
    replace hB := below2 hB hb
    clear hb
    obtain ⟨Y7, hY⟩ : ∃ Y, Y = (w6.alloc (.cells #[.int .i64 R.id, .bool R.up, .slice x1 y1 u1, .slice x2 y2 u2] 51)) := ⟨_, rfl⟩
    have hbY : Below w6.heap.size w6 Y7 := by rw [hY]; exact below_new (Below.refl _ _) _
    have hle : w.heap.size ≤ w6.heap.size := hB.size
    obtain ⟨gr, hgr⟩ : ∃ g, g = w6.heap.size := ⟨_, rfl⟩
    have rr : RowAt Y7 gr [.int .i64 R.id, .bool R.up, .slice x1 y1 u1, .slice x2 y2 u2] 51 := by
      have h := RowAt.new w6 [.int .i64 R.id, .bool R.up, .slice x1 y1 u1, .slice x2 y2 u2] 51
      rw [hgr, hY]; exact h
    have ler : w.heap.size ≤ gr := by omega
    have nefr : gf ≠ gr := by have := RowAt.lt rf; omega
    have neer : ge ≠ gr := by have := RowAt.lt re; omega
    replace rf := RowAt.below rf hbY
    replace re := RowAt.below re hbY
    replace hS := hS.keep hbY
    replace hL := hL.keep hbY
    replace hT := hT.keep hbY
    replace hA := hA.keep hbY
    replace hBB := hBB.keep hbY
    replace hr1 := hr1.keep hbY
    replace hr2 := hr2.keep hbY
    replace hB := below2 hB hbY
    go_upto_region 5 with fail
    rw [← hY, ← hgr]
    clear hY hbY hle hgr
    obtain ⟨r0, r1, r2, r3, rf⟩ := cells4 rr
    obtain ⟨e0, e1, e2, e3, e4, e5, e6, e7, e8, e9, e10, e11, ef⟩ := cells12 re
    go_wp2_with fail
    clear r0 r1 r2 r3 rf e0 e1 e2 e3 e4 e5 e6 e7 e8 e9 e10 e11 ef
    go_at_call 33; refine (c3 _ _ _ hr1 hr2).mono ?_; rintro e w8 ⟨pa, qa, sa, pb, qb, sb, rfl, hq1, hq2, hb⟩
    replace rf := RowAt.below rf hb
    replace re := RowAt.below re hb
    replace rr := RowAt.below rr hb
    replace hS := hS.keep hb
    replace hL := hL.keep hb
    replace hT := hT.keep hb
    replace hA := hA.keep hb
    replace hBB := hBB.keep hb
    replace hr1 := hr1.keep hb
    replace hr2 := hr2.keep hb
    replace hB := below2 hB hb
    clear hb
    clear rr hr1 hr2
    obtain ⟨Y9, hY⟩ : ∃ Y, Y = (w8.alloc (.cells #[.int .i64 Q.id, .bool Q.up, .slice pa qa sa, .slice pb qb sb] 51)) := ⟨_, rfl⟩
    have hbY : Below w8.heap.size w8 Y9 := by rw [hY]; exact below_new (Below.refl _ _) _
    have hle : w.heap.size ≤ w8.heap.size := hB.size
    obtain ⟨gq, hgq⟩ : ∃ g, g = w8.heap.size := ⟨_, rfl⟩
    have rq : RowAt Y9 gq [.int .i64 Q.id, .bool Q.up, .slice pa qa sa, .slice pb qb sb] 51 := by
      have h := RowAt.new w8 [.int .i64 Q.id, .bool Q.up, .slice pa qa sa, .slice pb qb sb] 51
      rw [hgq, hY]; exact h
    have leq : w.heap.size ≤ gq := by omega
    have nefq : gf ≠ gq := by have := RowAt.lt rf; omega
    have neeq : ge ≠ gq := by have := RowAt.lt re; omega
    replace rf := RowAt.below rf hbY
    replace re := RowAt.below re hbY
    replace hS := hS.keep hbY
    replace hL := hL.keep hbY
    replace hT := hT.keep hbY
    replace hA := hA.keep hbY
    replace hBB := hBB.keep hbY
    replace hq1 := hq1.keep hbY
    replace hq2 := hq2.keep hbY
    replace hB := below2 hB hbY
    go_upto_region 6 with fail
    rw [← hY, ← hgq]
    clear hY hbY hle hgq
    go_wp2_with fail
    go_ret
    exact ⟨_, _, _, _, _, _, rfl, rf, hS, hL, hB.mono (Nat.le_of_lt HGF.out)⟩
set_option maxHeartbeats 16000000 in
set_option maxRecDepth 20000 in
theorem take_full (gf : Nat) (so lo : Option Addr) (sn sc ln lc : Nat) (ea eb ec ed : Int) (ee : Bool) (ef eg eh ei ej ek el : Int) (h : Int) (S S1 : List St) (L A B P : List Ro) (R Q : Ro) (z1 z2 : Int) (zz : Nat) (w : World) (rf : RowAt w gf [.slice so sn sc, .slice lo ln lc] 54) (hS : HasSts w (.slice so sn sc) S) (hL : HasRos w (.slice lo ln lc) L)
    (hz3 : (1024 : Int) < (zz : Int)) (c1 : ∀ W, HasSts W (.slice so sn sc) S → Calls Tryz.prog 31 #[.slice so sn sc, .agg #[.int .u8 ea, .int .i64 eb, .int .u64 ec, .int .i64 ed, .bool ee, .int .u64 ef, .int .u64 eg, .int .i64 eh, .int .u8 ei, .int .i64 ej, .int .i64 ek, .int .i64 el], .int .i64 h] W fun e w' => ∃ o n m, e = .returned (.tuple #[.slice o n m, .int .i64 0]) ∧ HasSts w' (.slice o n m) S1 ∧ Below W.heap.size W w') (c2 : ∀ W, RowAt W gf [.slice so sn sc, .slice lo ln lc] 54 → HasRos W (.slice lo ln lc) L → Calls Tryz.prog 32 #[.pointer (some ⟨gf, 0, none⟩), .int .i64 eb] W (PartR A B R W)) (c3 : ∀ W x y, HasRts W x R.rts → HasLks W y R.lks → Calls Tryz.prog 33 #[.agg #[.int .i64 R.id, .bool R.up, x, y], .agg #[.int .u8 ea, .int .i64 eb, .int .u64 ec, .int .i64 ed, .bool ee, .int .u64 ef, .int .u64 eg, .int .i64 eh, .int .u8 ei, .int .i64 ej, .int .i64 ek, .int .i64 el]] W (RoIs Q 0 W)) (c4 : ∀ W b oa na ca ob nb cb oc nc cc, b < W.heap.size → W.cell? ⟨b, 0, none⟩ = some (.slice oa na ca) → W.cell? ⟨b, 1, none⟩ = some (.slice ob nb cb) → W.cell? ⟨b, 2, none⟩ = some (.slice oc nc cc) → HasRos W (.slice oa na ca) A → HasRos W (.slice ob nb cb) [Q] → HasRos W (.slice oc nc cc) B → Calls Tryz.prog 34 #[.slice (some ⟨b, 0, none⟩) 3 3] W fun e w' => ∃ o n m, e = .returned (.slice o n m) ∧ HasRos w' (.slice o n m) P ∧ Below W.heap.size W w') (c5 : ∀ W v, HasRos W v P → Calls Tryz.prog 24 #[v] W fun e w' => e = .returned (.int .i64 (zz : Int)) ∧ Below W.heap.size W w') :
    Calls Tryz.prog 15 #[.pointer (some ⟨gf, 0, none⟩), .agg #[.int .u8 ea, .int .i64 eb, .int .u64 ec, .int .i64 ed, .bool ee, .int .u64 ef, .int .u64 eg, .int .i64 eh, .int .u8 ei, .int .i64 ej, .int .i64 ek, .int .i64 el], .int .i64 h] w (FabIs gf ⟨S, L⟩ 8 w) := by
  have hB := Below.refl w.heap.size w
  have HGF : Hid (gf < w.heap.size) := RowAt.lt rf
  go_enter Tryz.func15, Tryz.ntmps15
  obtain ⟨Y1, hY⟩ : ∃ Y, Y = (w.alloc (.cells #[.int .u8 ea, .int .i64 eb, .int .u64 ec, .int .i64 ed, .bool ee, .int .u64 ef, .int .u64 eg, .int .i64 eh, .int .u8 ei, .int .i64 ej, .int .i64 ek, .int .i64 el] 38)) := ⟨_, rfl⟩
  have hbY : Below w.heap.size w Y1 := by rw [hY]; exact below_new (Below.refl _ _) _
  have hle : w.heap.size ≤ w.heap.size := hB.size
  obtain ⟨ge, hge⟩ : ∃ g, g = w.heap.size := ⟨_, rfl⟩
  have re : RowAt Y1 ge [.int .u8 ea, .int .i64 eb, .int .u64 ec, .int .i64 ed, .bool ee, .int .u64 ef, .int .u64 eg, .int .i64 eh, .int .u8 ei, .int .i64 ej, .int .i64 ek, .int .i64 el] 38 := by
    have h := RowAt.new w [.int .u8 ea, .int .i64 eb, .int .u64 ec, .int .i64 ed, .bool ee, .int .u64 ef, .int .u64 eg, .int .i64 eh, .int .u8 ei, .int .i64 ej, .int .i64 ek, .int .i64 el] 38
    rw [hge, hY]; exact h
  have lee : w.heap.size ≤ ge := by omega
  have nefe : gf ≠ ge := by have := RowAt.lt rf; omega
  replace rf := RowAt.below rf hbY
  replace hS := hS.keep hbY
  replace hL := hL.keep hbY
  replace hB := below2 hB hbY
  go_upto_region 1 with fail
  rw [← hY, ← hge]
  clear hY hbY hle hge
  obtain ⟨f0, f1, ff⟩ := cells2 rf
  obtain ⟨e0, e1, e2, e3, e4, e5, e6, e7, e8, e9, e10, e11, ef⟩ := cells12 re
  have hltf : gf < Y1.heap.size := RowAt.lt rf
  go_region_with (first
    | (go_at_call 31
       refine (c1 _ (hS.keep (Below.refl _ _).drew)).mono ?_
       rintro e w1 ⟨o1, n1, m1, rfl, hT, hb'⟩
       have hb : Below Y1.heap.size Y1 w1 := below2 (Below.refl _ _).drew hb'))
  all_goals
    clear f0 f1 ff e0 e1 e2 e3 e4 e5 e6 e7 e8 e9 e10 e11 ef
    replace rf := RowAt.below rf hb
    replace re := RowAt.below re hb
    replace hS := hS.keep hb
    replace hL := hL.keep hb
    replace hB := below2 hB hb
    clear hb hb' hltf c1
    obtain ⟨e0, e1, e2, e3, e4, e5, e6, e7, e8, e9, e10, e11, ef⟩ := cells12 re
    obtain ⟨f0, f1, ff⟩ := cells2 rf
    go_wp2_with fail
    clear e0 e1 e2 e3 e4 e5 e6 e7 e8 e9 e10 e11 ef f0 f1 ff
    go_at_call 32; refine (c2 _ rf hL).mono ?_; rintro e w6 ⟨oa, na, ca, x1, y1, u1, x2, y2, u2, ob, nb, cb, rfl, hA, hBB, hr1, hr2, hb⟩
    replace rf := RowAt.below rf hb
    replace re := RowAt.below re hb
    replace hS := hS.keep hb
    replace hL := hL.keep hb
    replace hT := hT.keep hb
    replace hB := below2 hB hb
    clear hb
    obtain ⟨Y7, hY⟩ : ∃ Y, Y = (w6.alloc (.cells #[.int .i64 R.id, .bool R.up, .slice x1 y1 u1, .slice x2 y2 u2] 51)) := ⟨_, rfl⟩
    have hbY : Below w6.heap.size w6 Y7 := by rw [hY]; exact below_new (Below.refl _ _) _
    have hle : w.heap.size ≤ w6.heap.size := hB.size
    obtain ⟨gr, hgr⟩ : ∃ g, g = w6.heap.size := ⟨_, rfl⟩
    have rr : RowAt Y7 gr [.int .i64 R.id, .bool R.up, .slice x1 y1 u1, .slice x2 y2 u2] 51 := by
      have h := RowAt.new w6 [.int .i64 R.id, .bool R.up, .slice x1 y1 u1, .slice x2 y2 u2] 51
      rw [hgr, hY]; exact h
    have ler : w.heap.size ≤ gr := by omega
    have nefr : gf ≠ gr := by have := RowAt.lt rf; omega
    have neer : ge ≠ gr := by have := RowAt.lt re; omega
    replace rf := RowAt.below rf hbY
    replace re := RowAt.below re hbY
    replace hS := hS.keep hbY
    replace hL := hL.keep hbY
    replace hT := hT.keep hbY
    replace hA := hA.keep hbY
    replace hBB := hBB.keep hbY
    replace hr1 := hr1.keep hbY
    replace hr2 := hr2.keep hbY
    replace hB := below2 hB hbY
    go_upto_region 5 with fail
    rw [← hY, ← hgr]
    clear hY hbY hle hgr
    obtain ⟨r0, r1, r2, r3, rf⟩ := cells4 rr
    obtain ⟨e0, e1, e2, e3, e4, e5, e6, e7, e8, e9, e10, e11, ef⟩ := cells12 re
    go_wp2_with fail
    clear r0 r1 r2 r3 rf e0 e1 e2 e3 e4 e5 e6 e7 e8 e9 e10 e11 ef
    go_at_call 33; refine (c3 _ _ _ hr1 hr2).mono ?_; rintro e w8 ⟨pa, qa, sa, pb, qb, sb, rfl, hq1, hq2, hb⟩
    replace rf := RowAt.below rf hb
    replace re := RowAt.below re hb
    replace rr := RowAt.below rr hb
    replace hS := hS.keep hb
    replace hL := hL.keep hb
    replace hT := hT.keep hb
    replace hA := hA.keep hb
    replace hBB := hBB.keep hb
    replace hr1 := hr1.keep hb
    replace hr2 := hr2.keep hb
    replace hB := below2 hB hb
    clear hb
    clear rr hr1 hr2
    obtain ⟨Y9, hY⟩ : ∃ Y, Y = (w8.alloc (.cells #[.int .i64 Q.id, .bool Q.up, .slice pa qa sa, .slice pb qb sb] 51)) := ⟨_, rfl⟩
    have hbY : Below w8.heap.size w8 Y9 := by rw [hY]; exact below_new (Below.refl _ _) _
    have hle : w.heap.size ≤ w8.heap.size := hB.size
    obtain ⟨gq, hgq⟩ : ∃ g, g = w8.heap.size := ⟨_, rfl⟩
    have rq : RowAt Y9 gq [.int .i64 Q.id, .bool Q.up, .slice pa qa sa, .slice pb qb sb] 51 := by
      have h := RowAt.new w8 [.int .i64 Q.id, .bool Q.up, .slice pa qa sa, .slice pb qb sb] 51
      rw [hgq, hY]; exact h
    have leq : w.heap.size ≤ gq := by omega
    have nefq : gf ≠ gq := by have := RowAt.lt rf; omega
    have neeq : ge ≠ gq := by have := RowAt.lt re; omega
    replace rf := RowAt.below rf hbY
    replace re := RowAt.below re hbY
    replace hS := hS.keep hbY
    replace hL := hL.keep hbY
    replace hT := hT.keep hbY
    replace hA := hA.keep hbY
    replace hBB := hBB.keep hbY
    replace hq1 := hq1.keep hbY
    replace hq2 := hq2.keep hbY
    replace hB := below2 hB hbY
    go_upto_region 6 with fail
    rw [← hY, ← hgq]
    clear hY hbY hle hgq
    obtain ⟨q0, q1, q2, q3, qf⟩ := cells4 rq
    obtain ⟨V, hV⟩ : ∃ V, V = Y9.alloc (.cells #[.int .i64 Q.id, .bool Q.up, .slice pa qa sa, .slice pb qb sb] 51) := ⟨_, rfl⟩
    have hbV : Below Y9.heap.size Y9 V := by rw [hV]; exact below_new (Below.refl _ _) _
    have hlit : HasRos V (.slice (some ⟨Y9.heap.size, 0, none⟩) 1 1) [Q] := by rw [hV]; exact lit_ro hq1 hq2
    obtain ⟨V2, hV2⟩ : ∃ V2, V2 = V.alloc (.cells #[.slice oa na ca, .slice (some ⟨Y9.heap.size, 0, none⟩) 1 1, .slice ob nb cb] 23) := ⟨_, rfl⟩
    have hbV2 : Below V.heap.size V V2 := by rw [hV2]; exact below_new (Below.refl _ _) _
    have r3 : RowAt V2 V.heap.size [.slice oa na ca, .slice (some ⟨Y9.heap.size, 0, none⟩) 1 1, .slice ob nb cb] 23 := by rw [hV2]; exact RowAt.new _ _ _
    have cc := c4 V2 V.heap.size oa na ca (some ⟨Y9.heap.size, 0, none⟩) 1 1 ob nb cb r3.lt (r3.cell 0) (r3.cell 1) (r3.cell 2) ((hA.keep hbV).keep hbV2) (hlit.keep hbV2) ((hBB.keep hbV).keep hbV2)
    have hbVV : Below Y9.heap.size Y9 V2 := below2 hbV hbV2
    rw [hV2, hV] at cc
    simp only [World.size_alloc] at cc
    go_wp2_with fail
    go_at_call 34; refine cc.mono ?_; rintro e w20 ⟨o4, n4, m4, rfl, hP, hb20⟩
    have hb21 : Below V2.heap.size V2 w20 := by rw [hV2, hV]; simp only [World.size_alloc]; exact hb20
    have hbb : Below Y9.heap.size Y9 w20 := below2 hbVV hb21
    clear cc hV hV2 r3 hlit hbV hbV2 hbVV hb20 hb21
    clear q0 q1 q2 q3 qf
    replace rf := RowAt.below rf hbb
    replace re := RowAt.below re hbb
    replace rq := RowAt.below rq hbb
    replace hS := hS.keep hbb
    replace hL := hL.keep hbb
    replace hT := hT.keep hbb
    replace hA := hA.keep hbb
    replace hBB := hBB.keep hbb
    replace hq1 := hq1.keep hbb
    replace hq2 := hq2.keep hbb
    replace hB := below2 hB hbb
    clear hbb
    clear rq re hA hBB hq1 hq2
    go_wp2_with fail
    go_at_call 24; refine (c5 _ _ hP).mono ?_; rintro e w31 ⟨rfl, hb⟩
    replace rf := RowAt.below rf hb
    replace hS := hS.keep hb
    replace hL := hL.keep hb
    replace hT := hT.keep hb
    replace hP := hP.keep hb
    replace hB := below2 hB hb
    clear hb
    go_wp2_with fail
    go_ret
    exact ⟨_, _, _, _, _, _, rfl, rf, hS, hL, hB.mono (Nat.le_of_lt HGF.out)⟩
set_option maxHeartbeats 16000000 in
set_option maxRecDepth 20000 in
theorem take_ok (gf : Nat) (so lo : Option Addr) (sn sc ln lc : Nat) (ea eb ec ed : Int) (ee : Bool) (ef eg eh ei ej ek el : Int) (h : Int) (S S1 : List St) (L A B P : List Ro) (R Q : Ro) (z1 z2 : Int) (zz : Nat) (w : World) (rf : RowAt w gf [.slice so sn sc, .slice lo ln lc] 54) (hS : HasSts w (.slice so sn sc) S) (hL : HasRos w (.slice lo ln lc) L)
    (hz3 : ¬ (1024 : Int) < (zz : Int)) (c1 : ∀ W, HasSts W (.slice so sn sc) S → Calls Tryz.prog 31 #[.slice so sn sc, .agg #[.int .u8 ea, .int .i64 eb, .int .u64 ec, .int .i64 ed, .bool ee, .int .u64 ef, .int .u64 eg, .int .i64 eh, .int .u8 ei, .int .i64 ej, .int .i64 ek, .int .i64 el], .int .i64 h] W fun e w' => ∃ o n m, e = .returned (.tuple #[.slice o n m, .int .i64 0]) ∧ HasSts w' (.slice o n m) S1 ∧ Below W.heap.size W w') (c2 : ∀ W, RowAt W gf [.slice so sn sc, .slice lo ln lc] 54 → HasRos W (.slice lo ln lc) L → Calls Tryz.prog 32 #[.pointer (some ⟨gf, 0, none⟩), .int .i64 eb] W (PartR A B R W)) (c3 : ∀ W x y, HasRts W x R.rts → HasLks W y R.lks → Calls Tryz.prog 33 #[.agg #[.int .i64 R.id, .bool R.up, x, y], .agg #[.int .u8 ea, .int .i64 eb, .int .u64 ec, .int .i64 ed, .bool ee, .int .u64 ef, .int .u64 eg, .int .i64 eh, .int .u8 ei, .int .i64 ej, .int .i64 ek, .int .i64 el]] W (RoIs Q 0 W)) (c4 : ∀ W b oa na ca ob nb cb oc nc cc, b < W.heap.size → W.cell? ⟨b, 0, none⟩ = some (.slice oa na ca) → W.cell? ⟨b, 1, none⟩ = some (.slice ob nb cb) → W.cell? ⟨b, 2, none⟩ = some (.slice oc nc cc) → HasRos W (.slice oa na ca) A → HasRos W (.slice ob nb cb) [Q] → HasRos W (.slice oc nc cc) B → Calls Tryz.prog 34 #[.slice (some ⟨b, 0, none⟩) 3 3] W fun e w' => ∃ o n m, e = .returned (.slice o n m) ∧ HasRos w' (.slice o n m) P ∧ Below W.heap.size W w') (c5 : ∀ W v, HasRos W v P → Calls Tryz.prog 24 #[v] W fun e w' => e = .returned (.int .i64 (zz : Int)) ∧ Below W.heap.size W w') :
    Calls Tryz.prog 15 #[.pointer (some ⟨gf, 0, none⟩), .agg #[.int .u8 ea, .int .i64 eb, .int .u64 ec, .int .i64 ed, .bool ee, .int .u64 ef, .int .u64 eg, .int .i64 eh, .int .u8 ei, .int .i64 ej, .int .i64 ek, .int .i64 el], .int .i64 h] w (FabIs gf ⟨S1, P⟩ 0 w) := by
  have hB := Below.refl w.heap.size w
  have HGF : Hid (gf < w.heap.size) := RowAt.lt rf
  go_enter Tryz.func15, Tryz.ntmps15
  obtain ⟨Y1, hY⟩ : ∃ Y, Y = (w.alloc (.cells #[.int .u8 ea, .int .i64 eb, .int .u64 ec, .int .i64 ed, .bool ee, .int .u64 ef, .int .u64 eg, .int .i64 eh, .int .u8 ei, .int .i64 ej, .int .i64 ek, .int .i64 el] 38)) := ⟨_, rfl⟩
  have hbY : Below w.heap.size w Y1 := by rw [hY]; exact below_new (Below.refl _ _) _
  have hle : w.heap.size ≤ w.heap.size := hB.size
  obtain ⟨ge, hge⟩ : ∃ g, g = w.heap.size := ⟨_, rfl⟩
  have re : RowAt Y1 ge [.int .u8 ea, .int .i64 eb, .int .u64 ec, .int .i64 ed, .bool ee, .int .u64 ef, .int .u64 eg, .int .i64 eh, .int .u8 ei, .int .i64 ej, .int .i64 ek, .int .i64 el] 38 := by
    have h := RowAt.new w [.int .u8 ea, .int .i64 eb, .int .u64 ec, .int .i64 ed, .bool ee, .int .u64 ef, .int .u64 eg, .int .i64 eh, .int .u8 ei, .int .i64 ej, .int .i64 ek, .int .i64 el] 38
    rw [hge, hY]; exact h
  have lee : w.heap.size ≤ ge := by omega
  have nefe : gf ≠ ge := by have := RowAt.lt rf; omega
  replace rf := RowAt.below rf hbY
  replace hS := hS.keep hbY
  replace hL := hL.keep hbY
  replace hB := below2 hB hbY
  go_upto_region 1 with fail
  rw [← hY, ← hge]
  clear hY hbY hle hge
  obtain ⟨f0, f1, ff⟩ := cells2 rf
  obtain ⟨e0, e1, e2, e3, e4, e5, e6, e7, e8, e9, e10, e11, ef⟩ := cells12 re
  have hltf : gf < Y1.heap.size := RowAt.lt rf
  go_region_with (first
    | (go_at_call 31
       refine (c1 _ (hS.keep (Below.refl _ _).drew)).mono ?_
       rintro e w1 ⟨o1, n1, m1, rfl, hT, hb'⟩
       have hb : Below Y1.heap.size Y1 w1 := below2 (Below.refl _ _).drew hb'))
  all_goals
    clear f0 f1 ff e0 e1 e2 e3 e4 e5 e6 e7 e8 e9 e10 e11 ef
    replace rf := RowAt.below rf hb
    replace re := RowAt.below re hb
    replace hS := hS.keep hb
    replace hL := hL.keep hb
    replace hB := below2 hB hb
    clear hb hb' hltf c1
    obtain ⟨e0, e1, e2, e3, e4, e5, e6, e7, e8, e9, e10, e11, ef⟩ := cells12 re
    obtain ⟨f0, f1, ff⟩ := cells2 rf
    go_wp2_with fail
    clear e0 e1 e2 e3 e4 e5 e6 e7 e8 e9 e10 e11 ef f0 f1 ff
    go_at_call 32; refine (c2 _ rf hL).mono ?_; rintro e w6 ⟨oa, na, ca, x1, y1, u1, x2, y2, u2, ob, nb, cb, rfl, hA, hBB, hr1, hr2, hb⟩
    replace rf := RowAt.below rf hb
    replace re := RowAt.below re hb
    replace hS := hS.keep hb
    replace hL := hL.keep hb
    replace hT := hT.keep hb
    replace hB := below2 hB hb
    clear hb
    obtain ⟨Y7, hY⟩ : ∃ Y, Y = (w6.alloc (.cells #[.int .i64 R.id, .bool R.up, .slice x1 y1 u1, .slice x2 y2 u2] 51)) := ⟨_, rfl⟩
    have hbY : Below w6.heap.size w6 Y7 := by rw [hY]; exact below_new (Below.refl _ _) _
    have hle : w.heap.size ≤ w6.heap.size := hB.size
    obtain ⟨gr, hgr⟩ : ∃ g, g = w6.heap.size := ⟨_, rfl⟩
    have rr : RowAt Y7 gr [.int .i64 R.id, .bool R.up, .slice x1 y1 u1, .slice x2 y2 u2] 51 := by
      have h := RowAt.new w6 [.int .i64 R.id, .bool R.up, .slice x1 y1 u1, .slice x2 y2 u2] 51
      rw [hgr, hY]; exact h
    have ler : w.heap.size ≤ gr := by omega
    have nefr : gf ≠ gr := by have := RowAt.lt rf; omega
    have neer : ge ≠ gr := by have := RowAt.lt re; omega
    replace rf := RowAt.below rf hbY
    replace re := RowAt.below re hbY
    replace hS := hS.keep hbY
    replace hL := hL.keep hbY
    replace hT := hT.keep hbY
    replace hA := hA.keep hbY
    replace hBB := hBB.keep hbY
    replace hr1 := hr1.keep hbY
    replace hr2 := hr2.keep hbY
    replace hB := below2 hB hbY
    go_upto_region 5 with fail
    rw [← hY, ← hgr]
    clear hY hbY hle hgr
    obtain ⟨r0, r1, r2, r3, rf⟩ := cells4 rr
    obtain ⟨e0, e1, e2, e3, e4, e5, e6, e7, e8, e9, e10, e11, ef⟩ := cells12 re
    go_wp2_with fail
    clear r0 r1 r2 r3 rf e0 e1 e2 e3 e4 e5 e6 e7 e8 e9 e10 e11 ef
    go_at_call 33; refine (c3 _ _ _ hr1 hr2).mono ?_; rintro e w8 ⟨pa, qa, sa, pb, qb, sb, rfl, hq1, hq2, hb⟩
    replace rf := RowAt.below rf hb
    replace re := RowAt.below re hb
    replace rr := RowAt.below rr hb
    replace hS := hS.keep hb
    replace hL := hL.keep hb
    replace hT := hT.keep hb
    replace hA := hA.keep hb
    replace hBB := hBB.keep hb
    replace hr1 := hr1.keep hb
    replace hr2 := hr2.keep hb
    replace hB := below2 hB hb
    clear hb
    clear rr hr1 hr2
    obtain ⟨Y9, hY⟩ : ∃ Y, Y = (w8.alloc (.cells #[.int .i64 Q.id, .bool Q.up, .slice pa qa sa, .slice pb qb sb] 51)) := ⟨_, rfl⟩
    have hbY : Below w8.heap.size w8 Y9 := by rw [hY]; exact below_new (Below.refl _ _) _
    have hle : w.heap.size ≤ w8.heap.size := hB.size
    obtain ⟨gq, hgq⟩ : ∃ g, g = w8.heap.size := ⟨_, rfl⟩
    have rq : RowAt Y9 gq [.int .i64 Q.id, .bool Q.up, .slice pa qa sa, .slice pb qb sb] 51 := by
      have h := RowAt.new w8 [.int .i64 Q.id, .bool Q.up, .slice pa qa sa, .slice pb qb sb] 51
      rw [hgq, hY]; exact h
    have leq : w.heap.size ≤ gq := by omega
    have nefq : gf ≠ gq := by have := RowAt.lt rf; omega
    have neeq : ge ≠ gq := by have := RowAt.lt re; omega
    replace rf := RowAt.below rf hbY
    replace re := RowAt.below re hbY
    replace hS := hS.keep hbY
    replace hL := hL.keep hbY
    replace hT := hT.keep hbY
    replace hA := hA.keep hbY
    replace hBB := hBB.keep hbY
    replace hq1 := hq1.keep hbY
    replace hq2 := hq2.keep hbY
    replace hB := below2 hB hbY
    go_upto_region 6 with fail
    rw [← hY, ← hgq]
    clear hY hbY hle hgq
    obtain ⟨q0, q1, q2, q3, qf⟩ := cells4 rq
    obtain ⟨V, hV⟩ : ∃ V, V = Y9.alloc (.cells #[.int .i64 Q.id, .bool Q.up, .slice pa qa sa, .slice pb qb sb] 51) := ⟨_, rfl⟩
    have hbV : Below Y9.heap.size Y9 V := by rw [hV]; exact below_new (Below.refl _ _) _
    have hlit : HasRos V (.slice (some ⟨Y9.heap.size, 0, none⟩) 1 1) [Q] := by rw [hV]; exact lit_ro hq1 hq2
    obtain ⟨V2, hV2⟩ : ∃ V2, V2 = V.alloc (.cells #[.slice oa na ca, .slice (some ⟨Y9.heap.size, 0, none⟩) 1 1, .slice ob nb cb] 23) := ⟨_, rfl⟩
    have hbV2 : Below V.heap.size V V2 := by rw [hV2]; exact below_new (Below.refl _ _) _
    have r3 : RowAt V2 V.heap.size [.slice oa na ca, .slice (some ⟨Y9.heap.size, 0, none⟩) 1 1, .slice ob nb cb] 23 := by rw [hV2]; exact RowAt.new _ _ _
    have cc := c4 V2 V.heap.size oa na ca (some ⟨Y9.heap.size, 0, none⟩) 1 1 ob nb cb r3.lt (r3.cell 0) (r3.cell 1) (r3.cell 2) ((hA.keep hbV).keep hbV2) (hlit.keep hbV2) ((hBB.keep hbV).keep hbV2)
    have hbVV : Below Y9.heap.size Y9 V2 := below2 hbV hbV2
    rw [hV2, hV] at cc
    simp only [World.size_alloc] at cc
    go_wp2_with fail
    go_at_call 34; refine cc.mono ?_; rintro e w20 ⟨o4, n4, m4, rfl, hP, hb20⟩
    have hb21 : Below V2.heap.size V2 w20 := by rw [hV2, hV]; simp only [World.size_alloc]; exact hb20
    have hbb : Below Y9.heap.size Y9 w20 := below2 hbVV hb21
    clear cc hV hV2 r3 hlit hbV hbV2 hbVV hb20 hb21
    clear q0 q1 q2 q3 qf
    replace rf := RowAt.below rf hbb
    replace re := RowAt.below re hbb
    replace rq := RowAt.below rq hbb
    replace hS := hS.keep hbb
    replace hL := hL.keep hbb
    replace hT := hT.keep hbb
    replace hA := hA.keep hbb
    replace hBB := hBB.keep hbb
    replace hq1 := hq1.keep hbb
    replace hq2 := hq2.keep hbb
    replace hB := below2 hB hbb
    clear hbb
    clear rq re hA hBB hq1 hq2
    go_wp2_with fail
    go_at_call 24; refine (c5 _ _ hP).mono ?_; rintro e w31 ⟨rfl, hb⟩
    replace rf := RowAt.below rf hb
    replace hS := hS.keep hb
    replace hL := hL.keep hb
    replace hT := hT.keep hb
    replace hP := hP.keep hb
    replace hB := below2 hB hb
    clear hb
    obtain ⟨f0, f1, ff⟩ := cells2 rf
    obtain ⟨Yz, hY⟩ : ∃ Yz, Yz = (w31.setCell ⟨gf, 0, none⟩ (.slice o1 n1 m1)).setCell ⟨gf, 1, none⟩ (.slice o4 n4 m4) := ⟨_, rfl⟩
    have hG : w31.grownBy Yz (some gf) := by rw [hY]; exact gset (gset (grefl _ _))
    have HF : Hid (RowAt Yz gf [.slice o1 n1 m1, .slice o4 n4 m4] 54 ∧ HasSts Yz (.slice o1 n1 m1) S1 ∧ HasRos Yz (.slice o4 n4 m4) P ∧ Below gf w Yz) := by
      refine ⟨by rw [hY]; exact (rf.set1 0 _).set1 1 _, sts_off hT rf hG, ros_off hP rf hG, ?_⟩
      rw [hY]
      exact bset (bset (hB.mono (Nat.le_of_lt HGF.out)) (Nat.le_refl _)) (Nat.le_refl _)
    have hltf : gf < w31.heap.size := RowAt.lt rf
    go_wp2_with fail
    rw [← hY]
    go_ret
    exact ⟨_, _, _, _, _, _, rfl, HF.out.1, HF.out.2.1, HF.out.2.2.1, HF.out.2.2.2⟩
end Go.Proofs.YtkjhnefbcnnjlaaGreat.Nt
namespace Go.Proofs.YtkjhnefbcnnjlaaGreat.Msg
open Go.RowKit
open Go.Proofs.YtkjhnefbcnnjlaaGreat.Addr (okP)

theorem okE_bd {e : Ev} (h : okE e = true) : ((1 ≤ e.kind ∧ e.kind ≤ 6) ∧ (0 ≤ e.router ∧ e.router ≤ 1048576) ∧ (1 ≤ e.seq ∧ e.seq ≤ 1099511627776) ∧ (0 ≤ e.time ∧ e.time ≤ 1099511627776)) ∧ (okP e.pf = true ∧ (0 ≤ e.iface ∧ e.iface ≤ 65536) ∧ (0 ≤ e.peer ∧ e.peer ≤ 1048576) ∧ (e.kind = 3 → okA e.act = true)) ∧ unN e = zeroE := by
  unfold okE headB partsB at h
  simp only [Bool.and_eq_true, decide_eq_true_eq, Bool.or_eq_true, and_assoc] at h
  obtain ⟨h1, h2, h3, h4, h5, h6, h7, h8, h9, h10, h11, h12, h13, h14, h15⟩ := h
  refine ⟨⟨⟨h1, h2⟩, ⟨h3, h4⟩, ⟨h5, h6⟩, ⟨h7, h8⟩⟩, ⟨h9, ⟨h10, h11⟩, ⟨h12, h13⟩, fun hk => ?_⟩, (eqE_iff _ _).1 h15⟩
  rcases h14 with h | h
  · exact absurd hk h
  · exact h
end Go.Proofs.YtkjhnefbcnnjlaaGreat.Msg
