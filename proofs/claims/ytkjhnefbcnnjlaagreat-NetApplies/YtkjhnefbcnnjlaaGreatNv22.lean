/- net.Find and net.Size. -/
import Derived.Test.YtkjhnefbcnnjlaaGreatNv21
import Derived.Laws.ResultCell
set_option linter.unusedVariables false
namespace Go.Proofs.YtkjhnefbcnnjlaaGreat.Nt
open Go.RowKit
open Go.Proofs.YtkjhnefbcnnjlaaGreat.Lk (HasRow HasLks.keep)
open Go.Proofs.YtkjhnefbcnnjlaaGreat.Tr (HasRts.keep)
open Go.Proofs.YtkjhnefbcnnjlaaGreat.Msg (Ev FitE evV)
open Go.Proofs.YtkjhnefbcnnjlaaGreat.Fib
open Go.Proofs.YtkjhnefbcnnjlaaGreat.Ord (St HasSts HasSts.keep HasEvs.keep)
open Go.Proofs.YtkjhnefbcnnjlaaGreat.Addr (RowAt below2 below_new bset RowAt.lt RowAt.below RowAt.new RowAt.alloc gset grefl cells2)
theorem rowB {W W' : World} {g B : Nat} {cs : List Value} {t : TypeId} (h : RowAt W g cs t) (hb : Below B W W') (hg : g < B) : RowAt W' g cs t := (hb.block g hg).trans h
/-- a net that a call returned, with a word -/
def NetIs (n : NetT) (z : Int) (w : World) (e : Ending) (w' : World) : Prop :=
  ∃ o1 n1 m1 o2 n2 m2, e = .returned (.tuple #[.agg #[.slice o1 n1 m1, .slice o2 n2 m2], .int .i64 z]) ∧ HasSts w' (.slice o1 n1 m1) n.seats ∧ HasRos w' (.slice o2 n2 m2) n.ros ∧ Below w.heap.size w w'
set_option maxHeartbeats 16000000 in
set_option maxRecDepth 20000 in
theorem apply_bad (so lo : Option Addr) (sn sc ln lc : Nat) (ea eb ec ed : Int) (ee : Bool) (ef eg eh ei ej ek el : Int) (h z0 : Int) (S : List St) (L : List Ro) (w : World) (hS : HasSts w (.slice so sn sc) S) (hL : HasRos w (.slice lo ln lc) L) (hz0 : ¬ z0 = 0) (c1 : ∀ W, HasSts W (.slice so sn sc) S → HasRos W (.slice lo ln lc) L → Calls Tryz.prog 11 #[.agg #[.slice so sn sc, .slice lo ln lc]] W fun e w' => e = .returned (.int .i64 z0) ∧ Below W.heap.size W w') :
    Calls Tryz.prog 5 #[.agg #[.slice so sn sc, .slice lo ln lc], .agg #[.int .u8 ea, .int .i64 eb, .int .u64 ec, .int .i64 ed, .bool ee, .int .u64 ef, .int .u64 eg, .int .i64 eh, .int .u8 ei, .int .i64 ej, .int .i64 ek, .int .i64 el], .int .i64 h] w (NetIs zeroN z0 w) := by
  have hB := Below.refl w.heap.size w
  go_enter Tryz.func5, Tryz.ntmps5
  obtain ⟨Y1, hY⟩ : ∃ Y, Y = (((w.alloc (.cells #[.slice so sn sc, .slice lo ln lc] 25)).alloc (.cells #[.int .u8 ea, .int .i64 eb, .int .u64 ec, .int .i64 ed, .bool ee, .int .u64 ef, .int .u64 eg, .int .i64 eh, .int .u8 ei, .int .i64 ej, .int .i64 ek, .int .i64 el] 38)).alloc (.cells #[.slice none 0 0, .slice none 0 0] 25)) := ⟨_, rfl⟩
  have hbY : Below w.heap.size w Y1 := by rw [hY]; exact below_new (below_new (below_new (Below.refl _ _) _) _) _
  have hle : w.heap.size ≤ w.heap.size := hB.size
  obtain ⟨gn, hgn⟩ : ∃ g, g = w.heap.size := ⟨_, rfl⟩
  have rn : RowAt Y1 gn [.slice so sn sc, .slice lo ln lc] 25 := by
    have h := ((RowAt.new w [.slice so sn sc, .slice lo ln lc] 25).alloc (.cells #[.int .u8 ea, .int .i64 eb, .int .u64 ec, .int .i64 ed, .bool ee, .int .u64 ef, .int .u64 eg, .int .i64 eh, .int .u8 ei, .int .i64 ej, .int .i64 ek, .int .i64 el] 38)).alloc (.cells #[.slice none 0 0, .slice none 0 0] 25)
    rw [hgn, hY]; exact h
  have len : w.heap.size ≤ gn := by omega
  obtain ⟨ge, hge⟩ : ∃ g, g = w.heap.size + 1 := ⟨_, rfl⟩
  have re : RowAt Y1 ge [.int .u8 ea, .int .i64 eb, .int .u64 ec, .int .i64 ed, .bool ee, .int .u64 ef, .int .u64 eg, .int .i64 eh, .int .u8 ei, .int .i64 ej, .int .i64 ek, .int .i64 el] 38 := by
    have h := (RowAt.new (w.alloc (.cells #[.slice so sn sc, .slice lo ln lc] 25)) [.int .u8 ea, .int .i64 eb, .int .u64 ec, .int .i64 ed, .bool ee, .int .u64 ef, .int .u64 eg, .int .i64 eh, .int .u8 ei, .int .i64 ej, .int .i64 ek, .int .i64 el] 38).alloc (.cells #[.slice none 0 0, .slice none 0 0] 25)
    simp only [World.size_alloc] at h
    rw [hge, hY]; exact h
  have lee : w.heap.size ≤ ge := by omega
  have nene : gn ≠ ge := by omega
  obtain ⟨gz, hgz⟩ : ∃ g, g = w.heap.size + 1 + 1 := ⟨_, rfl⟩
  have rz : RowAt Y1 gz [.slice none 0 0, .slice none 0 0] 25 := by
    have h := RowAt.new ((w.alloc (.cells #[.slice so sn sc, .slice lo ln lc] 25)).alloc (.cells #[.int .u8 ea, .int .i64 eb, .int .u64 ec, .int .i64 ed, .bool ee, .int .u64 ef, .int .u64 eg, .int .i64 eh, .int .u8 ei, .int .i64 ej, .int .i64 ek, .int .i64 el] 38)) [.slice none 0 0, .slice none 0 0] 25
    simp only [World.size_alloc] at h
    rw [hgz, hY]; exact h
  have lez : w.heap.size ≤ gz := by omega
  have nenz : gn ≠ gz := by omega
  have neez : ge ≠ gz := by omega
  replace hS := hS.keep hbY
  replace hL := hL.keep hbY
  replace hB := below2 hB hbY
  go_upto_region 1 with fail
  rw [← hY, ← hgz, ← hge, ← hgn]
  clear hY hbY hle hgn hge hgz
  obtain ⟨n0, n1, nf⟩ := cells2 rn
  go_wp2_with fail
  clear n0 n1 nf
  go_at_call 11; refine (c1 _ hS hL).mono ?_; rintro e w2 ⟨rfl, hb⟩
  replace rn := RowAt.below rn hb
  replace re := RowAt.below re hb
  replace rz := RowAt.below rz hb
  replace hS := hS.keep hb
  replace hL := hL.keep hb
  replace hB := below2 hB hb
  clear hb
  obtain ⟨zz0, zz1, zzf⟩ := cells2 rz
  go_wp2_with fail
  (try simp only [Exit.inBlock, Exit.then])
  refine bodyPost_ret (v := .tuple #[.agg #[.slice none 0 0, .slice none 0 0], .int .i64 z0]) ?_ rfl ⟨_, _, _, _, _, _, rfl, Ord.hasRow_nil _ 4, hasRos_nil _, bset (bset hB lez) lez⟩
  · rw [results_cell_tmp rfl]
    go_simp
set_option maxHeartbeats 16000000 in
set_option maxRecDepth 20000 in
theorem apply_form (so lo : Option Addr) (sn sc ln lc : Nat) (ea eb ec ed : Int) (ee : Bool) (ef eg eh ei ej ek el : Int) (h z : Int) (N : NetT) (S : List St) (L : List Ro) (w : World) (hS : HasSts w (.slice so sn sc) S) (hL : HasRos w (.slice lo ln lc) L) (hz : z = 2 ∨ z = 1) (c1 : ∀ W, HasSts W (.slice so sn sc) S → HasRos W (.slice lo ln lc) L → Calls Tryz.prog 11 #[.agg #[.slice so sn sc, .slice lo ln lc]] W fun e w' => e = .returned (.int .i64 0) ∧ Below W.heap.size W w') (c2 : ∀ W, HasSts W (.slice so sn sc) S → HasRos W (.slice lo ln lc) L → Calls Tryz.prog 14 #[.agg #[.slice so sn sc, .slice lo ln lc]] W fun e w' => ∃ o1 n1 m1 o2 n2 m2, e = .returned (.agg #[.slice o1 n1 m1, .slice o2 n2 m2]) ∧ HasSts w' (.slice o1 n1 m1) S ∧ HasRos w' (.slice o2 n2 m2) L ∧ Below W.heap.size W w') (c3 : ∀ W gf so lo sn sc ln lc, RowAt W gf [.slice so sn sc, .slice lo ln lc] 54 → HasSts W (.slice so sn sc) S → HasRos W (.slice lo ln lc) L → Calls Tryz.prog 15 #[.pointer (some ⟨gf, 0, none⟩), .agg #[.int .u8 ea, .int .i64 eb, .int .u64 ec, .int .i64 ed, .bool ee, .int .u64 ef, .int .u64 eg, .int .i64 eh, .int .u8 ei, .int .i64 ej, .int .i64 ek, .int .i64 el], .int .i64 h] W (FabIs gf N z W)) :
    Calls Tryz.prog 5 #[.agg #[.slice so sn sc, .slice lo ln lc], .agg #[.int .u8 ea, .int .i64 eb, .int .u64 ec, .int .i64 ed, .bool ee, .int .u64 ef, .int .u64 eg, .int .i64 eh, .int .u8 ei, .int .i64 ej, .int .i64 ek, .int .i64 el], .int .i64 h] w (NetIs zeroN z w) := by
  have hB := Below.refl w.heap.size w
  go_enter Tryz.func5, Tryz.ntmps5
  obtain ⟨Y1, hY⟩ : ∃ Y, Y = (((w.alloc (.cells #[.slice so sn sc, .slice lo ln lc] 25)).alloc (.cells #[.int .u8 ea, .int .i64 eb, .int .u64 ec, .int .i64 ed, .bool ee, .int .u64 ef, .int .u64 eg, .int .i64 eh, .int .u8 ei, .int .i64 ej, .int .i64 ek, .int .i64 el] 38)).alloc (.cells #[.slice none 0 0, .slice none 0 0] 25)) := ⟨_, rfl⟩
  have hbY : Below w.heap.size w Y1 := by rw [hY]; exact below_new (below_new (below_new (Below.refl _ _) _) _) _
  have hle : w.heap.size ≤ w.heap.size := hB.size
  obtain ⟨gn, hgn⟩ : ∃ g, g = w.heap.size := ⟨_, rfl⟩
  have rn : RowAt Y1 gn [.slice so sn sc, .slice lo ln lc] 25 := by
    have h := ((RowAt.new w [.slice so sn sc, .slice lo ln lc] 25).alloc (.cells #[.int .u8 ea, .int .i64 eb, .int .u64 ec, .int .i64 ed, .bool ee, .int .u64 ef, .int .u64 eg, .int .i64 eh, .int .u8 ei, .int .i64 ej, .int .i64 ek, .int .i64 el] 38)).alloc (.cells #[.slice none 0 0, .slice none 0 0] 25)
    rw [hgn, hY]; exact h
  have len : w.heap.size ≤ gn := by omega
  obtain ⟨ge, hge⟩ : ∃ g, g = w.heap.size + 1 := ⟨_, rfl⟩
  have re : RowAt Y1 ge [.int .u8 ea, .int .i64 eb, .int .u64 ec, .int .i64 ed, .bool ee, .int .u64 ef, .int .u64 eg, .int .i64 eh, .int .u8 ei, .int .i64 ej, .int .i64 ek, .int .i64 el] 38 := by
    have h := (RowAt.new (w.alloc (.cells #[.slice so sn sc, .slice lo ln lc] 25)) [.int .u8 ea, .int .i64 eb, .int .u64 ec, .int .i64 ed, .bool ee, .int .u64 ef, .int .u64 eg, .int .i64 eh, .int .u8 ei, .int .i64 ej, .int .i64 ek, .int .i64 el] 38).alloc (.cells #[.slice none 0 0, .slice none 0 0] 25)
    simp only [World.size_alloc] at h
    rw [hge, hY]; exact h
  have lee : w.heap.size ≤ ge := by omega
  have nene : gn ≠ ge := by omega
  obtain ⟨gz, hgz⟩ : ∃ g, g = w.heap.size + 1 + 1 := ⟨_, rfl⟩
  have rz : RowAt Y1 gz [.slice none 0 0, .slice none 0 0] 25 := by
    have h := RowAt.new ((w.alloc (.cells #[.slice so sn sc, .slice lo ln lc] 25)).alloc (.cells #[.int .u8 ea, .int .i64 eb, .int .u64 ec, .int .i64 ed, .bool ee, .int .u64 ef, .int .u64 eg, .int .i64 eh, .int .u8 ei, .int .i64 ej, .int .i64 ek, .int .i64 el] 38)) [.slice none 0 0, .slice none 0 0] 25
    simp only [World.size_alloc] at h
    rw [hgz, hY]; exact h
  have lez : w.heap.size ≤ gz := by omega
  have nenz : gn ≠ gz := by omega
  have neez : ge ≠ gz := by omega
  replace hS := hS.keep hbY
  replace hL := hL.keep hbY
  replace hB := below2 hB hbY
  go_upto_region 1 with fail
  rw [← hY, ← hgz, ← hge, ← hgn]
  clear hY hbY hle hgn hge hgz
  obtain ⟨n0, n1, nf⟩ := cells2 rn
  go_wp2_with fail
  clear n0 n1 nf
  go_at_call 11; refine (c1 _ hS hL).mono ?_; rintro e w2 ⟨rfl, hb⟩
  replace rn := RowAt.below rn hb
  replace re := RowAt.below re hb
  replace rz := RowAt.below rz hb
  replace hS := hS.keep hb
  replace hL := hL.keep hb
  replace hB := below2 hB hb
  clear hb
  obtain ⟨n0, n1, nf⟩ := cells2 rn
  go_wp2_with fail
  clear n0 n1 nf
  go_at_call 14; refine (c2 _ hS hL).mono ?_; rintro e w3 ⟨o1, n1, m1, o2, n2, m2, rfl, hT, hM, hb⟩
  replace rn := RowAt.below rn hb
  replace re := RowAt.below re hb
  replace rz := RowAt.below rz hb
  replace hS := hS.keep hb
  replace hL := hL.keep hb
  replace hB := below2 hB hb
  clear hb
  clear rn hS hL
  obtain ⟨Y4, hY⟩ : ∃ Y, Y = (w3.alloc (.cells #[.slice o1 n1 m1, .slice o2 n2 m2] 54)) := ⟨_, rfl⟩
  have hbY : Below w3.heap.size w3 Y4 := by rw [hY]; exact below_new (Below.refl _ _) _
  have hle : w.heap.size ≤ w3.heap.size := hB.size
  obtain ⟨gf, hgf⟩ : ∃ g, g = w3.heap.size := ⟨_, rfl⟩
  have rf : RowAt Y4 gf [.slice o1 n1 m1, .slice o2 n2 m2] 54 := by
    have h := RowAt.new w3 [.slice o1 n1 m1, .slice o2 n2 m2] 54
    rw [hgf, hY]; exact h
  have lef : w.heap.size ≤ gf := by omega
  have neef : ge ≠ gf := by have := RowAt.lt re; omega
  have nezf : gz ≠ gf := by have := RowAt.lt rz; omega
  have ltef : ge < gf := by have := RowAt.lt re; omega
  have ltzf : gz < gf := by have := RowAt.lt rz; omega
  replace re := RowAt.below re hbY
  replace rz := RowAt.below rz hbY
  replace hT := hT.keep hbY
  replace hM := hM.keep hbY
  replace hB := below2 hB hbY
  go_upto_region 5 with fail
  rw [← hY, ← hgf]
  clear hY hbY hle hgf
  obtain ⟨f0, f1, ff⟩ := cells2 rf
  obtain ⟨e0, e1, e2, e3, e4, e5, e6, e7, e8, e9, e10, e11, ef⟩ := cells12 re
  go_wp2_with fail
  go_at_call 15; refine (c3 _ _ _ _ _ _ _ _ rf hT hM).mono ?_; rintro e w9 ⟨p1, q1, s1, p2, q2, s2, rfl, rg, hT2, hM2, hb⟩
  clear f0 f1 ff e0 e1 e2 e3 e4 e5 e6 e7 e8 e9 e10 e11 ef
  replace rz := rowB rz hb ltzf
  replace hB : Below w.heap.size w w9 := hB.trans (hb.mono lef)
  clear rf re hT hM hb
  rcases hz with rfl | rfl
  · obtain ⟨zz0, zz1, zzf⟩ := cells2 rz
    go_wp2_with fail
    (try simp only [Exit.inBlock, Exit.then])
    refine bodyPost_ret (v := .tuple #[.agg #[.slice none 0 0, .slice none 0 0], .int .i64 2]) ?_ rfl ⟨_, _, _, _, _, _, rfl, Ord.hasRow_nil _ 4, hasRos_nil _, bset (bset hB lez) lez⟩
    · rw [results_cell_tmp rfl]
      go_simp
  · obtain ⟨zz0, zz1, zzf⟩ := cells2 rz
    go_wp2_with fail
    (try simp only [Exit.inBlock, Exit.then])
    refine bodyPost_ret (v := .tuple #[.agg #[.slice none 0 0, .slice none 0 0], .int .i64 1]) ?_ rfl ⟨_, _, _, _, _, _, rfl, Ord.hasRow_nil _ 4, hasRos_nil _, bset (bset hB lez) lez⟩
    · rw [results_cell_tmp rfl]
      go_simp
set_option maxHeartbeats 16000000 in
set_option maxRecDepth 20000 in
theorem apply_ok (so lo : Option Addr) (sn sc ln lc : Nat) (ea eb ec ed : Int) (ee : Bool) (ef eg eh ei ej ek el : Int) (h z : Int) (N : NetT) (S : List St) (L : List Ro) (w : World) (hS : HasSts w (.slice so sn sc) S) (hL : HasRos w (.slice lo ln lc) L) (hz2 : ¬ z = 2) (hz1 : ¬ z = 1) (c1 : ∀ W, HasSts W (.slice so sn sc) S → HasRos W (.slice lo ln lc) L → Calls Tryz.prog 11 #[.agg #[.slice so sn sc, .slice lo ln lc]] W fun e w' => e = .returned (.int .i64 0) ∧ Below W.heap.size W w') (c2 : ∀ W, HasSts W (.slice so sn sc) S → HasRos W (.slice lo ln lc) L → Calls Tryz.prog 14 #[.agg #[.slice so sn sc, .slice lo ln lc]] W fun e w' => ∃ o1 n1 m1 o2 n2 m2, e = .returned (.agg #[.slice o1 n1 m1, .slice o2 n2 m2]) ∧ HasSts w' (.slice o1 n1 m1) S ∧ HasRos w' (.slice o2 n2 m2) L ∧ Below W.heap.size W w') (c3 : ∀ W gf so lo sn sc ln lc, RowAt W gf [.slice so sn sc, .slice lo ln lc] 54 → HasSts W (.slice so sn sc) S → HasRos W (.slice lo ln lc) L → Calls Tryz.prog 15 #[.pointer (some ⟨gf, 0, none⟩), .agg #[.int .u8 ea, .int .i64 eb, .int .u64 ec, .int .i64 ed, .bool ee, .int .u64 ef, .int .u64 eg, .int .i64 eh, .int .u8 ei, .int .i64 ej, .int .i64 ek, .int .i64 el], .int .i64 h] W (FabIs gf N z W)) :
    Calls Tryz.prog 5 #[.agg #[.slice so sn sc, .slice lo ln lc], .agg #[.int .u8 ea, .int .i64 eb, .int .u64 ec, .int .i64 ed, .bool ee, .int .u64 ef, .int .u64 eg, .int .i64 eh, .int .u8 ei, .int .i64 ej, .int .i64 ek, .int .i64 el], .int .i64 h] w (NetIs N z w) := by
  have hB := Below.refl w.heap.size w
  have hz2b : (z == 2) = false := beq_eq_false_iff_ne.2 hz2
  have hz1b : (z == 1) = false := beq_eq_false_iff_ne.2 hz1
  go_enter Tryz.func5, Tryz.ntmps5
  obtain ⟨Y1, hY⟩ : ∃ Y, Y = (((w.alloc (.cells #[.slice so sn sc, .slice lo ln lc] 25)).alloc (.cells #[.int .u8 ea, .int .i64 eb, .int .u64 ec, .int .i64 ed, .bool ee, .int .u64 ef, .int .u64 eg, .int .i64 eh, .int .u8 ei, .int .i64 ej, .int .i64 ek, .int .i64 el] 38)).alloc (.cells #[.slice none 0 0, .slice none 0 0] 25)) := ⟨_, rfl⟩
  have hbY : Below w.heap.size w Y1 := by rw [hY]; exact below_new (below_new (below_new (Below.refl _ _) _) _) _
  have hle : w.heap.size ≤ w.heap.size := hB.size
  obtain ⟨gn, hgn⟩ : ∃ g, g = w.heap.size := ⟨_, rfl⟩
  have rn : RowAt Y1 gn [.slice so sn sc, .slice lo ln lc] 25 := by
    have h := ((RowAt.new w [.slice so sn sc, .slice lo ln lc] 25).alloc (.cells #[.int .u8 ea, .int .i64 eb, .int .u64 ec, .int .i64 ed, .bool ee, .int .u64 ef, .int .u64 eg, .int .i64 eh, .int .u8 ei, .int .i64 ej, .int .i64 ek, .int .i64 el] 38)).alloc (.cells #[.slice none 0 0, .slice none 0 0] 25)
    rw [hgn, hY]; exact h
  have len : w.heap.size ≤ gn := by omega
  obtain ⟨ge, hge⟩ : ∃ g, g = w.heap.size + 1 := ⟨_, rfl⟩
  have re : RowAt Y1 ge [.int .u8 ea, .int .i64 eb, .int .u64 ec, .int .i64 ed, .bool ee, .int .u64 ef, .int .u64 eg, .int .i64 eh, .int .u8 ei, .int .i64 ej, .int .i64 ek, .int .i64 el] 38 := by
    have h := (RowAt.new (w.alloc (.cells #[.slice so sn sc, .slice lo ln lc] 25)) [.int .u8 ea, .int .i64 eb, .int .u64 ec, .int .i64 ed, .bool ee, .int .u64 ef, .int .u64 eg, .int .i64 eh, .int .u8 ei, .int .i64 ej, .int .i64 ek, .int .i64 el] 38).alloc (.cells #[.slice none 0 0, .slice none 0 0] 25)
    simp only [World.size_alloc] at h
    rw [hge, hY]; exact h
  have lee : w.heap.size ≤ ge := by omega
  have nene : gn ≠ ge := by omega
  obtain ⟨gz, hgz⟩ : ∃ g, g = w.heap.size + 1 + 1 := ⟨_, rfl⟩
  have rz : RowAt Y1 gz [.slice none 0 0, .slice none 0 0] 25 := by
    have h := RowAt.new ((w.alloc (.cells #[.slice so sn sc, .slice lo ln lc] 25)).alloc (.cells #[.int .u8 ea, .int .i64 eb, .int .u64 ec, .int .i64 ed, .bool ee, .int .u64 ef, .int .u64 eg, .int .i64 eh, .int .u8 ei, .int .i64 ej, .int .i64 ek, .int .i64 el] 38)) [.slice none 0 0, .slice none 0 0] 25
    simp only [World.size_alloc] at h
    rw [hgz, hY]; exact h
  have lez : w.heap.size ≤ gz := by omega
  have nenz : gn ≠ gz := by omega
  have neez : ge ≠ gz := by omega
  replace hS := hS.keep hbY
  replace hL := hL.keep hbY
  replace hB := below2 hB hbY
  go_upto_region 1 with fail
  rw [← hY, ← hgz, ← hge, ← hgn]
  clear hY hbY hle hgn hge hgz
  obtain ⟨n0, n1, nf⟩ := cells2 rn
  go_wp2_with fail
  clear n0 n1 nf
  go_at_call 11; refine (c1 _ hS hL).mono ?_; rintro e w2 ⟨rfl, hb⟩
  replace rn := RowAt.below rn hb
  replace re := RowAt.below re hb
  replace rz := RowAt.below rz hb
  replace hS := hS.keep hb
  replace hL := hL.keep hb
  replace hB := below2 hB hb
  clear hb
  obtain ⟨n0, n1, nf⟩ := cells2 rn
  go_wp2_with fail
  clear n0 n1 nf
  go_at_call 14; refine (c2 _ hS hL).mono ?_; rintro e w3 ⟨o1, n1, m1, o2, n2, m2, rfl, hT, hM, hb⟩
  replace rn := RowAt.below rn hb
  replace re := RowAt.below re hb
  replace rz := RowAt.below rz hb
  replace hS := hS.keep hb
  replace hL := hL.keep hb
  replace hB := below2 hB hb
  clear hb
  clear rn hS hL
  obtain ⟨Y4, hY⟩ : ∃ Y, Y = (w3.alloc (.cells #[.slice o1 n1 m1, .slice o2 n2 m2] 54)) := ⟨_, rfl⟩
  have hbY : Below w3.heap.size w3 Y4 := by rw [hY]; exact below_new (Below.refl _ _) _
  have hle : w.heap.size ≤ w3.heap.size := hB.size
  obtain ⟨gf, hgf⟩ : ∃ g, g = w3.heap.size := ⟨_, rfl⟩
  have rf : RowAt Y4 gf [.slice o1 n1 m1, .slice o2 n2 m2] 54 := by
    have h := RowAt.new w3 [.slice o1 n1 m1, .slice o2 n2 m2] 54
    rw [hgf, hY]; exact h
  have lef : w.heap.size ≤ gf := by omega
  have neef : ge ≠ gf := by have := RowAt.lt re; omega
  have nezf : gz ≠ gf := by have := RowAt.lt rz; omega
  have ltef : ge < gf := by have := RowAt.lt re; omega
  have ltzf : gz < gf := by have := RowAt.lt rz; omega
  replace re := RowAt.below re hbY
  replace rz := RowAt.below rz hbY
  replace hT := hT.keep hbY
  replace hM := hM.keep hbY
  replace hB := below2 hB hbY
  go_upto_region 5 with fail
  rw [← hY, ← hgf]
  clear hY hbY hle hgf
  obtain ⟨f0, f1, ff⟩ := cells2 rf
  obtain ⟨e0, e1, e2, e3, e4, e5, e6, e7, e8, e9, e10, e11, ef⟩ := cells12 re
  go_wp2_with fail
  go_at_call 15; refine (c3 _ _ _ _ _ _ _ _ rf hT hM).mono ?_; rintro e w9 ⟨p1, q1, s1, p2, q2, s2, rfl, rg, hT2, hM2, hb⟩
  clear f0 f1 ff e0 e1 e2 e3 e4 e5 e6 e7 e8 e9 e10 e11 ef
  replace rz := rowB rz hb ltzf
  replace hB : Below w.heap.size w w9 := hB.trans (hb.mono lef)
  clear rf re hT hM hb
  obtain ⟨zz0, zz1, zzf⟩ := cells2 rz
  obtain ⟨f0, f1, ff⟩ := cells2 rg
  go_wp2_with fail
  (try simp only [Exit.inBlock, Exit.then])
  refine bodyPost_ret (v := .tuple #[.agg #[.slice p1 q1 s1, .slice p2 q2 s2], .int .i64 z]) ?_ rfl ⟨_, _, _, _, _, _, rfl, sts_off hT2 rz (gset (gset (grefl _ _))), ros_off hM2 rz (gset (gset (grefl _ _))), bset (bset hB lez) lez⟩
  · rw [results_cell_tmp rfl]
    go_simp
theorem apply_any (n : NetT) (e : Ev) (h : Int) (u v : Value) (w : World) (hS : HasSts w u n.seats) (hL : HasRos w v n.ros) (hf : FitN n) (he : FitE e) :
    Calls Tryz.prog 5 #[.agg #[u, v], evV e, .int .i64 h] w (NetIs (applyN n e h).1 (applyN n e h).2 w) := by
  obtain ⟨so, sc, rfl, _⟩ := Ord.HasRow.slice hS
  obtain ⟨lo, lc, rfl, _⟩ := HasRos.slice hL
  have c1 := fun W h1 h2 => check_any n (.slice so n.seats.length sc) (.slice lo n.ros.length lc) W h1 h2 hf.ros
  cases hok : okN n with
  | false =>
    have e1 : checkN n = 2 := by unfold checkN; rw [hok]; rfl
    have e2 : applyN n e h = (zeroN, 2) := by unfold applyN; rw [hok]; rfl
    rw [e1] at c1
    rw [e2]
    exact apply_bad so lo _ sc _ lc _ _ _ _ _ _ _ _ _ _ _ _ h 2 n.seats n.ros w hS hL (by decide) c1
  | true =>
    have e1 : checkN n = 0 := by unfold checkN; rw [hok]; rfl
    rw [e1] at c1
    have hl := ros_len hok
    have hl2 : n.seats.length ≤ 64 := by have := (okN_parts hok).2.1; omega
    have c2 := fun W h1 h2 => fresh_any n (.slice so n.seats.length sc) (.slice lo n.ros.length lc) W h1 h2 (by omega) (by omega) (fun R hR => by have := okRo_many (ros_ok hok R hR); omega)
    have c3 := fun W gf so lo sn sc ln lc r h1 h2 => take_any n e h gf so lo sn sc ln lc W r h1 h2 hok hf he
    by_cases hz : (takeN n e h).2 = 2 ∨ (takeN n e h).2 = 1
    · have e2 : applyN n e h = (zeroN, (takeN n e h).2) := by unfold applyN; rw [hok, if_pos rfl, if_pos hz]
      rw [e2]
      exact apply_form so lo _ sc _ lc _ _ _ _ _ _ _ _ _ _ _ _ h _ (takeN n e h).1 n.seats n.ros w hS hL hz c1 c2 c3
    · have e2 : applyN n e h = takeN n e h := by unfold applyN; rw [hok, if_pos rfl, if_neg hz]
      rw [e2]
      exact apply_ok so lo _ sc _ lc _ _ _ _ _ _ _ _ _ _ _ _ h _ (takeN n e h).1 n.seats n.ros w hS hL (fun h => hz (.inl h)) (fun h => hz (.inr h)) c1 c2 c3
end Go.Proofs.YtkjhnefbcnnjlaaGreat.Nt
namespace Go.Proofs.YtkjhnefbcnnjlaaGreat.Nt
open Go.RowKit
open Go.Proofs.YtkjhnefbcnnjlaaGreat.Lk (HasRow HasLks.keep)
open Go.Proofs.YtkjhnefbcnnjlaaGreat.Tr (HasRts.keep)
open Go.Proofs.YtkjhnefbcnnjlaaGreat.Fib
open Go.Proofs.YtkjhnefbcnnjlaaGreat.Ord (St HasSts HasSts.keep HasEvs.keep)
open Go.Proofs.YtkjhnefbcnnjlaaGreat.Addr (RowAt below2 below_new RowAt.lt RowAt.cell RowAt.below RowAt.new RowAt.alloc cells2 cells4)
set_option maxHeartbeats 16000000 in
set_option maxRecDepth 20000 in
theorem find_bad (so lo : Option Addr) (sn sc ln lc : Nat) (id z0 : Int) (p : Nat) (R : Ro) (S : List St) (L : List Ro) (w : World) (hS : HasSts w (.slice so sn sc) S) (hL : HasRos w (.slice lo ln lc) L) (hz0 : ¬ z0 = 0) (c1 : ∀ W, HasSts W (.slice so sn sc) S → HasRos W (.slice lo ln lc) L → Calls Tryz.prog 11 #[.agg #[.slice so sn sc, .slice lo ln lc]] W fun e w' => e = .returned (.int .i64 z0) ∧ Below W.heap.size W w') :
    Calls Tryz.prog 21 #[.agg #[.slice so sn sc, .slice lo ln lc], .int .i64 id] w (RoIs zeroRo z0 w) := by
  have hB := Below.refl w.heap.size w
  go_enter Tryz.func21, Tryz.ntmps21
  obtain ⟨Y1, hY⟩ : ∃ Y, Y = ((w.alloc (.cells #[.slice so sn sc, .slice lo ln lc] 25)).alloc (.cells #[.int .i64 0, .bool false, .slice none 0 0, .slice none 0 0] 51)) := ⟨_, rfl⟩
  have hbY : Below w.heap.size w Y1 := by rw [hY]; exact below_new (below_new (Below.refl _ _) _) _
  have hle : w.heap.size ≤ w.heap.size := hB.size
  obtain ⟨gn, hgn⟩ : ∃ g, g = w.heap.size := ⟨_, rfl⟩
  have rn : RowAt Y1 gn [.slice so sn sc, .slice lo ln lc] 25 := by
    have h := (RowAt.new w [.slice so sn sc, .slice lo ln lc] 25).alloc (.cells #[.int .i64 0, .bool false, .slice none 0 0, .slice none 0 0] 51)
    rw [hgn, hY]; exact h
  have len : w.heap.size ≤ gn := by omega
  obtain ⟨gz, hgz⟩ : ∃ g, g = w.heap.size + 1 := ⟨_, rfl⟩
  have rz : RowAt Y1 gz [.int .i64 0, .bool false, .slice none 0 0, .slice none 0 0] 51 := by
    have h := RowAt.new (w.alloc (.cells #[.slice so sn sc, .slice lo ln lc] 25)) [.int .i64 0, .bool false, .slice none 0 0, .slice none 0 0] 51
    simp only [World.size_alloc] at h
    rw [hgz, hY]; exact h
  have lez : w.heap.size ≤ gz := by omega
  have nenz : gn ≠ gz := by omega
  replace hS := hS.keep hbY
  replace hL := hL.keep hbY
  replace hB := below2 hB hbY
  go_upto_region 1 with fail
  rw [← hY, ← hgz, ← hgn]
  clear hY hbY hle hgn hgz
  obtain ⟨n0, n1, nf⟩ := cells2 rn
  go_wp2_with fail
  clear n0 n1 nf
  go_at_call 11; refine (c1 _ hS hL).mono ?_; rintro e w2 ⟨rfl, hb⟩
  replace rn := RowAt.below rn hb
  replace rz := RowAt.below rz hb
  replace hS := hS.keep hb
  replace hL := hL.keep hb
  replace hB := below2 hB hb
  clear hb
  obtain ⟨zz0, zz1, zz2, zz3, zzf⟩ := cells4 rz
  go_wp2_with fail
  (try simp only [Exit.inBlock, Exit.then])
  refine bodyPost_ret (v := .tuple #[.agg #[.int .i64 0, .bool false, .slice none 0 0, .slice none 0 0], .int .i64 z0]) ?_ rfl ⟨_, _, _, _, _, _, rfl, Lk.hasRow_nil _ 6, Lk.hasRow_nil _ 2, set4_bl' hB lez _ _ _ _⟩
  · rw [results_cell_tmp rfl]
    go_simp
set_option maxHeartbeats 16000000 in
set_option maxRecDepth 20000 in
theorem find_no (so lo : Option Addr) (sn sc ln lc : Nat) (id z0 : Int) (p : Nat) (R : Ro) (S : List St) (L : List Ro) (w : World) (hS : HasSts w (.slice so sn sc) S) (hL : HasRos w (.slice lo ln lc) L) (c1 : ∀ W, HasSts W (.slice so sn sc) S → HasRos W (.slice lo ln lc) L → Calls Tryz.prog 11 #[.agg #[.slice so sn sc, .slice lo ln lc]] W fun e w' => e = .returned (.int .i64 0) ∧ Below W.heap.size W w') (c2 : ∀ W gf so lo sn sc ln lc, RowAt W gf [.slice so sn sc, .slice lo ln lc] 54 → HasRos W (.slice lo ln lc) L → Calls Tryz.prog 43 #[.pointer (some ⟨gf, 0, none⟩), .int .i64 id] W fun e w' => e = .returned (.tuple #[.int .i64 (p : Int), .bool false]) ∧ Below W.heap.size W w') :
    Calls Tryz.prog 21 #[.agg #[.slice so sn sc, .slice lo ln lc], .int .i64 id] w (RoIs zeroRo 14 w) := by
  have hB := Below.refl w.heap.size w
  go_enter Tryz.func21, Tryz.ntmps21
  obtain ⟨Y1, hY⟩ : ∃ Y, Y = ((w.alloc (.cells #[.slice so sn sc, .slice lo ln lc] 25)).alloc (.cells #[.int .i64 0, .bool false, .slice none 0 0, .slice none 0 0] 51)) := ⟨_, rfl⟩
  have hbY : Below w.heap.size w Y1 := by rw [hY]; exact below_new (below_new (Below.refl _ _) _) _
  have hle : w.heap.size ≤ w.heap.size := hB.size
  obtain ⟨gn, hgn⟩ : ∃ g, g = w.heap.size := ⟨_, rfl⟩
  have rn : RowAt Y1 gn [.slice so sn sc, .slice lo ln lc] 25 := by
    have h := (RowAt.new w [.slice so sn sc, .slice lo ln lc] 25).alloc (.cells #[.int .i64 0, .bool false, .slice none 0 0, .slice none 0 0] 51)
    rw [hgn, hY]; exact h
  have len : w.heap.size ≤ gn := by omega
  obtain ⟨gz, hgz⟩ : ∃ g, g = w.heap.size + 1 := ⟨_, rfl⟩
  have rz : RowAt Y1 gz [.int .i64 0, .bool false, .slice none 0 0, .slice none 0 0] 51 := by
    have h := RowAt.new (w.alloc (.cells #[.slice so sn sc, .slice lo ln lc] 25)) [.int .i64 0, .bool false, .slice none 0 0, .slice none 0 0] 51
    simp only [World.size_alloc] at h
    rw [hgz, hY]; exact h
  have lez : w.heap.size ≤ gz := by omega
  have nenz : gn ≠ gz := by omega
  replace hS := hS.keep hbY
  replace hL := hL.keep hbY
  replace hB := below2 hB hbY
  go_upto_region 1 with fail
  rw [← hY, ← hgz, ← hgn]
  clear hY hbY hle hgn hgz
  obtain ⟨n0, n1, nf⟩ := cells2 rn
  go_wp2_with fail
  clear n0 n1 nf
  go_at_call 11; refine (c1 _ hS hL).mono ?_; rintro e w2 ⟨rfl, hb⟩
  replace rn := RowAt.below rn hb
  replace rz := RowAt.below rz hb
  replace hS := hS.keep hb
  replace hL := hL.keep hb
  replace hB := below2 hB hb
  clear hb
  obtain ⟨n0, n1, nf⟩ := cells2 rn
  obtain ⟨Y3, hY⟩ : ∃ Y, Y = (w2.alloc (.cells #[.slice so sn sc, .slice lo ln lc] 54)) := ⟨_, rfl⟩
  have hbY : Below w2.heap.size w2 Y3 := by rw [hY]; exact below_new (Below.refl _ _) _
  have hle : w.heap.size ≤ w2.heap.size := hB.size
  obtain ⟨gf, hgf⟩ : ∃ g, g = w2.heap.size := ⟨_, rfl⟩
  have rf : RowAt Y3 gf [.slice so sn sc, .slice lo ln lc] 54 := by
    have h := RowAt.new w2 [.slice so sn sc, .slice lo ln lc] 54
    rw [hgf, hY]; exact h
  have lef : w.heap.size ≤ gf := by omega
  have nenf : gn ≠ gf := by have := RowAt.lt rn; omega
  have nezf : gz ≠ gf := by have := RowAt.lt rz; omega
  replace rn := RowAt.below rn hbY
  replace rz := RowAt.below rz hbY
  replace hS := hS.keep hbY
  replace hL := hL.keep hbY
  replace hB := below2 hB hbY
  go_upto_region 5 with fail
  rw [← hY, ← hgf]
  clear hY hbY hle hgf
  clear n0 n1 nf
  obtain ⟨f0, f1, ff⟩ := cells2 rf
  go_wp2_with fail
  clear f0 f1 ff
  go_at_call 43; refine (c2 _ _ _ _ _ _ _ _ rf hL).mono ?_; rintro e w4 ⟨rfl, hb⟩
  replace rn := RowAt.below rn hb
  replace rz := RowAt.below rz hb
  replace rf := RowAt.below rf hb
  replace hS := hS.keep hb
  replace hL := hL.keep hb
  replace hB := below2 hB hb
  clear hb
  obtain ⟨zz0, zz1, zz2, zz3, zzf⟩ := cells4 rz
  go_wp2_with fail
  (try simp only [Exit.inBlock, Exit.then])
  refine bodyPost_ret (v := .tuple #[.agg #[.int .i64 0, .bool false, .slice none 0 0, .slice none 0 0], .int .i64 14]) ?_ rfl ⟨_, _, _, _, _, _, rfl, Lk.hasRow_nil _ 6, Lk.hasRow_nil _ 2, set4_bl' hB lez _ _ _ _⟩
  · rw [results_cell_tmp rfl]
    go_simp
set_option maxHeartbeats 16000000 in
set_option maxRecDepth 20000 in
theorem find_yes (so lo : Option Addr) (sn sc ln lc : Nat) (id z0 : Int) (p : Nat) (R : Ro) (S : List St) (L : List Ro) (w : World) (hS : HasSts w (.slice so sn sc) S) (hL : HasRos w (.slice lo ln lc) L) (HP : Hid (p < L.length)) (HRR : Hid (∀ h : p < L.length, L[p] = R)) (HK : Hid (∀ h : p < L.length, L[p].rts.length ≤ 1000 ∧ L[p].lks.length ≤ 1000)) (c1 : ∀ W, HasSts W (.slice so sn sc) S → HasRos W (.slice lo ln lc) L → Calls Tryz.prog 11 #[.agg #[.slice so sn sc, .slice lo ln lc]] W fun e w' => e = .returned (.int .i64 0) ∧ Below W.heap.size W w') (c2 : ∀ W gf so lo sn sc ln lc, RowAt W gf [.slice so sn sc, .slice lo ln lc] 54 → HasRos W (.slice lo ln lc) L → Calls Tryz.prog 43 #[.pointer (some ⟨gf, 0, none⟩), .int .i64 id] W fun e w' => e = .returned (.tuple #[.int .i64 (p : Int), .bool true]) ∧ Below W.heap.size W w') :
    Calls Tryz.prog 21 #[.agg #[.slice so sn sc, .slice lo ln lc], .int .i64 id] w (RoIs R 0 w) := by
  have hB := Below.refl w.heap.size w
  go_enter Tryz.func21, Tryz.ntmps21
  obtain ⟨Y1, hY⟩ : ∃ Y, Y = ((w.alloc (.cells #[.slice so sn sc, .slice lo ln lc] 25)).alloc (.cells #[.int .i64 0, .bool false, .slice none 0 0, .slice none 0 0] 51)) := ⟨_, rfl⟩
  have hbY : Below w.heap.size w Y1 := by rw [hY]; exact below_new (below_new (Below.refl _ _) _) _
  have hle : w.heap.size ≤ w.heap.size := hB.size
  obtain ⟨gn, hgn⟩ : ∃ g, g = w.heap.size := ⟨_, rfl⟩
  have rn : RowAt Y1 gn [.slice so sn sc, .slice lo ln lc] 25 := by
    have h := (RowAt.new w [.slice so sn sc, .slice lo ln lc] 25).alloc (.cells #[.int .i64 0, .bool false, .slice none 0 0, .slice none 0 0] 51)
    rw [hgn, hY]; exact h
  have len : w.heap.size ≤ gn := by omega
  obtain ⟨gz, hgz⟩ : ∃ g, g = w.heap.size + 1 := ⟨_, rfl⟩
  have rz : RowAt Y1 gz [.int .i64 0, .bool false, .slice none 0 0, .slice none 0 0] 51 := by
    have h := RowAt.new (w.alloc (.cells #[.slice so sn sc, .slice lo ln lc] 25)) [.int .i64 0, .bool false, .slice none 0 0, .slice none 0 0] 51
    simp only [World.size_alloc] at h
    rw [hgz, hY]; exact h
  have lez : w.heap.size ≤ gz := by omega
  have nenz : gn ≠ gz := by omega
  replace hS := hS.keep hbY
  replace hL := hL.keep hbY
  replace hB := below2 hB hbY
  go_upto_region 1 with fail
  rw [← hY, ← hgz, ← hgn]
  clear hY hbY hle hgn hgz
  obtain ⟨n0, n1, nf⟩ := cells2 rn
  go_wp2_with fail
  clear n0 n1 nf
  go_at_call 11; refine (c1 _ hS hL).mono ?_; rintro e w2 ⟨rfl, hb⟩
  replace rn := RowAt.below rn hb
  replace rz := RowAt.below rz hb
  replace hS := hS.keep hb
  replace hL := hL.keep hb
  replace hB := below2 hB hb
  clear hb
  obtain ⟨n0, n1, nf⟩ := cells2 rn
  obtain ⟨Y3, hY⟩ : ∃ Y, Y = (w2.alloc (.cells #[.slice so sn sc, .slice lo ln lc] 54)) := ⟨_, rfl⟩
  have hbY : Below w2.heap.size w2 Y3 := by rw [hY]; exact below_new (Below.refl _ _) _
  have hle : w.heap.size ≤ w2.heap.size := hB.size
  obtain ⟨gf, hgf⟩ : ∃ g, g = w2.heap.size := ⟨_, rfl⟩
  have rf : RowAt Y3 gf [.slice so sn sc, .slice lo ln lc] 54 := by
    have h := RowAt.new w2 [.slice so sn sc, .slice lo ln lc] 54
    rw [hgf, hY]; exact h
  have lef : w.heap.size ≤ gf := by omega
  have nenf : gn ≠ gf := by have := RowAt.lt rn; omega
  have nezf : gz ≠ gf := by have := RowAt.lt rz; omega
  replace rn := RowAt.below rn hbY
  replace rz := RowAt.below rz hbY
  replace hS := hS.keep hbY
  replace hL := hL.keep hbY
  replace hB := below2 hB hbY
  go_upto_region 5 with fail
  rw [← hY, ← hgf]
  clear hY hbY hle hgf
  clear n0 n1 nf
  obtain ⟨f0, f1, ff⟩ := cells2 rf
  go_wp2_with fail
  clear f0 f1 ff
  go_at_call 43; refine (c2 _ _ _ _ _ _ _ _ rf hL).mono ?_; rintro e w4 ⟨rfl, hb⟩
  replace rn := RowAt.below rn hb
  replace rz := RowAt.below rz hb
  replace rf := RowAt.below rf hb
  replace hS := hS.keep hb
  replace hL := hL.keep hb
  replace hB := below2 hB hb
  clear hb
  have hpz : p < L.length := HP.out
  have hLL := hL
  obtain ⟨o', c', e', hq1, hq2⟩ := HasRos.slice hL
  injection e' with e1 e2 e3
  have hpl : (p : Int) < (ln : Int) := by omega
  clear e1 e2 e3 hq1 hq2
  obtain ⟨b1, i1, o1, c1', o2, c2', rfl, hb1, a0, a1, a2, a3, ar, ak⟩ := HasRos.cell hL p hpz
  have hk9 := HK.out hpz
  have cf := Fib.fresh_any L[p] _ _ w4 ar ak hk9.1 hk9.2
  have HR : Hid (L[p] = R) := HRR.out hpz
  rw [HR.out] at a0 a1 a2 a3 cf
  clear ar ak
  obtain ⟨f0, f1, ff⟩ := cells2 rf
  go_wp2_with fail
  go_at_call 30; refine cf.mono ?_; rintro e w20 ⟨x, y, rfl, hx, hy, hb⟩
  replace rz := RowAt.below rz hb
  replace hB := below2 hB hb
  obtain ⟨p1, q1, rfl, _⟩ := Lk.HasRow.slice hx
  obtain ⟨p2, q2, rfl, _⟩ := Lk.HasRow.slice hy
  obtain ⟨zz0, zz1, zz2, zz3, zzf⟩ := cells4 rz
  clear f0 f1 ff a0 a1 a2 a3
  generalize R.rts.length = l1 at *
  generalize R.lks.length = l2 at *
  go_wp2_with fail
  (try simp only [Exit.inBlock, Exit.then])
  refine bodyPost_ret (v := .tuple #[.agg #[.int .i64 R.id, .bool R.up, .slice p1 l1 q1, .slice p2 l2 q2], .int .i64 0]) ?_ rfl ⟨_, _, _, _, _, _, rfl, rts_apart hx rz (set4_gr _ _ _ _ _ _), lks_apart hy rz (set4_gr _ _ _ _ _ _), set4_bl' hB lez _ _ _ _⟩
  · rw [results_cell_tmp rfl]
    go_simp
theorem is_at {n : NetT} {id : Int} (hi : isN n.ros id = true) : ∃ hp : posN n.ros id < n.ros.length, n.ros[posN n.ros id] = wasN n.ros id := by
  have hp : posN n.ros id < n.ros.length := by
    unfold isN at hi
    rcases Nat.lt_or_ge (posN n.ros id) n.ros.length with h | h
    · exact h
    · rw [List.getElem?_eq_none h] at hi; cases hi
  refine ⟨hp, ?_⟩
  unfold wasN
  rw [hi, if_pos rfl, List.getElem?_eq_getElem hp]
  rfl
theorem findF_any (n : NetT) (id : Int) (u v : Value) (w : World) (hS : HasSts w u n.seats) (hL : HasRos w v n.ros) (hf : FitN n) :
    Calls Tryz.prog 21 #[.agg #[u, v], .int .i64 id] w (RoIs (findN n id).1 (findN n id).2 w) := by
  obtain ⟨so, sc, rfl, _⟩ := Ord.HasRow.slice hS
  obtain ⟨lo, lc, rfl, _⟩ := HasRos.slice hL
  have c1 := fun W h1 h2 => check_any n (.slice so n.seats.length sc) (.slice lo n.ros.length lc) W h1 h2 hf.ros
  have c2 := fun W gf so lo sn sc ln lc r h1 => find_any n.ros gf so lo sn sc ln lc id W r h1
  cases hok : okN n with
  | false =>
    have e1 : checkN n = 2 := by unfold checkN; rw [hok]; rfl
    have e2 : findN n id = (zeroRo, 2) := by unfold findN; rw [hok]; rfl
    rw [e1] at c1
    rw [e2]
    exact find_bad so lo _ sc _ lc id 2 0 zeroRo n.seats n.ros w hS hL (by decide) c1
  | true =>
    have e1 : checkN n = 0 := by unfold checkN; rw [hok]; rfl
    rw [e1] at c1
    cases hi : isN n.ros id with
    | false =>
      have e2 : findN n id = (zeroRo, 14) := by unfold findN; rw [hok, hi]; rfl
      rw [hi] at c2
      rw [e2]
      exact find_no so lo _ sc _ lc id 0 _ zeroRo n.seats n.ros w hS hL c1 c2
    | true =>
      have e2 : findN n id = (wasN n.ros id, 0) := by unfold findN; rw [hok, hi]; rfl
      rw [hi] at c2
      rw [e2]
      obtain ⟨hp, he⟩ := is_at hi
      exact find_yes so lo _ sc _ lc id 0 _ (wasN n.ros id) n.seats n.ros w hS hL hp (fun _ => he) (fun h => by have := okRo_many (ros_ok hok _ (List.getElem_mem h)); omega) c1 c2
set_option maxHeartbeats 16000000 in
set_option maxRecDepth 20000 in
theorem size_bad (so lo : Option Addr) (sn sc ln lc : Nat) (z0 : Int) (S : List St) (L : List Ro) (w : World) (hS : HasSts w (.slice so sn sc) S) (hL : HasRos w (.slice lo ln lc) L) (hz0 : ¬ z0 = 0) (c1 : ∀ W, HasSts W (.slice so sn sc) S → HasRos W (.slice lo ln lc) L → Calls Tryz.prog 11 #[.agg #[.slice so sn sc, .slice lo ln lc]] W fun e w' => e = .returned (.int .i64 z0) ∧ Below W.heap.size W w') :
    Calls Tryz.prog 20 #[.agg #[.slice so sn sc, .slice lo ln lc]] w fun e w' => e = .returned (.tuple #[.int .i64 0, .int .i64 z0]) ∧ Below w.heap.size w w' := by
  have hB := Below.refl w.heap.size w
  go_enter Tryz.func20, Tryz.ntmps20
  obtain ⟨Y1, hY⟩ : ∃ Y, Y = (w.alloc (.cells #[.slice so sn sc, .slice lo ln lc] 25)) := ⟨_, rfl⟩
  have hbY : Below w.heap.size w Y1 := by rw [hY]; exact below_new (Below.refl _ _) _
  have hle : w.heap.size ≤ w.heap.size := hB.size
  obtain ⟨gn, hgn⟩ : ∃ g, g = w.heap.size := ⟨_, rfl⟩
  have rn : RowAt Y1 gn [.slice so sn sc, .slice lo ln lc] 25 := by
    have h := RowAt.new w [.slice so sn sc, .slice lo ln lc] 25
    rw [hgn, hY]; exact h
  have len : w.heap.size ≤ gn := by omega
  replace hS := hS.keep hbY
  replace hL := hL.keep hbY
  replace hB := below2 hB hbY
  go_upto_region 1 with fail
  rw [← hY, ← hgn]
  clear hY hbY hle hgn
  obtain ⟨n0, n1, nf⟩ := cells2 rn
  go_wp2_with fail
  clear n0 n1 nf
  go_at_call 11; refine (c1 _ hS hL).mono ?_; rintro e w2 ⟨rfl, hb⟩
  replace rn := RowAt.below rn hb
  replace hS := hS.keep hb
  replace hL := hL.keep hb
  replace hB := below2 hB hb
  clear hb
  go_wp2_with fail
  go_ret2
  exact ⟨rfl, hB⟩
set_option maxHeartbeats 16000000 in
set_option maxRecDepth 20000 in
theorem size_ok (so lo : Option Addr) (sn sc ln lc : Nat) (zz : Nat) (S : List St) (L : List Ro) (w : World) (hS : HasSts w (.slice so sn sc) S) (hL : HasRos w (.slice lo ln lc) L) (c1 : ∀ W, HasSts W (.slice so sn sc) S → HasRos W (.slice lo ln lc) L → Calls Tryz.prog 11 #[.agg #[.slice so sn sc, .slice lo ln lc]] W fun e w' => e = .returned (.int .i64 0) ∧ Below W.heap.size W w') (c5 : ∀ W v, HasRos W v L → Calls Tryz.prog 24 #[v] W fun e w' => e = .returned (.int .i64 (zz : Int)) ∧ Below W.heap.size W w') :
    Calls Tryz.prog 20 #[.agg #[.slice so sn sc, .slice lo ln lc]] w fun e w' => e = .returned (.tuple #[.int .i64 (zz : Int), .int .i64 0]) ∧ Below w.heap.size w w' := by
  have hB := Below.refl w.heap.size w
  go_enter Tryz.func20, Tryz.ntmps20
  obtain ⟨Y1, hY⟩ : ∃ Y, Y = (w.alloc (.cells #[.slice so sn sc, .slice lo ln lc] 25)) := ⟨_, rfl⟩
  have hbY : Below w.heap.size w Y1 := by rw [hY]; exact below_new (Below.refl _ _) _
  have hle : w.heap.size ≤ w.heap.size := hB.size
  obtain ⟨gn, hgn⟩ : ∃ g, g = w.heap.size := ⟨_, rfl⟩
  have rn : RowAt Y1 gn [.slice so sn sc, .slice lo ln lc] 25 := by
    have h := RowAt.new w [.slice so sn sc, .slice lo ln lc] 25
    rw [hgn, hY]; exact h
  have len : w.heap.size ≤ gn := by omega
  replace hS := hS.keep hbY
  replace hL := hL.keep hbY
  replace hB := below2 hB hbY
  go_upto_region 1 with fail
  rw [← hY, ← hgn]
  clear hY hbY hle hgn
  obtain ⟨n0, n1, nf⟩ := cells2 rn
  go_wp2_with fail
  clear n0 n1 nf
  go_at_call 11; refine (c1 _ hS hL).mono ?_; rintro e w2 ⟨rfl, hb⟩
  replace rn := RowAt.below rn hb
  replace hS := hS.keep hb
  replace hL := hL.keep hb
  replace hB := below2 hB hb
  clear hb
  obtain ⟨n0, n1, nf⟩ := cells2 rn
  go_wp2_with fail
  clear n0 n1 nf
  go_at_call 24; refine (c5 _ _ hL).mono ?_; rintro e w3 ⟨rfl, hb⟩
  replace rn := RowAt.below rn hb
  replace hS := hS.keep hb
  replace hL := hL.keep hb
  replace hB := below2 hB hb
  clear hb
  go_wp2_with fail
  go_ret2
  exact ⟨rfl, hB⟩
theorem sizeF_any (n : NetT) (u v : Value) (w : World) (hS : HasSts w u n.seats) (hL : HasRos w v n.ros) (hf : FitN n) :
    Calls Tryz.prog 20 #[.agg #[u, v]] w fun e w' => e = .returned (.tuple #[.int .i64 (sizeE n).1, .int .i64 (sizeE n).2]) ∧ Below w.heap.size w w' := by
  obtain ⟨so, sc, rfl, _⟩ := Ord.HasRow.slice hS
  obtain ⟨lo, lc, rfl, _⟩ := HasRos.slice hL
  have c1 := fun W h1 h2 => check_any n (.slice so n.seats.length sc) (.slice lo n.ros.length lc) W h1 h2 hf.ros
  cases hok : okN n with
  | false =>
    have e1 : checkN n = 2 := by unfold checkN; rw [hok]; rfl
    have e2 : sizeE n = (0, 2) := by unfold sizeE; rw [hok]; rfl
    rw [e1] at c1
    rw [e2]
    exact size_bad so lo _ sc _ lc 2 n.seats n.ros w hS hL (by decide) c1
  | true =>
    have e1 : checkN n = 0 := by unfold checkN; rw [hok]; rfl
    have e2 : sizeE n = ((sizeN n.ros : Int), 0) := by unfold sizeE; rw [hok]; rfl
    rw [e1] at c1
    rw [e2]
    exact size_ok so lo _ sc _ lc _ n.seats n.ros w hS hL c1 (fun W v h => size_any n.ros v W h (by have := ros_len hok; omega) (fun R hR => (okRo_many (ros_ok hok R hR)).1))
end Go.Proofs.YtkjhnefbcnnjlaaGreat.Nt
