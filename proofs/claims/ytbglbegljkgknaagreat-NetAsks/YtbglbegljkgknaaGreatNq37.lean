/- net.Apply. -/
import Derived.Test.YtbglbegljkgknaaGreatNq36
import Derived.Laws.ResultCell
set_option linter.unusedVariables false
namespace Go.Proofs.YtbglbegljkgknaaGreat.Nt
open Go.RowKit
open Go.Proofs.YtbglbegljkgknaaGreat.Lk (HasLks HasRow HasLks.keep hasRow_own)
open Go.Proofs.YtbglbegljkgknaaGreat.Tr (Rt HasRts HasRts.keep)
open Go.Proofs.YtbglbegljkgknaaGreat.Msg (Ev Ac okE FitE evV evC)
open Go.Proofs.YtbglbegljkgknaaGreat.Fib
open Go.Proofs.YtbglbegljkgknaaGreat.Ord (St HasSts HasSts.keep HasEvs HasEvs.keep nextL okL)
open Go.Proofs.YtbglbegljkgknaaGreat.Addr (RowAt below2 below_drew below_new bset RowAt.lt RowAt.cell RowAt.frozen RowAt.below RowAt.drew RowAt.new RowAt.alloc RowAt.set1 RowAt.gkeep RowAt.far1 gset grefl cells2 cells4 hiN loN rightB)
theorem rowB {W W' : World} {g B : Nat} {cs : List Value} {t : TypeId} (h : RowAt W g cs t) (hb : Below B W W') (hg : g < B) : RowAt W' g cs t := (hb.block g hg).trans h
/-- a net that a call returned, with a word -/
def NetIs (n : NetT) (z : Int) (w : World) (e : Ending) (w' : World) : Prop :=
  ∃ o1 n1 m1 o2 n2 m2, e = .returned (.tuple #[.agg #[.slice o1 n1 m1, .slice o2 n2 m2], .int .i64 z]) ∧ HasSts w' (.slice o1 n1 m1) n.seats ∧ HasRos w' (.slice o2 n2 m2) n.ros ∧ Below w.heap.size w w'
set_option maxHeartbeats 16000000 in
set_option maxRecDepth 20000 in
theorem apply_bad (so lo : Option Addr) (sn sc ln lc : Nat) (ea eb ec ed : Int) (ee : Bool) (ef eg eh ei ej ek el : Int) (h z0 : Int) (S : List St) (L : List Ro) (w : World) (hS : HasSts w (.slice so sn sc) S) (hL : HasRos w (.slice lo ln lc) L) (hz0 : ¬ z0 = 0) (c1 : ∀ W, HasSts W (.slice so sn sc) S → HasRos W (.slice lo ln lc) L → Calls Tryz.prog 15 #[.agg #[.slice so sn sc, .slice lo ln lc]] W fun e w' => e = .returned (.int .i64 z0) ∧ Below W.heap.size W w') :
    Calls Tryz.prog 9 #[.agg #[.slice so sn sc, .slice lo ln lc], .agg #[.int .u8 ea, .int .i64 eb, .int .u64 ec, .int .i64 ed, .bool ee, .int .u64 ef, .int .u64 eg, .int .i64 eh, .int .u8 ei, .int .i64 ej, .int .i64 ek, .int .i64 el], .int .i64 h] w (NetIs zeroN z0 w) := by
  have hB := Below.refl w.heap.size w
  go_enter Tryz.func9, Tryz.ntmps9
  obtain ⟨Y1, hY⟩ : ∃ Y, Y = (((w.alloc (.cells #[.slice so sn sc, .slice lo ln lc] 25)).alloc (.cells #[.int .u8 ea, .int .i64 eb, .int .u64 ec, .int .i64 ed, .bool ee, .int .u64 ef, .int .u64 eg, .int .i64 eh, .int .u8 ei, .int .i64 ej, .int .i64 ek, .int .i64 el] 38)).alloc (.cells #[.slice none 0 0, .slice none 0 0] 25)) := ⟨_, rfl⟩
  have hbY : Below w.heap.size w Y1 := by rw [hY]; exact below_new (below_new (below_new (Below.refl _ _) _) _) _
  have hle : w.heap.size ≤ w.heap.size := hB.size
  obtain ⟨gn, hgn⟩ : ∃ g, g = w.heap.size := ⟨_, rfl⟩
  have rn : RowAt Y1 gn [.slice so sn sc, .slice lo ln lc] 25 := by
    have h := ((RowAt.new w [.slice so sn sc, .slice lo ln lc] 25).alloc (.cells #[.int .u8 ea, .int .i64 eb, .int .u64 ec, .int .i64 ed, .bool ee, .int .u64 ef, .int .u64 eg, .int .i64 eh, .int .u8 ei, .int .i64 ej, .int .i64 ek, .int .i64 el] 38)).alloc (.cells #[.slice none 0 0, .slice none 0 0] 25)
    rw [hgn, hY]; exact h
  have len : w.heap.size ≤ gn := by omega
  obtain ⟨ge, hge⟩ : ∃ g, g = w.heap.size + 1 := ⟨_, rfl⟩
  have re : RowAt Y1 ge [.int .u8 ea, .int .i64 eb, .int .u64 ec, .int .i64 ed, .bool ee, .int .u64 ef, .int .u64 eg, .int .i64 eh, .int .u8 ei, .int .i64 ej, .int .i64 ek, .int .i64 el] 38 := by
    have h := (RowAt.new (w.alloc (.cells #[.slice so sn sc, .slice lo ln lc] 25)) [.int .u8 ea, .int .i64 eb, .int .u64 ec, .int .i64 ed, .bool ee, .int .u64 ef, .int .u64 eg, .int .i64 eh, .int .u8 ei, .int .i64 ej, .int .i64 ek, .int .i64 el] 38).alloc (.cells #[.slice none 0 0, .slice none 0 0] 25)
    simp only [World.size_alloc] at h
    rw [hge, hY]; exact h
  have lee : w.heap.size ≤ ge := by omega
  have nene : gn ≠ ge := by omega
  obtain ⟨gz, hgz⟩ : ∃ g, g = w.heap.size + 1 + 1 := ⟨_, rfl⟩
  have rz : RowAt Y1 gz [.slice none 0 0, .slice none 0 0] 25 := by
    have h := RowAt.new ((w.alloc (.cells #[.slice so sn sc, .slice lo ln lc] 25)).alloc (.cells #[.int .u8 ea, .int .i64 eb, .int .u64 ec, .int .i64 ed, .bool ee, .int .u64 ef, .int .u64 eg, .int .i64 eh, .int .u8 ei, .int .i64 ej, .int .i64 ek, .int .i64 el] 38)) [.slice none 0 0, .slice none 0 0] 25
    simp only [World.size_alloc] at h
    rw [hgz, hY]; exact h
  have lez : w.heap.size ≤ gz := by omega
  have nenz : gn ≠ gz := by omega
  have neez : ge ≠ gz := by omega
  replace hS := hS.keep hbY
  replace hL := hL.keep hbY
  replace hB := below2 hB hbY
  go_upto_region 1 with fail
  rw [← hY, ← hgz, ← hge, ← hgn]
  clear hY hbY hle hgn hge hgz
  obtain ⟨n0, n1, nf⟩ := cells2 rn
  go_wp2_with fail
  clear n0 n1 nf
  go_at_call 15; refine (c1 _ hS hL).mono ?_; rintro e w2 ⟨rfl, hb⟩
  replace rn := RowAt.below rn hb
  replace re := RowAt.below re hb
  replace rz := RowAt.below rz hb
  replace hS := hS.keep hb
  replace hL := hL.keep hb
  replace hB := below2 hB hb
  clear hb
  obtain ⟨zz0, zz1, zzf⟩ := cells2 rz
  go_wp2_with fail
  (try simp only [Exit.inBlock, Exit.then])
  refine bodyPost_ret (v := .tuple #[.agg #[.slice none 0 0, .slice none 0 0], .int .i64 z0]) ?_ rfl ⟨_, _, _, _, _, _, rfl, Ord.hasRow_nil _ 4, hasRos_nil _, bset (bset hB lez) lez⟩
  · rw [results_cell_tmp rfl]
    go_simp
set_option maxHeartbeats 16000000 in
set_option maxRecDepth 20000 in
theorem apply_form (so lo : Option Addr) (sn sc ln lc : Nat) (ea eb ec ed : Int) (ee : Bool) (ef eg eh ei ej ek el : Int) (h z : Int) (N : NetT) (S : List St) (L : List Ro) (w : World) (hS : HasSts w (.slice so sn sc) S) (hL : HasRos w (.slice lo ln lc) L) (hz : z = 2 ∨ z = 1) (c1 : ∀ W, HasSts W (.slice so sn sc) S → HasRos W (.slice lo ln lc) L → Calls Tryz.prog 15 #[.agg #[.slice so sn sc, .slice lo ln lc]] W fun e w' => e = .returned (.int .i64 0) ∧ Below W.heap.size W w') (c2 : ∀ W, HasSts W (.slice so sn sc) S → HasRos W (.slice lo ln lc) L → Calls Tryz.prog 25 #[.agg #[.slice so sn sc, .slice lo ln lc]] W fun e w' => ∃ o1 n1 m1 o2 n2 m2, e = .returned (.agg #[.slice o1 n1 m1, .slice o2 n2 m2]) ∧ HasSts w' (.slice o1 n1 m1) S ∧ HasRos w' (.slice o2 n2 m2) L ∧ Below W.heap.size W w') (c3 : ∀ W gf so lo sn sc ln lc, RowAt W gf [.slice so sn sc, .slice lo ln lc] 68 → HasSts W (.slice so sn sc) S → HasRos W (.slice lo ln lc) L → Calls Tryz.prog 26 #[.pointer (some ⟨gf, 0, none⟩), .agg #[.int .u8 ea, .int .i64 eb, .int .u64 ec, .int .i64 ed, .bool ee, .int .u64 ef, .int .u64 eg, .int .i64 eh, .int .u8 ei, .int .i64 ej, .int .i64 ek, .int .i64 el], .int .i64 h] W (FabIs gf N z W)) :
    Calls Tryz.prog 9 #[.agg #[.slice so sn sc, .slice lo ln lc], .agg #[.int .u8 ea, .int .i64 eb, .int .u64 ec, .int .i64 ed, .bool ee, .int .u64 ef, .int .u64 eg, .int .i64 eh, .int .u8 ei, .int .i64 ej, .int .i64 ek, .int .i64 el], .int .i64 h] w (NetIs zeroN z w) := by
  have hB := Below.refl w.heap.size w
  go_enter Tryz.func9, Tryz.ntmps9
  obtain ⟨Y1, hY⟩ : ∃ Y, Y = (((w.alloc (.cells #[.slice so sn sc, .slice lo ln lc] 25)).alloc (.cells #[.int .u8 ea, .int .i64 eb, .int .u64 ec, .int .i64 ed, .bool ee, .int .u64 ef, .int .u64 eg, .int .i64 eh, .int .u8 ei, .int .i64 ej, .int .i64 ek, .int .i64 el] 38)).alloc (.cells #[.slice none 0 0, .slice none 0 0] 25)) := ⟨_, rfl⟩
  have hbY : Below w.heap.size w Y1 := by rw [hY]; exact below_new (below_new (below_new (Below.refl _ _) _) _) _
  have hle : w.heap.size ≤ w.heap.size := hB.size
  obtain ⟨gn, hgn⟩ : ∃ g, g = w.heap.size := ⟨_, rfl⟩
  have rn : RowAt Y1 gn [.slice so sn sc, .slice lo ln lc] 25 := by
    have h := ((RowAt.new w [.slice so sn sc, .slice lo ln lc] 25).alloc (.cells #[.int .u8 ea, .int .i64 eb, .int .u64 ec, .int .i64 ed, .bool ee, .int .u64 ef, .int .u64 eg, .int .i64 eh, .int .u8 ei, .int .i64 ej, .int .i64 ek, .int .i64 el] 38)).alloc (.cells #[.slice none 0 0, .slice none 0 0] 25)
    rw [hgn, hY]; exact h
  have len : w.heap.size ≤ gn := by omega
  obtain ⟨ge, hge⟩ : ∃ g, g = w.heap.size + 1 := ⟨_, rfl⟩
  have re : RowAt Y1 ge [.int .u8 ea, .int .i64 eb, .int .u64 ec, .int .i64 ed, .bool ee, .int .u64 ef, .int .u64 eg, .int .i64 eh, .int .u8 ei, .int .i64 ej, .int .i64 ek, .int .i64 el] 38 := by
    have h := (RowAt.new (w.alloc (.cells #[.slice so sn sc, .slice lo ln lc] 25)) [.int .u8 ea, .int .i64 eb, .int .u64 ec, .int .i64 ed, .bool ee, .int .u64 ef, .int .u64 eg, .int .i64 eh, .int .u8 ei, .int .i64 ej, .int .i64 ek, .int .i64 el] 38).alloc (.cells #[.slice none 0 0, .slice none 0 0] 25)
    simp only [World.size_alloc] at h
    rw [hge, hY]; exact h
  have lee : w.heap.size ≤ ge := by omega
  have nene : gn ≠ ge := by omega
  obtain ⟨gz, hgz⟩ : ∃ g, g = w.heap.size + 1 + 1 := ⟨_, rfl⟩
  have rz : RowAt Y1 gz [.slice none 0 0, .slice none 0 0] 25 := by
    have h := RowAt.new ((w.alloc (.cells #[.slice so sn sc, .slice lo ln lc] 25)).alloc (.cells #[.int .u8 ea, .int .i64 eb, .int .u64 ec, .int .i64 ed, .bool ee, .int .u64 ef, .int .u64 eg, .int .i64 eh, .int .u8 ei, .int .i64 ej, .int .i64 ek, .int .i64 el] 38)) [.slice none 0 0, .slice none 0 0] 25
    simp only [World.size_alloc] at h
    rw [hgz, hY]; exact h
  have lez : w.heap.size ≤ gz := by omega
  have nenz : gn ≠ gz := by omega
  have neez : ge ≠ gz := by omega
  replace hS := hS.keep hbY
  replace hL := hL.keep hbY
  replace hB := below2 hB hbY
  go_upto_region 1 with fail
  rw [← hY, ← hgz, ← hge, ← hgn]
  clear hY hbY hle hgn hge hgz
  obtain ⟨n0, n1, nf⟩ := cells2 rn
  go_wp2_with fail
  clear n0 n1 nf
  go_at_call 15; refine (c1 _ hS hL).mono ?_; rintro e w2 ⟨rfl, hb⟩
  replace rn := RowAt.below rn hb
  replace re := RowAt.below re hb
  replace rz := RowAt.below rz hb
  replace hS := hS.keep hb
  replace hL := hL.keep hb
  replace hB := below2 hB hb
  clear hb
  obtain ⟨n0, n1, nf⟩ := cells2 rn
  go_wp2_with fail
  clear n0 n1 nf
  go_at_call 25; refine (c2 _ hS hL).mono ?_; rintro e w3 ⟨o1, n1, m1, o2, n2, m2, rfl, hT, hM, hb⟩
  replace rn := RowAt.below rn hb
  replace re := RowAt.below re hb
  replace rz := RowAt.below rz hb
  replace hS := hS.keep hb
  replace hL := hL.keep hb
  replace hB := below2 hB hb
  clear hb
  clear rn hS hL
  obtain ⟨Y4, hY⟩ : ∃ Y, Y = (w3.alloc (.cells #[.slice o1 n1 m1, .slice o2 n2 m2] 68)) := ⟨_, rfl⟩
  have hbY : Below w3.heap.size w3 Y4 := by rw [hY]; exact below_new (Below.refl _ _) _
  have hle : w.heap.size ≤ w3.heap.size := hB.size
  obtain ⟨gf, hgf⟩ : ∃ g, g = w3.heap.size := ⟨_, rfl⟩
  have rf : RowAt Y4 gf [.slice o1 n1 m1, .slice o2 n2 m2] 68 := by
    have h := RowAt.new w3 [.slice o1 n1 m1, .slice o2 n2 m2] 68
    rw [hgf, hY]; exact h
  have lef : w.heap.size ≤ gf := by omega
  have neef : ge ≠ gf := by have := RowAt.lt re; omega
  have nezf : gz ≠ gf := by have := RowAt.lt rz; omega
  have ltef : ge < gf := by have := RowAt.lt re; omega
  have ltzf : gz < gf := by have := RowAt.lt rz; omega
  replace re := RowAt.below re hbY
  replace rz := RowAt.below rz hbY
  replace hT := hT.keep hbY
  replace hM := hM.keep hbY
  replace hB := below2 hB hbY
  go_upto_region 5 with fail
  rw [← hY, ← hgf]
  clear hY hbY hle hgf
  obtain ⟨f0, f1, ff⟩ := cells2 rf
  obtain ⟨e0, e1, e2, e3, e4, e5, e6, e7, e8, e9, e10, e11, ef⟩ := cells12 re
  go_wp2_with fail
  go_at_call 26; refine (c3 _ _ _ _ _ _ _ _ rf hT hM).mono ?_; rintro e w9 ⟨p1, q1, s1, p2, q2, s2, rfl, rg, hT2, hM2, hb⟩
  clear f0 f1 ff e0 e1 e2 e3 e4 e5 e6 e7 e8 e9 e10 e11 ef
  replace rz := rowB rz hb ltzf
  replace hB : Below w.heap.size w w9 := hB.trans (hb.mono lef)
  clear rf re hT hM hb
  rcases hz with rfl | rfl
  · obtain ⟨zz0, zz1, zzf⟩ := cells2 rz
    go_wp2_with fail
    (try simp only [Exit.inBlock, Exit.then])
    refine bodyPost_ret (v := .tuple #[.agg #[.slice none 0 0, .slice none 0 0], .int .i64 2]) ?_ rfl ⟨_, _, _, _, _, _, rfl, Ord.hasRow_nil _ 4, hasRos_nil _, bset (bset hB lez) lez⟩
    · rw [results_cell_tmp rfl]
      go_simp
  · obtain ⟨zz0, zz1, zzf⟩ := cells2 rz
    go_wp2_with fail
    (try simp only [Exit.inBlock, Exit.then])
    refine bodyPost_ret (v := .tuple #[.agg #[.slice none 0 0, .slice none 0 0], .int .i64 1]) ?_ rfl ⟨_, _, _, _, _, _, rfl, Ord.hasRow_nil _ 4, hasRos_nil _, bset (bset hB lez) lez⟩
    · rw [results_cell_tmp rfl]
      go_simp
set_option maxHeartbeats 16000000 in
set_option maxRecDepth 20000 in
theorem apply_ok (so lo : Option Addr) (sn sc ln lc : Nat) (ea eb ec ed : Int) (ee : Bool) (ef eg eh ei ej ek el : Int) (h z : Int) (N : NetT) (S : List St) (L : List Ro) (w : World) (hS : HasSts w (.slice so sn sc) S) (hL : HasRos w (.slice lo ln lc) L) (hz2 : ¬ z = 2) (hz1 : ¬ z = 1) (c1 : ∀ W, HasSts W (.slice so sn sc) S → HasRos W (.slice lo ln lc) L → Calls Tryz.prog 15 #[.agg #[.slice so sn sc, .slice lo ln lc]] W fun e w' => e = .returned (.int .i64 0) ∧ Below W.heap.size W w') (c2 : ∀ W, HasSts W (.slice so sn sc) S → HasRos W (.slice lo ln lc) L → Calls Tryz.prog 25 #[.agg #[.slice so sn sc, .slice lo ln lc]] W fun e w' => ∃ o1 n1 m1 o2 n2 m2, e = .returned (.agg #[.slice o1 n1 m1, .slice o2 n2 m2]) ∧ HasSts w' (.slice o1 n1 m1) S ∧ HasRos w' (.slice o2 n2 m2) L ∧ Below W.heap.size W w') (c3 : ∀ W gf so lo sn sc ln lc, RowAt W gf [.slice so sn sc, .slice lo ln lc] 68 → HasSts W (.slice so sn sc) S → HasRos W (.slice lo ln lc) L → Calls Tryz.prog 26 #[.pointer (some ⟨gf, 0, none⟩), .agg #[.int .u8 ea, .int .i64 eb, .int .u64 ec, .int .i64 ed, .bool ee, .int .u64 ef, .int .u64 eg, .int .i64 eh, .int .u8 ei, .int .i64 ej, .int .i64 ek, .int .i64 el], .int .i64 h] W (FabIs gf N z W)) :
    Calls Tryz.prog 9 #[.agg #[.slice so sn sc, .slice lo ln lc], .agg #[.int .u8 ea, .int .i64 eb, .int .u64 ec, .int .i64 ed, .bool ee, .int .u64 ef, .int .u64 eg, .int .i64 eh, .int .u8 ei, .int .i64 ej, .int .i64 ek, .int .i64 el], .int .i64 h] w (NetIs N z w) := by
  have hB := Below.refl w.heap.size w
  have hz2b : (z == 2) = false := beq_eq_false_iff_ne.2 hz2
  have hz1b : (z == 1) = false := beq_eq_false_iff_ne.2 hz1
  go_enter Tryz.func9, Tryz.ntmps9
  obtain ⟨Y1, hY⟩ : ∃ Y, Y = (((w.alloc (.cells #[.slice so sn sc, .slice lo ln lc] 25)).alloc (.cells #[.int .u8 ea, .int .i64 eb, .int .u64 ec, .int .i64 ed, .bool ee, .int .u64 ef, .int .u64 eg, .int .i64 eh, .int .u8 ei, .int .i64 ej, .int .i64 ek, .int .i64 el] 38)).alloc (.cells #[.slice none 0 0, .slice none 0 0] 25)) := ⟨_, rfl⟩
  have hbY : Below w.heap.size w Y1 := by rw [hY]; exact below_new (below_new (below_new (Below.refl _ _) _) _) _
  have hle : w.heap.size ≤ w.heap.size := hB.size
  obtain ⟨gn, hgn⟩ : ∃ g, g = w.heap.size := ⟨_, rfl⟩
  have rn : RowAt Y1 gn [.slice so sn sc, .slice lo ln lc] 25 := by
    have h := ((RowAt.new w [.slice so sn sc, .slice lo ln lc] 25).alloc (.cells #[.int .u8 ea, .int .i64 eb, .int .u64 ec, .int .i64 ed, .bool ee, .int .u64 ef, .int .u64 eg, .int .i64 eh, .int .u8 ei, .int .i64 ej, .int .i64 ek, .int .i64 el] 38)).alloc (.cells #[.slice none 0 0, .slice none 0 0] 25)
    rw [hgn, hY]; exact h
  have len : w.heap.size ≤ gn := by omega
  obtain ⟨ge, hge⟩ : ∃ g, g = w.heap.size + 1 := ⟨_, rfl⟩
  have re : RowAt Y1 ge [.int .u8 ea, .int .i64 eb, .int .u64 ec, .int .i64 ed, .bool ee, .int .u64 ef, .int .u64 eg, .int .i64 eh, .int .u8 ei, .int .i64 ej, .int .i64 ek, .int .i64 el] 38 := by
    have h := (RowAt.new (w.alloc (.cells #[.slice so sn sc, .slice lo ln lc] 25)) [.int .u8 ea, .int .i64 eb, .int .u64 ec, .int .i64 ed, .bool ee, .int .u64 ef, .int .u64 eg, .int .i64 eh, .int .u8 ei, .int .i64 ej, .int .i64 ek, .int .i64 el] 38).alloc (.cells #[.slice none 0 0, .slice none 0 0] 25)
    simp only [World.size_alloc] at h
    rw [hge, hY]; exact h
  have lee : w.heap.size ≤ ge := by omega
  have nene : gn ≠ ge := by omega
  obtain ⟨gz, hgz⟩ : ∃ g, g = w.heap.size + 1 + 1 := ⟨_, rfl⟩
  have rz : RowAt Y1 gz [.slice none 0 0, .slice none 0 0] 25 := by
    have h := RowAt.new ((w.alloc (.cells #[.slice so sn sc, .slice lo ln lc] 25)).alloc (.cells #[.int .u8 ea, .int .i64 eb, .int .u64 ec, .int .i64 ed, .bool ee, .int .u64 ef, .int .u64 eg, .int .i64 eh, .int .u8 ei, .int .i64 ej, .int .i64 ek, .int .i64 el] 38)) [.slice none 0 0, .slice none 0 0] 25
    simp only [World.size_alloc] at h
    rw [hgz, hY]; exact h
  have lez : w.heap.size ≤ gz := by omega
  have nenz : gn ≠ gz := by omega
  have neez : ge ≠ gz := by omega
  replace hS := hS.keep hbY
  replace hL := hL.keep hbY
  replace hB := below2 hB hbY
  go_upto_region 1 with fail
  rw [← hY, ← hgz, ← hge, ← hgn]
  clear hY hbY hle hgn hge hgz
  obtain ⟨n0, n1, nf⟩ := cells2 rn
  go_wp2_with fail
  clear n0 n1 nf
  go_at_call 15; refine (c1 _ hS hL).mono ?_; rintro e w2 ⟨rfl, hb⟩
  replace rn := RowAt.below rn hb
  replace re := RowAt.below re hb
  replace rz := RowAt.below rz hb
  replace hS := hS.keep hb
  replace hL := hL.keep hb
  replace hB := below2 hB hb
  clear hb
  obtain ⟨n0, n1, nf⟩ := cells2 rn
  go_wp2_with fail
  clear n0 n1 nf
  go_at_call 25; refine (c2 _ hS hL).mono ?_; rintro e w3 ⟨o1, n1, m1, o2, n2, m2, rfl, hT, hM, hb⟩
  replace rn := RowAt.below rn hb
  replace re := RowAt.below re hb
  replace rz := RowAt.below rz hb
  replace hS := hS.keep hb
  replace hL := hL.keep hb
  replace hB := below2 hB hb
  clear hb
  clear rn hS hL
  obtain ⟨Y4, hY⟩ : ∃ Y, Y = (w3.alloc (.cells #[.slice o1 n1 m1, .slice o2 n2 m2] 68)) := ⟨_, rfl⟩
  have hbY : Below w3.heap.size w3 Y4 := by rw [hY]; exact below_new (Below.refl _ _) _
  have hle : w.heap.size ≤ w3.heap.size := hB.size
  obtain ⟨gf, hgf⟩ : ∃ g, g = w3.heap.size := ⟨_, rfl⟩
  have rf : RowAt Y4 gf [.slice o1 n1 m1, .slice o2 n2 m2] 68 := by
    have h := RowAt.new w3 [.slice o1 n1 m1, .slice o2 n2 m2] 68
    rw [hgf, hY]; exact h
  have lef : w.heap.size ≤ gf := by omega
  have neef : ge ≠ gf := by have := RowAt.lt re; omega
  have nezf : gz ≠ gf := by have := RowAt.lt rz; omega
  have ltef : ge < gf := by have := RowAt.lt re; omega
  have ltzf : gz < gf := by have := RowAt.lt rz; omega
  replace re := RowAt.below re hbY
  replace rz := RowAt.below rz hbY
  replace hT := hT.keep hbY
  replace hM := hM.keep hbY
  replace hB := below2 hB hbY
  go_upto_region 5 with fail
  rw [← hY, ← hgf]
  clear hY hbY hle hgf
  obtain ⟨f0, f1, ff⟩ := cells2 rf
  obtain ⟨e0, e1, e2, e3, e4, e5, e6, e7, e8, e9, e10, e11, ef⟩ := cells12 re
  go_wp2_with fail
  go_at_call 26; refine (c3 _ _ _ _ _ _ _ _ rf hT hM).mono ?_; rintro e w9 ⟨p1, q1, s1, p2, q2, s2, rfl, rg, hT2, hM2, hb⟩
  clear f0 f1 ff e0 e1 e2 e3 e4 e5 e6 e7 e8 e9 e10 e11 ef
  replace rz := rowB rz hb ltzf
  replace hB : Below w.heap.size w w9 := hB.trans (hb.mono lef)
  clear rf re hT hM hb
  obtain ⟨zz0, zz1, zzf⟩ := cells2 rz
  obtain ⟨f0, f1, ff⟩ := cells2 rg
  go_wp2_with fail
  (try simp only [Exit.inBlock, Exit.then])
  refine bodyPost_ret (v := .tuple #[.agg #[.slice p1 q1 s1, .slice p2 q2 s2], .int .i64 z]) ?_ rfl ⟨_, _, _, _, _, _, rfl, sts_off hT2 rz (gset (gset (grefl _ _))), ros_off hM2 rz (gset (gset (grefl _ _))), bset (bset hB lez) lez⟩
  · rw [results_cell_tmp rfl]
    go_simp
theorem apply_any (n : NetT) (e : Ev) (h : Int) (u v : Value) (w : World) (hS : HasSts w u n.seats) (hL : HasRos w v n.ros) (hf : FitN n) (he : FitE e) :
    Calls Tryz.prog 9 #[.agg #[u, v], evV e, .int .i64 h] w (NetIs (applyN n e h).1 (applyN n e h).2 w) := by
  obtain ⟨so, sc, rfl, _⟩ := Ord.HasRow.slice hS
  obtain ⟨lo, lc, rfl, _⟩ := HasRos.slice hL
  have c1 := fun W h1 h2 => check_any n (.slice so n.seats.length sc) (.slice lo n.ros.length lc) W h1 h2 hf.ros
  cases hok : okN n with
  | false =>
    have e1 : checkN n = 2 := by unfold checkN; rw [hok]; rfl
    have e2 : applyN n e h = (zeroN, 2) := by unfold applyN; rw [hok]; rfl
    rw [e1] at c1
    rw [e2]
    exact apply_bad so lo _ sc _ lc _ _ _ _ _ _ _ _ _ _ _ _ h 2 n.seats n.ros w hS hL (by decide) c1
  | true =>
    have e1 : checkN n = 0 := by unfold checkN; rw [hok]; rfl
    rw [e1] at c1
    have hl := ros_len hok
    have hl2 : n.seats.length ≤ 64 := by have := (okN_parts hok).2.1; omega
    have c2 := fun W h1 h2 => fresh_any n (.slice so n.seats.length sc) (.slice lo n.ros.length lc) W h1 h2 (by omega) (by omega) (fun R hR => by have := okRo_many (ros_ok hok R hR); omega)
    have c3 := fun W gf so lo sn sc ln lc r h1 h2 => take_any n e h gf so lo sn sc ln lc W r h1 h2 hok hf he
    by_cases hz : (takeN n e h).2 = 2 ∨ (takeN n e h).2 = 1
    · have e2 : applyN n e h = (zeroN, (takeN n e h).2) := by unfold applyN; rw [hok, if_pos rfl, if_pos hz]
      rw [e2]
      exact apply_form so lo _ sc _ lc _ _ _ _ _ _ _ _ _ _ _ _ h _ (takeN n e h).1 n.seats n.ros w hS hL hz c1 c2 c3
    · have e2 : applyN n e h = takeN n e h := by unfold applyN; rw [hok, if_pos rfl, if_neg hz]
      rw [e2]
      exact apply_ok so lo _ sc _ lc _ _ _ _ _ _ _ _ _ _ _ _ h _ (takeN n e h).1 n.seats n.ros w hS hL (fun h => hz (.inl h)) (fun h => hz (.inr h)) c1 c2 c3
end Go.Proofs.YtbglbegljkgknaaGreat.Nt
