/- Prefixes and actions held against each other, alike or not. -/
import Derived.Test.YtkjhnefbcnnjlaaGreatNv22
import Derived.Test.YtkjhnefbcnnjlaaGreatNv27
import Derived.Deep.RegionHeld3
import Derived.Test.YtkjhnefbcnnjlaaGreatNv04
set_option linter.unusedVariables false
namespace Go.Proofs.YtkjhnefbcnnjlaaGreat.Nt
open Go.RowKit
open Go.Proofs.YtkjhnefbcnnjlaaGreat.Lk (HasLks HasRow HasLks.keep)
open Go.Proofs.YtkjhnefbcnnjlaaGreat.Tr (HasRts HasRts.keep)
open Go.Proofs.YtkjhnefbcnnjlaaGreat.Fib
open Go.Proofs.YtkjhnefbcnnjlaaGreat.Ord (St HasSts HasSts.keep HasEvs.keep)
open Go.Proofs.YtkjhnefbcnnjlaaGreat.Addr (RowAt below2 below_drew below_new bset RowAt.lt RowAt.cell RowAt.below RowAt.drew RowAt.new RowAt.alloc cells2 hiN loN rightB)
def hopN (n : NetT) (id : Int) (six : Bool) (a : Nat) : (Nat × Int) × Int := if okN n && rightB six a then (if isN n.ros id then hopRo (wasN n.ros id) six a else ((0, 0), 0)) else ((0, 0), 2)
set_option maxHeartbeats 16000000 in
set_option maxRecDepth 20000 in
theorem hop_bad (so lo : Option Addr) (sn sc ln lc : Nat) (id : Int) (six : Bool) (ah al z0 : Int) (p : Nat) (R : Ro) (hk hz hp : Int) (S : List St) (L : List Ro) (w : World) (hS : HasSts w (.slice so sn sc) S) (hL : HasRos w (.slice lo ln lc) L) (hz0 : ¬ z0 = 0) (c1 : ∀ W, HasSts W (.slice so sn sc) S → HasRos W (.slice lo ln lc) L → Calls Tryz.prog 11 #[.agg #[.slice so sn sc, .slice lo ln lc]] W fun e w' => e = .returned (.int .i64 z0) ∧ Below W.heap.size W w') :
    Calls Tryz.prog 19 #[.agg #[.slice so sn sc, .slice lo ln lc], .int .i64 id, .bool six, .agg #[.int .u64 ah, .int .u64 al]] w fun e w' => e = .returned (.tuple #[.agg #[.int .u8 0, .int .i64 0], .int .i64 2]) ∧ Below w.heap.size w w' := by
  have hB := Below.refl w.heap.size w
  go_enter Tryz.func19, Tryz.ntmps19
  obtain ⟨Y1, hY⟩ : ∃ Y, Y = (((w.alloc (.cells #[.slice so sn sc, .slice lo ln lc] 25)).alloc (.cells #[.int .u64 ah, .int .u64 al] 31)).alloc (.cells #[.int .u8 0, .int .i64 0] 60)) := ⟨_, rfl⟩
  have hbY : Below w.heap.size w Y1 := by rw [hY]; exact below_new (below_new (below_new (Below.refl _ _) _) _) _
  have hle : w.heap.size ≤ w.heap.size := hB.size
  obtain ⟨gn, hgn⟩ : ∃ g, g = w.heap.size := ⟨_, rfl⟩
  have rn : RowAt Y1 gn [.slice so sn sc, .slice lo ln lc] 25 := by
    have h := ((RowAt.new w [.slice so sn sc, .slice lo ln lc] 25).alloc (.cells #[.int .u64 ah, .int .u64 al] 31)).alloc (.cells #[.int .u8 0, .int .i64 0] 60)
    rw [hgn, hY]; exact h
  have len : w.heap.size ≤ gn := by omega
  obtain ⟨ga, hga⟩ : ∃ g, g = w.heap.size + 1 := ⟨_, rfl⟩
  have ra : RowAt Y1 ga [.int .u64 ah, .int .u64 al] 31 := by
    have h := (RowAt.new (w.alloc (.cells #[.slice so sn sc, .slice lo ln lc] 25)) [.int .u64 ah, .int .u64 al] 31).alloc (.cells #[.int .u8 0, .int .i64 0] 60)
    simp only [World.size_alloc] at h
    rw [hga, hY]; exact h
  have lea : w.heap.size ≤ ga := by omega
  have nena : gn ≠ ga := by omega
  obtain ⟨gz, hgz⟩ : ∃ g, g = w.heap.size + 1 + 1 := ⟨_, rfl⟩
  have rz : RowAt Y1 gz [.int .u8 0, .int .i64 0] 60 := by
    have h := RowAt.new ((w.alloc (.cells #[.slice so sn sc, .slice lo ln lc] 25)).alloc (.cells #[.int .u64 ah, .int .u64 al] 31)) [.int .u8 0, .int .i64 0] 60
    simp only [World.size_alloc] at h
    rw [hgz, hY]; exact h
  have lez : w.heap.size ≤ gz := by omega
  have nenz : gn ≠ gz := by omega
  have neaz : ga ≠ gz := by omega
  replace hS := hS.keep hbY
  replace hL := hL.keep hbY
  replace hB := below2 hB hbY
  go_upto_region 1 with fail
  rw [← hY, ← hgz, ← hga, ← hgn]
  clear hY hbY hle hgn hga hgz
  obtain ⟨n0, n1, nf⟩ := cells2 rn
  go_wp2_with fail
  clear n0 n1 nf
  go_at_call 11; refine (c1 _ hS hL).mono ?_; rintro e w2 ⟨rfl, hb⟩
  replace rn := RowAt.below rn hb
  replace ra := RowAt.below ra hb
  replace rz := RowAt.below rz hb
  replace hS := hS.keep hb
  replace hL := hL.keep hb
  replace hB := below2 hB hb
  clear hb
  obtain ⟨zz0, zz1, zzf⟩ := cells2 rz
  go_wp2_with fail
  (try simp only [Exit.inBlock, Exit.then])
  refine bodyPost_ret (v := .tuple #[.agg #[.int .u8 0, .int .i64 0], .int .i64 2]) ?_ rfl ⟨rfl, bset (bset hB lez) lez⟩
  · rw [results_cell_tmp rfl]
    go_simp
set_option maxHeartbeats 16000000 in
set_option maxRecDepth 20000 in
theorem hop_off (so lo : Option Addr) (sn sc ln lc : Nat) (id : Int) (six : Bool) (ah al z0 : Int) (p : Nat) (R : Ro) (hk hz hp : Int) (S : List St) (L : List Ro) (w : World) (hS : HasSts w (.slice so sn sc) S) (hL : HasRos w (.slice lo ln lc) L) (c1 : ∀ W, HasSts W (.slice so sn sc) S → HasRos W (.slice lo ln lc) L → Calls Tryz.prog 11 #[.agg #[.slice so sn sc, .slice lo ln lc]] W fun e w' => e = .returned (.int .i64 0) ∧ Below W.heap.size W w') (cr : ∀ W, Calls Tryz.prog 42 #[.bool six, .agg #[.int .u64 ah, .int .u64 al]] W fun e w' => e = .returned (.bool false) ∧ Below W.heap.size W w') :
    Calls Tryz.prog 19 #[.agg #[.slice so sn sc, .slice lo ln lc], .int .i64 id, .bool six, .agg #[.int .u64 ah, .int .u64 al]] w fun e w' => e = .returned (.tuple #[.agg #[.int .u8 0, .int .i64 0], .int .i64 2]) ∧ Below w.heap.size w w' := by
  have hB := Below.refl w.heap.size w
  go_enter Tryz.func19, Tryz.ntmps19
  obtain ⟨Y1, hY⟩ : ∃ Y, Y = (((w.alloc (.cells #[.slice so sn sc, .slice lo ln lc] 25)).alloc (.cells #[.int .u64 ah, .int .u64 al] 31)).alloc (.cells #[.int .u8 0, .int .i64 0] 60)) := ⟨_, rfl⟩
  have hbY : Below w.heap.size w Y1 := by rw [hY]; exact below_new (below_new (below_new (Below.refl _ _) _) _) _
  have hle : w.heap.size ≤ w.heap.size := hB.size
  obtain ⟨gn, hgn⟩ : ∃ g, g = w.heap.size := ⟨_, rfl⟩
  have rn : RowAt Y1 gn [.slice so sn sc, .slice lo ln lc] 25 := by
    have h := ((RowAt.new w [.slice so sn sc, .slice lo ln lc] 25).alloc (.cells #[.int .u64 ah, .int .u64 al] 31)).alloc (.cells #[.int .u8 0, .int .i64 0] 60)
    rw [hgn, hY]; exact h
  have len : w.heap.size ≤ gn := by omega
  obtain ⟨ga, hga⟩ : ∃ g, g = w.heap.size + 1 := ⟨_, rfl⟩
  have ra : RowAt Y1 ga [.int .u64 ah, .int .u64 al] 31 := by
    have h := (RowAt.new (w.alloc (.cells #[.slice so sn sc, .slice lo ln lc] 25)) [.int .u64 ah, .int .u64 al] 31).alloc (.cells #[.int .u8 0, .int .i64 0] 60)
    simp only [World.size_alloc] at h
    rw [hga, hY]; exact h
  have lea : w.heap.size ≤ ga := by omega
  have nena : gn ≠ ga := by omega
  obtain ⟨gz, hgz⟩ : ∃ g, g = w.heap.size + 1 + 1 := ⟨_, rfl⟩
  have rz : RowAt Y1 gz [.int .u8 0, .int .i64 0] 60 := by
    have h := RowAt.new ((w.alloc (.cells #[.slice so sn sc, .slice lo ln lc] 25)).alloc (.cells #[.int .u64 ah, .int .u64 al] 31)) [.int .u8 0, .int .i64 0] 60
    simp only [World.size_alloc] at h
    rw [hgz, hY]; exact h
  have lez : w.heap.size ≤ gz := by omega
  have nenz : gn ≠ gz := by omega
  have neaz : ga ≠ gz := by omega
  replace hS := hS.keep hbY
  replace hL := hL.keep hbY
  replace hB := below2 hB hbY
  go_upto_region 1 with fail
  rw [← hY, ← hgz, ← hga, ← hgn]
  clear hY hbY hle hgn hga hgz
  obtain ⟨n0, n1, nf⟩ := cells2 rn
  go_wp2_with fail
  clear n0 n1 nf
  go_at_call 11; refine (c1 _ hS hL).mono ?_; rintro e w2 ⟨rfl, hb⟩
  replace rn := RowAt.below rn hb
  replace ra := RowAt.below ra hb
  replace rz := RowAt.below rz hb
  replace hS := hS.keep hb
  replace hL := hL.keep hb
  replace hB := below2 hB hb
  clear hb
  obtain ⟨a0, a1, af⟩ := cells2 ra
  go_wp2_with fail
  clear a0 a1 af
  go_at_call 42; refine (cr _).mono ?_; rintro e w3 ⟨rfl, hb⟩
  replace rn := RowAt.below rn hb
  replace ra := RowAt.below ra hb
  replace rz := RowAt.below rz hb
  replace hS := hS.keep hb
  replace hL := hL.keep hb
  replace hB := below2 hB hb
  clear hb
  obtain ⟨zz0, zz1, zzf⟩ := cells2 rz
  go_wp2_with fail
  (try simp only [Exit.inBlock, Exit.then])
  refine bodyPost_ret (v := .tuple #[.agg #[.int .u8 0, .int .i64 0], .int .i64 2]) ?_ rfl ⟨rfl, bset (bset hB lez) lez⟩
  · rw [results_cell_tmp rfl]
    go_simp
set_option maxHeartbeats 16000000 in
set_option maxRecDepth 20000 in
theorem hop_no (so lo : Option Addr) (sn sc ln lc : Nat) (id : Int) (six : Bool) (ah al z0 : Int) (p : Nat) (R : Ro) (hk hz hp : Int) (S : List St) (L : List Ro) (w : World) (hS : HasSts w (.slice so sn sc) S) (hL : HasRos w (.slice lo ln lc) L) (c1 : ∀ W, HasSts W (.slice so sn sc) S → HasRos W (.slice lo ln lc) L → Calls Tryz.prog 11 #[.agg #[.slice so sn sc, .slice lo ln lc]] W fun e w' => e = .returned (.int .i64 0) ∧ Below W.heap.size W w') (cr : ∀ W, Calls Tryz.prog 42 #[.bool six, .agg #[.int .u64 ah, .int .u64 al]] W fun e w' => e = .returned (.bool true) ∧ Below W.heap.size W w') (c2 : ∀ W gf so lo sn sc ln lc, RowAt W gf [.slice so sn sc, .slice lo ln lc] 54 → HasRos W (.slice lo ln lc) L → Calls Tryz.prog 43 #[.pointer (some ⟨gf, 0, none⟩), .int .i64 id] W fun e w' => e = .returned (.tuple #[.int .i64 (p : Int), .bool false]) ∧ Below W.heap.size W w') :
    Calls Tryz.prog 19 #[.agg #[.slice so sn sc, .slice lo ln lc], .int .i64 id, .bool six, .agg #[.int .u64 ah, .int .u64 al]] w fun e w' => e = .returned (.tuple #[.agg #[.int .u8 0, .int .i64 0], .int .i64 0]) ∧ Below w.heap.size w w' := by
  have hB := Below.refl w.heap.size w
  go_enter Tryz.func19, Tryz.ntmps19
  obtain ⟨Y1, hY⟩ : ∃ Y, Y = (((w.alloc (.cells #[.slice so sn sc, .slice lo ln lc] 25)).alloc (.cells #[.int .u64 ah, .int .u64 al] 31)).alloc (.cells #[.int .u8 0, .int .i64 0] 60)) := ⟨_, rfl⟩
  have hbY : Below w.heap.size w Y1 := by rw [hY]; exact below_new (below_new (below_new (Below.refl _ _) _) _) _
  have hle : w.heap.size ≤ w.heap.size := hB.size
  obtain ⟨gn, hgn⟩ : ∃ g, g = w.heap.size := ⟨_, rfl⟩
  have rn : RowAt Y1 gn [.slice so sn sc, .slice lo ln lc] 25 := by
    have h := ((RowAt.new w [.slice so sn sc, .slice lo ln lc] 25).alloc (.cells #[.int .u64 ah, .int .u64 al] 31)).alloc (.cells #[.int .u8 0, .int .i64 0] 60)
    rw [hgn, hY]; exact h
  have len : w.heap.size ≤ gn := by omega
  obtain ⟨ga, hga⟩ : ∃ g, g = w.heap.size + 1 := ⟨_, rfl⟩
  have ra : RowAt Y1 ga [.int .u64 ah, .int .u64 al] 31 := by
    have h := (RowAt.new (w.alloc (.cells #[.slice so sn sc, .slice lo ln lc] 25)) [.int .u64 ah, .int .u64 al] 31).alloc (.cells #[.int .u8 0, .int .i64 0] 60)
    simp only [World.size_alloc] at h
    rw [hga, hY]; exact h
  have lea : w.heap.size ≤ ga := by omega
  have nena : gn ≠ ga := by omega
  obtain ⟨gz, hgz⟩ : ∃ g, g = w.heap.size + 1 + 1 := ⟨_, rfl⟩
  have rz : RowAt Y1 gz [.int .u8 0, .int .i64 0] 60 := by
    have h := RowAt.new ((w.alloc (.cells #[.slice so sn sc, .slice lo ln lc] 25)).alloc (.cells #[.int .u64 ah, .int .u64 al] 31)) [.int .u8 0, .int .i64 0] 60
    simp only [World.size_alloc] at h
    rw [hgz, hY]; exact h
  have lez : w.heap.size ≤ gz := by omega
  have nenz : gn ≠ gz := by omega
  have neaz : ga ≠ gz := by omega
  replace hS := hS.keep hbY
  replace hL := hL.keep hbY
  replace hB := below2 hB hbY
  go_upto_region 1 with fail
  rw [← hY, ← hgz, ← hga, ← hgn]
  clear hY hbY hle hgn hga hgz
  obtain ⟨n0, n1, nf⟩ := cells2 rn
  go_wp2_with fail
  clear n0 n1 nf
  go_at_call 11; refine (c1 _ hS hL).mono ?_; rintro e w2 ⟨rfl, hb⟩
  replace rn := RowAt.below rn hb
  replace ra := RowAt.below ra hb
  replace rz := RowAt.below rz hb
  replace hS := hS.keep hb
  replace hL := hL.keep hb
  replace hB := below2 hB hb
  clear hb
  obtain ⟨a0, a1, af⟩ := cells2 ra
  go_wp2_with fail
  clear a0 a1 af
  go_at_call 42; refine (cr _).mono ?_; rintro e w3 ⟨rfl, hb⟩
  replace rn := RowAt.below rn hb
  replace ra := RowAt.below ra hb
  replace rz := RowAt.below rz hb
  replace hS := hS.keep hb
  replace hL := hL.keep hb
  replace hB := below2 hB hb
  clear hb
  obtain ⟨n0, n1, nf⟩ := cells2 rn
  obtain ⟨Y4, hY⟩ : ∃ Y, Y = (w3.alloc (.cells #[.slice so sn sc, .slice lo ln lc] 54)) := ⟨_, rfl⟩
  have hbY : Below w3.heap.size w3 Y4 := by rw [hY]; exact below_new (Below.refl _ _) _
  have hle : w.heap.size ≤ w3.heap.size := hB.size
  obtain ⟨gf, hgf⟩ : ∃ g, g = w3.heap.size := ⟨_, rfl⟩
  have rf : RowAt Y4 gf [.slice so sn sc, .slice lo ln lc] 54 := by
    have h := RowAt.new w3 [.slice so sn sc, .slice lo ln lc] 54
    rw [hgf, hY]; exact h
  have lef : w.heap.size ≤ gf := by omega
  have nenf : gn ≠ gf := by have := RowAt.lt rn; omega
  have neaf : ga ≠ gf := by have := RowAt.lt ra; omega
  have nezf : gz ≠ gf := by have := RowAt.lt rz; omega
  replace rn := RowAt.below rn hbY
  replace ra := RowAt.below ra hbY
  replace rz := RowAt.below rz hbY
  replace hS := hS.keep hbY
  replace hL := hL.keep hbY
  replace hB := below2 hB hbY
  go_upto_region 4 with fail
  rw [← hY, ← hgf]
  clear hY hbY hle hgf
  clear n0 n1 nf
  obtain ⟨f0, f1, ff⟩ := cells2 rf
  go_wp2_with fail
  clear f0 f1 ff
  go_at_call 43; refine (c2 _ _ _ _ _ _ _ _ rf hL).mono ?_; rintro e w5 ⟨rfl, hb⟩
  replace rn := RowAt.below rn hb
  replace ra := RowAt.below ra hb
  replace rz := RowAt.below rz hb
  replace rf := RowAt.below rf hb
  replace hS := hS.keep hb
  replace hL := hL.keep hb
  replace hB := below2 hB hb
  clear hb
  obtain ⟨zz0, zz1, zzf⟩ := cells2 rz
  go_wp2_with fail
  (try simp only [Exit.inBlock, Exit.then])
  refine bodyPost_ret (v := .tuple #[.agg #[.int .u8 0, .int .i64 0], .int .i64 0]) ?_ rfl ⟨rfl, bset (bset hB lez) lez⟩
  · rw [results_cell_tmp rfl]
    go_simp
set_option maxHeartbeats 16000000 in
set_option maxRecDepth 20000 in
theorem hop_yes (so lo : Option Addr) (sn sc ln lc : Nat) (id : Int) (six : Bool) (ah al z0 : Int) (p : Nat) (R : Ro) (hk hz hp : Int) (S : List St) (L : List Ro) (w : World) (hS : HasSts w (.slice so sn sc) S) (hL : HasRos w (.slice lo ln lc) L) (HP : Hid (p < L.length)) (HRR : Hid (∀ h : p < L.length, L[p] = R)) (c1 : ∀ W, HasSts W (.slice so sn sc) S → HasRos W (.slice lo ln lc) L → Calls Tryz.prog 11 #[.agg #[.slice so sn sc, .slice lo ln lc]] W fun e w' => e = .returned (.int .i64 0) ∧ Below W.heap.size W w') (cr : ∀ W, Calls Tryz.prog 42 #[.bool six, .agg #[.int .u64 ah, .int .u64 al]] W fun e w' => e = .returned (.bool true) ∧ Below W.heap.size W w') (c2 : ∀ W gf so lo sn sc ln lc, RowAt W gf [.slice so sn sc, .slice lo ln lc] 54 → HasRos W (.slice lo ln lc) L → Calls Tryz.prog 43 #[.pointer (some ⟨gf, 0, none⟩), .int .i64 id] W fun e w' => e = .returned (.tuple #[.int .i64 (p : Int), .bool true]) ∧ Below W.heap.size W w') (c4 : ∀ W x y, HasRts W x R.rts → HasLks W y R.lks → Calls Tryz.prog 44 #[.agg #[.int .i64 R.id, .bool R.up, x, y], .bool six, .agg #[.int .u64 ah, .int .u64 al]] W fun e w' => e = .returned (.tuple #[.agg #[.int .u8 hk, .int .i64 hp], .int .i64 hz]) ∧ Below W.heap.size W w') :
    Calls Tryz.prog 19 #[.agg #[.slice so sn sc, .slice lo ln lc], .int .i64 id, .bool six, .agg #[.int .u64 ah, .int .u64 al]] w fun e w' => e = .returned (.tuple #[.agg #[.int .u8 hk, .int .i64 hp], .int .i64 hz]) ∧ Below w.heap.size w w' := by
  have hB := Below.refl w.heap.size w
  go_enter Tryz.func19, Tryz.ntmps19
  obtain ⟨Y1, hY⟩ : ∃ Y, Y = (((w.alloc (.cells #[.slice so sn sc, .slice lo ln lc] 25)).alloc (.cells #[.int .u64 ah, .int .u64 al] 31)).alloc (.cells #[.int .u8 0, .int .i64 0] 60)) := ⟨_, rfl⟩
  have hbY : Below w.heap.size w Y1 := by rw [hY]; exact below_new (below_new (below_new (Below.refl _ _) _) _) _
  have hle : w.heap.size ≤ w.heap.size := hB.size
  obtain ⟨gn, hgn⟩ : ∃ g, g = w.heap.size := ⟨_, rfl⟩
  have rn : RowAt Y1 gn [.slice so sn sc, .slice lo ln lc] 25 := by
    have h := ((RowAt.new w [.slice so sn sc, .slice lo ln lc] 25).alloc (.cells #[.int .u64 ah, .int .u64 al] 31)).alloc (.cells #[.int .u8 0, .int .i64 0] 60)
    rw [hgn, hY]; exact h
  have len : w.heap.size ≤ gn := by omega
  obtain ⟨ga, hga⟩ : ∃ g, g = w.heap.size + 1 := ⟨_, rfl⟩
  have ra : RowAt Y1 ga [.int .u64 ah, .int .u64 al] 31 := by
    have h := (RowAt.new (w.alloc (.cells #[.slice so sn sc, .slice lo ln lc] 25)) [.int .u64 ah, .int .u64 al] 31).alloc (.cells #[.int .u8 0, .int .i64 0] 60)
    simp only [World.size_alloc] at h
    rw [hga, hY]; exact h
  have lea : w.heap.size ≤ ga := by omega
  have nena : gn ≠ ga := by omega
  obtain ⟨gz, hgz⟩ : ∃ g, g = w.heap.size + 1 + 1 := ⟨_, rfl⟩
  have rz : RowAt Y1 gz [.int .u8 0, .int .i64 0] 60 := by
    have h := RowAt.new ((w.alloc (.cells #[.slice so sn sc, .slice lo ln lc] 25)).alloc (.cells #[.int .u64 ah, .int .u64 al] 31)) [.int .u8 0, .int .i64 0] 60
    simp only [World.size_alloc] at h
    rw [hgz, hY]; exact h
  have lez : w.heap.size ≤ gz := by omega
  have nenz : gn ≠ gz := by omega
  have neaz : ga ≠ gz := by omega
  replace hS := hS.keep hbY
  replace hL := hL.keep hbY
  replace hB := below2 hB hbY
  go_upto_region 1 with fail
  rw [← hY, ← hgz, ← hga, ← hgn]
  clear hY hbY hle hgn hga hgz
  obtain ⟨n0, n1, nf⟩ := cells2 rn
  go_wp2_with fail
  clear n0 n1 nf
  go_at_call 11; refine (c1 _ hS hL).mono ?_; rintro e w2 ⟨rfl, hb⟩
  replace rn := RowAt.below rn hb
  replace ra := RowAt.below ra hb
  replace rz := RowAt.below rz hb
  replace hS := hS.keep hb
  replace hL := hL.keep hb
  replace hB := below2 hB hb
  clear hb
  obtain ⟨a0, a1, af⟩ := cells2 ra
  go_wp2_with fail
  clear a0 a1 af
  go_at_call 42; refine (cr _).mono ?_; rintro e w3 ⟨rfl, hb⟩
  replace rn := RowAt.below rn hb
  replace ra := RowAt.below ra hb
  replace rz := RowAt.below rz hb
  replace hS := hS.keep hb
  replace hL := hL.keep hb
  replace hB := below2 hB hb
  clear hb
  obtain ⟨n0, n1, nf⟩ := cells2 rn
  obtain ⟨Y4, hY⟩ : ∃ Y, Y = (w3.alloc (.cells #[.slice so sn sc, .slice lo ln lc] 54)) := ⟨_, rfl⟩
  have hbY : Below w3.heap.size w3 Y4 := by rw [hY]; exact below_new (Below.refl _ _) _
  have hle : w.heap.size ≤ w3.heap.size := hB.size
  obtain ⟨gf, hgf⟩ : ∃ g, g = w3.heap.size := ⟨_, rfl⟩
  have rf : RowAt Y4 gf [.slice so sn sc, .slice lo ln lc] 54 := by
    have h := RowAt.new w3 [.slice so sn sc, .slice lo ln lc] 54
    rw [hgf, hY]; exact h
  have lef : w.heap.size ≤ gf := by omega
  have nenf : gn ≠ gf := by have := RowAt.lt rn; omega
  have neaf : ga ≠ gf := by have := RowAt.lt ra; omega
  have nezf : gz ≠ gf := by have := RowAt.lt rz; omega
  replace rn := RowAt.below rn hbY
  replace ra := RowAt.below ra hbY
  replace rz := RowAt.below rz hbY
  replace hS := hS.keep hbY
  replace hL := hL.keep hbY
  replace hB := below2 hB hbY
  go_upto_region 4 with fail
  rw [← hY, ← hgf]
  clear hY hbY hle hgf
  clear n0 n1 nf
  obtain ⟨f0, f1, ff⟩ := cells2 rf
  go_wp2_with fail
  clear f0 f1 ff
  go_at_call 43; refine (c2 _ _ _ _ _ _ _ _ rf hL).mono ?_; rintro e w5 ⟨rfl, hb⟩
  replace rn := RowAt.below rn hb
  replace ra := RowAt.below ra hb
  replace rz := RowAt.below rz hb
  replace rf := RowAt.below rf hb
  replace hS := hS.keep hb
  replace hL := hL.keep hb
  replace hB := below2 hB hb
  clear hb
  have hpz : p < L.length := HP.out
  obtain ⟨o', c', e', hq1, hq2⟩ := HasRos.slice hL
  injection e' with e1 e2 e3
  have hpl : (p : Int) < (ln : Int) := by omega
  clear e1 e2 e3 hq1 hq2
  obtain ⟨b1, i1, o1, c1', o2, c2', rfl, hb1, a0, a1, a2, a3, ar, ak⟩ := HasRos.cell hL p hpz
  have HR : Hid (L[p] = R) := HRR.out hpz
  rw [HR.out] at a0 a1 a2 a3 ar ak
  have HAR : Hid (HasRts w5 (.slice o1 R.rts.length c1') R.rts ∧ HasLks w5 (.slice o2 R.lks.length c2') R.lks) := ⟨ar, ak⟩
  clear ar ak
  generalize R.rts.length = l1 at *
  generalize R.lks.length = l2 at *
  obtain ⟨f0, f1, ff⟩ := cells2 rf
  obtain ⟨ad0, ad1, adf⟩ := cells2 ra
  obtain ⟨zz0, zz1, zzf⟩ := cells2 rz
  have hltf : gf < w5.heap.size := RowAt.lt rf
  go_wp2_with fail
  go_region_with (first
    | (go_at_call 44
       refine (c4 _ _ _ (HAR.out.1.keep (Below.refl _ _).drew) (HAR.out.2.keep (Below.refl _ _).drew)).mono ?_
       rintro e w20 ⟨rfl, hb'⟩
       have hb : Below w5.heap.size w5 w20 := below2 (Below.refl _ _).drew hb'
       obtain ⟨zz0, zz1, zzf⟩ := cells2 (RowAt.below rz hb)))
  all_goals
    go_wp2_with fail
    (try simp only [Exit.inBlock, Exit.then])
    refine bodyPost_ret (v := .tuple #[.agg #[.int .u8 hk, .int .i64 hp], .int .i64 hz]) ?_ rfl ⟨rfl, by first | exact bset (bset (below2 hB hb) lez) lez | exact below_drew (bset (bset (below2 hB hb) lez) lez)⟩
    · rw [results_cell_tmp rfl]
      go_simp
theorem hopF_any (n : NetT) (id : Int) (six : Bool) (a : Nat) (u v : Value) (w : World) (hS : HasSts w u n.seats) (hL : HasRos w v n.ros) (hf : FitN n) (ha : a < 2 ^ 128) :
    Calls Tryz.prog 19 #[.agg #[u, v], .int .i64 id, .bool six, .agg #[.int .u64 (hiN a : Int), .int .u64 (loN a : Int)]] w fun e w' => e = .returned (.tuple #[.agg #[.int .u8 ((hopN n id six a).1.1 : Int), .int .i64 (hopN n id six a).1.2], .int .i64 (hopN n id six a).2]) ∧ Below w.heap.size w w' := by
  obtain ⟨so, sc, rfl, _⟩ := Ord.HasRow.slice hS
  obtain ⟨lo, lc, rfl, _⟩ := HasRos.slice hL
  have c1 := fun W h1 h2 => check_any n (.slice so n.seats.length sc) (.slice lo n.ros.length lc) W h1 h2 hf.ros
  have c2 := fun W gf so lo sn sc ln lc r h1 => find_any n.ros gf so lo sn sc ln lc id W r h1
  have cr := fun W => Go.Proofs.YtkjhnefbcnnjlaaGreat.Addr.right_any six a W ha
  cases hok : okN n with
  | false =>
    have e1 : checkN n = 2 := by unfold checkN; rw [hok]; rfl
    have e2 : hopN n id six a = ((0, 0), 2) := by unfold hopN; rw [hok]; rfl
    rw [e1] at c1
    rw [e2]
    exact hop_bad so lo _ sc _ lc id six _ _ 2 0 zeroRo 0 0 0 n.seats n.ros w hS hL (by decide) c1
  | true =>
    have e1 : checkN n = 0 := by unfold checkN; rw [hok]; rfl
    rw [e1] at c1
    cases hr : rightB six a with
    | false =>
      have e2 : hopN n id six a = ((0, 0), 2) := by unfold hopN; rw [hok, hr]; rfl
      rw [hr] at cr
      rw [e2]
      exact hop_off so lo _ sc _ lc id six _ _ 2 0 zeroRo 0 0 0 n.seats n.ros w hS hL c1 cr
    | true =>
      rw [hr] at cr
      cases hi : isN n.ros id with
      | false =>
        have e2 : hopN n id six a = ((0, 0), 0) := by unfold hopN; rw [hok, hr, hi]; rfl
        rw [hi] at c2
        rw [e2]
        exact hop_no so lo _ sc _ lc id six _ _ 0 _ zeroRo 0 0 0 n.seats n.ros w hS hL c1 cr c2
      | true =>
        have e2 : hopN n id six a = hopRo (wasN n.ros id) six a := by unfold hopN; rw [hok, hr, hi]; rfl
        rw [hi] at c2
        rw [e2]
        obtain ⟨hp, he⟩ := is_at hi
        exact hop_yes so lo _ sc _ lc id six _ _ 0 _ (wasN n.ros id) _ _ _ n.seats n.ros w hS hL hp (fun _ => he) c1 cr c2 (fun W x y h1 h2 => Fib.hop_any (wasN n.ros id) six a x y W h1 h2 (hf.ros _ (by rw [← he]; exact List.getElem_mem hp)) ha)
end Go.Proofs.YtkjhnefbcnnjlaaGreat.Nt
namespace Go.Proofs.YtkjhnefbcnnjlaaGreat.Nt
open Go.RowKit
open Go.Proofs.YtkjhnefbcnnjlaaGreat.Lk (HasRow HasLks.keep)
open Go.Proofs.YtkjhnefbcnnjlaaGreat.Tr (HasRts.keep)
open Go.Proofs.YtkjhnefbcnnjlaaGreat.Msg (Ev FitE evV evC)
open Go.Proofs.YtkjhnefbcnnjlaaGreat.Fib
open Go.Proofs.YtkjhnefbcnnjlaaGreat.Ord (St HasSts HasSts.keep HasEvs HasEvs.keep)
open Go.Proofs.YtkjhnefbcnnjlaaGreat.Addr (RowAt below2 below_new bset RowAt.lt RowAt.cell RowAt.below RowAt.new RowAt.alloc gset grefl cells2 hiN loN)
theorem results_ctt {fn : Func} {p u x : Tmp} {ty : TypeId} (h : fn.results = #[.cell p ty, .tmp u, .tmp x]) (tmps : Array Value) (P : Program) (w : World) :
    (results fn tmps).run P w = ((asAddr (tmps.getD p undef)).run P w).andThen fun a w₁ => ((loadVar ty a).run P w₁).andThen fun v w₂ => .ok (.tuple #[v, tmps.getD u undef, tmps.getD x undef]) w₂ := by
  simp only [results, h]
  simp [Sem.run_bind, Result.andThen]
def AllIs (n : NetT) (k : Nat) (z : Int) (w : World) (e : Ending) (w' : World) : Prop :=
  ∃ o1 n1 m1 o2 n2 m2, e = .returned (.tuple #[.agg #[.slice o1 n1 m1, .slice o2 n2 m2], .int .i64 (k : Int), .int .i64 z]) ∧ HasSts w' (.slice o1 n1 m1) n.seats ∧ HasRos w' (.slice o2 n2 m2) n.ros ∧ Below w.heap.size w w'
set_option maxHeartbeats 16000000 in
set_option maxRecDepth 20000 in
theorem all_bad (so lo : Option Addr) (sn sc ln lc : Nat) (ve : Value) (h z0 : Int) (S : List St) (L : List Ro) (w : World) (hS : HasSts w (.slice so sn sc) S) (hL : HasRos w (.slice lo ln lc) L) (hz0 : ¬ z0 = 0) (c1 : ∀ W, HasSts W (.slice so sn sc) S → HasRos W (.slice lo ln lc) L → Calls Tryz.prog 11 #[.agg #[.slice so sn sc, .slice lo ln lc]] W fun e w' => e = .returned (.int .i64 z0) ∧ Below W.heap.size W w') :
    Calls Tryz.prog 8 #[.agg #[.slice so sn sc, .slice lo ln lc], ve, .int .i64 h] w (AllIs zeroN 0 z0 w) := by
  have hB := Below.refl w.heap.size w
  go_enter Tryz.func8, Tryz.ntmps8
  obtain ⟨Y1, hY⟩ : ∃ Y, Y = ((w.alloc (.cells #[.slice so sn sc, .slice lo ln lc] 25)).alloc (.cells #[.slice none 0 0, .slice none 0 0] 25)) := ⟨_, rfl⟩
  have hbY : Below w.heap.size w Y1 := by rw [hY]; exact below_new (below_new (Below.refl _ _) _) _
  have hle : w.heap.size ≤ w.heap.size := hB.size
  obtain ⟨gn, hgn⟩ : ∃ g, g = w.heap.size := ⟨_, rfl⟩
  have rn : RowAt Y1 gn [.slice so sn sc, .slice lo ln lc] 25 := by
    have h := (RowAt.new w [.slice so sn sc, .slice lo ln lc] 25).alloc (.cells #[.slice none 0 0, .slice none 0 0] 25)
    rw [hgn, hY]; exact h
  have len : w.heap.size ≤ gn := by omega
  obtain ⟨gz, hgz⟩ : ∃ g, g = w.heap.size + 1 := ⟨_, rfl⟩
  have rz : RowAt Y1 gz [.slice none 0 0, .slice none 0 0] 25 := by
    have h := RowAt.new (w.alloc (.cells #[.slice so sn sc, .slice lo ln lc] 25)) [.slice none 0 0, .slice none 0 0] 25
    simp only [World.size_alloc] at h
    rw [hgz, hY]; exact h
  have lez : w.heap.size ≤ gz := by omega
  have nenz : gn ≠ gz := by omega
  replace hS := hS.keep hbY
  replace hL := hL.keep hbY
  replace hB := below2 hB hbY
  go_upto_region 1 with fail
  rw [← hY, ← hgz, ← hgn]
  clear hY hbY hle hgn hgz
  obtain ⟨n0, n1, nf⟩ := cells2 rn
  go_wp2_with fail
  clear n0 n1 nf
  go_at_call 11; refine (c1 _ hS hL).mono ?_; rintro e w2 ⟨rfl, hb⟩
  replace rn := RowAt.below rn hb
  replace rz := RowAt.below rz hb
  replace hS := hS.keep hb
  replace hL := hL.keep hb
  replace hB := below2 hB hb
  clear hb
  obtain ⟨zz0, zz1, zzf⟩ := cells2 rz
  go_wp2_with fail
  (try simp only [Exit.inBlock, Exit.then])
  refine bodyPost_ret (v := .tuple #[.agg #[.slice none 0 0, .slice none 0 0], .int .i64 0, .int .i64 z0]) ?_ rfl ⟨_, _, _, _, _, _, rfl, Ord.hasRow_nil _ 4, hasRos_nil _, bset (bset hB lez) lez⟩
  · rw [results_ctt rfl]
    go_simp
/-- a net at work: a fabric that holds it -/
structure Wrk (w W : World) (gf gz : Nat) (n : NetT) : Prop where
  ok : okN n = true
  fit : FitN n
  row : ∃ o1 n1 m1 o2 n2 m2, RowAt W gf [.slice o1 n1 m1, .slice o2 n2 m2] 54 ∧ HasSts W (.slice o1 n1 m1) n.seats ∧ HasRos W (.slice o2 n2 m2) n.ros
  rz : RowAt W gz [.slice none 0 0, .slice none 0 0] 25
  bl : Below w.heap.size w W
theorem wrk_take {w W w' : World} {gf gz : Nat} {n : NetT} {e : Ev} {h z : Int} {x : Ending} (hw : Wrk w W gf gz n) (he : FitE e) (hlt : gz < gf) (hle : w.heap.size ≤ gf) (hz : (takeN n e h).2 = z) (hr : FabIs gf (takeN n e h).1 z W x w') : x = .returned (.int .i64 z) ∧ (z = 0 → Wrk w w' gf gz (takeN n e h).1) ∧ (¬ z = 0 → (takeN n e h).1 = n → Wrk w w' gf gz n) := by
  obtain ⟨o1, n1, m1, o2, n2, m2, e1, r1, r2, r3, r4⟩ := hr
  refine ⟨e1, fun h0 => ⟨take_right hw.ok (by rw [hz]; exact h0), fit_take hw.fit hw.ok he, ⟨_, _, _, _, _, _, r1, r2, r3⟩, rowB hw.rz r4 hlt, hw.bl.trans (r4.mono hle)⟩, fun h0 hn => ⟨hw.ok, hw.fit, ⟨_, _, _, _, _, _, r1, by rw [hn] at r2; exact r2, by rw [hn] at r3; exact r3⟩, rowB hw.rz r4 hlt, hw.bl.trans (r4.mono hle)⟩⟩
theorem take_same {n : NetT} {e : Ev} {h : Int} (hz : ¬ (takeN n e h).2 = 0) : (takeN n e h).1 = n := by
  unfold takeN at hz ⊢
  split
  · rename_i h1
    rw [if_pos h1] at hz
    split
    · rename_i h2
      rw [if_pos h2] at hz
      split
      · rfl
      · rename_i h3
        rw [if_neg h3] at hz
        exact absurd rfl hz
    · rfl
  · rfl
set_option maxHeartbeats 16000000 in
set_option maxRecDepth 20000 in
theorem all_walk (so lo : Option Addr) (sn sc ln lc : Nat) (eo : Option Addr) (en ecap : Nat) (es : List Ev) (h : Int) (S : List St) (L : List Ro) (w : World) (hS : HasSts w (.slice so sn sc) S) (hL : HasRos w (.slice lo ln lc) L) (hE : HasEvs w (.slice eo en ecap) es) (HEN : Hid (en = es.length)) (heni : (en : Int) ≤ 9223372036854775807) (HFE : Hid (∀ e ∈ es, FitE e)) (HOK : Hid (okN ⟨S, L⟩ = true)) (HFN : Hid (FitN ⟨S, L⟩)) (c1 : ∀ W, HasSts W (.slice so sn sc) S → HasRos W (.slice lo ln lc) L → Calls Tryz.prog 11 #[.agg #[.slice so sn sc, .slice lo ln lc]] W fun e w' => e = .returned (.int .i64 0) ∧ Below W.heap.size W w') (c2 : ∀ W, HasSts W (.slice so sn sc) S → HasRos W (.slice lo ln lc) L → Calls Tryz.prog 14 #[.agg #[.slice so sn sc, .slice lo ln lc]] W fun e w' => ∃ o1 n1 m1 o2 n2 m2, e = .returned (.agg #[.slice o1 n1 m1, .slice o2 n2 m2]) ∧ HasSts w' (.slice o1 n1 m1) S ∧ HasRos w' (.slice o2 n2 m2) L ∧ Below W.heap.size W w') :
    Calls Tryz.prog 8 #[.agg #[.slice so sn sc, .slice lo ln lc], .slice eo en ecap, .int .i64 h] w (AllIs (allF h ⟨S, L⟩ es 0).1 (allF h ⟨S, L⟩ es 0).2.1 (allF h ⟨S, L⟩ es 0).2.2 w) := by
  have hB := Below.refl w.heap.size w
  have HEV : Hid (∀ W : World, Below w.heap.size w W → HasEvs W (.slice eo en ecap) es) := fun W hb => hE.keep hb
  clear hE
  obtain ⟨R, hR⟩ : ∃ R, R = allF h ⟨S, L⟩ es 0 := ⟨_, rfl⟩
  have HR0 : Hid (R = allF h ⟨S, L⟩ es 0) := hR
  rw [← hR]
  clear hR
  go_enter Tryz.func8, Tryz.ntmps8
  obtain ⟨Y1, hY⟩ : ∃ Y, Y = ((w.alloc (.cells #[.slice so sn sc, .slice lo ln lc] 25)).alloc (.cells #[.slice none 0 0, .slice none 0 0] 25)) := ⟨_, rfl⟩
  have hbY : Below w.heap.size w Y1 := by rw [hY]; exact below_new (below_new (Below.refl _ _) _) _
  have hle : w.heap.size ≤ w.heap.size := hB.size
  obtain ⟨gn, hgn⟩ : ∃ g, g = w.heap.size := ⟨_, rfl⟩
  have rn : RowAt Y1 gn [.slice so sn sc, .slice lo ln lc] 25 := by
    have h := (RowAt.new w [.slice so sn sc, .slice lo ln lc] 25).alloc (.cells #[.slice none 0 0, .slice none 0 0] 25)
    rw [hgn, hY]; exact h
  have len : w.heap.size ≤ gn := by omega
  obtain ⟨gz, hgz⟩ : ∃ g, g = w.heap.size + 1 := ⟨_, rfl⟩
  have rz : RowAt Y1 gz [.slice none 0 0, .slice none 0 0] 25 := by
    have h := RowAt.new (w.alloc (.cells #[.slice so sn sc, .slice lo ln lc] 25)) [.slice none 0 0, .slice none 0 0] 25
    simp only [World.size_alloc] at h
    rw [hgz, hY]; exact h
  have lez : w.heap.size ≤ gz := by omega
  have nenz : gn ≠ gz := by omega
  replace hS := hS.keep hbY
  replace hL := hL.keep hbY
  replace hB := below2 hB hbY
  go_upto_region 1 with fail
  rw [← hY, ← hgz, ← hgn]
  clear hY hbY hle hgn hgz
  obtain ⟨n0, n1, nf⟩ := cells2 rn
  go_wp2_with fail
  clear n0 n1 nf
  go_at_call 11; refine (c1 _ hS hL).mono ?_; rintro e w2 ⟨rfl, hb⟩
  replace rn := RowAt.below rn hb
  replace rz := RowAt.below rz hb
  replace hS := hS.keep hb
  replace hL := hL.keep hb
  replace hB := below2 hB hb
  clear hb
  obtain ⟨n0, n1, nf⟩ := cells2 rn
  go_wp2_with fail
  clear n0 n1 nf
  go_at_call 14; refine (c2 _ hS hL).mono ?_; rintro e w3 ⟨o1, n1, m1, o2, n2, m2, rfl, hT, hM, hb⟩
  replace rn := RowAt.below rn hb
  replace rz := RowAt.below rz hb
  replace hS := hS.keep hb
  replace hL := hL.keep hb
  replace hB := below2 hB hb
  clear hb
  clear rn hS hL
  obtain ⟨Y4, hY⟩ : ∃ Y, Y = (w3.alloc (.cells #[.slice o1 n1 m1, .slice o2 n2 m2] 54)) := ⟨_, rfl⟩
  have hbY : Below w3.heap.size w3 Y4 := by rw [hY]; exact below_new (Below.refl _ _) _
  have hle : w.heap.size ≤ w3.heap.size := hB.size
  obtain ⟨gf, hgf⟩ : ∃ g, g = w3.heap.size := ⟨_, rfl⟩
  have rf : RowAt Y4 gf [.slice o1 n1 m1, .slice o2 n2 m2] 54 := by
    have h := RowAt.new w3 [.slice o1 n1 m1, .slice o2 n2 m2] 54
    rw [hgf, hY]; exact h
  have lef : w.heap.size ≤ gf := by omega
  have nezf : gz ≠ gf := by have := RowAt.lt rz; omega
  have ltzf : gz < gf := by have := RowAt.lt rz; omega
  replace rz := RowAt.below rz hbY
  replace hT := hT.keep hbY
  replace hM := hM.keep hbY
  replace hB := below2 hB hbY
  go_upto_region 5 with fail
  rw [← hY, ← hgf]
  clear hY hbY hle hgf
  have HW0 : Hid (Wrk w Y4 gf gz ⟨S, L⟩) := ⟨HOK.out, HFN.out, ⟨_, _, _, _, _, _, rf, hT, hM⟩, rz, hB⟩
  clear rf rz hT hM hB HOK HFN
  go_wp2_with fail
  go_loopw [25] (fun i wr => ∃ k : Nat, k ≤ en ∧ i = .int .i64 k ∧ Hid (∃ n, Wrk w wr gf gz n ∧ R = allF h n (es.drop k) k)) (fun i _ => en - (Go.RowKit.intOf i).toNat)
  case atStart => exact ⟨0, by omega, rfl, ⟨_, HW0.out, by rw [List.drop_zero]; exact HR0.out⟩⟩
  case round =>
    obtain ⟨k, hk, rfl, HI⟩ := hrel
    clear HW0 HR0
    obtain ⟨n, hw, hRk⟩ := HI.out
    clear HI
    by_cases hlt : k < en
    · have hkz : k < es.length := by rw [← HEN.out]; exact hlt
      obtain ⟨b1, i1, rfl, hb1, x0, x1, x2, x3, x4, x5, x6, x7, x8, x9, x10, x11⟩ := HasEvs.cell (HEV.out _ hw.bl) k hkz
      have fe := HFE.out es[k] (List.getElem_mem hkz)
      have HRC : Hid (R = if (takeN n es[k] h).2 = 0 then allF h (takeN n es[k] h).1 (es.drop (k + 1)) (k + 1) else (n, k, (takeN n es[k] h).2)) := by
        show R = _
        rw [hRk, List.drop_eq_getElem_cons hkz]
        rfl
      obtain ⟨ev, hev⟩ : ∃ ev, ev = es[k] := ⟨_, rfl⟩
      rw [← hev] at x0 x1 x2 x3 x4 x5 x6 x7 x8 x9 x10 x11 fe HRC
      clear hev hRk
      have hki : (k : Int) < (en : Int) := by omega
      obtain ⟨V, hV⟩ : ∃ V, V = wr.alloc (.cells #[.int .u8 (ev.kind : Int), .int .i64 ev.router, .int .u64 (ev.seq : Int), .int .i64 ev.time, .bool ev.pf.six, .int .u64 (hiN ev.pf.n : Int), .int .u64 (loN ev.pf.n : Int), .int .i64 ev.pf.len, .int .u8 (ev.act.k : Int), .int .i64 ev.act.i, .int .i64 ev.iface, .int .i64 ev.peer] 38) := ⟨_, rfl⟩
      have hbV : Below wr.heap.size wr V := by rw [hV]; exact below_new (Below.refl _ _) _
      have rV : RowAt V wr.heap.size [.int .u8 (ev.kind : Int), .int .i64 ev.router, .int .u64 (ev.seq : Int), .int .i64 ev.time, .bool ev.pf.six, .int .u64 (hiN ev.pf.n : Int), .int .u64 (loN ev.pf.n : Int), .int .i64 ev.pf.len, .int .u8 (ev.act.k : Int), .int .i64 ev.act.i, .int .i64 ev.iface, .int .i64 ev.peer] 38 := by rw [hV]; exact RowAt.new _ _ _
      go_upto_region 8 with fail
      rw [← hV]
      obtain ⟨a1, a2, a3, a4, a5, a6, r1, r2, r3⟩ := hw.row
      have hwV : Wrk w V gf gz n := ⟨hw.ok, hw.fit, ⟨_, _, _, _, _, _, r1.below hbV, r2.keep hbV, r3.keep hbV⟩, hw.rz.below hbV, below2 hw.bl hbV⟩
      have ct := take_any n ev h gf a1 a4 a2 a3 a5 a6 V (r1.below hbV) (r2.keep hbV) (r3.keep hbV) hw.ok hw.fit fe
      have HT : Hid (∀ x w', FabIs gf (takeN n ev h).1 (takeN n ev h).2 V x w' → x = .returned (.int .i64 (takeN n ev h).2) ∧ ((takeN n ev h).2 = 0 → Wrk w w' gf gz (takeN n ev h).1) ∧ (¬ (takeN n ev h).2 = 0 → Wrk w w' gf gz n)) := fun x w' hx => by
        obtain ⟨q1, q2, q3⟩ := wrk_take hwV fe ltzf lef rfl hx
        exact ⟨q1, q2, fun h0 => q3 h0 (take_same h0)⟩
      clear hV hbV x0 x1 x2 x3 x4 x5 x6 x7 x8 x9 x10 x11 r1 r2 r3 hw hb1 fe hwV
      generalize wr.heap.size = ge at rV ⊢
      unfold evV evC at ct
      obtain ⟨⟨y0, y1, y2, y3, y4, y5⟩, ⟨y6, y7, y8, y9, y10, y11⟩, yf⟩ := Msg.cells12' rV
      go_wp2_with fail
      go_at_call 15; refine ct.mono ?_; rintro x w9 hx
      obtain ⟨rfl, HT1, HT2⟩ := HT.out x w9 hx
      clear y0 y1 y2 y3 y4 y5 y6 y7 y8 y9 y10 y11 yf HT hx ct
      by_cases h0 : (takeN n ev h).2 = 0
      · have HN : Hid (∃ n', Wrk w w9 gf gz n' ∧ R = allF h n' (es.drop (k + 1)) (k + 1)) := ⟨_, HT1 h0, by rw [HRC.out, if_pos h0]⟩
        rw [h0]
        clear HT1 HT2 HRC
        go_wp2_with fail
        go_roundw
        case rel => exact ⟨k + 1, by omega, by go_num, HN⟩
        case measure => simp [Go.RowKit.intOf]; omega
      · have hw := HT2 h0
        have HV : Hid (R = (n, k, (takeN n ev h).2)) := by show R = _; rw [HRC.out, if_neg h0]
        clear HT1 HT2 HRC
        generalize (takeN n ev h).2 = z at *
        obtain ⟨a1, a2, a3, a4, a5, a6, r1, r2, r3⟩ := hw.row
        have rz := hw.rz
        have hB := hw.bl
        obtain ⟨zz0, zz1, zzf⟩ := cells2 rz
        obtain ⟨f0, f1, ff⟩ := cells2 r1
        go_wp2_with fail
        (try simp only [Exit.inBlock, Exit.then])
        refine bodyPost_ret (v := .tuple #[.agg #[.slice a1 a2 a3, .slice a4 a5 a6], .int .i64 (k : Int), .int .i64 z]) ?_ rfl ⟨_, _, _, _, _, _, by rw [HV.out], by rw [HV.out]; exact sts_off r2 rz (gset (gset (grefl _ _))), by rw [HV.out]; exact ros_off r3 rz (gset (gset (grefl _ _))), bset (bset hB lez) lez⟩
        · rw [results_ctt rfl]
          go_simp
    · have hkn2 : k = en := by omega
      subst hkn2
      have hkd : decide ((k : Int) < (k : Int)) = false := decide_eq_false (by omega)
      have HV : Hid (R = (n, k, 0)) := by show R = _; rw [hRk, List.drop_of_length_le (by rw [← HEN.out]; exact Nat.le_refl _)]; rfl
      obtain ⟨a1, a2, a3, a4, a5, a6, r1, r2, r3⟩ := hw.row
      have rz := hw.rz
      have hB := hw.bl
      obtain ⟨zz0, zz1, zzf⟩ := cells2 rz
      obtain ⟨f0, f1, ff⟩ := cells2 r1
      clear hRk
      go_wp2_with fail
      (try simp only [Exit.inBlock, Exit.then])
      refine bodyPost_ret (v := .tuple #[.agg #[.slice a1 a2 a3, .slice a4 a5 a6], .int .i64 (k : Int), .int .i64 0]) ?_ rfl ⟨_, _, _, _, _, _, by rw [HV.out], by rw [HV.out]; exact sts_off r2 rz (gset (gset (grefl _ _))), by rw [HV.out]; exact ros_off r3 rz (gset (gset (grefl _ _))), bset (bset hB lez) lez⟩
      · rw [results_ctt rfl]
        go_simp
theorem all_any (n : NetT) (es : List Ev) (h : Int) (u v ve : Value) (w : World) (hS : HasSts w u n.seats) (hL : HasRos w v n.ros) (hE : HasEvs w ve es) (hf : FitN n) (he : ∀ e ∈ es, FitE e) :
    Calls Tryz.prog 8 #[.agg #[u, v], ve, .int .i64 h] w (AllIs (allN n es h).1 (allN n es h).2.1 (allN n es h).2.2 w) := by
  obtain ⟨so, sc, rfl, _⟩ := Ord.HasRow.slice hS
  obtain ⟨lo, lc, rfl, _⟩ := HasRos.slice hL
  obtain ⟨eo, ec, rfl, q1, q2⟩ := Ord.HasRow.slice hE
  have c1 := fun W h1 h2 => check_any n (.slice so n.seats.length sc) (.slice lo n.ros.length lc) W h1 h2 hf.ros
  cases hok : okN n with
  | false =>
    have e1 : checkN n = 2 := by unfold checkN; rw [hok]; rfl
    have e2 : allN n es h = (zeroN, 0, 2) := by unfold allN; rw [hok]; rfl
    rw [e1] at c1
    rw [e2]
    exact all_bad so lo _ sc _ lc _ h 2 n.seats n.ros w hS hL (by decide) c1
  | true =>
    have e1 : checkN n = 0 := by unfold checkN; rw [hok]; rfl
    have e2 : allN n es h = allF h n es 0 := by unfold allN; rw [hok]; rfl
    rw [e1] at c1
    rw [e2]
    have hl := ros_len hok
    have hl2 : n.seats.length ≤ 64 := by have := (okN_parts hok).2.1; omega
    have c2 := fun W h1 h2 => fresh_any n (.slice so n.seats.length sc) (.slice lo n.ros.length lc) W h1 h2 (by omega) (by omega) (fun R hR => by have := okRo_many (ros_ok hok R hR); omega)
    exact all_walk so lo _ sc _ lc eo _ ec es h n.seats n.ros w hS hL hE rfl (by omega) he hok hf c1 c2
end Go.Proofs.YtkjhnefbcnnjlaaGreat.Nt
namespace Go.Proofs.YtkjhnefbcnnjlaaGreat.Msg
open Go.RowKit
open Go.Proofs.YtkjhnefbcnnjlaaGreat.Addr (Pf hiN loN)
def eqP (p q : Pf) : Bool := decide (p.six = q.six) && decide (p.n = q.n) && decide (p.len = q.len)
theorem eqP_iff (p q : Pf) : eqP p q = true ↔ p = q := by
  obtain ⟨a, b, c⟩ := p
  obtain ⟨d, e, f⟩ := q
  unfold eqP
  simp only [Bool.and_eq_true, decide_eq_true_eq, Addr.Pf.mk.injEq, and_assoc]
theorem eqP_not (p q : Pf) : eqP p q = false ↔ p ≠ q := by
  rw [← Bool.not_eq_true, eqP_iff]
theorem pf_neq (p q : Pf) (w : World) : (binOp .neq 33 (.agg #[.bool p.six, .int .u64 (hiN p.n : Int), .int .u64 (loN p.n : Int), .int .i64 p.len]) (.agg #[.bool q.six, .int .u64 (hiN q.n : Int), .int .u64 (loN q.n : Int), .int .i64 q.len])).run Tryz.prog w = .ok (.bool (!eqP p q)) w := by
  have h := pf_inG p.six q.six p.n q.n p.len q.len w 9997
  rw [run_neq_struct, h]
  rfl
theorem pf_eqb (p q : Pf) (w : World) : (binOp .eql 33 (.agg #[.bool p.six, .int .u64 (hiN p.n : Int), .int .u64 (loN p.n : Int), .int .i64 p.len]) (.agg #[.bool q.six, .int .u64 (hiN q.n : Int), .int .u64 (loN q.n : Int), .int .i64 q.len])).run Tryz.prog w = .ok (.bool (eqP p q)) w := by
  have h := pf_inG p.six q.six p.n q.n p.len q.len w 9997
  rw [run_eql_struct, h]
  rfl
end Go.Proofs.YtkjhnefbcnnjlaaGreat.Msg
