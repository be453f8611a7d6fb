/- Rows that lie in new memory. -/
import Derived.Test.YtkjhnefbcnnjlaaTv26
import Derived.Test.YtkjhnefbcnnjlaaTv23
import Derived.Maps.AppendAt
import Derived.Test.YtkjhnefbcnnjlaaTv22
set_option linter.unusedVariables false
namespace Go.Proofs.Ytkjhnefbcnnjlaa.Nt
open Go.RowKit
open Go.Proofs.Ytkjhnefbcnnjlaa.Lk (HasRow HasLks.keep)
open Go.Proofs.Ytkjhnefbcnnjlaa.Tr (HasRts.keep)
open Go.Proofs.Ytkjhnefbcnnjlaa.Fib
open Go.Proofs.Ytkjhnefbcnnjlaa.Ord (St HasSts HasSts.keep HasEvs.keep)
open Go.Proofs.Ytkjhnefbcnnjlaa.Addr (RowAt below2 below_new RowAt.lt RowAt.cell RowAt.below RowAt.new RowAt.alloc cells2 cells4)
set_option maxHeartbeats 16000000 in
set_option maxRecDepth 20000 in
theorem find_bad (so lo : Option Addr) (sn sc ln lc : Nat) (id z0 : Int) (p : Nat) (R : Ro) (S : List St) (L : List Ro) (w : World) (hS : HasSts w (.slice so sn sc) S) (hL : HasRos w (.slice lo ln lc) L) (hz0 : ¬ z0 = 0) (c1 : ∀ W, HasSts W (.slice so sn sc) S → HasRos W (.slice lo ln lc) L → Calls Try.prog 13 #[.agg #[.slice so sn sc, .slice lo ln lc]] W fun e w' => e = .returned (.int .i64 z0) ∧ Below W.heap.size W w') :
    Calls Try.prog 8 #[.agg #[.slice so sn sc, .slice lo ln lc], .int .i64 id] w (RoIs zeroRo z0 w) := by
  have hB := Below.refl w.heap.size w
  go_enter Try.func8, Try.ntmps8
  obtain ⟨Y1, hY⟩ : ∃ Y, Y = ((w.alloc (.cells #[.slice so sn sc, .slice lo ln lc] 27)).alloc (.cells #[.int .i64 0, .bool false, .slice none 0 0, .slice none 0 0] 37)) := ⟨_, rfl⟩
  have hbY : Below w.heap.size w Y1 := by rw [hY]; exact below_new (below_new (Below.refl _ _) _) _
  have hle : w.heap.size ≤ w.heap.size := hB.size
  obtain ⟨gn, hgn⟩ : ∃ g, g = w.heap.size := ⟨_, rfl⟩
  have rn : RowAt Y1 gn [.slice so sn sc, .slice lo ln lc] 27 := by
    have h := (RowAt.new w [.slice so sn sc, .slice lo ln lc] 27).alloc (.cells #[.int .i64 0, .bool false, .slice none 0 0, .slice none 0 0] 37)
    rw [hgn, hY]; exact h
  have len : w.heap.size ≤ gn := by omega
  obtain ⟨gz, hgz⟩ : ∃ g, g = w.heap.size + 1 := ⟨_, rfl⟩
  have rz : RowAt Y1 gz [.int .i64 0, .bool false, .slice none 0 0, .slice none 0 0] 37 := by
    have h := RowAt.new (w.alloc (.cells #[.slice so sn sc, .slice lo ln lc] 27)) [.int .i64 0, .bool false, .slice none 0 0, .slice none 0 0] 37
    simp only [World.size_alloc] at h
    rw [hgz, hY]; exact h
  have lez : w.heap.size ≤ gz := by omega
  have nenz : gn ≠ gz := by omega
  replace hS := hS.keep hbY
  replace hL := hL.keep hbY
  replace hB := below2 hB hbY
  go_upto_region 1 with fail
  rw [← hY, ← hgz, ← hgn]
  clear hY hbY hle hgn hgz
  obtain ⟨n0, n1, nf⟩ := cells2 rn
  go_wp2_with fail
  clear n0 n1 nf
  go_at_call 13; refine (c1 _ hS hL).mono ?_; rintro e w2 ⟨rfl, hb⟩
  replace rn := RowAt.below rn hb
  replace rz := RowAt.below rz hb
  replace hS := hS.keep hb
  replace hL := hL.keep hb
  replace hB := below2 hB hb
  clear hb
  obtain ⟨zz0, zz1, zz2, zz3, zzf⟩ := cells4 rz
  go_wp2_with fail
  (try simp only [Exit.inBlock, Exit.then])
  refine bodyPost_ret (v := .tuple #[.agg #[.int .i64 0, .bool false, .slice none 0 0, .slice none 0 0], .int .i64 z0]) ?_ rfl ⟨_, _, _, _, _, _, rfl, Lk.hasRow_nil _ 6, Lk.hasRow_nil _ 2, set4_bl' hB lez _ _ _ _⟩
  · rw [results_cell_tmp rfl]
    go_simp
set_option maxHeartbeats 16000000 in
set_option maxRecDepth 20000 in
theorem find_no (so lo : Option Addr) (sn sc ln lc : Nat) (id z0 : Int) (p : Nat) (R : Ro) (S : List St) (L : List Ro) (w : World) (hS : HasSts w (.slice so sn sc) S) (hL : HasRos w (.slice lo ln lc) L) (c1 : ∀ W, HasSts W (.slice so sn sc) S → HasRos W (.slice lo ln lc) L → Calls Try.prog 13 #[.agg #[.slice so sn sc, .slice lo ln lc]] W fun e w' => e = .returned (.int .i64 0) ∧ Below W.heap.size W w') (c2 : ∀ W gf so lo sn sc ln lc, RowAt W gf [.slice so sn sc, .slice lo ln lc] 62 → HasRos W (.slice lo ln lc) L → Calls Try.prog 22 #[.pointer (some ⟨gf, 0, none⟩), .int .i64 id] W fun e w' => e = .returned (.tuple #[.int .i64 (p : Int), .bool false]) ∧ Below W.heap.size W w') :
    Calls Try.prog 8 #[.agg #[.slice so sn sc, .slice lo ln lc], .int .i64 id] w (RoIs zeroRo 14 w) := by
  have hB := Below.refl w.heap.size w
  go_enter Try.func8, Try.ntmps8
  obtain ⟨Y1, hY⟩ : ∃ Y, Y = ((w.alloc (.cells #[.slice so sn sc, .slice lo ln lc] 27)).alloc (.cells #[.int .i64 0, .bool false, .slice none 0 0, .slice none 0 0] 37)) := ⟨_, rfl⟩
  have hbY : Below w.heap.size w Y1 := by rw [hY]; exact below_new (below_new (Below.refl _ _) _) _
  have hle : w.heap.size ≤ w.heap.size := hB.size
  obtain ⟨gn, hgn⟩ : ∃ g, g = w.heap.size := ⟨_, rfl⟩
  have rn : RowAt Y1 gn [.slice so sn sc, .slice lo ln lc] 27 := by
    have h := (RowAt.new w [.slice so sn sc, .slice lo ln lc] 27).alloc (.cells #[.int .i64 0, .bool false, .slice none 0 0, .slice none 0 0] 37)
    rw [hgn, hY]; exact h
  have len : w.heap.size ≤ gn := by omega
  obtain ⟨gz, hgz⟩ : ∃ g, g = w.heap.size + 1 := ⟨_, rfl⟩
  have rz : RowAt Y1 gz [.int .i64 0, .bool false, .slice none 0 0, .slice none 0 0] 37 := by
    have h := RowAt.new (w.alloc (.cells #[.slice so sn sc, .slice lo ln lc] 27)) [.int .i64 0, .bool false, .slice none 0 0, .slice none 0 0] 37
    simp only [World.size_alloc] at h
    rw [hgz, hY]; exact h
  have lez : w.heap.size ≤ gz := by omega
  have nenz : gn ≠ gz := by omega
  replace hS := hS.keep hbY
  replace hL := hL.keep hbY
  replace hB := below2 hB hbY
  go_upto_region 1 with fail
  rw [← hY, ← hgz, ← hgn]
  clear hY hbY hle hgn hgz
  obtain ⟨n0, n1, nf⟩ := cells2 rn
  go_wp2_with fail
  clear n0 n1 nf
  go_at_call 13; refine (c1 _ hS hL).mono ?_; rintro e w2 ⟨rfl, hb⟩
  replace rn := RowAt.below rn hb
  replace rz := RowAt.below rz hb
  replace hS := hS.keep hb
  replace hL := hL.keep hb
  replace hB := below2 hB hb
  clear hb
  obtain ⟨n0, n1, nf⟩ := cells2 rn
  obtain ⟨Y3, hY⟩ : ∃ Y, Y = (w2.alloc (.cells #[.slice so sn sc, .slice lo ln lc] 62)) := ⟨_, rfl⟩
  have hbY : Below w2.heap.size w2 Y3 := by rw [hY]; exact below_new (Below.refl _ _) _
  have hle : w.heap.size ≤ w2.heap.size := hB.size
  obtain ⟨gf, hgf⟩ : ∃ g, g = w2.heap.size := ⟨_, rfl⟩
  have rf : RowAt Y3 gf [.slice so sn sc, .slice lo ln lc] 62 := by
    have h := RowAt.new w2 [.slice so sn sc, .slice lo ln lc] 62
    rw [hgf, hY]; exact h
  have lef : w.heap.size ≤ gf := by omega
  have nenf : gn ≠ gf := by have := RowAt.lt rn; omega
  have nezf : gz ≠ gf := by have := RowAt.lt rz; omega
  replace rn := RowAt.below rn hbY
  replace rz := RowAt.below rz hbY
  replace hS := hS.keep hbY
  replace hL := hL.keep hbY
  replace hB := below2 hB hbY
  go_upto_region 5 with fail
  rw [← hY, ← hgf]
  clear hY hbY hle hgf
  clear n0 n1 nf
  obtain ⟨f0, f1, ff⟩ := cells2 rf
  go_wp2_with fail
  clear f0 f1 ff
  go_at_call 22; refine (c2 _ _ _ _ _ _ _ _ rf hL).mono ?_; rintro e w4 ⟨rfl, hb⟩
  replace rn := RowAt.below rn hb
  replace rz := RowAt.below rz hb
  replace rf := RowAt.below rf hb
  replace hS := hS.keep hb
  replace hL := hL.keep hb
  replace hB := below2 hB hb
  clear hb
  obtain ⟨zz0, zz1, zz2, zz3, zzf⟩ := cells4 rz
  go_wp2_with fail
  (try simp only [Exit.inBlock, Exit.then])
  refine bodyPost_ret (v := .tuple #[.agg #[.int .i64 0, .bool false, .slice none 0 0, .slice none 0 0], .int .i64 14]) ?_ rfl ⟨_, _, _, _, _, _, rfl, Lk.hasRow_nil _ 6, Lk.hasRow_nil _ 2, set4_bl' hB lez _ _ _ _⟩
  · rw [results_cell_tmp rfl]
    go_simp
set_option maxHeartbeats 16000000 in
set_option maxRecDepth 20000 in
theorem find_yes (so lo : Option Addr) (sn sc ln lc : Nat) (id z0 : Int) (p : Nat) (R : Ro) (S : List St) (L : List Ro) (w : World) (hS : HasSts w (.slice so sn sc) S) (hL : HasRos w (.slice lo ln lc) L) (HP : Hid (p < L.length)) (HRR : Hid (∀ h : p < L.length, L[p] = R)) (HK : Hid (∀ h : p < L.length, L[p].rts.length ≤ 1000 ∧ L[p].lks.length ≤ 1000)) (c1 : ∀ W, HasSts W (.slice so sn sc) S → HasRos W (.slice lo ln lc) L → Calls Try.prog 13 #[.agg #[.slice so sn sc, .slice lo ln lc]] W fun e w' => e = .returned (.int .i64 0) ∧ Below W.heap.size W w') (c2 : ∀ W gf so lo sn sc ln lc, RowAt W gf [.slice so sn sc, .slice lo ln lc] 62 → HasRos W (.slice lo ln lc) L → Calls Try.prog 22 #[.pointer (some ⟨gf, 0, none⟩), .int .i64 id] W fun e w' => e = .returned (.tuple #[.int .i64 (p : Int), .bool true]) ∧ Below W.heap.size W w') :
    Calls Try.prog 8 #[.agg #[.slice so sn sc, .slice lo ln lc], .int .i64 id] w (RoIs R 0 w) := by
  have hB := Below.refl w.heap.size w
  go_enter Try.func8, Try.ntmps8
  obtain ⟨Y1, hY⟩ : ∃ Y, Y = ((w.alloc (.cells #[.slice so sn sc, .slice lo ln lc] 27)).alloc (.cells #[.int .i64 0, .bool false, .slice none 0 0, .slice none 0 0] 37)) := ⟨_, rfl⟩
  have hbY : Below w.heap.size w Y1 := by rw [hY]; exact below_new (below_new (Below.refl _ _) _) _
  have hle : w.heap.size ≤ w.heap.size := hB.size
  obtain ⟨gn, hgn⟩ : ∃ g, g = w.heap.size := ⟨_, rfl⟩
  have rn : RowAt Y1 gn [.slice so sn sc, .slice lo ln lc] 27 := by
    have h := (RowAt.new w [.slice so sn sc, .slice lo ln lc] 27).alloc (.cells #[.int .i64 0, .bool false, .slice none 0 0, .slice none 0 0] 37)
    rw [hgn, hY]; exact h
  have len : w.heap.size ≤ gn := by omega
  obtain ⟨gz, hgz⟩ : ∃ g, g = w.heap.size + 1 := ⟨_, rfl⟩
  have rz : RowAt Y1 gz [.int .i64 0, .bool false, .slice none 0 0, .slice none 0 0] 37 := by
    have h := RowAt.new (w.alloc (.cells #[.slice so sn sc, .slice lo ln lc] 27)) [.int .i64 0, .bool false, .slice none 0 0, .slice none 0 0] 37
    simp only [World.size_alloc] at h
    rw [hgz, hY]; exact h
  have lez : w.heap.size ≤ gz := by omega
  have nenz : gn ≠ gz := by omega
  replace hS := hS.keep hbY
  replace hL := hL.keep hbY
  replace hB := below2 hB hbY
  go_upto_region 1 with fail
  rw [← hY, ← hgz, ← hgn]
  clear hY hbY hle hgn hgz
  obtain ⟨n0, n1, nf⟩ := cells2 rn
  go_wp2_with fail
  clear n0 n1 nf
  go_at_call 13; refine (c1 _ hS hL).mono ?_; rintro e w2 ⟨rfl, hb⟩
  replace rn := RowAt.below rn hb
  replace rz := RowAt.below rz hb
  replace hS := hS.keep hb
  replace hL := hL.keep hb
  replace hB := below2 hB hb
  clear hb
  obtain ⟨n0, n1, nf⟩ := cells2 rn
  obtain ⟨Y3, hY⟩ : ∃ Y, Y = (w2.alloc (.cells #[.slice so sn sc, .slice lo ln lc] 62)) := ⟨_, rfl⟩
  have hbY : Below w2.heap.size w2 Y3 := by rw [hY]; exact below_new (Below.refl _ _) _
  have hle : w.heap.size ≤ w2.heap.size := hB.size
  obtain ⟨gf, hgf⟩ : ∃ g, g = w2.heap.size := ⟨_, rfl⟩
  have rf : RowAt Y3 gf [.slice so sn sc, .slice lo ln lc] 62 := by
    have h := RowAt.new w2 [.slice so sn sc, .slice lo ln lc] 62
    rw [hgf, hY]; exact h
  have lef : w.heap.size ≤ gf := by omega
  have nenf : gn ≠ gf := by have := RowAt.lt rn; omega
  have nezf : gz ≠ gf := by have := RowAt.lt rz; omega
  replace rn := RowAt.below rn hbY
  replace rz := RowAt.below rz hbY
  replace hS := hS.keep hbY
  replace hL := hL.keep hbY
  replace hB := below2 hB hbY
  go_upto_region 5 with fail
  rw [← hY, ← hgf]
  clear hY hbY hle hgf
  clear n0 n1 nf
  obtain ⟨f0, f1, ff⟩ := cells2 rf
  go_wp2_with fail
  clear f0 f1 ff
  go_at_call 22; refine (c2 _ _ _ _ _ _ _ _ rf hL).mono ?_; rintro e w4 ⟨rfl, hb⟩
  replace rn := RowAt.below rn hb
  replace rz := RowAt.below rz hb
  replace rf := RowAt.below rf hb
  replace hS := hS.keep hb
  replace hL := hL.keep hb
  replace hB := below2 hB hb
  clear hb
  have hpz : p < L.length := HP.out
  have hLL := hL
  obtain ⟨o', c', e', hq1, hq2⟩ := HasRos.slice hL
  injection e' with e1 e2 e3
  have hpl : (p : Int) < (ln : Int) := by omega
  clear e1 e2 e3 hq1 hq2
  obtain ⟨b1, i1, o1, c1', o2, c2', rfl, hb1, a0, a1, a2, a3, ar, ak⟩ := HasRos.cell hL p hpz
  have hk9 := HK.out hpz
  have cf := Fib.fresh_any L[p] _ _ w4 ar ak hk9.1 hk9.2
  have HR : Hid (L[p] = R) := HRR.out hpz
  rw [HR.out] at a0 a1 a2 a3 cf
  clear ar ak
  obtain ⟨f0, f1, ff⟩ := cells2 rf
  go_wp2_with fail
  go_at_call 19; refine cf.mono ?_; rintro e w20 ⟨x, y, rfl, hx, hy, hb⟩
  replace rz := RowAt.below rz hb
  replace hB := below2 hB hb
  obtain ⟨p1, q1, rfl, _⟩ := Lk.HasRow.slice hx
  obtain ⟨p2, q2, rfl, _⟩ := Lk.HasRow.slice hy
  obtain ⟨zz0, zz1, zz2, zz3, zzf⟩ := cells4 rz
  clear f0 f1 ff a0 a1 a2 a3
  generalize R.rts.length = l1 at *
  generalize R.lks.length = l2 at *
  go_wp2_with fail
  (try simp only [Exit.inBlock, Exit.then])
  refine bodyPost_ret (v := .tuple #[.agg #[.int .i64 R.id, .bool R.up, .slice p1 l1 q1, .slice p2 l2 q2], .int .i64 0]) ?_ rfl ⟨_, _, _, _, _, _, rfl, rts_apart hx rz (set4_gr _ _ _ _ _ _), lks_apart hy rz (set4_gr _ _ _ _ _ _), set4_bl' hB lez _ _ _ _⟩
  · rw [results_cell_tmp rfl]
    go_simp
theorem is_at {n : NetT} {id : Int} (hi : isN n.ros id = true) : ∃ hp : posN n.ros id < n.ros.length, n.ros[posN n.ros id] = wasN n.ros id := by
  have hp : posN n.ros id < n.ros.length := by
    unfold isN at hi
    rcases Nat.lt_or_ge (posN n.ros id) n.ros.length with h | h
    · exact h
    · rw [List.getElem?_eq_none h] at hi; cases hi
  refine ⟨hp, ?_⟩
  unfold wasN
  rw [hi, if_pos rfl, List.getElem?_eq_getElem hp]
  rfl
theorem findF_any (n : NetT) (id : Int) (u v : Value) (w : World) (hS : HasSts w u n.seats) (hL : HasRos w v n.ros) (hf : FitN n) :
    Calls Try.prog 8 #[.agg #[u, v], .int .i64 id] w (RoIs (findN n id).1 (findN n id).2 w) := by
  obtain ⟨so, sc, rfl, _⟩ := Ord.HasRow.slice hS
  obtain ⟨lo, lc, rfl, _⟩ := HasRos.slice hL
  have c1 := fun W h1 h2 => check_any n (.slice so n.seats.length sc) (.slice lo n.ros.length lc) W h1 h2 hf.ros
  have c2 := fun W gf so lo sn sc ln lc r h1 => find_any n.ros gf so lo sn sc ln lc id W r h1
  cases hok : okN n with
  | false =>
    have e1 : checkN n = 2 := by unfold checkN; rw [hok]; rfl
    have e2 : findN n id = (zeroRo, 2) := by unfold findN; rw [hok]; rfl
    rw [e1] at c1
    rw [e2]
    exact find_bad so lo _ sc _ lc id 2 0 zeroRo n.seats n.ros w hS hL (by decide) c1
  | true =>
    have e1 : checkN n = 0 := by unfold checkN; rw [hok]; rfl
    rw [e1] at c1
    cases hi : isN n.ros id with
    | false =>
      have e2 : findN n id = (zeroRo, 14) := by unfold findN; rw [hok, hi]; rfl
      rw [hi] at c2
      rw [e2]
      exact find_no so lo _ sc _ lc id 0 _ zeroRo n.seats n.ros w hS hL c1 c2
    | true =>
      have e2 : findN n id = (wasN n.ros id, 0) := by unfold findN; rw [hok, hi]; rfl
      rw [hi] at c2
      rw [e2]
      obtain ⟨hp, he⟩ := is_at hi
      exact find_yes so lo _ sc _ lc id 0 _ (wasN n.ros id) n.seats n.ros w hS hL hp (fun _ => he) (fun h => by have := okRo_many (ros_ok hok _ (List.getElem_mem h)); omega) c1 c2
end Go.Proofs.Ytkjhnefbcnnjlaa.Nt
namespace Go.Proofs.Ytkjhnefbcnnjlaa.Nt
open Go.RowKit
open Go.Proofs.Ytkjhnefbcnnjlaa.Lk (HasRow HasLks.keep hasRow_own info_parts)
open Go.Proofs.Ytkjhnefbcnnjlaa.Tr (HasRts.keep)
open Go.Proofs.Ytkjhnefbcnnjlaa.Fib
/-- a row of routers of one's own, or none yet; no router's rows lie in it -/
structure GrowM (B : Nat) (W : World) (u : Value) (L : List Ro) : Prop where
  ex : ∃ M, rosOf M = L ∧ W.ownsRow B 37 4 u L.length (roCs M) ∧ (∀ m ∈ M, RowsOf W m ∧ ∀ g, u.ownBlock = some g → Off g m)
theorem GrowM.nil (B : Nat) (W : World) : GrowM B W (.slice none 0 0) [] := ⟨[], rfl, World.ownsRow_nil W B _ 4, fun m hm => by simp at hm⟩
theorem GrowM.has {B : Nat} {W : World} {u : Value} {L : List Ro} (h : GrowM B W u L) : HasRos W u L := by
  obtain ⟨M, e, h1, h2⟩ := h.ex
  have hl : M.length = L.length := by rw [← e]; simp [rosOf]
  exact ⟨M, e, by rw [hl]; exact hasRow_own h1, fun m hm => (h2 m hm).1⟩
theorem row_old {W : World} {v : Value} {sz n : Nat} {cs : List Value} (h : HasRow W v sz n cs) (hn : 0 < n) : v.ownBlock ≠ some W.heap.size := by
  rcases h.2 with ⟨rfl, rfl⟩ | ⟨a, cap, rfl, g1, g2, g3, g4⟩
  · omega
  · intro e
    have := (g3 hn).2
    simp only [Value.ownBlock, Option.some.injEq] at e
    omega
theorem RowsOf.old {W : World} {m : RoM} (h : RowsOf W m) : Off W.heap.size m := ⟨fun hp => row_old h.1 hp, fun hp => row_old h.2 hp⟩
theorem RowsOf.by {W W' : World} {m : RoM} {r : Option Nat} (h : RowsOf W m) (ho : ∀ g, r = some g → Off g m) (hg : W.grownBy W' r) : RowsOf W' m := by
  cases r with
  | none => exact h.off h.old ⟨hg.os, hg.tape, hg.output, hg.size, fun i hi _ => hg.block i hi (by simp)⟩
  | some g => exact h.off (ho g rfl) hg
theorem GrowM.below {B : Nat} {W W' : World} {u : Value} {L : List Ro} (h : GrowM B W u L) (hb : Below W.heap.size W W') : GrowM B W' u L := by
  obtain ⟨M, e, h1, h2⟩ := h.ex
  refine ⟨M, e, ⟨h1.1, ?_⟩, fun m hm => ⟨(h2 m hm).1.keep hb, (h2 m hm).2⟩⟩
  rcases h1.2 with h0 | ⟨g', cap', cur, e1, hg, hgb, rest⟩
  · exact .inl h0
  · exact .inr ⟨g', cap', cur, e1, hg, by rw [hb.block g' (Array.getElem?_eq_some_iff.1 hgb).1]; exact hgb, rest⟩
/-- append of one router -/
theorem GrowM.add {B : Nat} {W : World} {u : Value} {L : List Ro} (h : GrowM B W u L) (R : Ro) (x y : Value) (a : Addr) (c : Nat)
    (hc : ∀ j v, (roC ⟨R, x, y⟩)[j]? = some v → W.cell? (a.add j) = some v) (hr : RowsOf W ⟨R, x, y⟩) (ho : ∀ g, u.ownBlock = some g → Off g ⟨R, x, y⟩) (hl : L.length * 64 + 64 ≤ 140737488355328) (hB : B ≤ W.heap.size) :
    ∃ u' W', (∀ ty, (Builtin.append_ #[25, 25] ty #[u, .slice (some a) 1 c]).run Try.prog W = .ok u' W') ∧ GrowM B W' u' (L ++ [R]) ∧ W.grownBy W' u.ownBlock ∧ (u'.ownBlock = u.ownBlock ∨ u'.ownBlock = some W.heap.size) := by
  obtain ⟨M, e, h1, h2⟩ := h.ex
  obtain ⟨i0, hi0, hz0, hz1, hz2⟩ := info_parts info_ro
  have h1c : ∀ v ∈ roC ⟨R, x, y⟩, v.oneCell' = true := fun v hv => one_ros (W := W) (l := [⟨R, x, y⟩]) (fun m hm => by rw [List.mem_singleton.1 hm]; exact hr) v (by simpa [roCs] using hv)
  obtain ⟨u', W', hrun, k1, k2, _, k4⟩ := run_append_own_at (P := Try.prog) W B 25 0 37 i0 _ 4 64 Try.underlying25 hi0 hz0 hz1 hz2 rfl (by decide) u L.length (roCs M) h1 a 1 c (roC ⟨R, x, y⟩) rfl hc h1c (by unfold maxLen; omega) (by omega) hB
  have hoff : ∀ m, RowsOf W m → (∀ g, u.ownBlock = some g → Off g m) → RowsOf W' m ∧ ∀ g, u'.ownBlock = some g → Off g m := by
    intro m hm hof
    refine ⟨RowsOf.by hm hof k2, fun g hg => ?_⟩
    rcases k4 with k4 | k4
    · exact hof g (k4 ▸ hg)
    · rw [k4] at hg
      rw [← Option.some.inj hg]
      exact hm.old
  refine ⟨u', W', fun ty => hrun, ⟨M ++ [⟨R, x, y⟩], ?_, ?_, fun m hm => ?_⟩, k2, k4⟩
  · rw [← e]; simp [rosOf]
  · rw [List.length_append, List.length_singleton]
    have : roCs (M ++ [⟨R, x, y⟩]) = roCs M ++ roC ⟨R, x, y⟩ := by simp [roCs]
    rw [this]
    exact k1
  · rcases List.mem_append.1 hm with hm | hm
    · exact hoff m (h2 m hm).1 (h2 m hm).2
    · rw [List.mem_singleton.1 hm]
      exact hoff _ hr ho
end Go.Proofs.Ytkjhnefbcnnjlaa.Nt
namespace Go.Proofs.Ytkjhnefbcnnjlaa.Nw
open Go.RowKit
open Go.Proofs.Ytkjhnefbcnnjlaa.Fib (NewV NewV.mono)
def HasRtsW (B : Nat) (W : World) (v : Value) (l : List Tr.Rt) : Prop := Tr.HasRts W v l ∧ NewV B v
def HasLksW (B : Nat) (W : World) (v : Value) (l : List Lk.Lk) : Prop := Lk.HasLks W v l ∧ NewV B v
theorem HasRtsW.mono {A B : Nat} {W : World} {v : Value} {l : List Tr.Rt} (h : HasRtsW B W v l) (hab : A ≤ B) : HasRtsW A W v l := ⟨h.1, h.2.mono hab⟩
theorem HasLksW.mono {A B : Nat} {W : World} {v : Value} {l : List Lk.Lk} (h : HasLksW B W v l) (hab : A ≤ B) : HasLksW A W v l := ⟨h.1, h.2.mono hab⟩
theorem new_nil (B : Nat) : NewV B (.slice none 0 0) := fun b e => by cases e
theorem new_at {B g : Nat} (h : B ≤ g) (i : Nat) (n c : Nat) : NewV B (.slice (some ⟨g, i, none⟩) n c) := fun b e => by
  simp only [Value.ownBlock, Option.some.injEq] at e
  omega
theorem own_newV {W : World} {B e sz n : Nat} {v : Value} {cs : List Value} (h : W.ownsRow B e sz v n cs) : NewV B v := fun b e => (h.lt b e).1
end Go.Proofs.Ytkjhnefbcnnjlaa.Nw
