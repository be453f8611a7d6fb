/- The document's Find, Size and Hop of nets. -/
import Derived.Test.YtbglbegljkgknaaGreatNs06
import Derived.Test.YtbglbegljkgknaaGreatNq39
set_option linter.unusedVariables false
namespace Go.Proofs.YtbglbegljkgknaaGreat.Nt
open Go.RowKit
open Go.Proofs.YtbglbegljkgknaaGreat.Lk (HasLks HasRow HasLks.keep hasRow_own)
open Go.Proofs.YtbglbegljkgknaaGreat.Tr (Rt HasRts HasRts.keep)
open Go.Proofs.YtbglbegljkgknaaGreat.Msg (Ev Ac okE FitE evV evC)
open Go.Proofs.YtbglbegljkgknaaGreat.Fib
open Go.Proofs.YtbglbegljkgknaaGreat.Ord (St HasSts HasSts.keep HasEvs HasEvs.keep nextL okL)
open Go.Proofs.YtbglbegljkgknaaGreat.Addr (RowAt below2 below_drew below_new bset RowAt.lt RowAt.cell RowAt.frozen RowAt.below RowAt.drew RowAt.new RowAt.alloc RowAt.set1 RowAt.gkeep RowAt.far1 gset grefl cells2 cells4 hiN loN rightB)
/-- a router that a search returned, and whether it is there -/
def FdIs (R : Ro) (b : Bool) (w : World) (e : Ending) (w' : World) : Prop :=
  ∃ o2 n2 m2 o3 n3 m3, e = .returned (.tuple #[.agg #[.int .i64 R.id, .bool R.up, .slice o2 n2 m2, .slice o3 n3 m3], .bool b]) ∧ HasRts w' (.slice o2 n2 m2) R.rts ∧ HasLks w' (.slice o3 n3 m3) R.lks ∧ Below w.heap.size w w'
def firstR (L : List Ro) (r : Int) : Option Ro := L.find? (fun R => decide (R.id = r))
set_option maxHeartbeats 8000000 in
set_option maxRecDepth 20000 in
theorem rfind_walk (so lo : Option Addr) (sn sc ln lc : Nat) (id : Int) (S : List St) (L : List Ro) (w : World) (hS : HasSts w (.slice so sn sc) S) (hL : HasRos w (.slice lo ln lc) L) (HLN : Hid (ln = L.length)) (hlni : (ln : Int) ≤ 9223372036854775807) :
    Calls Tryz.prog 37 #[.agg #[.slice so sn sc, .slice lo ln lc], .int .i64 id] w (FdIs ((firstR L id).getD zeroRo) (firstR L id).isSome w) := by
  have hB := Below.refl w.heap.size w
  go_enter Tryz.func37, Tryz.ntmps37
  obtain ⟨Y1, hY⟩ : ∃ Y, Y = ((w.alloc (.cells #[.slice so sn sc, .slice lo ln lc] 25)).alloc (.cells #[.int .i64 0, .bool false, .slice none 0 0, .slice none 0 0] 51)) := ⟨_, rfl⟩
  have hbY : Below w.heap.size w Y1 := by rw [hY]; exact below_new (below_new (Below.refl _ _) _) _
  have hle : w.heap.size ≤ w.heap.size := hB.size
  obtain ⟨gn, hgn⟩ : ∃ g, g = w.heap.size := ⟨_, rfl⟩
  have rn : RowAt Y1 gn [.slice so sn sc, .slice lo ln lc] 25 := by
    have h := (RowAt.new w [.slice so sn sc, .slice lo ln lc] 25).alloc (.cells #[.int .i64 0, .bool false, .slice none 0 0, .slice none 0 0] 51)
    rw [hgn, hY]; exact h
  have len : w.heap.size ≤ gn := by omega
  obtain ⟨gz, hgz⟩ : ∃ g, g = w.heap.size + 1 := ⟨_, rfl⟩
  have rz : RowAt Y1 gz [.int .i64 0, .bool false, .slice none 0 0, .slice none 0 0] 51 := by
    have h := RowAt.new (w.alloc (.cells #[.slice so sn sc, .slice lo ln lc] 25)) [.int .i64 0, .bool false, .slice none 0 0, .slice none 0 0] 51
    simp only [World.size_alloc] at h
    rw [hgz, hY]; exact h
  have lez : w.heap.size ≤ gz := by omega
  have nenz : gn ≠ gz := by omega
  replace hS := hS.keep hbY
  replace hL := hL.keep hbY
  replace hB := below2 hB hbY
  go_upto_region 1 with fail
  rw [← hY, ← hgz, ← hgn]
  clear hY hbY hle hgn hgz
  obtain ⟨n0, n1, nf⟩ := cells2 rn
  go_wp2_with fail
  clear n0 n1 nf
  go_loopw [11] (fun i wr => ∃ k : Nat, k ≤ ln ∧ i = .int .i64 k ∧ Hid (Below Y1.heap.size Y1 wr ∧ ∀ j (h : j < L.length), j < k → L[j].id ≠ id)) (fun i _ => ln - (Go.RowKit.intOf i).toNat)
  case atStart => exact ⟨0, by omega, rfl, Below.refl _ _, fun j h h2 => by omega⟩
  case round =>
    obtain ⟨k, hk, rfl, HI⟩ := hrel
    have hbl := HI.out.1
    by_cases hlt : k < ln
    · have hkz : k < L.length := by rw [← HLN.out]; exact hlt
      obtain ⟨b1, i1, p1, q1, p2, q2, rfl, hb1, x0, x1, x2, x3, xr, xl⟩ := HasRos.cell (hL.keep hbl) k hkz
      have HF : Hid (L[k].id = id → firstR L id = some L[k]) := fun he => by
        unfold firstR
        rw [List.find?_eq_some_iff_getElem]
        exact ⟨decide_eq_true he, k, hkz, rfl, fun j hj => by simp; exact HI.out.2 j (by omega) hj⟩
      have HX : Hid (L[k].id ≠ id → ∀ j (h : j < L.length), j < k + 1 → L[j].id ≠ id) := fun he j h h2 => by
        rcases Nat.lt_or_ge j k with h3 | h3
        · exact HI.out.2 j h h3
        · have : j = k := by omega
          subst this; exact he
      have HXR : Hid (HasRts wr (.slice p1 L[k].rts.length q1) L[k].rts ∧ HasLks wr (.slice p2 L[k].lks.length q2) L[k].lks) := ⟨xr, xl⟩
      obtain ⟨R, hR⟩ : ∃ R, R = L[k] := ⟨_, rfl⟩
      rw [← hR] at x0 x1 x2 x3 HF HX HXR
      clear hR xr xl HI
      generalize R.rts.length = l1 at *
      generalize R.lks.length = l2 at *
      have hki : (k : Int) < (ln : Int) := by omega
      obtain ⟨V, hV⟩ : ∃ V, V = wr.alloc (.cells #[.int .i64 R.id, .bool R.up, .slice p1 l1 q1, .slice p2 l2 q2] 51) := ⟨_, rfl⟩
      have hbV : Below wr.heap.size wr V := by rw [hV]; exact below_new (Below.refl _ _) _
      have rV : RowAt V wr.heap.size [.int .i64 R.id, .bool R.up, .slice p1 l1 q1, .slice p2 l2 q2] 51 := by rw [hV]; exact RowAt.new _ _ _
      go_upto_region 4 with fail
      rw [← hV]
      have hbn : Below Y1.heap.size Y1 V := below2 hbl hbV
      replace HXR : Hid (HasRts V (.slice p1 l1 q1) R.rts ∧ HasLks V (.slice p2 l2 q2) R.lks) := ⟨HXR.out.1.keep hbV, HXR.out.2.keep hbV⟩
      clear hV hbV x0 x1 x2 x3 hb1
      generalize wr.heap.size = gv at rV ⊢
      obtain ⟨y0, y1, y2, y3, yf⟩ := cells4 rV
      by_cases hid : R.id = id
      · have hd : (R.id == id) = true := by rw [hid]; simp
        have HV : Hid (firstR L id = some R) := HF.out hid
        replace rz := RowAt.below rz hbn
        replace hB := below2 hB hbn
        obtain ⟨zz0, zz1, zz2, zz3, zzf⟩ := cells4 rz
        clear hid HF HX
        go_wp2_with fail
        (try simp only [Exit.inBlock, Exit.then])
        refine bodyPost_ret (v := .tuple #[.agg #[.int .i64 R.id, .bool R.up, .slice p1 l1 q1, .slice p2 l2 q2], .bool true]) ?_ rfl ⟨p1, l1, q1, p2, l2, q2, by rw [HV.out]; rfl, by rw [HV.out]; exact rts_apart HXR.out.1 rz (set4_gr _ _ _ _ _ _), by rw [HV.out]; exact lks_apart HXR.out.2 rz (set4_gr _ _ _ _ _ _), set4_bl' hB lez _ _ _ _⟩
        · rw [results_cell_tmp rfl]
          go_simp
      · have hd : (R.id == id) = false := beq_eq_false_iff_ne.2 hid
        have HN : Hid (∀ j (h : j < L.length), j < k + 1 → L[j].id ≠ id) := HX.out hid
        clear hid HF HX
        go_wp2_with fail
        go_roundw
        case rel => exact ⟨k + 1, by omega, by go_num, hbn, HN.out⟩
        case measure => simp [Go.RowKit.intOf]; omega
    · have hkn2 : k = ln := by omega
      subst hkn2
      have hkd : decide ((k : Int) < (k : Int)) = false := decide_eq_false (by omega)
      have HV : Hid (firstR L id = none) := by
        show firstR L id = none
        unfold firstR
        rw [List.find?_eq_none]
        intro x hx
        obtain ⟨j, hj, rfl⟩ := List.getElem_of_mem hx
        simp
        exact HI.out.2 j hj (by rw [HLN.out]; exact hj)
      replace rz := RowAt.below rz hbl
      replace hB := below2 hB hbl
      obtain ⟨zz0, zz1, zz2, zz3, zzf⟩ := cells4 rz
      clear HI
      go_wp2_with fail
      (try simp only [Exit.inBlock, Exit.then])
      refine bodyPost_ret (v := .tuple #[.agg #[.int .i64 0, .bool false, .slice none 0 0, .slice none 0 0], .bool false]) ?_ rfl ⟨none, 0, 0, none, 0, 0, by rw [HV.out]; rfl, by rw [HV.out]; exact Lk.hasRow_nil _ 6, by rw [HV.out]; exact Lk.hasRow_nil _ 2, set4_bl' hB lez _ _ _ _⟩
      · rw [results_cell_tmp rfl]
        go_simp
theorem rfind_any (n : NetT) (id : Int) (u v : Value) (w : World) (hS : HasSts w u n.seats) (hL : HasRos w v n.ros) :
    Calls Tryz.prog 37 #[.agg #[u, v], .int .i64 id] w (FdIs ((firstR n.ros id).getD zeroRo) (firstR n.ros id).isSome w) := by
  obtain ⟨so, sc, rfl, _⟩ := Ord.HasRow.slice hS
  obtain ⟨lo, lc, rfl, q1, q2⟩ := HasRos.slice hL
  exact rfind_walk so lo _ sc _ lc id n.seats n.ros w hS hL rfl (by omega)
theorem first_is {n : NetT} (h : okN n = true) (r : Int) : (isN n.ros r = true → firstR n.ros r = some (wasN n.ros r)) ∧ (isN n.ros r = false → firstR n.ros r = none) := by
  obtain ⟨_, _, p3, p4⟩ := pos_parts n.ros r (ros_up h)
  refine ⟨fun hi => ?_, fun hi => ?_⟩
  · obtain ⟨a1, a2⟩ := p3 hi
    unfold firstR
    cases hf : n.ros.find? (fun R => decide (R.id = r)) with
    | none => exact absurd (decide_eq_true a2) (List.find?_eq_none.1 hf _ a1)
    | some R =>
      have h1 := List.mem_of_find?_eq_some hf
      have h2 : R.id = r := by simpa using List.find?_some hf
      obtain ⟨j, hj, rfl⟩ := List.getElem_of_mem h1
      obtain ⟨k, hk, hke⟩ := List.getElem_of_mem a1
      rw [← hke] at a2 ⊢
      rcases Nat.lt_trichotomy j k with g | g | g
      · have := List.pairwise_iff_getElem.1 (ros_up h) j k hj hk g
        omega
      · subst g; rfl
      · have := List.pairwise_iff_getElem.1 (ros_up h) k j hk hj g
        omega
  · unfold firstR
    rw [List.find?_eq_none]
    intro x hx
    have := p4 hi x hx
    simpa using this
set_option maxHeartbeats 16000000 in
set_option maxRecDepth 20000 in
theorem rfind_bad (so lo : Option Addr) (sn sc ln lc : Nat) (id z0 : Int) (R : Ro) (S : List St) (L : List Ro) (w : World) (hS : HasSts w (.slice so sn sc) S) (hL : HasRos w (.slice lo ln lc) L) (hz0 : ¬ z0 = 0) (c1 : ∀ W, HasSts W (.slice so sn sc) S → HasRos W (.slice lo ln lc) L → Calls Tryz.prog 16 #[.agg #[.slice so sn sc, .slice lo ln lc]] W fun e w' => e = .returned (.int .i64 z0) ∧ Below W.heap.size W w') :
    Calls Tryz.prog 18 #[.agg #[.slice so sn sc, .slice lo ln lc], .int .i64 id] w (RoIs zeroRo 2 w) := by
  have hB := Below.refl w.heap.size w
  go_enter Tryz.func18, Tryz.ntmps18
  obtain ⟨Y1, hY⟩ : ∃ Y, Y = ((w.alloc (.cells #[.slice so sn sc, .slice lo ln lc] 25)).alloc (.cells #[.int .i64 0, .bool false, .slice none 0 0, .slice none 0 0] 51)) := ⟨_, rfl⟩
  have hbY : Below w.heap.size w Y1 := by rw [hY]; exact below_new (below_new (Below.refl _ _) _) _
  have hle : w.heap.size ≤ w.heap.size := hB.size
  obtain ⟨gn, hgn⟩ : ∃ g, g = w.heap.size := ⟨_, rfl⟩
  have rn : RowAt Y1 gn [.slice so sn sc, .slice lo ln lc] 25 := by
    have h := (RowAt.new w [.slice so sn sc, .slice lo ln lc] 25).alloc (.cells #[.int .i64 0, .bool false, .slice none 0 0, .slice none 0 0] 51)
    rw [hgn, hY]; exact h
  have len : w.heap.size ≤ gn := by omega
  obtain ⟨gz, hgz⟩ : ∃ g, g = w.heap.size + 1 := ⟨_, rfl⟩
  have rz : RowAt Y1 gz [.int .i64 0, .bool false, .slice none 0 0, .slice none 0 0] 51 := by
    have h := RowAt.new (w.alloc (.cells #[.slice so sn sc, .slice lo ln lc] 25)) [.int .i64 0, .bool false, .slice none 0 0, .slice none 0 0] 51
    simp only [World.size_alloc] at h
    rw [hgz, hY]; exact h
  have lez : w.heap.size ≤ gz := by omega
  have nenz : gn ≠ gz := by omega
  replace hS := hS.keep hbY
  replace hL := hL.keep hbY
  replace hB := below2 hB hbY
  go_upto_region 1 with fail
  rw [← hY, ← hgz, ← hgn]
  clear hY hbY hle hgn hgz
  obtain ⟨n0, n1, nf⟩ := cells2 rn
  go_wp2_with fail
  clear n0 n1 nf
  go_at_call 16; refine (c1 _ hS hL).mono ?_; rintro e w2 ⟨rfl, hb⟩
  replace rn := RowAt.below rn hb
  replace rz := RowAt.below rz hb
  replace hS := hS.keep hb
  replace hL := hL.keep hb
  replace hB := below2 hB hb
  clear hb
  obtain ⟨zz0, zz1, zz2, zz3, zzf⟩ := cells4 rz
  go_wp2_with fail
  (try simp only [Exit.inBlock, Exit.then])
  refine bodyPost_ret (v := .tuple #[.agg #[.int .i64 0, .bool false, .slice none 0 0, .slice none 0 0], .int .i64 2]) ?_ rfl ⟨_, _, _, _, _, _, rfl, Lk.hasRow_nil _ 6, Lk.hasRow_nil _ 2, set4_bl' hB lez _ _ _ _⟩
  · rw [results_cell_tmp rfl]
    go_simp
set_option maxHeartbeats 16000000 in
set_option maxRecDepth 20000 in
theorem rfind_no (so lo : Option Addr) (sn sc ln lc : Nat) (id z0 : Int) (R : Ro) (S : List St) (L : List Ro) (w : World) (hS : HasSts w (.slice so sn sc) S) (hL : HasRos w (.slice lo ln lc) L) (c1 : ∀ W, HasSts W (.slice so sn sc) S → HasRos W (.slice lo ln lc) L → Calls Tryz.prog 16 #[.agg #[.slice so sn sc, .slice lo ln lc]] W fun e w' => e = .returned (.int .i64 0) ∧ Below W.heap.size W w') (c2 : ∀ W u v, HasSts W u S → HasRos W v L → Calls Tryz.prog 37 #[.agg #[u, v], .int .i64 id] W (FdIs R false W)) :
    Calls Tryz.prog 18 #[.agg #[.slice so sn sc, .slice lo ln lc], .int .i64 id] w (RoIs zeroRo 14 w) := by
  have hB := Below.refl w.heap.size w
  go_enter Tryz.func18, Tryz.ntmps18
  obtain ⟨Y1, hY⟩ : ∃ Y, Y = ((w.alloc (.cells #[.slice so sn sc, .slice lo ln lc] 25)).alloc (.cells #[.int .i64 0, .bool false, .slice none 0 0, .slice none 0 0] 51)) := ⟨_, rfl⟩
  have hbY : Below w.heap.size w Y1 := by rw [hY]; exact below_new (below_new (Below.refl _ _) _) _
  have hle : w.heap.size ≤ w.heap.size := hB.size
  obtain ⟨gn, hgn⟩ : ∃ g, g = w.heap.size := ⟨_, rfl⟩
  have rn : RowAt Y1 gn [.slice so sn sc, .slice lo ln lc] 25 := by
    have h := (RowAt.new w [.slice so sn sc, .slice lo ln lc] 25).alloc (.cells #[.int .i64 0, .bool false, .slice none 0 0, .slice none 0 0] 51)
    rw [hgn, hY]; exact h
  have len : w.heap.size ≤ gn := by omega
  obtain ⟨gz, hgz⟩ : ∃ g, g = w.heap.size + 1 := ⟨_, rfl⟩
  have rz : RowAt Y1 gz [.int .i64 0, .bool false, .slice none 0 0, .slice none 0 0] 51 := by
    have h := RowAt.new (w.alloc (.cells #[.slice so sn sc, .slice lo ln lc] 25)) [.int .i64 0, .bool false, .slice none 0 0, .slice none 0 0] 51
    simp only [World.size_alloc] at h
    rw [hgz, hY]; exact h
  have lez : w.heap.size ≤ gz := by omega
  have nenz : gn ≠ gz := by omega
  replace hS := hS.keep hbY
  replace hL := hL.keep hbY
  replace hB := below2 hB hbY
  go_upto_region 1 with fail
  rw [← hY, ← hgz, ← hgn]
  clear hY hbY hle hgn hgz
  obtain ⟨n0, n1, nf⟩ := cells2 rn
  go_wp2_with fail
  clear n0 n1 nf
  go_at_call 16; refine (c1 _ hS hL).mono ?_; rintro e w2 ⟨rfl, hb⟩
  replace rn := RowAt.below rn hb
  replace rz := RowAt.below rz hb
  replace hS := hS.keep hb
  replace hL := hL.keep hb
  replace hB := below2 hB hb
  clear hb
  obtain ⟨n0, n1, nf⟩ := cells2 rn
  go_wp2_with fail
  clear n0 n1 nf
  go_at_call 37; refine (c2 _ _ _ hS hL).mono ?_; rintro e w3 ⟨a1, a2, a3, a4, a5, a6, rfl, hq1, hq2, hb⟩
  replace rn := RowAt.below rn hb
  replace rz := RowAt.below rz hb
  replace hS := hS.keep hb
  replace hL := hL.keep hb
  replace hB := below2 hB hb
  clear hb
  obtain ⟨Y4, hY⟩ : ∃ Y, Y = (w3.alloc (.cells #[.int .i64 R.id, .bool R.up, .slice a1 a2 a3, .slice a4 a5 a6] 51)) := ⟨_, rfl⟩
  have hbY : Below w3.heap.size w3 Y4 := by rw [hY]; exact below_new (Below.refl _ _) _
  have hle : w.heap.size ≤ w3.heap.size := hB.size
  obtain ⟨gr, hgr⟩ : ∃ g, g = w3.heap.size := ⟨_, rfl⟩
  have rr : RowAt Y4 gr [.int .i64 R.id, .bool R.up, .slice a1 a2 a3, .slice a4 a5 a6] 51 := by
    have h := RowAt.new w3 [.int .i64 R.id, .bool R.up, .slice a1 a2 a3, .slice a4 a5 a6] 51
    rw [hgr, hY]; exact h
  have ler : w.heap.size ≤ gr := by omega
  have nenr : gn ≠ gr := by have := RowAt.lt rn; omega
  have nezr : gz ≠ gr := by have := RowAt.lt rz; omega
  replace rn := RowAt.below rn hbY
  replace rz := RowAt.below rz hbY
  replace hS := hS.keep hbY
  replace hL := hL.keep hbY
  replace hq1 := hq1.keep hbY
  replace hq2 := hq2.keep hbY
  replace hB := below2 hB hbY
  go_upto_region 4 with fail
  rw [← hY, ← hgr]
  clear hY hbY hle hgr
  obtain ⟨zz0, zz1, zz2, zz3, zzf⟩ := cells4 rz
  go_wp2_with fail
  (try simp only [Exit.inBlock, Exit.then])
  refine bodyPost_ret (v := .tuple #[.agg #[.int .i64 0, .bool false, .slice none 0 0, .slice none 0 0], .int .i64 14]) ?_ rfl ⟨_, _, _, _, _, _, rfl, Lk.hasRow_nil _ 6, Lk.hasRow_nil _ 2, set4_bl' hB lez _ _ _ _⟩
  · rw [results_cell_tmp rfl]
    go_simp
set_option maxHeartbeats 16000000 in
set_option maxRecDepth 20000 in
theorem rfind_yes (so lo : Option Addr) (sn sc ln lc : Nat) (id z0 : Int) (R : Ro) (S : List St) (L : List Ro) (w : World) (hS : HasSts w (.slice so sn sc) S) (hL : HasRos w (.slice lo ln lc) L) (c1 : ∀ W, HasSts W (.slice so sn sc) S → HasRos W (.slice lo ln lc) L → Calls Tryz.prog 16 #[.agg #[.slice so sn sc, .slice lo ln lc]] W fun e w' => e = .returned (.int .i64 0) ∧ Below W.heap.size W w') (c2 : ∀ W u v, HasSts W u S → HasRos W v L → Calls Tryz.prog 37 #[.agg #[u, v], .int .i64 id] W (FdIs R true W)) (c3 : ∀ W x y, HasRts W x R.rts → HasLks W y R.lks → Calls Tryz.prog 24 #[.agg #[.int .i64 R.id, .bool R.up, x, y]] W fun e w' => ∃ o2 n2 m2 o3 n3 m3, e = .returned (.agg #[.int .i64 R.id, .bool R.up, .slice o2 n2 m2, .slice o3 n3 m3]) ∧ HasRts w' (.slice o2 n2 m2) R.rts ∧ HasLks w' (.slice o3 n3 m3) R.lks ∧ Below W.heap.size W w') :
    Calls Tryz.prog 18 #[.agg #[.slice so sn sc, .slice lo ln lc], .int .i64 id] w (RoIs R 0 w) := by
  have hB := Below.refl w.heap.size w
  go_enter Tryz.func18, Tryz.ntmps18
  obtain ⟨Y1, hY⟩ : ∃ Y, Y = ((w.alloc (.cells #[.slice so sn sc, .slice lo ln lc] 25)).alloc (.cells #[.int .i64 0, .bool false, .slice none 0 0, .slice none 0 0] 51)) := ⟨_, rfl⟩
  have hbY : Below w.heap.size w Y1 := by rw [hY]; exact below_new (below_new (Below.refl _ _) _) _
  have hle : w.heap.size ≤ w.heap.size := hB.size
  obtain ⟨gn, hgn⟩ : ∃ g, g = w.heap.size := ⟨_, rfl⟩
  have rn : RowAt Y1 gn [.slice so sn sc, .slice lo ln lc] 25 := by
    have h := (RowAt.new w [.slice so sn sc, .slice lo ln lc] 25).alloc (.cells #[.int .i64 0, .bool false, .slice none 0 0, .slice none 0 0] 51)
    rw [hgn, hY]; exact h
  have len : w.heap.size ≤ gn := by omega
  obtain ⟨gz, hgz⟩ : ∃ g, g = w.heap.size + 1 := ⟨_, rfl⟩
  have rz : RowAt Y1 gz [.int .i64 0, .bool false, .slice none 0 0, .slice none 0 0] 51 := by
    have h := RowAt.new (w.alloc (.cells #[.slice so sn sc, .slice lo ln lc] 25)) [.int .i64 0, .bool false, .slice none 0 0, .slice none 0 0] 51
    simp only [World.size_alloc] at h
    rw [hgz, hY]; exact h
  have lez : w.heap.size ≤ gz := by omega
  have nenz : gn ≠ gz := by omega
  replace hS := hS.keep hbY
  replace hL := hL.keep hbY
  replace hB := below2 hB hbY
  go_upto_region 1 with fail
  rw [← hY, ← hgz, ← hgn]
  clear hY hbY hle hgn hgz
  obtain ⟨n0, n1, nf⟩ := cells2 rn
  go_wp2_with fail
  clear n0 n1 nf
  go_at_call 16; refine (c1 _ hS hL).mono ?_; rintro e w2 ⟨rfl, hb⟩
  replace rn := RowAt.below rn hb
  replace rz := RowAt.below rz hb
  replace hS := hS.keep hb
  replace hL := hL.keep hb
  replace hB := below2 hB hb
  clear hb
  obtain ⟨n0, n1, nf⟩ := cells2 rn
  go_wp2_with fail
  clear n0 n1 nf
  go_at_call 37; refine (c2 _ _ _ hS hL).mono ?_; rintro e w3 ⟨a1, a2, a3, a4, a5, a6, rfl, hq1, hq2, hb⟩
  replace rn := RowAt.below rn hb
  replace rz := RowAt.below rz hb
  replace hS := hS.keep hb
  replace hL := hL.keep hb
  replace hB := below2 hB hb
  clear hb
  obtain ⟨Y4, hY⟩ : ∃ Y, Y = (w3.alloc (.cells #[.int .i64 R.id, .bool R.up, .slice a1 a2 a3, .slice a4 a5 a6] 51)) := ⟨_, rfl⟩
  have hbY : Below w3.heap.size w3 Y4 := by rw [hY]; exact below_new (Below.refl _ _) _
  have hle : w.heap.size ≤ w3.heap.size := hB.size
  obtain ⟨gr, hgr⟩ : ∃ g, g = w3.heap.size := ⟨_, rfl⟩
  have rr : RowAt Y4 gr [.int .i64 R.id, .bool R.up, .slice a1 a2 a3, .slice a4 a5 a6] 51 := by
    have h := RowAt.new w3 [.int .i64 R.id, .bool R.up, .slice a1 a2 a3, .slice a4 a5 a6] 51
    rw [hgr, hY]; exact h
  have ler : w.heap.size ≤ gr := by omega
  have nenr : gn ≠ gr := by have := RowAt.lt rn; omega
  have nezr : gz ≠ gr := by have := RowAt.lt rz; omega
  replace rn := RowAt.below rn hbY
  replace rz := RowAt.below rz hbY
  replace hS := hS.keep hbY
  replace hL := hL.keep hbY
  replace hq1 := hq1.keep hbY
  replace hq2 := hq2.keep hbY
  replace hB := below2 hB hbY
  go_upto_region 4 with fail
  rw [← hY, ← hgr]
  clear hY hbY hle hgr
  obtain ⟨r0, r1, r2, r3, rf⟩ := cells4 rr
  go_wp2_with fail
  clear r0 r1 r2 r3 rf
  go_at_call 24; refine (c3 _ _ _ hq1 hq2).mono ?_; rintro e w5 ⟨p1, l1, q1, p2, l2, q2, rfl, hx, hy, hb⟩
  replace rn := RowAt.below rn hb
  replace rz := RowAt.below rz hb
  replace rr := RowAt.below rr hb
  replace hS := hS.keep hb
  replace hL := hL.keep hb
  replace hq1 := hq1.keep hb
  replace hq2 := hq2.keep hb
  replace hB := below2 hB hb
  clear hb
  obtain ⟨zz0, zz1, zz2, zz3, zzf⟩ := cells4 rz
  go_wp2_with fail
  (try simp only [Exit.inBlock, Exit.then])
  refine bodyPost_ret (v := .tuple #[.agg #[.int .i64 R.id, .bool R.up, .slice p1 l1 q1, .slice p2 l2 q2], .int .i64 0]) ?_ rfl ⟨_, _, _, _, _, _, rfl, rts_apart hx rz (set4_gr _ _ _ _ _ _), lks_apart hy rz (set4_gr _ _ _ _ _ _), set4_bl' hB lez _ _ _ _⟩
  · rw [results_cell_tmp rfl]
    go_simp
theorem rfindF_any (n : NetT) (id : Int) (u v : Value) (w : World) (hS : HasSts w u n.seats) (hL : HasRos w v n.ros) (hf : FitN n) :
    Calls Tryz.prog 18 #[.agg #[u, v], .int .i64 id] w (RoIs (findN n id).1 (findN n id).2 w) := by
  obtain ⟨so, sc, rfl, _⟩ := Ord.HasRow.slice hS
  obtain ⟨lo, lc, rfl, _⟩ := HasRos.slice hL
  have c1 := fun W h1 h2 => rcheck_any n (.slice so n.seats.length sc) (.slice lo n.ros.length lc) W h1 h2 hf.ros
  have c2 := fun W u v h1 h2 => rfind_any n id u v W h1 h2
  cases hok : okN n with
  | false =>
    have e1 : checkN n = 2 := by unfold checkN; rw [hok]; rfl
    have e2 : findN n id = (zeroRo, 2) := by unfold findN; rw [hok]; rfl
    rw [e1] at c1
    rw [e2]
    exact rfind_bad so lo _ sc _ lc id 2 zeroRo n.seats n.ros w hS hL (by decide) c1
  | true =>
    have e1 : checkN n = 0 := by unfold checkN; rw [hok]; rfl
    rw [e1] at c1
    cases hi : isN n.ros id with
    | false =>
      have e2 : findN n id = (zeroRo, 14) := by unfold findN; rw [hok, hi]; rfl
      rw [(first_is hok id).2 hi] at c2
      rw [e2]
      exact rfind_no so lo _ sc _ lc id 0 zeroRo n.seats n.ros w hS hL c1 c2
    | true =>
      have e2 : findN n id = (wasN n.ros id, 0) := by unfold findN; rw [hok, hi]; rfl
      rw [(first_is hok id).1 hi] at c2
      rw [e2]
      obtain ⟨hp, he⟩ := is_at hi
      have hk := okRo_many (ros_ok hok _ (List.getElem_mem hp))
      rw [he] at hk
      exact rfind_yes so lo _ sc _ lc id 0 (wasN n.ros id) n.seats n.ros w hS hL c1 c2 (fun W x y h1 h2 => Fib.copy_any (wasN n.ros id) x y W h1 h2 (by omega) (by omega))
set_option maxHeartbeats 16000000 in
set_option maxRecDepth 20000 in
theorem rsize_bad (so lo : Option Addr) (sn sc ln lc : Nat) (z0 : Int) (S : List St) (L : List Ro) (w : World) (hS : HasSts w (.slice so sn sc) S) (hL : HasRos w (.slice lo ln lc) L) (hz0 : ¬ z0 = 0) (c1 : ∀ W, HasSts W (.slice so sn sc) S → HasRos W (.slice lo ln lc) L → Calls Tryz.prog 16 #[.agg #[.slice so sn sc, .slice lo ln lc]] W fun e w' => e = .returned (.int .i64 z0) ∧ Below W.heap.size W w') :
    Calls Tryz.prog 22 #[.agg #[.slice so sn sc, .slice lo ln lc]] w fun e w' => e = .returned (.tuple #[.int .i64 0, .int .i64 2]) ∧ Below w.heap.size w w' := by
  have hB := Below.refl w.heap.size w
  go_enter Tryz.func22, Tryz.ntmps22
  obtain ⟨Y1, hY⟩ : ∃ Y, Y = (w.alloc (.cells #[.slice so sn sc, .slice lo ln lc] 25)) := ⟨_, rfl⟩
  have hbY : Below w.heap.size w Y1 := by rw [hY]; exact below_new (Below.refl _ _) _
  have hle : w.heap.size ≤ w.heap.size := hB.size
  obtain ⟨gn, hgn⟩ : ∃ g, g = w.heap.size := ⟨_, rfl⟩
  have rn : RowAt Y1 gn [.slice so sn sc, .slice lo ln lc] 25 := by
    have h := RowAt.new w [.slice so sn sc, .slice lo ln lc] 25
    rw [hgn, hY]; exact h
  have len : w.heap.size ≤ gn := by omega
  replace hS := hS.keep hbY
  replace hL := hL.keep hbY
  replace hB := below2 hB hbY
  go_upto_region 1 with fail
  rw [← hY, ← hgn]
  clear hY hbY hle hgn
  obtain ⟨n0, n1, nf⟩ := cells2 rn
  go_wp2_with fail
  clear n0 n1 nf
  go_at_call 16; refine (c1 _ hS hL).mono ?_; rintro e w2 ⟨rfl, hb⟩
  replace rn := RowAt.below rn hb
  replace hS := hS.keep hb
  replace hL := hL.keep hb
  replace hB := below2 hB hb
  clear hb
  go_wp2_with fail
  go_ret2
  exact ⟨rfl, hB⟩
set_option maxHeartbeats 16000000 in
set_option maxRecDepth 20000 in
theorem rsize_ok (so lo : Option Addr) (sn sc ln lc : Nat) (zz : Nat) (S : List St) (L : List Ro) (w : World) (hS : HasSts w (.slice so sn sc) S) (hL : HasRos w (.slice lo ln lc) L) (c1 : ∀ W, HasSts W (.slice so sn sc) S → HasRos W (.slice lo ln lc) L → Calls Tryz.prog 16 #[.agg #[.slice so sn sc, .slice lo ln lc]] W fun e w' => e = .returned (.int .i64 0) ∧ Below W.heap.size W w') (c5 : ∀ W v, HasRos W v L → Calls Tryz.prog 34 #[v] W fun e w' => e = .returned (.int .i64 (zz : Int)) ∧ Below W.heap.size W w') :
    Calls Tryz.prog 22 #[.agg #[.slice so sn sc, .slice lo ln lc]] w fun e w' => e = .returned (.tuple #[.int .i64 (zz : Int), .int .i64 0]) ∧ Below w.heap.size w w' := by
  have hB := Below.refl w.heap.size w
  go_enter Tryz.func22, Tryz.ntmps22
  obtain ⟨Y1, hY⟩ : ∃ Y, Y = (w.alloc (.cells #[.slice so sn sc, .slice lo ln lc] 25)) := ⟨_, rfl⟩
  have hbY : Below w.heap.size w Y1 := by rw [hY]; exact below_new (Below.refl _ _) _
  have hle : w.heap.size ≤ w.heap.size := hB.size
  obtain ⟨gn, hgn⟩ : ∃ g, g = w.heap.size := ⟨_, rfl⟩
  have rn : RowAt Y1 gn [.slice so sn sc, .slice lo ln lc] 25 := by
    have h := RowAt.new w [.slice so sn sc, .slice lo ln lc] 25
    rw [hgn, hY]; exact h
  have len : w.heap.size ≤ gn := by omega
  replace hS := hS.keep hbY
  replace hL := hL.keep hbY
  replace hB := below2 hB hbY
  go_upto_region 1 with fail
  rw [← hY, ← hgn]
  clear hY hbY hle hgn
  obtain ⟨n0, n1, nf⟩ := cells2 rn
  go_wp2_with fail
  clear n0 n1 nf
  go_at_call 16; refine (c1 _ hS hL).mono ?_; rintro e w2 ⟨rfl, hb⟩
  replace rn := RowAt.below rn hb
  replace hS := hS.keep hb
  replace hL := hL.keep hb
  replace hB := below2 hB hb
  clear hb
  obtain ⟨n0, n1, nf⟩ := cells2 rn
  go_wp2_with fail
  clear n0 n1 nf
  go_at_call 34; refine (c5 _ _ hL).mono ?_; rintro e w3 ⟨rfl, hb⟩
  replace rn := RowAt.below rn hb
  replace hS := hS.keep hb
  replace hL := hL.keep hb
  replace hB := below2 hB hb
  clear hb
  go_wp2_with fail
  go_ret2
  exact ⟨rfl, hB⟩
theorem rsizeF_any (n : NetT) (u v : Value) (w : World) (hS : HasSts w u n.seats) (hL : HasRos w v n.ros) (hf : FitN n) :
    Calls Tryz.prog 22 #[.agg #[u, v]] w fun e w' => e = .returned (.tuple #[.int .i64 (sizeE n).1, .int .i64 (sizeE n).2]) ∧ Below w.heap.size w w' := by
  obtain ⟨so, sc, rfl, _⟩ := Ord.HasRow.slice hS
  obtain ⟨lo, lc, rfl, _⟩ := HasRos.slice hL
  have c1 := fun W h1 h2 => rcheck_any n (.slice so n.seats.length sc) (.slice lo n.ros.length lc) W h1 h2 hf.ros
  cases hok : okN n with
  | false =>
    have e1 : checkN n = 2 := by unfold checkN; rw [hok]; rfl
    have e2 : sizeE n = (0, 2) := by unfold sizeE; rw [hok]; rfl
    rw [e1] at c1
    rw [e2]
    exact rsize_bad so lo _ sc _ lc 2 n.seats n.ros w hS hL (by decide) c1
  | true =>
    have e1 : checkN n = 0 := by unfold checkN; rw [hok]; rfl
    have e2 : sizeE n = ((sizeN n.ros : Int), 0) := by unfold sizeE; rw [hok]; rfl
    rw [e1] at c1
    rw [e2]
    exact rsize_ok so lo _ sc _ lc _ n.seats n.ros w hS hL c1 (fun W v h => rmany_any n.ros v W h (by have := ros_len hok; omega) (fun R hR => (okRo_many (ros_ok hok R hR)).1))
set_option maxHeartbeats 16000000 in
set_option maxRecDepth 20000 in
theorem rdoes_no (so lo : Option Addr) (sn sc ln lc : Nat) (id : Int) (six : Bool) (ah al : Int) (R : Ro) (hk hp : Int) (S : List St) (L : List Ro) (w : World) (hS : HasSts w (.slice so sn sc) S) (hL : HasRos w (.slice lo ln lc) L) (c2 : ∀ W u v, HasSts W u S → HasRos W v L → Calls Tryz.prog 37 #[.agg #[u, v], .int .i64 id] W (FdIs R false W)) :
    Calls Tryz.prog 41 #[.agg #[.slice so sn sc, .slice lo ln lc], .int .i64 id, .bool six, .agg #[.int .u64 ah, .int .u64 al]] w fun e w' => e = .returned (.agg #[.int .u8 0, .int .i64 0]) ∧ Below w.heap.size w w' := by
  have hB := Below.refl w.heap.size w
  go_enter Tryz.func41, Tryz.ntmps41
  obtain ⟨Y1, hY⟩ : ∃ Y, Y = (((w.alloc (.cells #[.slice so sn sc, .slice lo ln lc] 25)).alloc (.cells #[.int .u64 ah, .int .u64 al] 31)).alloc (.cells #[.int .u8 0, .int .i64 0] 56)) := ⟨_, rfl⟩
  have hbY : Below w.heap.size w Y1 := by rw [hY]; exact below_new (below_new (below_new (Below.refl _ _) _) _) _
  have hle : w.heap.size ≤ w.heap.size := hB.size
  obtain ⟨gn, hgn⟩ : ∃ g, g = w.heap.size := ⟨_, rfl⟩
  have rn : RowAt Y1 gn [.slice so sn sc, .slice lo ln lc] 25 := by
    have h := ((RowAt.new w [.slice so sn sc, .slice lo ln lc] 25).alloc (.cells #[.int .u64 ah, .int .u64 al] 31)).alloc (.cells #[.int .u8 0, .int .i64 0] 56)
    rw [hgn, hY]; exact h
  have len : w.heap.size ≤ gn := by omega
  obtain ⟨ga, hga⟩ : ∃ g, g = w.heap.size + 1 := ⟨_, rfl⟩
  have ra : RowAt Y1 ga [.int .u64 ah, .int .u64 al] 31 := by
    have h := (RowAt.new (w.alloc (.cells #[.slice so sn sc, .slice lo ln lc] 25)) [.int .u64 ah, .int .u64 al] 31).alloc (.cells #[.int .u8 0, .int .i64 0] 56)
    simp only [World.size_alloc] at h
    rw [hga, hY]; exact h
  have lea : w.heap.size ≤ ga := by omega
  have nena : gn ≠ ga := by omega
  obtain ⟨gz, hgz⟩ : ∃ g, g = w.heap.size + 1 + 1 := ⟨_, rfl⟩
  have rz : RowAt Y1 gz [.int .u8 0, .int .i64 0] 56 := by
    have h := RowAt.new ((w.alloc (.cells #[.slice so sn sc, .slice lo ln lc] 25)).alloc (.cells #[.int .u64 ah, .int .u64 al] 31)) [.int .u8 0, .int .i64 0] 56
    simp only [World.size_alloc] at h
    rw [hgz, hY]; exact h
  have lez : w.heap.size ≤ gz := by omega
  have nenz : gn ≠ gz := by omega
  have neaz : ga ≠ gz := by omega
  replace hS := hS.keep hbY
  replace hL := hL.keep hbY
  replace hB := below2 hB hbY
  go_upto_region 1 with fail
  rw [← hY, ← hgz, ← hga, ← hgn]
  clear hY hbY hle hgn hga hgz
  obtain ⟨n0, n1, nf⟩ := cells2 rn
  go_wp2_with fail
  clear n0 n1 nf
  go_at_call 37; refine (c2 _ _ _ hS hL).mono ?_; rintro e w2 ⟨a1, a2, a3, a4, a5, a6, rfl, hq1, hq2, hb⟩
  replace rn := RowAt.below rn hb
  replace ra := RowAt.below ra hb
  replace rz := RowAt.below rz hb
  replace hS := hS.keep hb
  replace hL := hL.keep hb
  replace hB := below2 hB hb
  clear hb
  obtain ⟨Y3, hY⟩ : ∃ Y, Y = (w2.alloc (.cells #[.int .i64 R.id, .bool R.up, .slice a1 a2 a3, .slice a4 a5 a6] 51)) := ⟨_, rfl⟩
  have hbY : Below w2.heap.size w2 Y3 := by rw [hY]; exact below_new (Below.refl _ _) _
  have hle : w.heap.size ≤ w2.heap.size := hB.size
  obtain ⟨gr, hgr⟩ : ∃ g, g = w2.heap.size := ⟨_, rfl⟩
  have rr : RowAt Y3 gr [.int .i64 R.id, .bool R.up, .slice a1 a2 a3, .slice a4 a5 a6] 51 := by
    have h := RowAt.new w2 [.int .i64 R.id, .bool R.up, .slice a1 a2 a3, .slice a4 a5 a6] 51
    rw [hgr, hY]; exact h
  have ler : w.heap.size ≤ gr := by omega
  have nenr : gn ≠ gr := by have := RowAt.lt rn; omega
  have near : ga ≠ gr := by have := RowAt.lt ra; omega
  have nezr : gz ≠ gr := by have := RowAt.lt rz; omega
  replace rn := RowAt.below rn hbY
  replace ra := RowAt.below ra hbY
  replace rz := RowAt.below rz hbY
  replace hS := hS.keep hbY
  replace hL := hL.keep hbY
  replace hq1 := hq1.keep hbY
  replace hq2 := hq2.keep hbY
  replace hB := below2 hB hbY
  go_upto_region 2 with fail
  rw [← hY, ← hgr]
  clear hY hbY hle hgr
  obtain ⟨zz0, zz1, zzf⟩ := cells2 rz
  go_wp2_with fail
  (try simp only [Exit.inBlock, Exit.then])
  refine bodyPost_ret (v := .agg #[.int .u8 0, .int .i64 0]) ?_ rfl ⟨rfl, bset (bset hB lez) lez⟩
  · rw [Go.Proofs.YtbglbegljkgknaaGreat.Addr.results_cell rfl]
    go_simp
set_option maxHeartbeats 16000000 in
set_option maxRecDepth 20000 in
theorem rdoes_yes (so lo : Option Addr) (sn sc ln lc : Nat) (id : Int) (six : Bool) (ah al : Int) (R : Ro) (hk hp : Int) (S : List St) (L : List Ro) (w : World) (hS : HasSts w (.slice so sn sc) S) (hL : HasRos w (.slice lo ln lc) L) (c2 : ∀ W u v, HasSts W u S → HasRos W v L → Calls Tryz.prog 37 #[.agg #[u, v], .int .i64 id] W (FdIs R true W)) (c3 : ∀ W x y, HasRts W x R.rts → HasLks W y R.lks → Calls Tryz.prog 70 #[.agg #[.int .i64 R.id, .bool R.up, x, y], .bool six, .agg #[.int .u64 ah, .int .u64 al]] W fun e w' => e = .returned (.agg #[.int .u8 hk, .int .i64 hp]) ∧ Below W.heap.size W w') :
    Calls Tryz.prog 41 #[.agg #[.slice so sn sc, .slice lo ln lc], .int .i64 id, .bool six, .agg #[.int .u64 ah, .int .u64 al]] w fun e w' => e = .returned (.agg #[.int .u8 hk, .int .i64 hp]) ∧ Below w.heap.size w w' := by
  have hB := Below.refl w.heap.size w
  go_enter Tryz.func41, Tryz.ntmps41
  obtain ⟨Y1, hY⟩ : ∃ Y, Y = (((w.alloc (.cells #[.slice so sn sc, .slice lo ln lc] 25)).alloc (.cells #[.int .u64 ah, .int .u64 al] 31)).alloc (.cells #[.int .u8 0, .int .i64 0] 56)) := ⟨_, rfl⟩
  have hbY : Below w.heap.size w Y1 := by rw [hY]; exact below_new (below_new (below_new (Below.refl _ _) _) _) _
  have hle : w.heap.size ≤ w.heap.size := hB.size
  obtain ⟨gn, hgn⟩ : ∃ g, g = w.heap.size := ⟨_, rfl⟩
  have rn : RowAt Y1 gn [.slice so sn sc, .slice lo ln lc] 25 := by
    have h := ((RowAt.new w [.slice so sn sc, .slice lo ln lc] 25).alloc (.cells #[.int .u64 ah, .int .u64 al] 31)).alloc (.cells #[.int .u8 0, .int .i64 0] 56)
    rw [hgn, hY]; exact h
  have len : w.heap.size ≤ gn := by omega
  obtain ⟨ga, hga⟩ : ∃ g, g = w.heap.size + 1 := ⟨_, rfl⟩
  have ra : RowAt Y1 ga [.int .u64 ah, .int .u64 al] 31 := by
    have h := (RowAt.new (w.alloc (.cells #[.slice so sn sc, .slice lo ln lc] 25)) [.int .u64 ah, .int .u64 al] 31).alloc (.cells #[.int .u8 0, .int .i64 0] 56)
    simp only [World.size_alloc] at h
    rw [hga, hY]; exact h
  have lea : w.heap.size ≤ ga := by omega
  have nena : gn ≠ ga := by omega
  obtain ⟨gz, hgz⟩ : ∃ g, g = w.heap.size + 1 + 1 := ⟨_, rfl⟩
  have rz : RowAt Y1 gz [.int .u8 0, .int .i64 0] 56 := by
    have h := RowAt.new ((w.alloc (.cells #[.slice so sn sc, .slice lo ln lc] 25)).alloc (.cells #[.int .u64 ah, .int .u64 al] 31)) [.int .u8 0, .int .i64 0] 56
    simp only [World.size_alloc] at h
    rw [hgz, hY]; exact h
  have lez : w.heap.size ≤ gz := by omega
  have nenz : gn ≠ gz := by omega
  have neaz : ga ≠ gz := by omega
  replace hS := hS.keep hbY
  replace hL := hL.keep hbY
  replace hB := below2 hB hbY
  go_upto_region 1 with fail
  rw [← hY, ← hgz, ← hga, ← hgn]
  clear hY hbY hle hgn hga hgz
  obtain ⟨n0, n1, nf⟩ := cells2 rn
  go_wp2_with fail
  clear n0 n1 nf
  go_at_call 37; refine (c2 _ _ _ hS hL).mono ?_; rintro e w2 ⟨a1, a2, a3, a4, a5, a6, rfl, hq1, hq2, hb⟩
  replace rn := RowAt.below rn hb
  replace ra := RowAt.below ra hb
  replace rz := RowAt.below rz hb
  replace hS := hS.keep hb
  replace hL := hL.keep hb
  replace hB := below2 hB hb
  clear hb
  obtain ⟨Y3, hY⟩ : ∃ Y, Y = (w2.alloc (.cells #[.int .i64 R.id, .bool R.up, .slice a1 a2 a3, .slice a4 a5 a6] 51)) := ⟨_, rfl⟩
  have hbY : Below w2.heap.size w2 Y3 := by rw [hY]; exact below_new (Below.refl _ _) _
  have hle : w.heap.size ≤ w2.heap.size := hB.size
  obtain ⟨gr, hgr⟩ : ∃ g, g = w2.heap.size := ⟨_, rfl⟩
  have rr : RowAt Y3 gr [.int .i64 R.id, .bool R.up, .slice a1 a2 a3, .slice a4 a5 a6] 51 := by
    have h := RowAt.new w2 [.int .i64 R.id, .bool R.up, .slice a1 a2 a3, .slice a4 a5 a6] 51
    rw [hgr, hY]; exact h
  have ler : w.heap.size ≤ gr := by omega
  have nenr : gn ≠ gr := by have := RowAt.lt rn; omega
  have near : ga ≠ gr := by have := RowAt.lt ra; omega
  have nezr : gz ≠ gr := by have := RowAt.lt rz; omega
  replace rn := RowAt.below rn hbY
  replace ra := RowAt.below ra hbY
  replace rz := RowAt.below rz hbY
  replace hS := hS.keep hbY
  replace hL := hL.keep hbY
  replace hq1 := hq1.keep hbY
  replace hq2 := hq2.keep hbY
  replace hB := below2 hB hbY
  go_upto_region 2 with fail
  rw [← hY, ← hgr]
  clear hY hbY hle hgr
  obtain ⟨r0, r1, r2, r3, rf⟩ := cells4 rr
  obtain ⟨a0, a1, af⟩ := cells2 ra
  go_wp2_with fail
  clear r0 r1 r2 r3 rf a0 a1 af
  go_at_call 70; refine (c3 _ _ _ hq1 hq2).mono ?_; rintro e w4 ⟨rfl, hb⟩
  replace rn := RowAt.below rn hb
  replace ra := RowAt.below ra hb
  replace rz := RowAt.below rz hb
  replace rr := RowAt.below rr hb
  replace hS := hS.keep hb
  replace hL := hL.keep hb
  replace hq1 := hq1.keep hb
  replace hq2 := hq2.keep hb
  replace hB := below2 hB hb
  clear hb
  obtain ⟨zz0, zz1, zzf⟩ := cells2 rz
  go_wp2_with fail
  (try simp only [Exit.inBlock, Exit.then])
  refine bodyPost_ret (v := .agg #[.int .u8 hk, .int .i64 hp]) ?_ rfl ⟨rfl, bset (bset hB lez) lez⟩
  · rw [Go.Proofs.YtbglbegljkgknaaGreat.Addr.results_cell rfl]
    go_simp
set_option maxHeartbeats 16000000 in
set_option maxRecDepth 20000 in
theorem rhop_bad (so lo : Option Addr) (sn sc ln lc : Nat) (id : Int) (six : Bool) (ah al z0 : Int) (hk hp : Int) (S : List St) (L : List Ro) (w : World) (hS : HasSts w (.slice so sn sc) S) (hL : HasRos w (.slice lo ln lc) L) (hz0 : ¬ z0 = 0) (c1 : ∀ W, HasSts W (.slice so sn sc) S → HasRos W (.slice lo ln lc) L → Calls Tryz.prog 16 #[.agg #[.slice so sn sc, .slice lo ln lc]] W fun e w' => e = .returned (.int .i64 z0) ∧ Below W.heap.size W w') :
    Calls Tryz.prog 20 #[.agg #[.slice so sn sc, .slice lo ln lc], .int .i64 id, .bool six, .agg #[.int .u64 ah, .int .u64 al]] w fun e w' => e = .returned (.tuple #[.agg #[.int .u8 0, .int .i64 0], .int .i64 2]) ∧ Below w.heap.size w w' := by
  have hB := Below.refl w.heap.size w
  go_enter Tryz.func20, Tryz.ntmps20
  obtain ⟨Y1, hY⟩ : ∃ Y, Y = (((w.alloc (.cells #[.slice so sn sc, .slice lo ln lc] 25)).alloc (.cells #[.int .u64 ah, .int .u64 al] 31)).alloc (.cells #[.int .u8 0, .int .i64 0] 56)) := ⟨_, rfl⟩
  have hbY : Below w.heap.size w Y1 := by rw [hY]; exact below_new (below_new (below_new (Below.refl _ _) _) _) _
  have hle : w.heap.size ≤ w.heap.size := hB.size
  obtain ⟨gn, hgn⟩ : ∃ g, g = w.heap.size := ⟨_, rfl⟩
  have rn : RowAt Y1 gn [.slice so sn sc, .slice lo ln lc] 25 := by
    have h := ((RowAt.new w [.slice so sn sc, .slice lo ln lc] 25).alloc (.cells #[.int .u64 ah, .int .u64 al] 31)).alloc (.cells #[.int .u8 0, .int .i64 0] 56)
    rw [hgn, hY]; exact h
  have len : w.heap.size ≤ gn := by omega
  obtain ⟨ga, hga⟩ : ∃ g, g = w.heap.size + 1 := ⟨_, rfl⟩
  have ra : RowAt Y1 ga [.int .u64 ah, .int .u64 al] 31 := by
    have h := (RowAt.new (w.alloc (.cells #[.slice so sn sc, .slice lo ln lc] 25)) [.int .u64 ah, .int .u64 al] 31).alloc (.cells #[.int .u8 0, .int .i64 0] 56)
    simp only [World.size_alloc] at h
    rw [hga, hY]; exact h
  have lea : w.heap.size ≤ ga := by omega
  have nena : gn ≠ ga := by omega
  obtain ⟨gz, hgz⟩ : ∃ g, g = w.heap.size + 1 + 1 := ⟨_, rfl⟩
  have rz : RowAt Y1 gz [.int .u8 0, .int .i64 0] 56 := by
    have h := RowAt.new ((w.alloc (.cells #[.slice so sn sc, .slice lo ln lc] 25)).alloc (.cells #[.int .u64 ah, .int .u64 al] 31)) [.int .u8 0, .int .i64 0] 56
    simp only [World.size_alloc] at h
    rw [hgz, hY]; exact h
  have lez : w.heap.size ≤ gz := by omega
  have nenz : gn ≠ gz := by omega
  have neaz : ga ≠ gz := by omega
  replace hS := hS.keep hbY
  replace hL := hL.keep hbY
  replace hB := below2 hB hbY
  go_upto_region 1 with fail
  rw [← hY, ← hgz, ← hga, ← hgn]
  clear hY hbY hle hgn hga hgz
  obtain ⟨n0, n1, nf⟩ := cells2 rn
  go_wp2_with fail
  clear n0 n1 nf
  go_at_call 16; refine (c1 _ hS hL).mono ?_; rintro e w2 ⟨rfl, hb⟩
  replace rn := RowAt.below rn hb
  replace ra := RowAt.below ra hb
  replace rz := RowAt.below rz hb
  replace hS := hS.keep hb
  replace hL := hL.keep hb
  replace hB := below2 hB hb
  clear hb
  obtain ⟨zz0, zz1, zzf⟩ := cells2 rz
  go_wp2_with fail
  (try simp only [Exit.inBlock, Exit.then])
  refine bodyPost_ret (v := .tuple #[.agg #[.int .u8 0, .int .i64 0], .int .i64 2]) ?_ rfl ⟨rfl, bset (bset hB lez) lez⟩
  · rw [results_cell_tmp rfl]
    go_simp
set_option maxHeartbeats 16000000 in
set_option maxRecDepth 20000 in
theorem rhop_off (so lo : Option Addr) (sn sc ln lc : Nat) (id : Int) (six : Bool) (ah al z0 : Int) (hk hp : Int) (S : List St) (L : List Ro) (w : World) (hS : HasSts w (.slice so sn sc) S) (hL : HasRos w (.slice lo ln lc) L) (c1 : ∀ W, HasSts W (.slice so sn sc) S → HasRos W (.slice lo ln lc) L → Calls Tryz.prog 16 #[.agg #[.slice so sn sc, .slice lo ln lc]] W fun e w' => e = .returned (.int .i64 0) ∧ Below W.heap.size W w') (cr : ∀ W, Calls Tryz.prog 40 #[.bool six, .agg #[.int .u64 ah, .int .u64 al]] W fun e w' => e = .returned (.bool false) ∧ Below W.heap.size W w') :
    Calls Tryz.prog 20 #[.agg #[.slice so sn sc, .slice lo ln lc], .int .i64 id, .bool six, .agg #[.int .u64 ah, .int .u64 al]] w fun e w' => e = .returned (.tuple #[.agg #[.int .u8 0, .int .i64 0], .int .i64 2]) ∧ Below w.heap.size w w' := by
  have hB := Below.refl w.heap.size w
  go_enter Tryz.func20, Tryz.ntmps20
  obtain ⟨Y1, hY⟩ : ∃ Y, Y = (((w.alloc (.cells #[.slice so sn sc, .slice lo ln lc] 25)).alloc (.cells #[.int .u64 ah, .int .u64 al] 31)).alloc (.cells #[.int .u8 0, .int .i64 0] 56)) := ⟨_, rfl⟩
  have hbY : Below w.heap.size w Y1 := by rw [hY]; exact below_new (below_new (below_new (Below.refl _ _) _) _) _
  have hle : w.heap.size ≤ w.heap.size := hB.size
  obtain ⟨gn, hgn⟩ : ∃ g, g = w.heap.size := ⟨_, rfl⟩
  have rn : RowAt Y1 gn [.slice so sn sc, .slice lo ln lc] 25 := by
    have h := ((RowAt.new w [.slice so sn sc, .slice lo ln lc] 25).alloc (.cells #[.int .u64 ah, .int .u64 al] 31)).alloc (.cells #[.int .u8 0, .int .i64 0] 56)
    rw [hgn, hY]; exact h
  have len : w.heap.size ≤ gn := by omega
  obtain ⟨ga, hga⟩ : ∃ g, g = w.heap.size + 1 := ⟨_, rfl⟩
  have ra : RowAt Y1 ga [.int .u64 ah, .int .u64 al] 31 := by
    have h := (RowAt.new (w.alloc (.cells #[.slice so sn sc, .slice lo ln lc] 25)) [.int .u64 ah, .int .u64 al] 31).alloc (.cells #[.int .u8 0, .int .i64 0] 56)
    simp only [World.size_alloc] at h
    rw [hga, hY]; exact h
  have lea : w.heap.size ≤ ga := by omega
  have nena : gn ≠ ga := by omega
  obtain ⟨gz, hgz⟩ : ∃ g, g = w.heap.size + 1 + 1 := ⟨_, rfl⟩
  have rz : RowAt Y1 gz [.int .u8 0, .int .i64 0] 56 := by
    have h := RowAt.new ((w.alloc (.cells #[.slice so sn sc, .slice lo ln lc] 25)).alloc (.cells #[.int .u64 ah, .int .u64 al] 31)) [.int .u8 0, .int .i64 0] 56
    simp only [World.size_alloc] at h
    rw [hgz, hY]; exact h
  have lez : w.heap.size ≤ gz := by omega
  have nenz : gn ≠ gz := by omega
  have neaz : ga ≠ gz := by omega
  replace hS := hS.keep hbY
  replace hL := hL.keep hbY
  replace hB := below2 hB hbY
  go_upto_region 1 with fail
  rw [← hY, ← hgz, ← hga, ← hgn]
  clear hY hbY hle hgn hga hgz
  obtain ⟨n0, n1, nf⟩ := cells2 rn
  go_wp2_with fail
  clear n0 n1 nf
  go_at_call 16; refine (c1 _ hS hL).mono ?_; rintro e w2 ⟨rfl, hb⟩
  replace rn := RowAt.below rn hb
  replace ra := RowAt.below ra hb
  replace rz := RowAt.below rz hb
  replace hS := hS.keep hb
  replace hL := hL.keep hb
  replace hB := below2 hB hb
  clear hb
  obtain ⟨a0, a1, af⟩ := cells2 ra
  go_wp2_with fail
  clear a0 a1 af
  go_at_call 40; refine (cr _).mono ?_; rintro e w3 ⟨rfl, hb⟩
  replace rn := RowAt.below rn hb
  replace ra := RowAt.below ra hb
  replace rz := RowAt.below rz hb
  replace hS := hS.keep hb
  replace hL := hL.keep hb
  replace hB := below2 hB hb
  clear hb
  obtain ⟨zz0, zz1, zzf⟩ := cells2 rz
  go_wp2_with fail
  (try simp only [Exit.inBlock, Exit.then])
  refine bodyPost_ret (v := .tuple #[.agg #[.int .u8 0, .int .i64 0], .int .i64 2]) ?_ rfl ⟨rfl, bset (bset hB lez) lez⟩
  · rw [results_cell_tmp rfl]
    go_simp
set_option maxHeartbeats 16000000 in
set_option maxRecDepth 20000 in
theorem rhop_ok (so lo : Option Addr) (sn sc ln lc : Nat) (id : Int) (six : Bool) (ah al z0 : Int) (hk hp : Int) (S : List St) (L : List Ro) (w : World) (hS : HasSts w (.slice so sn sc) S) (hL : HasRos w (.slice lo ln lc) L) (c1 : ∀ W, HasSts W (.slice so sn sc) S → HasRos W (.slice lo ln lc) L → Calls Tryz.prog 16 #[.agg #[.slice so sn sc, .slice lo ln lc]] W fun e w' => e = .returned (.int .i64 0) ∧ Below W.heap.size W w') (cr : ∀ W, Calls Tryz.prog 40 #[.bool six, .agg #[.int .u64 ah, .int .u64 al]] W fun e w' => e = .returned (.bool true) ∧ Below W.heap.size W w') (cd : ∀ W u v, HasSts W u S → HasRos W v L → Calls Tryz.prog 41 #[.agg #[u, v], .int .i64 id, .bool six, .agg #[.int .u64 ah, .int .u64 al]] W fun e w' => e = .returned (.agg #[.int .u8 hk, .int .i64 hp]) ∧ Below W.heap.size W w') :
    Calls Tryz.prog 20 #[.agg #[.slice so sn sc, .slice lo ln lc], .int .i64 id, .bool six, .agg #[.int .u64 ah, .int .u64 al]] w fun e w' => e = .returned (.tuple #[.agg #[.int .u8 hk, .int .i64 hp], .int .i64 0]) ∧ Below w.heap.size w w' := by
  have hB := Below.refl w.heap.size w
  go_enter Tryz.func20, Tryz.ntmps20
  obtain ⟨Y1, hY⟩ : ∃ Y, Y = (((w.alloc (.cells #[.slice so sn sc, .slice lo ln lc] 25)).alloc (.cells #[.int .u64 ah, .int .u64 al] 31)).alloc (.cells #[.int .u8 0, .int .i64 0] 56)) := ⟨_, rfl⟩
  have hbY : Below w.heap.size w Y1 := by rw [hY]; exact below_new (below_new (below_new (Below.refl _ _) _) _) _
  have hle : w.heap.size ≤ w.heap.size := hB.size
  obtain ⟨gn, hgn⟩ : ∃ g, g = w.heap.size := ⟨_, rfl⟩
  have rn : RowAt Y1 gn [.slice so sn sc, .slice lo ln lc] 25 := by
    have h := ((RowAt.new w [.slice so sn sc, .slice lo ln lc] 25).alloc (.cells #[.int .u64 ah, .int .u64 al] 31)).alloc (.cells #[.int .u8 0, .int .i64 0] 56)
    rw [hgn, hY]; exact h
  have len : w.heap.size ≤ gn := by omega
  obtain ⟨ga, hga⟩ : ∃ g, g = w.heap.size + 1 := ⟨_, rfl⟩
  have ra : RowAt Y1 ga [.int .u64 ah, .int .u64 al] 31 := by
    have h := (RowAt.new (w.alloc (.cells #[.slice so sn sc, .slice lo ln lc] 25)) [.int .u64 ah, .int .u64 al] 31).alloc (.cells #[.int .u8 0, .int .i64 0] 56)
    simp only [World.size_alloc] at h
    rw [hga, hY]; exact h
  have lea : w.heap.size ≤ ga := by omega
  have nena : gn ≠ ga := by omega
  obtain ⟨gz, hgz⟩ : ∃ g, g = w.heap.size + 1 + 1 := ⟨_, rfl⟩
  have rz : RowAt Y1 gz [.int .u8 0, .int .i64 0] 56 := by
    have h := RowAt.new ((w.alloc (.cells #[.slice so sn sc, .slice lo ln lc] 25)).alloc (.cells #[.int .u64 ah, .int .u64 al] 31)) [.int .u8 0, .int .i64 0] 56
    simp only [World.size_alloc] at h
    rw [hgz, hY]; exact h
  have lez : w.heap.size ≤ gz := by omega
  have nenz : gn ≠ gz := by omega
  have neaz : ga ≠ gz := by omega
  replace hS := hS.keep hbY
  replace hL := hL.keep hbY
  replace hB := below2 hB hbY
  go_upto_region 1 with fail
  rw [← hY, ← hgz, ← hga, ← hgn]
  clear hY hbY hle hgn hga hgz
  obtain ⟨n0, n1, nf⟩ := cells2 rn
  go_wp2_with fail
  clear n0 n1 nf
  go_at_call 16; refine (c1 _ hS hL).mono ?_; rintro e w2 ⟨rfl, hb⟩
  replace rn := RowAt.below rn hb
  replace ra := RowAt.below ra hb
  replace rz := RowAt.below rz hb
  replace hS := hS.keep hb
  replace hL := hL.keep hb
  replace hB := below2 hB hb
  clear hb
  obtain ⟨a0, a1, af⟩ := cells2 ra
  go_wp2_with fail
  clear a0 a1 af
  go_at_call 40; refine (cr _).mono ?_; rintro e w3 ⟨rfl, hb⟩
  replace rn := RowAt.below rn hb
  replace ra := RowAt.below ra hb
  replace rz := RowAt.below rz hb
  replace hS := hS.keep hb
  replace hL := hL.keep hb
  replace hB := below2 hB hb
  clear hb
  obtain ⟨n0, n1, nf⟩ := cells2 rn
  obtain ⟨a0, a1, af⟩ := cells2 ra
  go_wp2_with fail
  clear n0 n1 nf a0 a1 af
  go_at_call 41; refine (cd _ _ _ hS hL).mono ?_; rintro e w4 ⟨rfl, hb⟩
  replace rn := RowAt.below rn hb
  replace ra := RowAt.below ra hb
  replace rz := RowAt.below rz hb
  replace hS := hS.keep hb
  replace hL := hL.keep hb
  replace hB := below2 hB hb
  clear hb
  obtain ⟨zz0, zz1, zzf⟩ := cells2 rz
  go_wp2_with fail
  (try simp only [Exit.inBlock, Exit.then])
  refine bodyPost_ret (v := .tuple #[.agg #[.int .u8 hk, .int .i64 hp], .int .i64 0]) ?_ rfl ⟨rfl, bset (bset hB lez) lez⟩
  · rw [results_cell_tmp rfl]
    go_simp
theorem rhopF_any (n : NetT) (id : Int) (six : Bool) (a : Nat) (u v : Value) (w : World) (hS : HasSts w u n.seats) (hL : HasRos w v n.ros) (hf : FitN n) (ha : a < 2 ^ 128) :
    Calls Tryz.prog 20 #[.agg #[u, v], .int .i64 id, .bool six, .agg #[.int .u64 (hiN a : Int), .int .u64 (loN a : Int)]] w fun e w' => e = .returned (.tuple #[.agg #[.int .u8 ((hopN n id six a).1.1 : Int), .int .i64 (hopN n id six a).1.2], .int .i64 (hopN n id six a).2]) ∧ Below w.heap.size w w' := by
  obtain ⟨so, sc, rfl, _⟩ := Ord.HasRow.slice hS
  obtain ⟨lo, lc, rfl, _⟩ := HasRos.slice hL
  have c1 := fun W h1 h2 => rcheck_any n (.slice so n.seats.length sc) (.slice lo n.ros.length lc) W h1 h2 hf.ros
  have c2 := fun W u v h1 h2 => rfind_any n id u v W h1 h2
  have cr := fun W => Go.Proofs.YtbglbegljkgknaaGreat.Addr.rright_any six a W ha
  cases hok : okN n with
  | false =>
    have e1 : checkN n = 2 := by unfold checkN; rw [hok]; rfl
    have e2 : hopN n id six a = ((0, 0), 2) := by unfold hopN; rw [hok]; rfl
    rw [e1] at c1
    rw [e2]
    exact rhop_bad so lo _ sc _ lc id six _ _ 2 0 0 n.seats n.ros w hS hL (by decide) c1
  | true =>
    have e1 : checkN n = 0 := by unfold checkN; rw [hok]; rfl
    rw [e1] at c1
    cases hr : rightB six a with
    | false =>
      have e2 : hopN n id six a = ((0, 0), 2) := by unfold hopN; rw [hok, hr]; rfl
      rw [hr] at cr
      rw [e2]
      exact rhop_off so lo _ sc _ lc id six _ _ 0 0 0 n.seats n.ros w hS hL c1 cr
    | true =>
      rw [hr] at cr
      cases hi : isN n.ros id with
      | false =>
        have e2 : hopN n id six a = ((0, 0), 0) := by unfold hopN; rw [hok, hr, hi]; rfl
        rw [(first_is hok id).2 hi] at c2
        rw [e2]
        refine rhop_ok so lo _ sc _ lc id six _ _ 0 0 0 n.seats n.ros w hS hL c1 cr (fun W u v h1 h2 => ?_)
        obtain ⟨s1, s2, rfl, _⟩ := Ord.HasRow.slice h1
        obtain ⟨s3, s4, rfl, _⟩ := HasRos.slice h2
        exact rdoes_no s1 s3 _ s2 _ s4 id six _ _ zeroRo 0 0 n.seats n.ros W h1 h2 c2
      | true =>
        obtain ⟨hp, he⟩ := is_at hi
        have hkr : okRo (wasN n.ros id) = true := by rw [← he]; exact ros_ok hok _ (List.getElem_mem hp)
        have e2 : hopN n id six a = (doesRo (wasN n.ros id) (Tr.longT (wasN n.ros id).rts six a).1.act, 0) := by
          unfold hopN hopRo
          rw [hok, hr, hi, hkr]
          rfl
        rw [(first_is hok id).1 hi] at c2
        rw [e2]
        refine rhop_ok so lo _ sc _ lc id six _ _ 0 _ _ n.seats n.ros w hS hL c1 cr (fun W u v h1 h2 => ?_)
        obtain ⟨s1, s2, rfl, _⟩ := Ord.HasRow.slice h1
        obtain ⟨s3, s4, rfl, _⟩ := HasRos.slice h2
        exact rdoes_yes s1 s3 _ s2 _ s4 id six _ _ (wasN n.ros id) _ _ n.seats n.ros W h1 h2 c2 (fun W x y h1 h2 => Fib.rdoes_any (wasN n.ros id) six a x y W h1 h2 (hf.ros _ (by rw [← he]; exact List.getElem_mem hp)) ha hkr hr)
end Go.Proofs.YtbglbegljkgknaaGreat.Nt
