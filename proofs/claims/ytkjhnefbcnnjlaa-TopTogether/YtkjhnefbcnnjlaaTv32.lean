/- (*fib.box).take. -/
import Derived.Test.YtkjhnefbcnnjlaaTv19
import Derived.Test.YtkjhnefbcnnjlaaTv30
import Derived.Test.YtkjhnefbcnnjlaaTv31
set_option linter.unusedVariables false
namespace Go.Proofs.Ytkjhnefbcnnjlaa.Fib
open Go.RowKit
open Go.Proofs.Ytkjhnefbcnnjlaa.Nw (HasRtsW HasLksW HasRtsW.mono HasLksW.mono new_nil)
open Go.Proofs.Ytkjhnefbcnnjlaa.Addr (Pf hiN loN RowAt below2 below_new RowAt.lt RowAt.cell RowAt.frozen RowAt.below RowAt.drew RowAt.new RowAt.alloc RowAt.set1 cells4 gset grefl bset)
open Go.Proofs.Ytkjhnefbcnnjlaa.Msg (Ev Ac FitE evV)
open Go.Proofs.Ytkjhnefbcnnjlaa.Lk (Lk HasLks HasLks.keep)
open Go.Proofs.Ytkjhnefbcnnjlaa.Tr (Rt HasRts HasRts.keep FitR)
/-- what take leaves, its rows in new memory -/
def TakeIsW (Z B : Nat) (w : World) (id : Int) (up : Bool) (rts : List Rt) (lks : List Lk) (why : Int) (x : Ending) (w' : World) : Prop :=
  ∃ c d, (NewV Z c ∧ NewV Z d) ∧ x = .returned (.int .i64 why) ∧ RowAt w' B [.int .i64 id, .bool up, c, d] 69 ∧ HasRts w' c rts ∧ HasLks w' d lks ∧ Below B w w'
set_option maxHeartbeats 4000000 in
set_option maxRecDepth 20000 in
theorem take1W (id : Int) (up : Bool) (rts : List Rt) (lks : List Lk) (router : Int) (seq : Nat) (time : Int) (pf : Pf) (act : Ac) (iface peer : Int) (B : Nat) (o2 o3 : Option Addr) (n2 n3 m2 m3 : Nat) (w : World) (hr : RowAt w B [.int .i64 id, .bool up, .slice o2 n2 m2, .slice o3 n3 m3] 69) (ha : HasRts w (.slice o2 n2 m2) rts) (hb : HasLks w (.slice o3 n3 m3) lks) (Z : Nat) (hZ : Z ≤ w.heap.size) (hna : NewV Z (.slice o2 n2 m2)) (hnb : NewV Z (.slice o3 n3 m3)) :
    Calls Try.prog 21 #[.pointer (some ⟨B, 0, none⟩), .agg #[.int .u8 1, .int .i64 router, .int .u64 (seq : Int), .int .i64 time, .bool pf.six, .int .u64 (hiN pf.n : Int), .int .u64 (loN pf.n : Int), .int .i64 pf.len, .int .u8 (act.k : Int), .int .i64 act.i, .int .i64 iface, .int .i64 peer]] w (TakeIsW Z B w id true rts lks 0) := by
  obtain ⟨X, hX⟩ : ∃ X, X = w.alloc (.cells #[.int .u8 1, .int .i64 router, .int .u64 (seq : Int), .int .i64 time, .bool pf.six, .int .u64 (hiN pf.n : Int), .int .u64 (loN pf.n : Int), .int .i64 pf.len, .int .u8 (act.k : Int), .int .i64 act.i, .int .i64 iface, .int .i64 peer] 49) := ⟨_, rfl⟩
  have hB : Below w.heap.size w X := by rw [hX]; exact below_new (Below.refl _ _) _
  have r0 : RowAt X w.heap.size [.int .u8 1, .int .i64 router, .int .u64 (seq : Int), .int .i64 time, .bool pf.six, .int .u64 (hiN pf.n : Int), .int .u64 (loN pf.n : Int), .int .i64 pf.len, .int .u8 (act.k : Int), .int .i64 act.i, .int .i64 iface, .int .i64 peer] 49 := by rw [hX]; exact RowAt.new _ _ _
  have r1 := RowAt.below hr hB
  have hlt := hr.lt
  have hXs := hB.size
  replace ha := ha.keep hB
  replace hb := hb.keep hB
  obtain ⟨p0, p1, p2, p3, p4, p5, p6, p7, p8, p9, p10, p11, pf0⟩ := cells12 r0
  obtain ⟨q0, q1, q2, q3, qf⟩ := cells4 r1
  clear p1 p2 p3 p4 p5 p6 p7 p8 p9 p10 p11
  have HF : Hid (RowAt (X.setCell ⟨B, 1, none⟩ (.bool true)) B [.int .i64 id, .bool true, .slice o2 n2 m2, .slice o3 n3 m3] 69 ∧ HasRts (X.setCell ⟨B, 1, none⟩ (.bool true)) (.slice o2 n2 m2) rts ∧ HasLks (X.setCell ⟨B, 1, none⟩ (.bool true)) (.slice o3 n3 m3) lks ∧ Below B w (X.setCell ⟨B, 1, none⟩ (.bool true))) := ⟨r1.set1 1 _, rts_apart ha r1 (gset (grefl _ _)), lks_apart hb r1 (gset (grefl _ _)), bset (bl_box (Nat.le_of_lt hlt) hB) (Nat.le_refl _)⟩
  clear r0 r1 ha hb hr hB
  go_enter Try.func21, Try.ntmps21
  go_upto_region 1 with fail
  rw [← hX]
  clear hX
  go_wp2_with fail
  go_ret
  exact ⟨_, _, ⟨hna, hnb⟩, rfl, HF.out⟩
set_option maxHeartbeats 4000000 in
set_option maxRecDepth 20000 in
theorem take2W (id : Int) (up : Bool) (rts : List Rt) (lks : List Lk) (router : Int) (seq : Nat) (time : Int) (pf : Pf) (act : Ac) (iface peer : Int) (B : Nat) (o2 o3 : Option Addr) (n2 n3 m2 m3 : Nat) (w : World) (hr : RowAt w B [.int .i64 id, .bool up, .slice o2 n2 m2, .slice o3 n3 m3] 69) (ha : HasRts w (.slice o2 n2 m2) rts) (hb : HasLks w (.slice o3 n3 m3) lks) (Z : Nat) (hZ : Z ≤ w.heap.size) (hna : NewV Z (.slice o2 n2 m2)) (hnb : NewV Z (.slice o3 n3 m3)) :
    Calls Try.prog 21 #[.pointer (some ⟨B, 0, none⟩), .agg #[.int .u8 2, .int .i64 router, .int .u64 (seq : Int), .int .i64 time, .bool pf.six, .int .u64 (hiN pf.n : Int), .int .u64 (loN pf.n : Int), .int .i64 pf.len, .int .u8 (act.k : Int), .int .i64 act.i, .int .i64 iface, .int .i64 peer]] w (TakeIsW Z B w id false [] [] 0) := by
  obtain ⟨X, hX⟩ : ∃ X, X = w.alloc (.cells #[.int .u8 2, .int .i64 router, .int .u64 (seq : Int), .int .i64 time, .bool pf.six, .int .u64 (hiN pf.n : Int), .int .u64 (loN pf.n : Int), .int .i64 pf.len, .int .u8 (act.k : Int), .int .i64 act.i, .int .i64 iface, .int .i64 peer] 49) := ⟨_, rfl⟩
  have hB : Below w.heap.size w X := by rw [hX]; exact below_new (Below.refl _ _) _
  have r0 : RowAt X w.heap.size [.int .u8 2, .int .i64 router, .int .u64 (seq : Int), .int .i64 time, .bool pf.six, .int .u64 (hiN pf.n : Int), .int .u64 (loN pf.n : Int), .int .i64 pf.len, .int .u8 (act.k : Int), .int .i64 act.i, .int .i64 iface, .int .i64 peer] 49 := by rw [hX]; exact RowAt.new _ _ _
  have r1 := RowAt.below hr hB
  have hlt := hr.lt
  have hXs := hB.size
  replace ha := ha.keep hB
  replace hb := hb.keep hB
  obtain ⟨p0, p1, p2, p3, p4, p5, p6, p7, p8, p9, p10, p11, pf0⟩ := cells12 r0
  obtain ⟨q0, q1, q2, q3, qf⟩ := cells4 r1
  clear p1 p2 p3 p4 p5 p6 p7 p8 p9 p10 p11
  have HF : Hid (∀ Y : World, Y = (((X.setCell ⟨B, 0, none⟩ (.int .i64 id)).setCell ⟨B, 1, none⟩ (.bool false)).setCell ⟨B, 2, none⟩ (.slice none 0 0)).setCell ⟨B, 3, none⟩ (.slice none 0 0) → RowAt Y B [.int .i64 id, .bool false, .slice none 0 0, .slice none 0 0] 69 ∧ HasRts Y (.slice none 0 0) [] ∧ HasLks Y (.slice none 0 0) [] ∧ Below B w Y) := by
    rintro Y rfl
    exact ⟨set4_row r1 _ _ _ _, Lk.hasRow_nil _ 6, Lk.hasRow_nil _ 2, set4_bl (bl_box (Nat.le_of_lt hlt) hB) (Nat.le_refl _) _ _ _ _⟩
  clear r0 r1 ha hb hr hB
  go_enter Try.func21, Try.ntmps21
  go_upto_region 1 with fail
  rw [← hX]
  clear hX
  go_wp2_with fail
  go_ret
  exact ⟨_, _, ⟨new_nil _, new_nil _⟩, rfl, HF.out _ rfl⟩
set_option maxHeartbeats 4000000 in
set_option maxRecDepth 20000 in
theorem take7W (id : Int) (up : Bool) (rts : List Rt) (lks : List Lk) (kind : Nat) (router : Int) (seq : Nat) (time : Int) (pf : Pf) (act : Ac) (iface peer : Int) (B : Nat) (o2 o3 : Option Addr) (n2 n3 m2 m3 : Nat) (w : World) (hr : RowAt w B [.int .i64 id, .bool up, .slice o2 n2 m2, .slice o3 n3 m3] 69) (ha : HasRts w (.slice o2 n2 m2) rts) (hb : HasLks w (.slice o3 n3 m3) lks) (Z : Nat) (hZ : Z ≤ w.heap.size) (hna : NewV Z (.slice o2 n2 m2)) (hnb : NewV Z (.slice o3 n3 m3)) (hk1 : ¬ kind = 1) (hk2 : ¬ kind = 2) (hk3 : ¬ kind = 3) (hk4 : ¬ kind = 4) (hk5 : ¬ kind = 5) (hk6 : ¬ kind = 6) :
    Calls Try.prog 21 #[.pointer (some ⟨B, 0, none⟩), .agg #[.int .u8 (kind : Int), .int .i64 router, .int .u64 (seq : Int), .int .i64 time, .bool pf.six, .int .u64 (hiN pf.n : Int), .int .u64 (loN pf.n : Int), .int .i64 pf.len, .int .u8 (act.k : Int), .int .i64 act.i, .int .i64 iface, .int .i64 peer]] w (TakeIsW Z B w id up rts lks 0) := by
  obtain ⟨X, hX⟩ : ∃ X, X = w.alloc (.cells #[.int .u8 (kind : Int), .int .i64 router, .int .u64 (seq : Int), .int .i64 time, .bool pf.six, .int .u64 (hiN pf.n : Int), .int .u64 (loN pf.n : Int), .int .i64 pf.len, .int .u8 (act.k : Int), .int .i64 act.i, .int .i64 iface, .int .i64 peer] 49) := ⟨_, rfl⟩
  have hB : Below w.heap.size w X := by rw [hX]; exact below_new (Below.refl _ _) _
  have r0 : RowAt X w.heap.size [.int .u8 (kind : Int), .int .i64 router, .int .u64 (seq : Int), .int .i64 time, .bool pf.six, .int .u64 (hiN pf.n : Int), .int .u64 (loN pf.n : Int), .int .i64 pf.len, .int .u8 (act.k : Int), .int .i64 act.i, .int .i64 iface, .int .i64 peer] 49 := by rw [hX]; exact RowAt.new _ _ _
  have r1 := RowAt.below hr hB
  have hlt := hr.lt
  have hXs := hB.size
  replace ha := ha.keep hB
  replace hb := hb.keep hB
  obtain ⟨p0, p1, p2, p3, p4, p5, p6, p7, p8, p9, p10, p11, pf0⟩ := cells12 r0
  obtain ⟨q0, q1, q2, q3, qf⟩ := cells4 r1
  clear p1 p2 p3 p4 p5 p6 p7 p8 p9 p10 p11
  have HF : Hid (RowAt X B [.int .i64 id, .bool up, .slice o2 n2 m2, .slice o3 n3 m3] 69 ∧ HasRts X (.slice o2 n2 m2) rts ∧ HasLks X (.slice o3 n3 m3) lks ∧ Below B w X) := ⟨r1, ha, hb, bl_box (Nat.le_of_lt hlt) hB⟩
  clear r0 r1 ha hb hr hB
  have hq1 : ((kind : Int) == 1) = false := beq_eq_false_iff_ne.2 (by omega)
  have hq2 : ((kind : Int) == 2) = false := beq_eq_false_iff_ne.2 (by omega)
  have hq3 : ((kind : Int) == 3) = false := beq_eq_false_iff_ne.2 (by omega)
  have hq4 : ((kind : Int) == 4) = false := beq_eq_false_iff_ne.2 (by omega)
  have hq5 : ((kind : Int) == 5) = false := beq_eq_false_iff_ne.2 (by omega)
  have hq6 : ((kind : Int) == 6) = false := beq_eq_false_iff_ne.2 (by omega)
  clear hk1
  clear hk2
  clear hk3
  clear hk4
  clear hk5
  clear hk6
  go_enter Try.func21, Try.ntmps21
  go_upto_region 1 with fail
  rw [← hX]
  clear hX
  go_wp2_with fail
  go_ret
  exact ⟨_, _, ⟨hna, hnb⟩, rfl, HF.out⟩
set_option maxHeartbeats 4000000 in
set_option maxRecDepth 20000 in
theorem take3W (id : Int) (up : Bool) (rts : List Rt) (lks : List Lk) (router : Int) (seq : Nat) (time : Int) (pf : Pf) (act : Ac) (iface peer : Int) (B : Nat) (o2 o3 : Option Addr) (n2 n3 m2 m3 : Nat) (w : World) (hr : RowAt w B [.int .i64 id, .bool up, .slice o2 n2 m2, .slice o3 n3 m3] 69) (ha : HasRts w (.slice o2 n2 m2) rts) (hb : HasLks w (.slice o3 n3 m3) lks) (Z : Nat) (hZ : Z ≤ w.heap.size) (hna : NewV Z (.slice o2 n2 m2)) (hnb : NewV Z (.slice o3 n3 m3))
    (CC0 : ∀ W, HasRts W (.slice o2 n2 m2) rts → Calls Try.prog 42 #[.slice o2 n2 m2, .agg #[.bool pf.six, .int .u64 (hiN pf.n : Int), .int .u64 (loN pf.n : Int), .int .i64 pf.len, .int .u8 (act.k : Int), .int .i64 act.i]] W fun e w' => ∃ u, e = .returned (.tuple #[u, .int .i64 (Tr.putT rts ⟨pf, act⟩).2]) ∧ HasRtsW W.heap.size w' u (Tr.putT rts ⟨pf, act⟩).1 ∧ Below W.heap.size W w') :
    Calls Try.prog 21 #[.pointer (some ⟨B, 0, none⟩), .agg #[.int .u8 3, .int .i64 router, .int .u64 (seq : Int), .int .i64 time, .bool pf.six, .int .u64 (hiN pf.n : Int), .int .u64 (loN pf.n : Int), .int .i64 pf.len, .int .u8 (act.k : Int), .int .i64 act.i, .int .i64 iface, .int .i64 peer]] w (TakeIsW Z B w id up (Tr.putT rts ⟨pf, act⟩).1 lks (Tr.putT rts ⟨pf, act⟩).2) := by
  obtain ⟨X, hX⟩ : ∃ X, X = w.alloc (.cells #[.int .u8 3, .int .i64 router, .int .u64 (seq : Int), .int .i64 time, .bool pf.six, .int .u64 (hiN pf.n : Int), .int .u64 (loN pf.n : Int), .int .i64 pf.len, .int .u8 (act.k : Int), .int .i64 act.i, .int .i64 iface, .int .i64 peer] 49) := ⟨_, rfl⟩
  have hB : Below w.heap.size w X := by rw [hX]; exact below_new (Below.refl _ _) _
  have r0 : RowAt X w.heap.size [.int .u8 3, .int .i64 router, .int .u64 (seq : Int), .int .i64 time, .bool pf.six, .int .u64 (hiN pf.n : Int), .int .u64 (loN pf.n : Int), .int .i64 pf.len, .int .u8 (act.k : Int), .int .i64 act.i, .int .i64 iface, .int .i64 peer] 49 := by rw [hX]; exact RowAt.new _ _ _
  have r1 := RowAt.below hr hB
  have hlt := hr.lt
  have hXs := hB.size
  replace ha := ha.keep hB
  replace hb := hb.keep hB
  obtain ⟨p0, p1, p2, p3, p4, p5, p6, p7, p8, p9, p10, p11, pf0⟩ := cells12 r0
  obtain ⟨q0, q1, q2, q3, qf⟩ := cells4 r1
  have HF : Hid (∀ (W : World) (o : Option Addr) (n m : Nat), Below X.heap.size X W → HasRts W (.slice o n m) ((Tr.putT rts ⟨pf, act⟩).1) → ∀ Y : World, Y = W.setCell ⟨B, 2, none⟩ (.slice o n m) → RowAt Y B [.int .i64 id, .bool up, .slice o n m, .slice o3 n3 m3] 69 ∧ HasRts Y (.slice o n m) (Tr.putT rts ⟨pf, act⟩).1 ∧ HasLks Y (.slice o3 n3 m3) lks ∧ Below B w Y) := by
    rintro W o n m hbW hh Y rfl
    have R1 := RowAt.below r1 hbW
    exact ⟨R1.set1 2 _, rts_apart hh R1 (gset (grefl _ _)), lks_apart (hb.keep hbW) R1 (gset (grefl _ _)), bset (bl_box (Nat.le_of_lt hlt) (below2 hB hbW)) (Nat.le_refl _)⟩
  have CC := fun (W : World) (h : Below X.heap.size X W) => CC0 W (ha.keep h)
  clear CC0
  have HR : Hid (RowAt X B [.int .i64 id, .bool up, .slice o2 n2 m2, .slice o3 n3 m3] 69) := r1
  have HE : Hid (∀ W : World, Below X.heap.size X W → W.cell? ⟨B, 2, none⟩ = some (.slice o2 n2 m2) ∧ W.frozen? ⟨B, 2, none⟩ = false) := fun W h => ⟨(RowAt.below r1 h).cell 2, (RowAt.below r1 h).frozen 2⟩
  clear r0 r1 hr
  go_enter Try.func21, Try.ntmps21
  go_upto_region 1 with fail
  rw [← hX]
  clear hX
  go_wp2_with fail
  go_region_with (first
    | (go_at_call 42
       refine (CC _ (by (repeat' (first | exact Below.refl _ _ | refine Below.drew ?_)))).mono ?_
       rintro x w1 ⟨u, rfl, ⟨hh, hnu'⟩, hb1'⟩
       have hnu : NewV Z u := hnu'.mono (Nat.le_trans hZ hXs)
       have hb1 : Below X.heap.size X w1 := below2 (by (repeat' (first | exact Below.refl _ _ | refine Below.drew ?_))) hb1'
       obtain ⟨o, c, rfl, _⟩ := Lk.HasRow.slice hh
       obtain ⟨z1, z2⟩ := HE.out _ hb1))
  all_goals go_wp2_with fail
  all_goals go_ret
  all_goals exact ⟨_, _, ⟨hnu, hnb⟩, rfl, (HF.out _ _ _ _ hb1 hh _ rfl).1, (HF.out _ _ _ _ hb1 hh _ rfl).2⟩
set_option maxHeartbeats 4000000 in
set_option maxRecDepth 20000 in
theorem take4W (id : Int) (up : Bool) (rts : List Rt) (lks : List Lk) (router : Int) (seq : Nat) (time : Int) (pf : Pf) (act : Ac) (iface peer : Int) (B : Nat) (o2 o3 : Option Addr) (n2 n3 m2 m3 : Nat) (w : World) (hr : RowAt w B [.int .i64 id, .bool up, .slice o2 n2 m2, .slice o3 n3 m3] 69) (ha : HasRts w (.slice o2 n2 m2) rts) (hb : HasLks w (.slice o3 n3 m3) lks) (Z : Nat) (hZ : Z ≤ w.heap.size) (hna : NewV Z (.slice o2 n2 m2)) (hnb : NewV Z (.slice o3 n3 m3))
    (CC0 : ∀ W, HasRts W (.slice o2 n2 m2) rts → Calls Try.prog 43 #[.slice o2 n2 m2, .agg #[.bool pf.six, .int .u64 (hiN pf.n : Int), .int .u64 (loN pf.n : Int), .int .i64 pf.len]] W fun e w' => ∃ u, e = .returned (.tuple #[u, .int .i64 (Tr.delT rts pf).2]) ∧ HasRtsW W.heap.size w' u (Tr.delT rts pf).1 ∧ Below W.heap.size W w') :
    Calls Try.prog 21 #[.pointer (some ⟨B, 0, none⟩), .agg #[.int .u8 4, .int .i64 router, .int .u64 (seq : Int), .int .i64 time, .bool pf.six, .int .u64 (hiN pf.n : Int), .int .u64 (loN pf.n : Int), .int .i64 pf.len, .int .u8 (act.k : Int), .int .i64 act.i, .int .i64 iface, .int .i64 peer]] w (TakeIsW Z B w id up (Tr.delT rts pf).1 lks 0) := by
  obtain ⟨X, hX⟩ : ∃ X, X = w.alloc (.cells #[.int .u8 4, .int .i64 router, .int .u64 (seq : Int), .int .i64 time, .bool pf.six, .int .u64 (hiN pf.n : Int), .int .u64 (loN pf.n : Int), .int .i64 pf.len, .int .u8 (act.k : Int), .int .i64 act.i, .int .i64 iface, .int .i64 peer] 49) := ⟨_, rfl⟩
  have hB : Below w.heap.size w X := by rw [hX]; exact below_new (Below.refl _ _) _
  have r0 : RowAt X w.heap.size [.int .u8 4, .int .i64 router, .int .u64 (seq : Int), .int .i64 time, .bool pf.six, .int .u64 (hiN pf.n : Int), .int .u64 (loN pf.n : Int), .int .i64 pf.len, .int .u8 (act.k : Int), .int .i64 act.i, .int .i64 iface, .int .i64 peer] 49 := by rw [hX]; exact RowAt.new _ _ _
  have r1 := RowAt.below hr hB
  have hlt := hr.lt
  have hXs := hB.size
  replace ha := ha.keep hB
  replace hb := hb.keep hB
  obtain ⟨p0, p1, p2, p3, p4, p5, p6, p7, p8, p9, p10, p11, pf0⟩ := cells12 r0
  obtain ⟨q0, q1, q2, q3, qf⟩ := cells4 r1
  have HF : Hid (∀ (W : World) (o : Option Addr) (n m : Nat), Below X.heap.size X W → HasRts W (.slice o n m) ((Tr.delT rts pf).1) → ∀ Y : World, Y = W.setCell ⟨B, 2, none⟩ (.slice o n m) → RowAt Y B [.int .i64 id, .bool up, .slice o n m, .slice o3 n3 m3] 69 ∧ HasRts Y (.slice o n m) (Tr.delT rts pf).1 ∧ HasLks Y (.slice o3 n3 m3) lks ∧ Below B w Y) := by
    rintro W o n m hbW hh Y rfl
    have R1 := RowAt.below r1 hbW
    exact ⟨R1.set1 2 _, rts_apart hh R1 (gset (grefl _ _)), lks_apart (hb.keep hbW) R1 (gset (grefl _ _)), bset (bl_box (Nat.le_of_lt hlt) (below2 hB hbW)) (Nat.le_refl _)⟩
  have CC := fun (W : World) (h : Below X.heap.size X W) => CC0 W (ha.keep h)
  clear CC0
  have HR : Hid (RowAt X B [.int .i64 id, .bool up, .slice o2 n2 m2, .slice o3 n3 m3] 69) := r1
  have HE : Hid (∀ W : World, Below X.heap.size X W → W.cell? ⟨B, 2, none⟩ = some (.slice o2 n2 m2) ∧ W.frozen? ⟨B, 2, none⟩ = false) := fun W h => ⟨(RowAt.below r1 h).cell 2, (RowAt.below r1 h).frozen 2⟩
  clear r0 r1 hr
  go_enter Try.func21, Try.ntmps21
  go_upto_region 1 with fail
  rw [← hX]
  clear hX
  go_wp2_with fail
  go_region_with (first
    | (go_at_call 43
       refine (CC _ (by (repeat' (first | exact Below.refl _ _ | refine Below.drew ?_)))).mono ?_
       rintro x w1 ⟨u, rfl, ⟨hh, hnu'⟩, hb1'⟩
       have hnu : NewV Z u := hnu'.mono (Nat.le_trans hZ hXs)
       have hb1 : Below X.heap.size X w1 := below2 (by (repeat' (first | exact Below.refl _ _ | refine Below.drew ?_))) hb1'
       obtain ⟨o, c, rfl, _⟩ := Lk.HasRow.slice hh
       obtain ⟨z1, z2⟩ := HE.out _ hb1))
  all_goals go_wp2_with fail
  all_goals go_ret
  all_goals exact ⟨_, _, ⟨hnu, hnb⟩, rfl, (HF.out _ _ _ _ hb1 hh _ rfl).1, (HF.out _ _ _ _ hb1 hh _ rfl).2⟩
set_option maxHeartbeats 4000000 in
set_option maxRecDepth 20000 in
theorem take5W (id : Int) (up : Bool) (rts : List Rt) (lks : List Lk) (router : Int) (seq : Nat) (time : Int) (pf : Pf) (act : Ac) (iface peer : Int) (B : Nat) (o2 o3 : Option Addr) (n2 n3 m2 m3 : Nat) (w : World) (hr : RowAt w B [.int .i64 id, .bool up, .slice o2 n2 m2, .slice o3 n3 m3] 69) (ha : HasRts w (.slice o2 n2 m2) rts) (hb : HasLks w (.slice o3 n3 m3) lks) (Z : Nat) (hZ : Z ≤ w.heap.size) (hna : NewV Z (.slice o2 n2 m2)) (hnb : NewV Z (.slice o3 n3 m3))
    (CC0 : ∀ W, HasLks W (.slice o3 n3 m3) lks → Calls Try.prog 44 #[.slice o3 n3 m3, .agg #[.int .i64 iface, .int .i64 peer]] W fun e w' => ∃ u, e = .returned (.tuple #[u, .int .i64 (Lk.putL lks ⟨iface, peer⟩).2]) ∧ HasLksW W.heap.size w' u (Lk.putL lks ⟨iface, peer⟩).1 ∧ Below W.heap.size W w') :
    Calls Try.prog 21 #[.pointer (some ⟨B, 0, none⟩), .agg #[.int .u8 5, .int .i64 router, .int .u64 (seq : Int), .int .i64 time, .bool pf.six, .int .u64 (hiN pf.n : Int), .int .u64 (loN pf.n : Int), .int .i64 pf.len, .int .u8 (act.k : Int), .int .i64 act.i, .int .i64 iface, .int .i64 peer]] w (TakeIsW Z B w id up rts (Lk.putL lks ⟨iface, peer⟩).1 (Lk.putL lks ⟨iface, peer⟩).2) := by
  obtain ⟨X, hX⟩ : ∃ X, X = w.alloc (.cells #[.int .u8 5, .int .i64 router, .int .u64 (seq : Int), .int .i64 time, .bool pf.six, .int .u64 (hiN pf.n : Int), .int .u64 (loN pf.n : Int), .int .i64 pf.len, .int .u8 (act.k : Int), .int .i64 act.i, .int .i64 iface, .int .i64 peer] 49) := ⟨_, rfl⟩
  have hB : Below w.heap.size w X := by rw [hX]; exact below_new (Below.refl _ _) _
  have r0 : RowAt X w.heap.size [.int .u8 5, .int .i64 router, .int .u64 (seq : Int), .int .i64 time, .bool pf.six, .int .u64 (hiN pf.n : Int), .int .u64 (loN pf.n : Int), .int .i64 pf.len, .int .u8 (act.k : Int), .int .i64 act.i, .int .i64 iface, .int .i64 peer] 49 := by rw [hX]; exact RowAt.new _ _ _
  have r1 := RowAt.below hr hB
  have hlt := hr.lt
  have hXs := hB.size
  replace ha := ha.keep hB
  replace hb := hb.keep hB
  obtain ⟨p0, p1, p2, p3, p4, p5, p6, p7, p8, p9, p10, p11, pf0⟩ := cells12 r0
  obtain ⟨q0, q1, q2, q3, qf⟩ := cells4 r1
  have HF : Hid (∀ (W : World) (o : Option Addr) (n m : Nat), Below X.heap.size X W → HasLks W (.slice o n m) ((Lk.putL lks ⟨iface, peer⟩).1) → ∀ Y : World, Y = W.setCell ⟨B, 3, none⟩ (.slice o n m) → RowAt Y B [.int .i64 id, .bool up, .slice o2 n2 m2, .slice o n m] 69 ∧ HasRts Y (.slice o2 n2 m2) rts ∧ HasLks Y (.slice o n m) (Lk.putL lks ⟨iface, peer⟩).1 ∧ Below B w Y) := by
    rintro W o n m hbW hh Y rfl
    have R1 := RowAt.below r1 hbW
    exact ⟨R1.set1 3 _, rts_apart (ha.keep hbW) R1 (gset (grefl _ _)), lks_apart hh R1 (gset (grefl _ _)), bset (bl_box (Nat.le_of_lt hlt) (below2 hB hbW)) (Nat.le_refl _)⟩
  have CC := fun (W : World) (h : Below X.heap.size X W) => CC0 W (hb.keep h)
  clear CC0
  have HR : Hid (RowAt X B [.int .i64 id, .bool up, .slice o2 n2 m2, .slice o3 n3 m3] 69) := r1
  have HE : Hid (∀ W : World, Below X.heap.size X W → W.cell? ⟨B, 3, none⟩ = some (.slice o3 n3 m3) ∧ W.frozen? ⟨B, 3, none⟩ = false) := fun W h => ⟨(RowAt.below r1 h).cell 3, (RowAt.below r1 h).frozen 3⟩
  clear r0 r1 hr
  go_enter Try.func21, Try.ntmps21
  go_upto_region 1 with fail
  rw [← hX]
  clear hX
  go_wp2_with fail
  go_region_with (first
    | (go_at_call 44
       refine (CC _ (by (repeat' (first | exact Below.refl _ _ | refine Below.drew ?_)))).mono ?_
       rintro x w1 ⟨u, rfl, ⟨hh, hnu'⟩, hb1'⟩
       have hnu : NewV Z u := hnu'.mono (Nat.le_trans hZ hXs)
       have hb1 : Below X.heap.size X w1 := below2 (by (repeat' (first | exact Below.refl _ _ | refine Below.drew ?_))) hb1'
       obtain ⟨o, c, rfl, _⟩ := Lk.HasRow.slice hh
       obtain ⟨z1, z2⟩ := HE.out _ hb1))
  all_goals go_wp2_with fail
  all_goals go_ret
  all_goals exact ⟨_, _, ⟨hna, hnu⟩, rfl, (HF.out _ _ _ _ hb1 hh _ rfl).1, (HF.out _ _ _ _ hb1 hh _ rfl).2⟩
set_option maxHeartbeats 4000000 in
set_option maxRecDepth 20000 in
theorem take6W (id : Int) (up : Bool) (rts : List Rt) (lks : List Lk) (router : Int) (seq : Nat) (time : Int) (pf : Pf) (act : Ac) (iface peer : Int) (B : Nat) (o2 o3 : Option Addr) (n2 n3 m2 m3 : Nat) (w : World) (hr : RowAt w B [.int .i64 id, .bool up, .slice o2 n2 m2, .slice o3 n3 m3] 69) (ha : HasRts w (.slice o2 n2 m2) rts) (hb : HasLks w (.slice o3 n3 m3) lks) (Z : Nat) (hZ : Z ≤ w.heap.size) (hna : NewV Z (.slice o2 n2 m2)) (hnb : NewV Z (.slice o3 n3 m3))
    (CC0 : ∀ W, HasLks W (.slice o3 n3 m3) lks → Calls Try.prog 45 #[.slice o3 n3 m3, .int .i64 iface] W fun e w' => ∃ u, e = .returned (.tuple #[u, .int .i64 (Lk.delL lks iface).2]) ∧ HasLksW W.heap.size w' u (Lk.delL lks iface).1 ∧ Below W.heap.size W w') :
    Calls Try.prog 21 #[.pointer (some ⟨B, 0, none⟩), .agg #[.int .u8 6, .int .i64 router, .int .u64 (seq : Int), .int .i64 time, .bool pf.six, .int .u64 (hiN pf.n : Int), .int .u64 (loN pf.n : Int), .int .i64 pf.len, .int .u8 (act.k : Int), .int .i64 act.i, .int .i64 iface, .int .i64 peer]] w (TakeIsW Z B w id up rts (Lk.delL lks iface).1 0) := by
  obtain ⟨X, hX⟩ : ∃ X, X = w.alloc (.cells #[.int .u8 6, .int .i64 router, .int .u64 (seq : Int), .int .i64 time, .bool pf.six, .int .u64 (hiN pf.n : Int), .int .u64 (loN pf.n : Int), .int .i64 pf.len, .int .u8 (act.k : Int), .int .i64 act.i, .int .i64 iface, .int .i64 peer] 49) := ⟨_, rfl⟩
  have hB : Below w.heap.size w X := by rw [hX]; exact below_new (Below.refl _ _) _
  have r0 : RowAt X w.heap.size [.int .u8 6, .int .i64 router, .int .u64 (seq : Int), .int .i64 time, .bool pf.six, .int .u64 (hiN pf.n : Int), .int .u64 (loN pf.n : Int), .int .i64 pf.len, .int .u8 (act.k : Int), .int .i64 act.i, .int .i64 iface, .int .i64 peer] 49 := by rw [hX]; exact RowAt.new _ _ _
  have r1 := RowAt.below hr hB
  have hlt := hr.lt
  have hXs := hB.size
  replace ha := ha.keep hB
  replace hb := hb.keep hB
  obtain ⟨p0, p1, p2, p3, p4, p5, p6, p7, p8, p9, p10, p11, pf0⟩ := cells12 r0
  obtain ⟨q0, q1, q2, q3, qf⟩ := cells4 r1
  have HF : Hid (∀ (W : World) (o : Option Addr) (n m : Nat), Below X.heap.size X W → HasLks W (.slice o n m) ((Lk.delL lks iface).1) → ∀ Y : World, Y = W.setCell ⟨B, 3, none⟩ (.slice o n m) → RowAt Y B [.int .i64 id, .bool up, .slice o2 n2 m2, .slice o n m] 69 ∧ HasRts Y (.slice o2 n2 m2) rts ∧ HasLks Y (.slice o n m) (Lk.delL lks iface).1 ∧ Below B w Y) := by
    rintro W o n m hbW hh Y rfl
    have R1 := RowAt.below r1 hbW
    exact ⟨R1.set1 3 _, rts_apart (ha.keep hbW) R1 (gset (grefl _ _)), lks_apart hh R1 (gset (grefl _ _)), bset (bl_box (Nat.le_of_lt hlt) (below2 hB hbW)) (Nat.le_refl _)⟩
  have CC := fun (W : World) (h : Below X.heap.size X W) => CC0 W (hb.keep h)
  clear CC0
  have HR : Hid (RowAt X B [.int .i64 id, .bool up, .slice o2 n2 m2, .slice o3 n3 m3] 69) := r1
  have HE : Hid (∀ W : World, Below X.heap.size X W → W.cell? ⟨B, 3, none⟩ = some (.slice o3 n3 m3) ∧ W.frozen? ⟨B, 3, none⟩ = false) := fun W h => ⟨(RowAt.below r1 h).cell 3, (RowAt.below r1 h).frozen 3⟩
  clear r0 r1 hr
  go_enter Try.func21, Try.ntmps21
  go_upto_region 1 with fail
  rw [← hX]
  clear hX
  go_wp2_with fail
  go_region_with (first
    | (go_at_call 45
       refine (CC _ (by (repeat' (first | exact Below.refl _ _ | refine Below.drew ?_)))).mono ?_
       rintro x w1 ⟨u, rfl, ⟨hh, hnu'⟩, hb1'⟩
       have hnu : NewV Z u := hnu'.mono (Nat.le_trans hZ hXs)
       have hb1 : Below X.heap.size X w1 := below2 (by (repeat' (first | exact Below.refl _ _ | refine Below.drew ?_))) hb1'
       obtain ⟨o, c, rfl, _⟩ := Lk.HasRow.slice hh
       obtain ⟨z1, z2⟩ := HE.out _ hb1))
  all_goals go_wp2_with fail
  all_goals go_ret
  all_goals exact ⟨_, _, ⟨hna, hnu⟩, rfl, (HF.out _ _ _ _ hb1 hh _ rfl).1, (HF.out _ _ _ _ hb1 hh _ rfl).2⟩
theorem take_anyW (R : Ro) (e : Ev) (B : Nat) (a b : Value) (w : World) (hr : RowAt w B [.int .i64 R.id, .bool R.up, a, b] 69) (ha : HasRts w a R.rts) (hb : HasLks w b R.lks) (Z : Nat) (hZ : Z ≤ w.heap.size) (hna : NewV Z a) (hnb : NewV Z b) (hf : ∀ x ∈ R.rts, FitR x) (he : FitE e) :
    Calls Try.prog 21 #[.pointer (some ⟨B, 0, none⟩), evV e] w (TakeIsW Z B w (takeRo R e).1.id (takeRo R e).1.up (takeRo R e).1.rts (takeRo R e).1.lks (takeRo R e).2) := by
  obtain ⟨o2, m2, rfl, _⟩ := Lk.HasRow.slice ha
  obtain ⟨o3, m3, rfl, _⟩ := Lk.HasRow.slice hb
  obtain ⟨id, up, rts, lks⟩ := R
  have h3 : FitR ⟨e.pf, e.act⟩ := ⟨⟨he.len, he.n⟩, he.act⟩
  have h4 : Tr.FitP e.pf := ⟨he.len, he.n⟩
  obtain ⟨kind, router, seq, time, pf, act, iface, peer⟩ := e
  simp only at hr ha hb hf h3 h4 hna hnb
  unfold takeRo
  simp only
  by_cases k1 : kind = 1
  · subst k1
    exact take1W id up rts lks router seq time pf act iface peer B o2 o3 _ _ m2 m3 w hr ha hb Z hZ hna hnb
  rw [if_neg k1]
  by_cases k2 : kind = 2
  · subst k2
    exact take2W id up rts lks router seq time pf act iface peer B o2 o3 _ _ m2 m3 w hr ha hb Z hZ hna hnb
  rw [if_neg k2]
  by_cases k3 : kind = 3
  · subst k3
    exact take3W id up rts lks router seq time pf act iface peer B o2 o3 _ _ m2 m3 w hr ha hb Z hZ hna hnb (fun W hW => Tr.put_new rts _ ⟨pf, act⟩ W hW hf h3)
  rw [if_neg k3]
  by_cases k4 : kind = 4
  · subst k4
    exact take4W id up rts lks router seq time pf act iface peer B o2 o3 _ _ m2 m3 w hr ha hb Z hZ hna hnb (fun W hW => Tr.del_new rts _ pf W hW hf h4)
  rw [if_neg k4]
  by_cases k5 : kind = 5
  · subst k5
    exact take5W id up rts lks router seq time pf act iface peer B o2 o3 _ _ m2 m3 w hr ha hb Z hZ hna hnb (fun W hW => Lk.put_new lks _ ⟨iface, peer⟩ W hW)
  rw [if_neg k5]
  by_cases k6 : kind = 6
  · subst k6
    exact take6W id up rts lks router seq time pf act iface peer B o2 o3 _ _ m2 m3 w hr ha hb Z hZ hna hnb (fun W hW => Lk.del_new lks _ iface W hW)
  rw [if_neg k6]
  exact take7W id up rts lks kind router seq time pf act iface peer B o2 o3 _ _ m2 m3 w hr ha hb Z hZ hna hnb k1 k2 k3 k4 k5 k6
end Go.Proofs.Ytkjhnefbcnnjlaa.Fib
