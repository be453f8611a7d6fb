/- fib.Make. -/
import Derived.Test.YtkjhnefbcnnjlaaGreatNv12
import Derived.Test.YtkjhnefbcnnjlaaGreatNv08
import Derived.Test.YtkjhnefbcnnjlaaGreatNv05
import Derived.Test.YtkjhnefbcnnjlaaGreatNv07
import Derived.Laws.ResultCell
set_option linter.unusedVariables false
namespace Go.Proofs.YtkjhnefbcnnjlaaGreat.Fib
open Go.RowKit
open Go.Proofs.YtkjhnefbcnnjlaaGreat.Addr (Pf hiN loN RowAt below2 below_new RowAt.lt RowAt.cell RowAt.frozen RowAt.below RowAt.drew RowAt.new RowAt.alloc RowAt.set1 cells4 gset grefl bset)
open Go.Proofs.YtkjhnefbcnnjlaaGreat.Msg (Ac)
open Go.Proofs.YtkjhnefbcnnjlaaGreat.Lk (Lk HasLks HasLks.keep)
open Go.Proofs.YtkjhnefbcnnjlaaGreat.Tr (Rt HasRts HasRts.keep)
set_option maxHeartbeats 4000000 in
set_option maxRecDepth 20000 in
theorem take4 (id : Int) (up : Bool) (rts : List Rt) (lks : List Lk) (router : Int) (seq : Nat) (time : Int) (pf : Pf) (act : Ac) (iface peer : Int) (B : Nat) (o2 o3 : Option Addr) (n2 n3 m2 m3 : Nat) (w : World) (hr : RowAt w B [.int .i64 id, .bool up, .slice o2 n2 m2, .slice o3 n3 m3] 105) (ha : HasRts w (.slice o2 n2 m2) rts) (hb : HasLks w (.slice o3 n3 m3) lks)
    (CC0 : ∀ W, HasRts W (.slice o2 n2 m2) rts → Calls Tryz.prog 90 #[.slice o2 n2 m2, .agg #[.bool pf.six, .int .u64 (hiN pf.n : Int), .int .u64 (loN pf.n : Int), .int .i64 pf.len]] W fun e w' => ∃ u, e = .returned (.tuple #[u, .int .i64 (Tr.delT rts pf).2]) ∧ HasRts w' u (Tr.delT rts pf).1 ∧ Below W.heap.size W w') :
    Calls Tryz.prog 60 #[.pointer (some ⟨B, 0, none⟩), .agg #[.int .u8 4, .int .i64 router, .int .u64 (seq : Int), .int .i64 time, .bool pf.six, .int .u64 (hiN pf.n : Int), .int .u64 (loN pf.n : Int), .int .i64 pf.len, .int .u8 (act.k : Int), .int .i64 act.i, .int .i64 iface, .int .i64 peer]] w (TakeIs B w id up (Tr.delT rts pf).1 lks 0) := by
  obtain ⟨X, hX⟩ : ∃ X, X = w.alloc (.cells #[.int .u8 4, .int .i64 router, .int .u64 (seq : Int), .int .i64 time, .bool pf.six, .int .u64 (hiN pf.n : Int), .int .u64 (loN pf.n : Int), .int .i64 pf.len, .int .u8 (act.k : Int), .int .i64 act.i, .int .i64 iface, .int .i64 peer] 38) := ⟨_, rfl⟩
  have hB : Below w.heap.size w X := by rw [hX]; exact below_new (Below.refl _ _) _
  have r0 : RowAt X w.heap.size [.int .u8 4, .int .i64 router, .int .u64 (seq : Int), .int .i64 time, .bool pf.six, .int .u64 (hiN pf.n : Int), .int .u64 (loN pf.n : Int), .int .i64 pf.len, .int .u8 (act.k : Int), .int .i64 act.i, .int .i64 iface, .int .i64 peer] 38 := by rw [hX]; exact RowAt.new _ _ _
  have r1 := RowAt.below hr hB
  have hlt := hr.lt
  have hXs := hB.size
  replace ha := ha.keep hB
  replace hb := hb.keep hB
  obtain ⟨p0, p1, p2, p3, p4, p5, p6, p7, p8, p9, p10, p11, pf0⟩ := cells12 r0
  obtain ⟨q0, q1, q2, q3, qf⟩ := cells4 r1
  have HF : Hid (∀ (W : World) (o : Option Addr) (n m : Nat), Below X.heap.size X W → HasRts W (.slice o n m) ((Tr.delT rts pf).1) → ∀ Y : World, Y = W.setCell ⟨B, 2, none⟩ (.slice o n m) → RowAt Y B [.int .i64 id, .bool up, .slice o n m, .slice o3 n3 m3] 105 ∧ HasRts Y (.slice o n m) (Tr.delT rts pf).1 ∧ HasLks Y (.slice o3 n3 m3) lks ∧ Below B w Y) := by
    rintro W o n m hbW hh Y rfl
    have R1 := RowAt.below r1 hbW
    exact ⟨R1.set1 2 _, rts_apart hh R1 (gset (grefl _ _)), lks_apart (hb.keep hbW) R1 (gset (grefl _ _)), bset (bl_box (Nat.le_of_lt hlt) (below2 hB hbW)) (Nat.le_refl _)⟩
  have CC := fun (W : World) (h : Below X.heap.size X W) => CC0 W (ha.keep h)
  clear CC0
  have HR : Hid (RowAt X B [.int .i64 id, .bool up, .slice o2 n2 m2, .slice o3 n3 m3] 105) := r1
  have HE : Hid (∀ W : World, Below X.heap.size X W → W.cell? ⟨B, 2, none⟩ = some (.slice o2 n2 m2) ∧ W.frozen? ⟨B, 2, none⟩ = false) := fun W h => ⟨(RowAt.below r1 h).cell 2, (RowAt.below r1 h).frozen 2⟩
  clear r0 r1 hr
  go_enter Tryz.func60, Tryz.ntmps60
  go_upto_region 1 with fail
  rw [← hX]
  clear hX
  go_wp2_with fail
  go_region_with (first
    | (go_at_call 90
       refine (CC _ (by (repeat' (first | exact Below.refl _ _ | refine Below.drew ?_)))).mono ?_
       rintro x w1 ⟨u, rfl, hh, hb1'⟩
       have hb1 : Below X.heap.size X w1 := below2 (by (repeat' (first | exact Below.refl _ _ | refine Below.drew ?_))) hb1'
       obtain ⟨o, c, rfl, _⟩ := Lk.HasRow.slice hh
       obtain ⟨z1, z2⟩ := HE.out _ hb1))
  all_goals go_wp2_with fail
  all_goals go_ret
  all_goals exact ⟨_, _, rfl, (HF.out _ _ _ _ hb1 hh _ rfl).1, (HF.out _ _ _ _ hb1 hh _ rfl).2⟩
end Go.Proofs.YtkjhnefbcnnjlaaGreat.Fib
namespace Go.Proofs.YtkjhnefbcnnjlaaGreat.Fib
open Go.RowKit
open Go.Proofs.YtkjhnefbcnnjlaaGreat.Addr (Pf hiN loN RowAt below2 below_new RowAt.lt RowAt.cell RowAt.frozen RowAt.below RowAt.drew RowAt.new RowAt.alloc RowAt.set1 cells4 gset grefl bset)
open Go.Proofs.YtkjhnefbcnnjlaaGreat.Msg (Ac)
open Go.Proofs.YtkjhnefbcnnjlaaGreat.Lk (Lk HasLks HasLks.keep)
open Go.Proofs.YtkjhnefbcnnjlaaGreat.Tr (Rt HasRts HasRts.keep)
set_option maxHeartbeats 4000000 in
set_option maxRecDepth 20000 in
theorem take5 (id : Int) (up : Bool) (rts : List Rt) (lks : List Lk) (router : Int) (seq : Nat) (time : Int) (pf : Pf) (act : Ac) (iface peer : Int) (B : Nat) (o2 o3 : Option Addr) (n2 n3 m2 m3 : Nat) (w : World) (hr : RowAt w B [.int .i64 id, .bool up, .slice o2 n2 m2, .slice o3 n3 m3] 105) (ha : HasRts w (.slice o2 n2 m2) rts) (hb : HasLks w (.slice o3 n3 m3) lks)
    (CC0 : ∀ W, HasLks W (.slice o3 n3 m3) lks → Calls Tryz.prog 91 #[.slice o3 n3 m3, .agg #[.int .i64 iface, .int .i64 peer]] W fun e w' => ∃ u, e = .returned (.tuple #[u, .int .i64 (Lk.putL lks ⟨iface, peer⟩).2]) ∧ HasLks w' u (Lk.putL lks ⟨iface, peer⟩).1 ∧ Below W.heap.size W w') :
    Calls Tryz.prog 60 #[.pointer (some ⟨B, 0, none⟩), .agg #[.int .u8 5, .int .i64 router, .int .u64 (seq : Int), .int .i64 time, .bool pf.six, .int .u64 (hiN pf.n : Int), .int .u64 (loN pf.n : Int), .int .i64 pf.len, .int .u8 (act.k : Int), .int .i64 act.i, .int .i64 iface, .int .i64 peer]] w (TakeIs B w id up rts (Lk.putL lks ⟨iface, peer⟩).1 (Lk.putL lks ⟨iface, peer⟩).2) := by
  obtain ⟨X, hX⟩ : ∃ X, X = w.alloc (.cells #[.int .u8 5, .int .i64 router, .int .u64 (seq : Int), .int .i64 time, .bool pf.six, .int .u64 (hiN pf.n : Int), .int .u64 (loN pf.n : Int), .int .i64 pf.len, .int .u8 (act.k : Int), .int .i64 act.i, .int .i64 iface, .int .i64 peer] 38) := ⟨_, rfl⟩
  have hB : Below w.heap.size w X := by rw [hX]; exact below_new (Below.refl _ _) _
  have r0 : RowAt X w.heap.size [.int .u8 5, .int .i64 router, .int .u64 (seq : Int), .int .i64 time, .bool pf.six, .int .u64 (hiN pf.n : Int), .int .u64 (loN pf.n : Int), .int .i64 pf.len, .int .u8 (act.k : Int), .int .i64 act.i, .int .i64 iface, .int .i64 peer] 38 := by rw [hX]; exact RowAt.new _ _ _
  have r1 := RowAt.below hr hB
  have hlt := hr.lt
  have hXs := hB.size
  replace ha := ha.keep hB
  replace hb := hb.keep hB
  obtain ⟨p0, p1, p2, p3, p4, p5, p6, p7, p8, p9, p10, p11, pf0⟩ := cells12 r0
  obtain ⟨q0, q1, q2, q3, qf⟩ := cells4 r1
  have HF : Hid (∀ (W : World) (o : Option Addr) (n m : Nat), Below X.heap.size X W → HasLks W (.slice o n m) ((Lk.putL lks ⟨iface, peer⟩).1) → ∀ Y : World, Y = W.setCell ⟨B, 3, none⟩ (.slice o n m) → RowAt Y B [.int .i64 id, .bool up, .slice o2 n2 m2, .slice o n m] 105 ∧ HasRts Y (.slice o2 n2 m2) rts ∧ HasLks Y (.slice o n m) (Lk.putL lks ⟨iface, peer⟩).1 ∧ Below B w Y) := by
    rintro W o n m hbW hh Y rfl
    have R1 := RowAt.below r1 hbW
    exact ⟨R1.set1 3 _, rts_apart (ha.keep hbW) R1 (gset (grefl _ _)), lks_apart hh R1 (gset (grefl _ _)), bset (bl_box (Nat.le_of_lt hlt) (below2 hB hbW)) (Nat.le_refl _)⟩
  have CC := fun (W : World) (h : Below X.heap.size X W) => CC0 W (hb.keep h)
  clear CC0
  have HR : Hid (RowAt X B [.int .i64 id, .bool up, .slice o2 n2 m2, .slice o3 n3 m3] 105) := r1
  have HE : Hid (∀ W : World, Below X.heap.size X W → W.cell? ⟨B, 3, none⟩ = some (.slice o3 n3 m3) ∧ W.frozen? ⟨B, 3, none⟩ = false) := fun W h => ⟨(RowAt.below r1 h).cell 3, (RowAt.below r1 h).frozen 3⟩
  clear r0 r1 hr
  go_enter Tryz.func60, Tryz.ntmps60
  go_upto_region 1 with fail
  rw [← hX]
  clear hX
  go_wp2_with fail
  go_region_with (first
    | (go_at_call 91
       refine (CC _ (by (repeat' (first | exact Below.refl _ _ | refine Below.drew ?_)))).mono ?_
       rintro x w1 ⟨u, rfl, hh, hb1'⟩
       have hb1 : Below X.heap.size X w1 := below2 (by (repeat' (first | exact Below.refl _ _ | refine Below.drew ?_))) hb1'
       obtain ⟨o, c, rfl, _⟩ := Lk.HasRow.slice hh
       obtain ⟨z1, z2⟩ := HE.out _ hb1))
  all_goals go_wp2_with fail
  all_goals go_ret
  all_goals exact ⟨_, _, rfl, (HF.out _ _ _ _ hb1 hh _ rfl).1, (HF.out _ _ _ _ hb1 hh _ rfl).2⟩
set_option maxHeartbeats 4000000 in
set_option maxRecDepth 20000 in
theorem take6 (id : Int) (up : Bool) (rts : List Rt) (lks : List Lk) (router : Int) (seq : Nat) (time : Int) (pf : Pf) (act : Ac) (iface peer : Int) (B : Nat) (o2 o3 : Option Addr) (n2 n3 m2 m3 : Nat) (w : World) (hr : RowAt w B [.int .i64 id, .bool up, .slice o2 n2 m2, .slice o3 n3 m3] 105) (ha : HasRts w (.slice o2 n2 m2) rts) (hb : HasLks w (.slice o3 n3 m3) lks)
    (CC0 : ∀ W, HasLks W (.slice o3 n3 m3) lks → Calls Tryz.prog 92 #[.slice o3 n3 m3, .int .i64 iface] W fun e w' => ∃ u, e = .returned (.tuple #[u, .int .i64 (Lk.delL lks iface).2]) ∧ HasLks w' u (Lk.delL lks iface).1 ∧ Below W.heap.size W w') :
    Calls Tryz.prog 60 #[.pointer (some ⟨B, 0, none⟩), .agg #[.int .u8 6, .int .i64 router, .int .u64 (seq : Int), .int .i64 time, .bool pf.six, .int .u64 (hiN pf.n : Int), .int .u64 (loN pf.n : Int), .int .i64 pf.len, .int .u8 (act.k : Int), .int .i64 act.i, .int .i64 iface, .int .i64 peer]] w (TakeIs B w id up rts (Lk.delL lks iface).1 0) := by
  obtain ⟨X, hX⟩ : ∃ X, X = w.alloc (.cells #[.int .u8 6, .int .i64 router, .int .u64 (seq : Int), .int .i64 time, .bool pf.six, .int .u64 (hiN pf.n : Int), .int .u64 (loN pf.n : Int), .int .i64 pf.len, .int .u8 (act.k : Int), .int .i64 act.i, .int .i64 iface, .int .i64 peer] 38) := ⟨_, rfl⟩
  have hB : Below w.heap.size w X := by rw [hX]; exact below_new (Below.refl _ _) _
  have r0 : RowAt X w.heap.size [.int .u8 6, .int .i64 router, .int .u64 (seq : Int), .int .i64 time, .bool pf.six, .int .u64 (hiN pf.n : Int), .int .u64 (loN pf.n : Int), .int .i64 pf.len, .int .u8 (act.k : Int), .int .i64 act.i, .int .i64 iface, .int .i64 peer] 38 := by rw [hX]; exact RowAt.new _ _ _
  have r1 := RowAt.below hr hB
  have hlt := hr.lt
  have hXs := hB.size
  replace ha := ha.keep hB
  replace hb := hb.keep hB
  obtain ⟨p0, p1, p2, p3, p4, p5, p6, p7, p8, p9, p10, p11, pf0⟩ := cells12 r0
  obtain ⟨q0, q1, q2, q3, qf⟩ := cells4 r1
  have HF : Hid (∀ (W : World) (o : Option Addr) (n m : Nat), Below X.heap.size X W → HasLks W (.slice o n m) ((Lk.delL lks iface).1) → ∀ Y : World, Y = W.setCell ⟨B, 3, none⟩ (.slice o n m) → RowAt Y B [.int .i64 id, .bool up, .slice o2 n2 m2, .slice o n m] 105 ∧ HasRts Y (.slice o2 n2 m2) rts ∧ HasLks Y (.slice o n m) (Lk.delL lks iface).1 ∧ Below B w Y) := by
    rintro W o n m hbW hh Y rfl
    have R1 := RowAt.below r1 hbW
    exact ⟨R1.set1 3 _, rts_apart (ha.keep hbW) R1 (gset (grefl _ _)), lks_apart hh R1 (gset (grefl _ _)), bset (bl_box (Nat.le_of_lt hlt) (below2 hB hbW)) (Nat.le_refl _)⟩
  have CC := fun (W : World) (h : Below X.heap.size X W) => CC0 W (hb.keep h)
  clear CC0
  have HR : Hid (RowAt X B [.int .i64 id, .bool up, .slice o2 n2 m2, .slice o3 n3 m3] 105) := r1
  have HE : Hid (∀ W : World, Below X.heap.size X W → W.cell? ⟨B, 3, none⟩ = some (.slice o3 n3 m3) ∧ W.frozen? ⟨B, 3, none⟩ = false) := fun W h => ⟨(RowAt.below r1 h).cell 3, (RowAt.below r1 h).frozen 3⟩
  clear r0 r1 hr
  go_enter Tryz.func60, Tryz.ntmps60
  go_upto_region 1 with fail
  rw [← hX]
  clear hX
  go_wp2_with fail
  go_region_with (first
    | (go_at_call 92
       refine (CC _ (by (repeat' (first | exact Below.refl _ _ | refine Below.drew ?_)))).mono ?_
       rintro x w1 ⟨u, rfl, hh, hb1'⟩
       have hb1 : Below X.heap.size X w1 := below2 (by (repeat' (first | exact Below.refl _ _ | refine Below.drew ?_))) hb1'
       obtain ⟨o, c, rfl, _⟩ := Lk.HasRow.slice hh
       obtain ⟨z1, z2⟩ := HE.out _ hb1))
  all_goals go_wp2_with fail
  all_goals go_ret
  all_goals exact ⟨_, _, rfl, (HF.out _ _ _ _ hb1 hh _ rfl).1, (HF.out _ _ _ _ hb1 hh _ rfl).2⟩
end Go.Proofs.YtkjhnefbcnnjlaaGreat.Fib
namespace Go.Proofs.YtkjhnefbcnnjlaaGreat.Fib
open Go.RowKit
open Go.Proofs.YtkjhnefbcnnjlaaGreat.Addr (RowAt)
open Go.Proofs.YtkjhnefbcnnjlaaGreat.Msg (Ev FitE evV)
open Go.Proofs.YtkjhnefbcnnjlaaGreat.Lk (Lk HasLks)
open Go.Proofs.YtkjhnefbcnnjlaaGreat.Tr (HasRts FitR)
theorem take_any (R : Ro) (e : Ev) (B : Nat) (a b : Value) (w : World) (hr : RowAt w B [.int .i64 R.id, .bool R.up, a, b] 105) (ha : HasRts w a R.rts) (hb : HasLks w b R.lks) (hf : ∀ x ∈ R.rts, FitR x) (he : FitE e) :
    Calls Tryz.prog 60 #[.pointer (some ⟨B, 0, none⟩), evV e] w (TakeIs B w (takeRo R e).1.id (takeRo R e).1.up (takeRo R e).1.rts (takeRo R e).1.lks (takeRo R e).2) := by
  obtain ⟨o2, m2, rfl, _⟩ := Lk.HasRow.slice ha
  obtain ⟨o3, m3, rfl, _⟩ := Lk.HasRow.slice hb
  obtain ⟨id, up, rts, lks⟩ := R
  have h3 : FitR ⟨e.pf, e.act⟩ := ⟨⟨he.len, he.n⟩, he.act⟩
  have h4 : Tr.FitP e.pf := ⟨he.len, he.n⟩
  obtain ⟨kind, router, seq, time, pf, act, iface, peer⟩ := e
  simp only at hr ha hb hf h3 h4
  unfold takeRo
  simp only
  by_cases k1 : kind = 1
  · subst k1
    exact take1 id up rts lks router seq time pf act iface peer B o2 o3 _ _ m2 m3 w hr ha hb
  rw [if_neg k1]
  by_cases k2 : kind = 2
  · subst k2
    exact take2 id up rts lks router seq time pf act iface peer B o2 o3 _ _ m2 m3 w hr ha hb
  rw [if_neg k2]
  by_cases k3 : kind = 3
  · subst k3
    exact take3 id up rts lks router seq time pf act iface peer B o2 o3 _ _ m2 m3 w hr ha hb (fun W hW => Tr.put_any rts _ ⟨pf, act⟩ W hW hf h3)
  rw [if_neg k3]
  by_cases k4 : kind = 4
  · subst k4
    exact take4 id up rts lks router seq time pf act iface peer B o2 o3 _ _ m2 m3 w hr ha hb (fun W hW => Tr.del_any rts _ pf W hW hf h4)
  rw [if_neg k4]
  by_cases k5 : kind = 5
  · subst k5
    exact take5 id up rts lks router seq time pf act iface peer B o2 o3 _ _ m2 m3 w hr ha hb (fun W hW => Lk.put_any lks _ ⟨iface, peer⟩ W hW)
  rw [if_neg k5]
  by_cases k6 : kind = 6
  · subst k6
    exact take6 id up rts lks router seq time pf act iface peer B o2 o3 _ _ m2 m3 w hr ha hb (fun W hW => Lk.del_any lks _ iface W hW)
  rw [if_neg k6]
  exact take7 id up rts lks kind router seq time pf act iface peer B o2 o3 _ _ m2 m3 w hr ha hb k1 k2 k3 k4 k5 k6
end Go.Proofs.YtkjhnefbcnnjlaaGreat.Fib
namespace Go.Proofs.YtkjhnefbcnnjlaaGreat.Fib
open Go.RowKit
open Go.Proofs.YtkjhnefbcnnjlaaGreat.Addr (RowAt below2 below_new RowAt.below RowAt.new RowAt.alloc cells4)
open Go.Proofs.YtkjhnefbcnnjlaaGreat.Lk (Lk HasLks HasLks.keep okL checkL)
open Go.Proofs.YtkjhnefbcnnjlaaGreat.Tr (HasRts HasRts.keep okT checkT FitR)
theorem mayBe_any (i : Int) (w : World) : Calls Tryz.prog 46 #[.int .i64 i] w fun e w' => e = .returned (.bool (okId i)) ∧ Below w.heap.size w w' := by
  have HD : Hid (okId i = (decide (0 ≤ i) && decide (i ≤ 1048576))) := rfl
  rw [HD.out]
  by_cases h1 : 0 ≤ i
  · by_cases h2 : i ≤ 1048576
    · have e : (decide (0 ≤ i) && decide (i ≤ 1048576)) = true := by simp [h1, h2]
      rw [e]
      go_enter Tryz.func46, Tryz.ntmps46
      go_wp2_with fail
      go_ret
      exact ⟨rfl, Below.refl _ _⟩
    · have e : (decide (0 ≤ i) && decide (i ≤ 1048576)) = false := by simp [h1, h2]
      rw [e]
      go_enter Tryz.func46, Tryz.ntmps46
      go_wp2_with fail
      go_ret
      exact ⟨rfl, Below.refl _ _⟩
  · have e : (decide (0 ≤ i) && decide (i ≤ 1048576)) = false := by simp [h1]
    rw [e]
    go_enter Tryz.func46, Tryz.ntmps46
    go_wp2_with fail
    go_ret
    exact ⟨rfl, Below.refl _ _⟩
theorem size_any (R : Ro) (a b : Value) (w : World) (ha : HasRts w a R.rts) (hb : HasLks w b R.lks) (h1 : R.rts.length ≤ 1000) (h2 : R.lks.length ≤ 1000) :
    Calls Tryz.prog 49 #[.agg #[.int .i64 R.id, .bool R.up, a, b]] w fun e w' => e = .returned (.int .i64 ((R.rts.length + R.lks.length : Nat) : Int)) ∧ Below w.heap.size w w' := by
  obtain ⟨oa, ca, rfl, hc1, hc2⟩ := Lk.HasRow.slice ha
  obtain ⟨ob, cb, rfl, hc3, hc4⟩ := Lk.HasRow.slice hb
  clear ha hb
  obtain ⟨X, hX⟩ : ∃ X, X = w.alloc (.cells #[.int .i64 R.id, .bool R.up, .slice oa R.rts.length ca, .slice ob R.lks.length cb] 51) := ⟨_, rfl⟩
  have hB : Below w.heap.size w X := by rw [hX]; exact below_new (Below.refl _ _) _
  have r0 : RowAt X w.heap.size [.int .i64 R.id, .bool R.up, .slice oa R.rts.length ca, .slice ob R.lks.length cb] 51 := by rw [hX]; exact RowAt.new _ _ _
  have hcast : ((R.rts.length + R.lks.length : Nat) : Int) = (R.rts.length : Int) + (R.lks.length : Int) := by omega
  rw [hcast]
  generalize R.rts.length = n at *
  generalize R.lks.length = m at *
  have hw : IntKind.i64.wrap ((n : Int) + (m : Int)) = (n : Int) + (m : Int) := by rw [IntKind.wrap_i64]; omega
  go_enter Tryz.func49, Tryz.ntmps49
  go_upto_region 1 with fail
  rw [← hX]
  clear hX
  obtain ⟨p0, p1, p2, p3, pf⟩ := cells4 r0
  go_wp2_with fail
  go_ret
  exact ⟨rfl, hB⟩
set_option maxHeartbeats 2000000 in
theorem check_any (R : Ro) (a b : Value) (w : World) (ha : HasRts w a R.rts) (hb : HasLks w b R.lks) (hf : ∀ x ∈ R.rts, FitR x) :
    Calls Tryz.prog 23 #[.agg #[.int .i64 R.id, .bool R.up, a, b]] w fun e w' => e = .returned (.int .i64 (checkRo R)) ∧ Below w.heap.size w w' := by
  have c0 := fun W => mayBe_any R.id W
  have c1 := fun W (h : HasRts W a R.rts) => Tr.check_any R.rts a W h hf
  have c2 := fun W (h : HasLks W b R.lks) => Lk.check_any R.lks b W h
  have c3 := fun W (h : HasRts W a R.rts) (h' : HasLks W b R.lks) h1 h2 => size_any R a b W h h' h1 h2
  have hT : okT R.rts = true → R.rts.length ≤ 256 := fun h => ((Tr.okT_iff _).1 h).1
  have hL : okL R.lks = true → R.lks.length ≤ 32 := fun h => Lk.okL_len2 h
  have e1 : checkT R.rts = if okT R.rts then 0 else 2 := rfl
  have e2 : checkL R.lks = if okL R.lks then 0 else 2 := rfl
  have e3 : checkRo R = if okId R.id && okT R.rts && okL R.lks && (R.up || decide (R.rts.length + R.lks.length = 0)) then 0 else 2 := rfl
  rw [e1] at c1
  rw [e2] at c2
  obtain ⟨C, hC⟩ : ∃ C, C = checkRo R := ⟨_, rfl⟩
  rw [← hC]
  have HC : Hid (C = if okId R.id && okT R.rts && okL R.lks && (R.up || decide (R.rts.length + R.lks.length = 0)) then 0 else 2) := hC.trans e3
  clear e1 e2 e3 hC
  obtain ⟨X, hX⟩ : ∃ X, X = w.alloc (.cells #[.int .i64 R.id, .bool R.up, a, b] 51) := ⟨_, rfl⟩
  have hB : Below w.heap.size w X := by rw [hX]; exact below_new (Below.refl _ _) _
  have r0 : RowAt X w.heap.size [.int .i64 R.id, .bool R.up, a, b] 51 := by rw [hX]; exact RowAt.new _ _ _
  have oa : a.oneCell' = true := by obtain ⟨o, c, rfl, _⟩ := Lk.HasRow.slice ha; rfl
  have ob : b.oneCell' = true := by obtain ⟨o, c, rfl, _⟩ := Lk.HasRow.slice hb; rfl
  obtain ⟨o1, n1, m1, rfl⟩ : ∃ o n m, a = .slice o n m := by obtain ⟨o, c, rfl, _⟩ := Lk.HasRow.slice ha; exact ⟨_, _, _, rfl⟩
  obtain ⟨o2, n2, m2, rfl⟩ : ∃ o n m, b = .slice o n m := by obtain ⟨o, c, rfl, _⟩ := Lk.HasRow.slice hb; exact ⟨_, _, _, rfl⟩
  clear oa ob
  go_enter Tryz.func23, Tryz.ntmps23
  go_upto_region 1 with fail
  rw [← hX]
  clear hX
  replace ha := ha.keep hB
  replace hb := hb.keep hB
  obtain ⟨p0, p1, p2, p3, pf⟩ := cells4 r0
  go_wp2_with fail
  clear p0 p1 p2 p3 pf
  go_at_call 46; refine (c0 _).mono ?_; rintro e w1 ⟨rfl, hb1⟩
  replace hB := below2 hB hb1
  replace ha := ha.keep hb1
  replace hb := hb.keep hb1
  replace r0 := RowAt.below r0 hb1
  clear hb1 c0
  cases hI : okId R.id
  · go_wp2_with fail
    go_ret
    exact ⟨by rw [HC.out, hI]; rfl, hB⟩
  obtain ⟨p0, p1, p2, p3, pf⟩ := cells4 r0
  go_wp2_with fail
  clear p0 p1 p2 p3 pf
  go_at_call 47; refine (c1 _ ha).mono ?_; rintro e w2 ⟨rfl, hb2⟩
  replace hB := below2 hB hb2
  replace ha := ha.keep hb2
  replace hb := hb.keep hb2
  replace r0 := RowAt.below r0 hb2
  clear hb2 c1
  cases hKT : okT R.rts
  · go_wp2_with fail
    go_ret
    exact ⟨by rw [HC.out, hI, hKT]; rfl, hB⟩
  replace hT := hT hKT
  obtain ⟨p0, p1, p2, p3, pf⟩ := cells4 r0
  go_wp2_with fail
  clear p0 p1 p2 p3 pf
  go_at_call 48; refine (c2 _ hb).mono ?_; rintro e w3 ⟨rfl, hb3⟩
  replace hB := below2 hB hb3
  replace ha := ha.keep hb3
  replace hb := hb.keep hb3
  replace r0 := RowAt.below r0 hb3
  clear hb3 c2
  cases hKL : okL R.lks
  · go_wp2_with fail
    go_ret
    exact ⟨by rw [HC.out, hI, hKT, hKL]; rfl, hB⟩
  replace hL := hL hKL
  obtain ⟨p0, p1, p2, p3, pf⟩ := cells4 r0
  cases hU : R.up
  · rw [hU] at p1 c3
    go_wp2_with fail
    clear p0 p1 p2 p3 pf
    go_at_call 49; refine (c3 _ ha hb (by omega) (by omega)).mono ?_; rintro e w4 ⟨rfl, hb4⟩
    replace hB := below2 hB hb4
    clear ha hb
    by_cases hs : R.rts.length + R.lks.length = 0
    · have HV : Hid (C = 0) := by show _ = _; rw [HC.out, hI, hKT, hKL, hU, hs]; rfl
      rw [hs]
      go_wp2_with fail
      go_ret
      exact ⟨by rw [HV.out]; rfl, hB⟩
    · have hs2 : decide (R.rts.length + R.lks.length = 0) = false := by simpa using hs
      have HV : Hid (C = 2) := by show _ = _; rw [HC.out, hI, hKT, hKL, hU, hs2]; rfl
      clear HC
      generalize R.rts.length + R.lks.length = s at *
      have hs1 : ((s : Int) > 0) := by omega
      go_wp2_with fail
      go_ret
      exact ⟨by rw [HV.out]; rfl, hB⟩
  · rw [hU] at p1
    go_wp2_with fail
    go_ret
    exact ⟨by rw [HC.out, hI, hKT, hKL, hU]; rfl, hB⟩
end Go.Proofs.YtkjhnefbcnnjlaaGreat.Fib
namespace Go.Proofs.YtkjhnefbcnnjlaaGreat.Fib
open Go.RowKit
open Go.Proofs.YtkjhnefbcnnjlaaGreat.Addr (hiN loN RowAt below2 below_new RowAt.lt RowAt.below RowAt.new RowAt.alloc cells4)
open Go.Proofs.YtkjhnefbcnnjlaaGreat.Msg (Ev okE FitE evV checkE)
open Go.Proofs.YtkjhnefbcnnjlaaGreat.Lk (Lk HasLks HasLks.keep)
open Go.Proofs.YtkjhnefbcnnjlaaGreat.Tr (HasRts HasRts.keep)
/-- a router is answered, with an error -/
def RoIs (R : Ro) (why : Int) (w : World) (e : Ending) (w' : World) : Prop :=
  ∃ o2 n2 m2 o3 n3 m3, e = .returned (.tuple #[.agg #[.int .i64 R.id, .bool R.up, .slice o2 n2 m2, .slice o3 n3 m3], .int .i64 why]) ∧ HasRts w' (.slice o2 n2 m2) R.rts ∧ HasLks w' (.slice o3 n3 m3) R.lks ∧ Below w.heap.size w w'
theorem ro_nil (w : World) : HasRts w (.slice none 0 0) [] ∧ HasLks w (.slice none 0 0) [] := ⟨Lk.hasRow_nil _ 6, Lk.hasRow_nil _ 2⟩
set_option maxHeartbeats 4000000 in
set_option maxRecDepth 20000 in
theorem apply_any (R : Ro) (e : Ev) (a b : Value) (w : World) (ha : HasRts w a R.rts) (hb : HasLks w b R.lks) (hf : FitRo R) (he : FitE e) :
    Calls Tryz.prog 33 #[.agg #[.int .i64 R.id, .bool R.up, a, b], evV e] w (RoIs (applyRo R e).1 (applyRo R e).2 w) := by
  obtain ⟨o2, m2, rfl, _⟩ := Lk.HasRow.slice ha
  obtain ⟨o3, m3, rfl, _⟩ := Lk.HasRow.slice hb
  have cC := fun W (h : HasRts W (.slice o2 R.rts.length m2) R.rts) (h' : HasLks W (.slice o3 R.lks.length m3) R.lks) => check_any R _ _ W h h' hf.rts
  have cM := fun W => Msg.echeck_any e W he
  have cF := fun W (h : HasRts W (.slice o2 R.rts.length m2) R.rts) (h' : HasLks W (.slice o3 R.lks.length m3) R.lks) h1 h2 => fresh_any R _ _ W h h' h1 h2
  have cX := fun W B c d (hr : RowAt W B [.int .i64 R.id, .bool R.up, c, d] 105) => misfit_any R e B c d W hr
  have cT := fun W B c d (hr : RowAt W B [.int .i64 R.id, .bool R.up, c, d] 105) (h : HasRts W c R.rts) (h' : HasLks W d R.lks) => take_any R e B c d W hr h h' hf.rts he
  have hck : checkRo R = if okRo R then 0 else 2 := rfl
  have hce : checkE e = if okE e then 0 else 2 := rfl
  rw [hck] at cC
  rw [hce] at cM
  clear hck hce
  have hl : okRo R = true → R.rts.length ≤ 1000 ∧ R.lks.length ≤ 1000 := fun h => by have := okRo_parts h; omega
  have hA : applyRo R e = if okRo R && okE e then (if misRo R e = 0 then takeRo R e else (R, misRo R e)) else (zeroRo, 2) := rfl
  generalize applyRo R e = A at hA ⊢
  generalize takeRo R e = T at hA cT
  generalize misRo R e = M at hA cX
  generalize okE e = ke at hA cM
  generalize okRo R = kr at hA cC hl
  obtain ⟨id, up, rts, lks⟩ := R
  obtain ⟨kind, router, seq, time, pf, act, iface, peer⟩ := e
  simp only at ha hb cC cF cX cT hl hA
  generalize rts.length = n2 at *
  generalize lks.length = n3 at *
  replace cM : ∀ W, Calls Tryz.prog 58 #[.agg #[.int .u8 (kind : Int), .int .i64 router, .int .u64 (seq : Int), .int .i64 time, .bool pf.six, .int .u64 (hiN pf.n : Int), .int .u64 (loN pf.n : Int), .int .i64 pf.len, .int .u8 (act.k : Int), .int .i64 act.i, .int .i64 iface, .int .i64 peer]] W fun r w' => r = .returned (.int .i64 (if ke then 0 else 2)) ∧ Below W.heap.size W w' := cM
  replace cX : ∀ W B c d, RowAt W B [.int .i64 id, .bool up, c, d] 105 → Calls Tryz.prog 59 #[.pointer (some ⟨B, 0, none⟩), .agg #[.int .u8 (kind : Int), .int .i64 router, .int .u64 (seq : Int), .int .i64 time, .bool pf.six, .int .u64 (hiN pf.n : Int), .int .u64 (loN pf.n : Int), .int .i64 pf.len, .int .u8 (act.k : Int), .int .i64 act.i, .int .i64 iface, .int .i64 peer]] W fun x w' => x = .returned (.int .i64 M) ∧ Below W.heap.size W w' := cX
  replace cT : ∀ W B c d, RowAt W B [.int .i64 id, .bool up, c, d] 105 → HasRts W c rts → HasLks W d lks → Calls Tryz.prog 60 #[.pointer (some ⟨B, 0, none⟩), .agg #[.int .u8 (kind : Int), .int .i64 router, .int .u64 (seq : Int), .int .i64 time, .bool pf.six, .int .u64 (hiN pf.n : Int), .int .u64 (loN pf.n : Int), .int .i64 pf.len, .int .u8 (act.k : Int), .int .i64 act.i, .int .i64 iface, .int .i64 peer]] W (TakeIs B W T.1.id T.1.up T.1.rts T.1.lks T.2) := cT
  show Calls Tryz.prog 33 #[.agg #[.int .i64 id, .bool up, .slice o2 n2 m2, .slice o3 n3 m3], .agg #[.int .u8 (kind : Int), .int .i64 router, .int .u64 (seq : Int), .int .i64 time, .bool pf.six, .int .u64 (hiN pf.n : Int), .int .u64 (loN pf.n : Int), .int .i64 pf.len, .int .u8 (act.k : Int), .int .i64 act.i, .int .i64 iface, .int .i64 peer]] w (RoIs A.1 A.2 w)
  obtain ⟨X, hX⟩ : ∃ X, X = ((w.alloc (.cells #[.int .i64 id, .bool up, .slice o2 n2 m2, .slice o3 n3 m3] 51)).alloc (.cells #[.int .u8 (kind : Int), .int .i64 router, .int .u64 (seq : Int), .int .i64 time, .bool pf.six, .int .u64 (hiN pf.n : Int), .int .u64 (loN pf.n : Int), .int .i64 pf.len, .int .u8 (act.k : Int), .int .i64 act.i, .int .i64 iface, .int .i64 peer] 38)).alloc (.cells #[.int .i64 0, .bool false, .slice none 0 0, .slice none 0 0] 51) := ⟨_, rfl⟩
  have hB : Below w.heap.size w X := by rw [hX]; exact below_new (below_new (below_new (Below.refl _ _) _) _) _
  have r0 : RowAt X w.heap.size [.int .i64 id, .bool up, .slice o2 n2 m2, .slice o3 n3 m3] 51 := by rw [hX]; exact ((RowAt.new _ _ _).alloc _).alloc _
  have r1 : RowAt X (w.heap.size + 1) [.int .u8 (kind : Int), .int .i64 router, .int .u64 (seq : Int), .int .i64 time, .bool pf.six, .int .u64 (hiN pf.n : Int), .int .u64 (loN pf.n : Int), .int .i64 pf.len, .int .u8 (act.k : Int), .int .i64 act.i, .int .i64 iface, .int .i64 peer] 38 := by rw [hX, ← World.size_alloc w (.cells #[.int .i64 id, .bool up, .slice o2 n2 m2, .slice o3 n3 m3] 51)]; exact (RowAt.new _ _ _).alloc _
  have r2 : RowAt X (w.heap.size + 2) [.int .i64 0, .bool false, .slice none 0 0, .slice none 0 0] 51 := by rw [hX, show w.heap.size + 2 = ((w.alloc (.cells #[.int .i64 id, .bool up, .slice o2 n2 m2, .slice o3 n3 m3] 51)).alloc (.cells #[.int .u8 (kind : Int), .int .i64 router, .int .u64 (seq : Int), .int .i64 time, .bool pf.six, .int .u64 (hiN pf.n : Int), .int .u64 (loN pf.n : Int), .int .i64 pf.len, .int .u8 (act.k : Int), .int .i64 act.i, .int .i64 iface, .int .i64 peer] 38)).heap.size by simp]; exact RowAt.new _ _ _
  replace ha := ha.keep hB
  replace hb := hb.keep hB
  clear hf he
  have HA : Hid (A = if kr && ke then (if M = 0 then T else (⟨id, up, rts, lks⟩, M)) else (zeroRo, 2)) := hA
  clear hA
  have c25 := fun (W : World) => ro_nil W
  cases kr
  · have HV : Hid (A = (zeroRo, 2)) := HA.out
    clear HA cM cF cX cT hl
    simp only [Bool.false_eq_true, if_false] at cC
    go_enter Tryz.func33, Tryz.ntmps33
    go_upto_region 1 with fail
    rw [← hX]
    clear hX
    obtain ⟨p0, p1, p2, p3, pf0⟩ := cells4 r0
    go_wp2_with fail
    clear p0 p1 p2 p3 pf0
    go_at_call 23; refine (cC _ ha hb).mono ?_; rintro x w1 ⟨rfl, hb1⟩
    replace hB := below2 hB hb1
    obtain ⟨q0, q1, q2, q3, qf⟩ := cells4 (RowAt.below r2 hb1)
    clear hb1 cC
    go_wp2_with fail
    (try simp only [Exit.inBlock, Exit.then])
    refine bodyPost_ret (v := .tuple #[.agg #[.int .i64 0, .bool false, .slice none 0 0, .slice none 0 0], .int .i64 2]) ?_ rfl ⟨none, 0, 0, none, 0, 0, by rw [HV.out]; rfl, by rw [HV.out]; exact (c25 _).1, by rw [HV.out]; exact (c25 _).2, ?_⟩
    · rw [results_cell_tmp rfl]
      go_simp
    · exact set4_bl hB (by omega) _ _ _ _
  simp only [if_true] at cC
  cases ke
  · have HV : Hid (A = (zeroRo, 2)) := HA.out
    clear HA cF cX cT hl
    simp only [Bool.false_eq_true, if_false] at cM
    go_enter Tryz.func33, Tryz.ntmps33
    go_upto_region 1 with fail
    rw [← hX]
    clear hX
    obtain ⟨p0, p1, p2, p3, pf0⟩ := cells4 r0
    go_wp2_with fail
    clear p0 p1 p2 p3 pf0
    go_at_call 23; refine (cC _ ha hb).mono ?_; rintro x w1 ⟨rfl, hb1⟩
    replace hB := below2 hB hb1
    replace r1 := RowAt.below r1 hb1
    replace r2 := RowAt.below r2 hb1
    obtain ⟨p0, p1, p2, p3, p4, p5, p6, p7, p8, p9, p10, p11, pf0⟩ := cells12 r1
    clear hb1 cC
    go_wp2_with fail
    clear p0 p1 p2 p3 p4 p5 p6 p7 p8 p9 p10 p11 pf0
    go_at_call 58; refine (cM _).mono ?_; rintro x w2 ⟨rfl, hb2⟩
    replace hB := below2 hB hb2
    obtain ⟨q0, q1, q2, q3, qf⟩ := cells4 (RowAt.below r2 hb2)
    clear hb2 cM
    go_wp2_with fail
    (try simp only [Exit.inBlock, Exit.then])
    refine bodyPost_ret (v := .tuple #[.agg #[.int .i64 0, .bool false, .slice none 0 0, .slice none 0 0], .int .i64 2]) ?_ rfl ⟨none, 0, 0, none, 0, 0, by rw [HV.out]; rfl, by rw [HV.out]; exact (c25 _).1, by rw [HV.out]; exact (c25 _).2, ?_⟩
    · rw [results_cell_tmp rfl]
      go_simp
    · exact set4_bl hB (by omega) _ _ _ _
  simp only [if_true] at cM
  obtain ⟨hl1, hl2⟩ := hl rfl
  have HV : Hid (A = if M = 0 then T else (⟨id, up, rts, lks⟩, M)) := HA.out
  have HX := Nat.le_refl w.heap.size
  clear HA hl
  go_enter Tryz.func33, Tryz.ntmps33
  go_upto_region 1 with fail
  rw [← hX]
  clear hX
  obtain ⟨p0, p1, p2, p3, pf0⟩ := cells4 r0
  go_wp2_with fail
  clear p0 p1 p2 p3 pf0
  go_at_call 23; refine (cC _ ha hb).mono ?_; rintro x w1 ⟨rfl, hb1⟩
  replace hB := below2 hB hb1
  replace r0 := RowAt.below r0 hb1
  replace r1 := RowAt.below r1 hb1
  replace r2 := RowAt.below r2 hb1
  replace ha := ha.keep hb1
  replace hb := hb.keep hb1
  obtain ⟨p0, p1, p2, p3, p4, p5, p6, p7, p8, p9, p10, p11, pf0⟩ := cells12 r1
  clear hb1 cC
  go_wp2_with fail
  clear p0 p1 p2 p3 p4 p5 p6 p7 p8 p9 p10 p11 pf0
  go_at_call 58; refine (cM _).mono ?_; rintro x w2 ⟨rfl, hb2⟩
  replace hB := below2 hB hb2
  replace r0 := RowAt.below r0 hb2
  replace r1 := RowAt.below r1 hb2
  replace r2 := RowAt.below r2 hb2
  replace ha := ha.keep hb2
  replace hb := hb.keep hb2
  clear hb2 cM
  obtain ⟨p0, p1, p2, p3, pf0⟩ := cells4 r0
  go_wp2_with fail
  clear p0 p1 p2 p3 pf0
  go_at_call 30; refine (cF _ ha hb hl1 hl2).mono ?_; rintro x w3 ⟨c, d, rfl, hc, hd, hb3⟩
  replace hB := below2 hB hb3
  replace r1 := RowAt.below r1 hb3
  replace r2 := RowAt.below r2 hb3
  clear hb3 cF r0 ha hb
  obtain ⟨o4, m4, rfl, _⟩ := Lk.HasRow.slice hc
  obtain ⟨o5, m5, rfl, _⟩ := Lk.HasRow.slice hd
  generalize rts.length = n4 at *
  generalize lks.length = n5 at *
  obtain ⟨Y, hY⟩ : ∃ Y, Y = w3.alloc (.cells #[.int .i64 id, .bool up, .slice o4 n4 m4, .slice o5 n5 m5] 105) := ⟨_, rfl⟩
  have hbY : Below w3.heap.size w3 Y := by rw [hY]; exact below_new (Below.refl _ _) _
  have r3 : RowAt Y w3.heap.size [.int .i64 id, .bool up, .slice o4 n4 m4, .slice o5 n5 m5] 105 := by rw [hY]; exact RowAt.new _ _ _
  have hwB : w.heap.size ≤ w3.heap.size := hB.size
  replace hB := below2 hB hbY
  replace r1 := RowAt.below r1 hbY
  have hr2l := r2.lt
  replace r2 := RowAt.below r2 hbY
  replace hc := hc.keep hbY
  replace hd := hd.keep hbY
  go_upto_region 4 with fail
  rw [← hY]
  clear hY
  generalize w3.heap.size = B at *
  clear hbY
  obtain ⟨p0, p1, p2, p3, p4, p5, p6, p7, p8, p9, p10, p11, pf0⟩ := cells12 r1
  go_wp2_with fail
  clear p0 p1 p2 p3 p4 p5 p6 p7 p8 p9 p10 p11 pf0
  go_at_call 59; refine (cX _ _ _ _ r3).mono ?_; rintro x w4 ⟨rfl, hb4⟩
  replace hB := below2 hB hb4
  replace r1 := RowAt.below r1 hb4
  replace r2 := RowAt.below r2 hb4
  replace r3 := RowAt.below r3 hb4
  replace hc := hc.keep hb4
  replace hd := hd.keep hb4
  clear hb4 cX
  by_cases hM : M = 0
  · have HW : Hid (A = T) := by show _ = _; rw [HV.out, if_pos hM]
    clear HV
    subst hM
    obtain ⟨p0, p1, p2, p3, p4, p5, p6, p7, p8, p9, p10, p11, pf0⟩ := cells12 r1
    go_wp2_with fail
    clear p0 p1 p2 p3 p4 p5 p6 p7 p8 p9 p10 p11 pf0
    go_at_call 60; refine (cT _ _ _ _ r3 hc hd).mono ?_; rintro x w5 ⟨u, v, rfl, r4, hu, hv, hb5⟩
    obtain ⟨o6, m6, rfl, _⟩ := Lk.HasRow.slice hu
    obtain ⟨o7, m7, rfl, _⟩ := Lk.HasRow.slice hv
    generalize T.1.rts.length = n6 at *
    generalize T.1.lks.length = n7 at *
    have r5 : RowAt w5 (w.heap.size + 2) [.int .i64 0, .bool false, .slice none 0 0, .slice none 0 0] 51 := (hb5.block _ hr2l).trans r2
    have hB5 : Below w.heap.size w w5 := hB.trans (hb5.mono hwB)
    clear hB r1 r2 r3 hc hd hb5 cT
    obtain ⟨p0, p1, p2, p3, pf0⟩ := cells4 r4
    obtain ⟨q0, q1, q2, q3, qf⟩ := cells4 r5
    go_wp2_with fail
    (try simp only [Exit.inBlock, Exit.then])
    refine bodyPost_ret (v := .tuple #[.agg #[.int .i64 T.1.id, .bool T.1.up, .slice o6 n6 m6, .slice o7 n7 m7], .int .i64 T.2]) ?_ rfl ⟨_, _, _, _, _, _, by rw [HW.out], by rw [HW.out]; exact rts_apart hu r5 (set4_gr _ _ _ _ _ _), by rw [HW.out]; exact lks_apart hv r5 (set4_gr _ _ _ _ _ _), ?_⟩
    · rw [results_cell_tmp rfl]
      go_simp
    · exact set4_bl hB5 (by omega) _ _ _ _
  · have HW : Hid (A = (⟨id, up, rts, lks⟩, M)) := by show _ = _; rw [HV.out, if_neg hM]
    clear HV
    have hMb : (M == 0) = false := beq_eq_false_iff_ne.2 hM
    clear r1 cT
    obtain ⟨p0, p1, p2, p3, pf0⟩ := cells4 r3
    obtain ⟨q0, q1, q2, q3, qf⟩ := cells4 r2
    go_wp2_with fail
    (try simp only [Exit.inBlock, Exit.then])
    refine bodyPost_ret (v := .tuple #[.agg #[.int .i64 id, .bool up, .slice o4 n4 m4, .slice o5 n5 m5], .int .i64 M]) ?_ rfl ⟨_, _, _, _, _, _, by rw [HW.out], by rw [HW.out]; exact rts_apart hc r2 (set4_gr _ _ _ _ _ _), by rw [HW.out]; exact lks_apart hd r2 (set4_gr _ _ _ _ _ _), ?_⟩
    · rw [results_cell_tmp rfl]
      go_simp
    · exact set4_bl hB (by omega) _ _ _ _
end Go.Proofs.YtkjhnefbcnnjlaaGreat.Fib
namespace Go.Proofs.YtkjhnefbcnnjlaaGreat.Fib
open Go.RowKit
open Go.Proofs.YtkjhnefbcnnjlaaGreat.Addr (RowAt below2 below_new RowAt.below RowAt.new RowAt.alloc cells4)
theorem make_any (i : Int) (w : World) : Calls Tryz.prog 57 #[.int .i64 i] w (RoIs (makeRo i).1 (makeRo i).2 w) := by
  have cM := fun W => mayBe_any i W
  have hA : makeRo i = if okId i then (⟨i, false, [], []⟩, 0) else (zeroRo, 1) := rfl
  generalize makeRo i = A at hA ⊢
  generalize okId i = k at hA cM
  have HA : Hid (A = if k then (⟨i, false, [], []⟩, 0) else (zeroRo, 1)) := hA
  clear hA
  have c25 := fun (W : World) => ro_nil W
  obtain ⟨X, hX⟩ : ∃ X, X = w.alloc (.cells #[.int .i64 0, .bool false, .slice none 0 0, .slice none 0 0] 51) := ⟨_, rfl⟩
  have hB : Below w.heap.size w X := by rw [hX]; exact below_new (Below.refl _ _) _
  have r0 : RowAt X w.heap.size [.int .i64 0, .bool false, .slice none 0 0, .slice none 0 0] 51 := by rw [hX]; exact RowAt.new _ _ _
  go_enter Tryz.func57, Tryz.ntmps57
  go_upto_region 1 with fail
  rw [← hX]
  clear hX
  go_wp2_with fail
  go_at_call 46; refine (cM _).mono ?_; rintro x w1 ⟨rfl, hb1⟩
  replace hB := below2 hB hb1
  obtain ⟨q0, q1, q2, q3, qf⟩ := cells4 (RowAt.below r0 hb1)
  clear hb1 r0 cM
  cases k
  · have HV : Hid (A = (zeroRo, 1)) := HA.out
    clear HA
    go_wp2_with fail
    (try simp only [Exit.inBlock, Exit.then])
    refine bodyPost_ret (v := .tuple #[.agg #[.int .i64 0, .bool false, .slice none 0 0, .slice none 0 0], .int .i64 1]) ?_ rfl ⟨none, 0, 0, none, 0, 0, by rw [HV.out]; rfl, by rw [HV.out]; exact (c25 _).1, by rw [HV.out]; exact (c25 _).2, ?_⟩
    · rw [results_cell_tmp rfl]
      go_simp
    · exact set4_bl hB (by omega) _ _ _ _
  · have HV : Hid (A = (⟨i, false, [], []⟩, 0)) := HA.out
    clear HA
    go_wp2_with fail
    (try simp only [Exit.inBlock, Exit.then])
    refine bodyPost_ret (v := .tuple #[.agg #[.int .i64 i, .bool false, .slice none 0 0, .slice none 0 0], .int .i64 0]) ?_ rfl ⟨none, 0, 0, none, 0, 0, by rw [HV.out], by rw [HV.out]; exact (c25 _).1, by rw [HV.out]; exact (c25 _).2, ?_⟩
    · rw [results_cell_tmp rfl]
      go_simp
    · exact set4_bl hB (by omega) _ _ _ _
end Go.Proofs.YtkjhnefbcnnjlaaGreat.Fib
