/- The document's Copy of a router. -/
import Derived.Test.YtkjhnefbcnnjlaaGreatNv28
import Derived.Test.YtkjhnefbcnnjlaaGreatNv29
import Derived.Test.YtkjhnefbcnnjlaaGreatNv16
import Derived.Maps.AppendAt
import Derived.Test.YtkjhnefbcnnjlaaGreatNv09
import Derived.Test.YtkjhnefbcnnjlaaGreatNv08
import Derived.Test.YtkjhnefbcnnjlaaGreatNv07
import Derived.Test.YtkjhnefbcnnjlaaGreatNv14
set_option linter.unusedVariables false
namespace Go.Proofs.YtkjhnefbcnnjlaaGreat.Nt
open Go.RowKit
open Go.Proofs.YtkjhnefbcnnjlaaGreat.Lk (HasLks.keep hasRow_own)
open Go.Proofs.YtkjhnefbcnnjlaaGreat.Tr (HasRts.keep)
open Go.Proofs.YtkjhnefbcnnjlaaGreat.Msg (Ev FitE evV)
open Go.Proofs.YtkjhnefbcnnjlaaGreat.Fib
open Go.Proofs.YtkjhnefbcnnjlaaGreat.Ord (HasSts HasSts.keep HasEvs HasEvs.keep)
open Go.Proofs.YtkjhnefbcnnjlaaGreat.Addr (RowAt below2 below_new RowAt.lt RowAt.below RowAt.new RowAt.alloc cells2 cells4 hiN loN)
def e1 : Ev := ⟨1, 4, 1, 0, ⟨false, 0, 0⟩, ⟨0, 0⟩, 0, 0⟩
def e2 : Ev := ⟨5, 4, 2, 0, ⟨false, 0, 0⟩, ⟨0, 0⟩, 3, 7⟩
def e3 : Ev := ⟨3, 4, 3, 0, ⟨false, 167772160, 8⟩, ⟨1, 3⟩, 0, 0⟩
def e4 : Ev := ⟨1, 4, 4, 0, ⟨false, 0, 0⟩, ⟨0, 0⟩, 0, 0⟩
def e5 : Ev := ⟨2, 7, 1, 0, ⟨false, 0, 0⟩, ⟨0, 0⟩, 0, 0⟩
def net0 : NetT := ⟨[⟨4, 3, 0, true⟩], [⟨4, true, [⟨⟨false, 167772160, 8⟩, ⟨1, 3⟩⟩], [⟨3, 7⟩]⟩]⟩
theorem l1 : allN zeroN [e1, e2, e3] (-1) = (net0, 3, 0) := by kernel_rfl
theorem l2 : hopN net0 4 false 167772160 = ((1, 7), 0) := by kernel_rfl
theorem l3 : hopN net0 7 false 167772160 = ((0, 0), 0) := by kernel_rfl
theorem l4 : sizeE net0 = (2, 0) := by kernel_rfl
theorem l5 : (applyN net0 e4 (-1)).2 = 10 := by kernel_rfl
theorem l6 : findN net0 7 = (zeroRo, 14) := by kernel_rfl
theorem l7 : findN net0 4 = (⟨4, true, [⟨⟨false, 167772160, 8⟩, ⟨1, 3⟩⟩], [⟨3, 7⟩]⟩, 0) := by kernel_rfl
theorem l8 : (applyN net0 e5 (-1)).2 = 14 := by kernel_rfl
theorem l9 : checkN net0 = 0 := by kernel_rfl
theorem fit0 : FitN net0 := ⟨fun s hs => by
  simp only [net0, List.mem_singleton] at hs
  subst hs
  exact ⟨by decide, by decide, by decide⟩, fun R hR => by
  simp only [net0, List.mem_singleton] at hR
  subst hR
  refine ⟨by decide, fun x hx => ?_, fun x hx => ?_⟩
  · simp only [List.mem_singleton] at hx
    subst hx
    exact ⟨⟨by decide, by decide⟩, by decide, by decide⟩
  · simp only [List.mem_singleton] at hx
    subst hx
    exact ⟨by decide, by decide⟩⟩
theorem fitz : FitN zeroN := ⟨(fun s hs => by cases hs), (fun R hR => by cases hR)⟩
theorem fite (e : Ev) (h : e = e1 ∨ e = e2 ∨ e = e3 ∨ e = e4 ∨ e = e5) : FitE e := by
  rcases h with rfl | rfl | rfl | rfl | rfl <;> exact ⟨by decide, by decide, by decide, by decide, by decide, by decide, ⟨by decide, by decide⟩, by decide, by decide⟩
theorem hi10 : (hiN 167772160 : Int) = 0 := by decide
theorem lo10 : (loN 167772160 : Int) = 167772160 := by decide
theorem ev_4 : evV e4 = .agg #[.int .u8 1, .int .i64 4, .int .u64 4, .int .i64 0, .bool false, .int .u64 0, .int .u64 0, .int .i64 0, .int .u8 0, .int .i64 0, .int .i64 0, .int .i64 0] := by kernel_rfl
theorem ev_5 : evV e5 = .agg #[.int .u8 2, .int .i64 7, .int .u64 1, .int .i64 0, .bool false, .int .u64 0, .int .u64 0, .int .i64 0, .int .u8 0, .int .i64 0, .int .i64 0, .int .i64 0] := by kernel_rfl
theorem lit_evs (W : World) : HasEvs (W.alloc (.cells #[.int .u8 1, .int .i64 4, .int .u64 1, .int .i64 0, .bool false, .int .u64 0, .int .u64 0, .int .i64 0, .int .u8 0, .int .i64 0, .int .i64 0, .int .i64 0, .int .u8 5, .int .i64 4, .int .u64 2, .int .i64 0, .bool false, .int .u64 0, .int .u64 0, .int .i64 0, .int .u8 0, .int .i64 0, .int .i64 3, .int .i64 7, .int .u8 3, .int .i64 4, .int .u64 3, .int .i64 0, .bool false, .int .u64 0, .int .u64 167772160, .int .i64 8, .int .u8 1, .int .i64 3, .int .i64 0, .int .i64 0] 38)) (.slice (some ⟨W.heap.size, 0, none⟩) 3 3) [e1, e2, e3] := by
  have h := Ord.hasRow_own (World.ownsRow_lit (base := W.heap.size) (e := 38) (size := 12) W #[.int .u8 1, .int .i64 4, .int .u64 1, .int .i64 0, .bool false, .int .u64 0, .int .u64 0, .int .i64 0, .int .u8 0, .int .i64 0, .int .i64 0, .int .i64 0, .int .u8 5, .int .i64 4, .int .u64 2, .int .i64 0, .bool false, .int .u64 0, .int .u64 0, .int .i64 0, .int .u8 0, .int .i64 0, .int .i64 3, .int .i64 7, .int .u8 3, .int .i64 4, .int .u64 3, .int .i64 0, .bool false, .int .u64 0, .int .u64 167772160, .int .i64 8, .int .u8 1, .int .i64 3, .int .i64 0, .int .i64 0] 3 (Nat.le_refl _) (by decide) rfl)
  have e : (#[.int .u8 1, .int .i64 4, .int .u64 1, .int .i64 0, .bool false, .int .u64 0, .int .u64 0, .int .i64 0, .int .u8 0, .int .i64 0, .int .i64 0, .int .i64 0, .int .u8 5, .int .i64 4, .int .u64 2, .int .i64 0, .bool false, .int .u64 0, .int .u64 0, .int .i64 0, .int .u8 0, .int .i64 0, .int .i64 3, .int .i64 7, .int .u8 3, .int .i64 4, .int .u64 3, .int .i64 0, .bool false, .int .u64 0, .int .u64 167772160, .int .i64 8, .int .u8 1, .int .i64 3, .int .i64 0, .int .i64 0] : Array Value).toList = Ord.evCs [e1, e2, e3] := by kernel_rfl
  rw [e] at h
  exact h
theorem al1 (W : World) (u : Value) (h : HasEvs W u [e1, e2, e3]) : Calls Tryz.prog 8 #[.agg #[.slice none 0 0, .slice none 0 0], u, .int .i64 (-1)] W (AllIs net0 3 0 W) := by
  have := all_any zeroN [e1, e2, e3] (-1) (.slice none 0 0) (.slice none 0 0) u W (Ord.hasRow_nil _ 4) (hasRos_nil _) h fitz (fun e he => fite e (by
    simp only [List.mem_cons, List.not_mem_nil, or_false] at he
    rcases he with rfl | rfl | rfl
    · exact .inl rfl
    · exact .inr (.inl rfl)
    · exact .inr (.inr (.inl rfl))))
  rw [l1] at this
  exact this
theorem hp1 (W : World) (u v : Value) (h1 : HasSts W u net0.seats) (h2 : HasRos W v net0.ros) : Calls Tryz.prog 19 #[.agg #[u, v], .int .i64 4, .bool false, .agg #[.int .u64 0, .int .u64 167772160]] W fun e w' => e = .returned (.tuple #[.agg #[.int .u8 1, .int .i64 7], .int .i64 0]) ∧ Below W.heap.size W w' := by
  have := hopF_any net0 4 false 167772160 u v W h1 h2 fit0 (by decide)
  rw [l2, hi10, lo10] at this
  exact this
theorem hp2 (W : World) (u v : Value) (h1 : HasSts W u net0.seats) (h2 : HasRos W v net0.ros) : Calls Tryz.prog 19 #[.agg #[u, v], .int .i64 7, .bool false, .agg #[.int .u64 0, .int .u64 167772160]] W fun e w' => e = .returned (.tuple #[.agg #[.int .u8 0, .int .i64 0], .int .i64 0]) ∧ Below W.heap.size W w' := by
  have := hopF_any net0 7 false 167772160 u v W h1 h2 fit0 (by decide)
  rw [l3, hi10, lo10] at this
  exact this
theorem sz1 (W : World) (u v : Value) (h1 : HasSts W u net0.seats) (h2 : HasRos W v net0.ros) : Calls Tryz.prog 20 #[.agg #[u, v]] W fun e w' => e = .returned (.tuple #[.int .i64 2, .int .i64 0]) ∧ Below W.heap.size W w' := by
  have := sizeF_any net0 u v W h1 h2 fit0
  rw [l4] at this
  exact this
theorem ap4 (W : World) (u v : Value) (h1 : HasSts W u net0.seats) (h2 : HasRos W v net0.ros) : Calls Tryz.prog 5 #[.agg #[u, v], .agg #[.int .u8 1, .int .i64 4, .int .u64 4, .int .i64 0, .bool false, .int .u64 0, .int .u64 0, .int .i64 0, .int .u8 0, .int .i64 0, .int .i64 0, .int .i64 0], .int .i64 (-1)] W (NetIs (applyN net0 e4 (-1)).1 10 W) := by
  have := apply_any net0 e4 (-1) u v W h1 h2 fit0 (fite _ (.inr (.inr (.inr (.inl rfl)))))
  rw [l5, ev_4] at this
  exact this
theorem ap5 (W : World) (u v : Value) (h1 : HasSts W u net0.seats) (h2 : HasRos W v net0.ros) : Calls Tryz.prog 5 #[.agg #[u, v], .agg #[.int .u8 2, .int .i64 7, .int .u64 1, .int .i64 0, .bool false, .int .u64 0, .int .u64 0, .int .i64 0, .int .u8 0, .int .i64 0, .int .i64 0, .int .i64 0], .int .i64 (-1)] W (NetIs (applyN net0 e5 (-1)).1 14 W) := by
  have := apply_any net0 e5 (-1) u v W h1 h2 fit0 (fite _ (.inr (.inr (.inr (.inr rfl)))))
  rw [l8, ev_5] at this
  exact this
theorem fd7 (W : World) (u v : Value) (h1 : HasSts W u net0.seats) (h2 : HasRos W v net0.ros) : Calls Tryz.prog 21 #[.agg #[u, v], .int .i64 7] W (RoIs ⟨0, false, [], []⟩ 14 W) := by
  have := findF_any net0 7 u v W h1 h2 fit0
  rw [l6] at this
  exact this
theorem fd4 (W : World) (u v : Value) (h1 : HasSts W u net0.seats) (h2 : HasRos W v net0.ros) : Calls Tryz.prog 21 #[.agg #[u, v], .int .i64 4] W (RoIs ⟨4, true, [⟨⟨false, 167772160, 8⟩, ⟨1, 3⟩⟩], [⟨3, 7⟩]⟩ 0 W) := by
  have := findF_any net0 4 u v W h1 h2 fit0
  rw [l7] at this
  exact this
theorem ck0 (W : World) (u v : Value) (h1 : HasSts W u net0.seats) (h2 : HasRos W v net0.ros) : Calls Tryz.prog 11 #[.agg #[u, v]] W fun e w' => e = .returned (.int .i64 0) ∧ Below W.heap.size W w' := by
  have := check_any net0 u v W h1 h2 fit0.ros
  rw [l9] at this
  exact this
def BoolIs (b : Bool) (w : World) (e : Ending) (w' : World) : Prop := e = .returned (.bool b) ∧ Below w.heap.size w w'
set_option maxHeartbeats 16000000 in
set_option maxRecDepth 20000 in
theorem lives_any (w : World) : Calls Tryz.prog 10 #[] w (BoolIs true w) := by
  have hB := Below.refl w.heap.size w
  go_enter Tryz.func10, Tryz.ntmps10
  obtain ⟨Y1, hY⟩ : ∃ Y, Y = (w.alloc (.cells #[.bool false, .int .u64 0, .int .u64 167772160, .int .i64 8] 33)) := ⟨_, rfl⟩
  have hbY : Below w.heap.size w Y1 := by rw [hY]; exact below_new (Below.refl _ _) _
  have hle : w.heap.size ≤ w.heap.size := hB.size
  obtain ⟨gq, hgq⟩ : ∃ g, g = w.heap.size := ⟨_, rfl⟩
  have rq : RowAt Y1 gq [.bool false, .int .u64 0, .int .u64 167772160, .int .i64 8] 33 := by
    have h := RowAt.new w [.bool false, .int .u64 0, .int .u64 167772160, .int .i64 8] 33
    rw [hgq, hY]; exact h
  have leq : w.heap.size ≤ gq := by omega
  replace hB := below2 hB hbY
  go_upto_region 2 with fail
  rw [← hY, ← hgq]
  clear hY hbY hle hgq
  obtain ⟨q0, q1, q2, q3, qf⟩ := cells4 rq
  obtain ⟨V, hV⟩ : ∃ V, V = Y1.alloc (.cells #[.int .u8 1, .int .i64 4, .int .u64 1, .int .i64 0, .bool false, .int .u64 0, .int .u64 0, .int .i64 0, .int .u8 0, .int .i64 0, .int .i64 0, .int .i64 0, .int .u8 5, .int .i64 4, .int .u64 2, .int .i64 0, .bool false, .int .u64 0, .int .u64 0, .int .i64 0, .int .u8 0, .int .i64 0, .int .i64 3, .int .i64 7, .int .u8 3, .int .i64 4, .int .u64 3, .int .i64 0, .bool false, .int .u64 0, .int .u64 167772160, .int .i64 8, .int .u8 1, .int .i64 3, .int .i64 0, .int .i64 0] 38) := ⟨_, rfl⟩
  have hbV : Below Y1.heap.size Y1 V := by rw [hV]; exact below_new (Below.refl _ _) _
  have cc := al1 V (.slice (some ⟨Y1.heap.size, 0, none⟩) 3 3) (by rw [hV]; exact lit_evs _)
  rw [hV] at cc
  go_wp2_with fail
  go_at_call 8; refine cc.mono ?_; rintro e w20 ⟨o1, n1, m1, o2, n2, m2, rfl, hS, hL, hb20⟩
  have hb21 : Below V.heap.size V w20 := by rw [hV]; exact hb20
  have hbb : Below Y1.heap.size Y1 w20 := below2 hbV hb21
  clear cc hV hbV hb20 hb21
  clear q0 q1 q2 q3 qf
  replace rq := RowAt.below rq hbb
  replace hB := below2 hB hbb
  clear hbb
  obtain ⟨Y21, hY⟩ : ∃ Y, Y = (w20.alloc (.cells #[.slice o1 n1 m1, .slice o2 n2 m2] 25)) := ⟨_, rfl⟩
  have hbY : Below w20.heap.size w20 Y21 := by rw [hY]; exact below_new (Below.refl _ _) _
  have hle : w.heap.size ≤ w20.heap.size := hB.size
  obtain ⟨gn, hgn⟩ : ∃ g, g = w20.heap.size := ⟨_, rfl⟩
  have rn : RowAt Y21 gn [.slice o1 n1 m1, .slice o2 n2 m2] 25 := by
    have h := RowAt.new w20 [.slice o1 n1 m1, .slice o2 n2 m2] 25
    rw [hgn, hY]; exact h
  have len : w.heap.size ≤ gn := by omega
  have neqn : gq ≠ gn := by have := RowAt.lt rq; omega
  replace rq := RowAt.below rq hbY
  replace hS := hS.keep hbY
  replace hL := hL.keep hbY
  replace hB := below2 hB hbY
  go_upto_region 3 with fail
  rw [← hY, ← hgn]
  clear hY hbY hle hgn
  obtain ⟨n0, n1, nf⟩ := cells2 rn
  obtain ⟨q0, q1, q2, q3, qf⟩ := cells4 rq
  go_wp2_with fail
  clear n0 n1 nf q0 q1 q2 q3 qf
  go_at_call 19; refine (hp1 _ _ _ hS hL).mono ?_; rintro e w22 ⟨rfl, hb⟩
  replace rq := RowAt.below rq hb
  replace rn := RowAt.below rn hb
  replace hS := hS.keep hb
  replace hL := hL.keep hb
  replace hB := below2 hB hb
  clear hb
  obtain ⟨Y23, hY⟩ : ∃ Y, Y = (w22.alloc (.cells #[.int .u8 1, .int .i64 7] 60)) := ⟨_, rfl⟩
  have hbY : Below w22.heap.size w22 Y23 := by rw [hY]; exact below_new (Below.refl _ _) _
  have hle : w.heap.size ≤ w22.heap.size := hB.size
  obtain ⟨gh, hgh⟩ : ∃ g, g = w22.heap.size := ⟨_, rfl⟩
  have rh : RowAt Y23 gh [.int .u8 1, .int .i64 7] 60 := by
    have h := RowAt.new w22 [.int .u8 1, .int .i64 7] 60
    rw [hgh, hY]; exact h
  have leh : w.heap.size ≤ gh := by omega
  have neqh : gq ≠ gh := by have := RowAt.lt rq; omega
  have nenh : gn ≠ gh := by have := RowAt.lt rn; omega
  replace rq := RowAt.below rq hbY
  replace rn := RowAt.below rn hbY
  replace hS := hS.keep hbY
  replace hL := hL.keep hbY
  replace hB := below2 hB hbY
  go_upto_region 4 with fail
  rw [← hY, ← hgh]
  clear hY hbY hle hgh
  obtain ⟨n0, n1, nf⟩ := cells2 rn
  obtain ⟨q0, q1, q2, q3, qf⟩ := cells4 rq
  go_wp2_with fail
  clear n0 n1 nf q0 q1 q2 q3 qf
  go_at_call 19; refine (hp2 _ _ _ hS hL).mono ?_; rintro e w24 ⟨rfl, hb⟩
  replace rq := RowAt.below rq hb
  replace rn := RowAt.below rn hb
  replace rh := RowAt.below rh hb
  replace hS := hS.keep hb
  replace hL := hL.keep hb
  replace hB := below2 hB hb
  clear hb
  obtain ⟨Y25, hY⟩ : ∃ Y, Y = (w24.alloc (.cells #[.int .u8 0, .int .i64 0] 60)) := ⟨_, rfl⟩
  have hbY : Below w24.heap.size w24 Y25 := by rw [hY]; exact below_new (Below.refl _ _) _
  have hle : w.heap.size ≤ w24.heap.size := hB.size
  obtain ⟨go, hgo⟩ : ∃ g, g = w24.heap.size := ⟨_, rfl⟩
  have ro : RowAt Y25 go [.int .u8 0, .int .i64 0] 60 := by
    have h := RowAt.new w24 [.int .u8 0, .int .i64 0] 60
    rw [hgo, hY]; exact h
  have leo : w.heap.size ≤ go := by omega
  have neqo : gq ≠ go := by have := RowAt.lt rq; omega
  have neno : gn ≠ go := by have := RowAt.lt rn; omega
  have neho : gh ≠ go := by have := RowAt.lt rh; omega
  replace rq := RowAt.below rq hbY
  replace rn := RowAt.below rn hbY
  replace rh := RowAt.below rh hbY
  replace hS := hS.keep hbY
  replace hL := hL.keep hbY
  replace hB := below2 hB hbY
  go_upto_region 5 with fail
  rw [← hY, ← hgo]
  clear hY hbY hle hgo
  clear rq
  obtain ⟨n0, n1, nf⟩ := cells2 rn
  go_wp2_with fail
  clear n0 n1 nf
  go_at_call 20; refine (sz1 _ _ _ hS hL).mono ?_; rintro e w26 ⟨rfl, hb⟩
  replace rn := RowAt.below rn hb
  replace rh := RowAt.below rh hb
  replace ro := RowAt.below ro hb
  replace hS := hS.keep hb
  replace hL := hL.keep hb
  replace hB := below2 hB hb
  clear hb
  obtain ⟨n0, n1, nf⟩ := cells2 rn
  go_wp2_with fail
  clear n0 n1 nf
  go_at_call 5; refine (ap4 _ _ _ hS hL).mono ?_; rintro e w27 ⟨a1, a2, a3, a4, a5, a6, rfl, hx1, hx2, hb⟩
  replace rn := RowAt.below rn hb
  replace rh := RowAt.below rh hb
  replace ro := RowAt.below ro hb
  replace hS := hS.keep hb
  replace hL := hL.keep hb
  replace hB := below2 hB hb
  clear hb
  clear hx1 hx2
  obtain ⟨Y28, hY⟩ : ∃ Y, Y = (w27.alloc (.cells #[.slice a1 a2 a3, .slice a4 a5 a6] 25)) := ⟨_, rfl⟩
  have hbY : Below w27.heap.size w27 Y28 := by rw [hY]; exact below_new (Below.refl _ _) _
  have hle : w.heap.size ≤ w27.heap.size := hB.size
  obtain ⟨ga, hga⟩ : ∃ g, g = w27.heap.size := ⟨_, rfl⟩
  have ra : RowAt Y28 ga [.slice a1 a2 a3, .slice a4 a5 a6] 25 := by
    have h := RowAt.new w27 [.slice a1 a2 a3, .slice a4 a5 a6] 25
    rw [hga, hY]; exact h
  have lea : w.heap.size ≤ ga := by omega
  have nena : gn ≠ ga := by have := RowAt.lt rn; omega
  have neha : gh ≠ ga := by have := RowAt.lt rh; omega
  have neoa : go ≠ ga := by have := RowAt.lt ro; omega
  replace rn := RowAt.below rn hbY
  replace rh := RowAt.below rh hbY
  replace ro := RowAt.below ro hbY
  replace hS := hS.keep hbY
  replace hL := hL.keep hbY
  replace hB := below2 hB hbY
  go_upto_region 7 with fail
  rw [← hY, ← hga]
  clear hY hbY hle hga
  clear ra
  obtain ⟨n0, n1, nf⟩ := cells2 rn
  go_wp2_with fail
  clear n0 n1 nf
  go_at_call 21; refine (fd7 _ _ _ hS hL).mono ?_; rintro e w29 ⟨b1, b2, b3, b4, b5, b6, rfl, hx1, hx2, hb⟩
  replace rn := RowAt.below rn hb
  replace rh := RowAt.below rh hb
  replace ro := RowAt.below ro hb
  replace hS := hS.keep hb
  replace hL := hL.keep hb
  replace hB := below2 hB hb
  clear hb
  clear hx1 hx2
  obtain ⟨Y30, hY⟩ : ∃ Y, Y = (w29.alloc (.cells #[.int .i64 0, .bool false, .slice b1 b2 b3, .slice b4 b5 b6] 51)) := ⟨_, rfl⟩
  have hbY : Below w29.heap.size w29 Y30 := by rw [hY]; exact below_new (Below.refl _ _) _
  have hle : w.heap.size ≤ w29.heap.size := hB.size
  obtain ⟨gb, hgb⟩ : ∃ g, g = w29.heap.size := ⟨_, rfl⟩
  have rb : RowAt Y30 gb [.int .i64 0, .bool false, .slice b1 b2 b3, .slice b4 b5 b6] 51 := by
    have h := RowAt.new w29 [.int .i64 0, .bool false, .slice b1 b2 b3, .slice b4 b5 b6] 51
    rw [hgb, hY]; exact h
  have leb : w.heap.size ≤ gb := by omega
  have nenb : gn ≠ gb := by have := RowAt.lt rn; omega
  have nehb : gh ≠ gb := by have := RowAt.lt rh; omega
  have neob : go ≠ gb := by have := RowAt.lt ro; omega
  replace rn := RowAt.below rn hbY
  replace rh := RowAt.below rh hbY
  replace ro := RowAt.below ro hbY
  replace hS := hS.keep hbY
  replace hL := hL.keep hbY
  replace hB := below2 hB hbY
  go_upto_region 8 with fail
  rw [← hY, ← hgb]
  clear hY hbY hle hgb
  clear rb
  obtain ⟨n0, n1, nf⟩ := cells2 rn
  go_wp2_with fail
  clear n0 n1 nf
  go_at_call 21; refine (fd4 _ _ _ hS hL).mono ?_; rintro e w31 ⟨c1, c2, c3, c4, c5, c6, rfl, hx1, hx2, hb⟩
  replace rn := RowAt.below rn hb
  replace rh := RowAt.below rh hb
  replace ro := RowAt.below ro hb
  replace hS := hS.keep hb
  replace hL := hL.keep hb
  replace hB := below2 hB hb
  clear hb
  clear hx1 hx2
  obtain ⟨Y32, hY⟩ : ∃ Y, Y = (w31.alloc (.cells #[.int .i64 4, .bool true, .slice c1 c2 c3, .slice c4 c5 c6] 51)) := ⟨_, rfl⟩
  have hbY : Below w31.heap.size w31 Y32 := by rw [hY]; exact below_new (Below.refl _ _) _
  have hle : w.heap.size ≤ w31.heap.size := hB.size
  obtain ⟨gc, hgc⟩ : ∃ g, g = w31.heap.size := ⟨_, rfl⟩
  have rc : RowAt Y32 gc [.int .i64 4, .bool true, .slice c1 c2 c3, .slice c4 c5 c6] 51 := by
    have h := RowAt.new w31 [.int .i64 4, .bool true, .slice c1 c2 c3, .slice c4 c5 c6] 51
    rw [hgc, hY]; exact h
  have lec : w.heap.size ≤ gc := by omega
  have nenc : gn ≠ gc := by have := RowAt.lt rn; omega
  have nehc : gh ≠ gc := by have := RowAt.lt rh; omega
  have neoc : go ≠ gc := by have := RowAt.lt ro; omega
  replace rn := RowAt.below rn hbY
  replace rh := RowAt.below rh hbY
  replace ro := RowAt.below ro hbY
  replace hS := hS.keep hbY
  replace hL := hL.keep hbY
  replace hB := below2 hB hbY
  go_upto_region 9 with fail
  rw [← hY, ← hgc]
  clear hY hbY hle hgc
  obtain ⟨n0, n1, nf⟩ := cells2 rn
  go_wp2_with fail
  clear n0 n1 nf
  go_at_call 5; refine (ap5 _ _ _ hS hL).mono ?_; rintro e w33 ⟨d1, d2, d3, d4, d5, d6, rfl, hx1, hx2, hb⟩
  replace rn := RowAt.below rn hb
  replace rh := RowAt.below rh hb
  replace ro := RowAt.below ro hb
  replace rc := RowAt.below rc hb
  replace hS := hS.keep hb
  replace hL := hL.keep hb
  replace hB := below2 hB hb
  clear hb
  clear hx1 hx2
  obtain ⟨Y34, hY⟩ : ∃ Y, Y = (w33.alloc (.cells #[.slice d1 d2 d3, .slice d4 d5 d6] 25)) := ⟨_, rfl⟩
  have hbY : Below w33.heap.size w33 Y34 := by rw [hY]; exact below_new (Below.refl _ _) _
  have hle : w.heap.size ≤ w33.heap.size := hB.size
  obtain ⟨gd, hgd⟩ : ∃ g, g = w33.heap.size := ⟨_, rfl⟩
  have rd : RowAt Y34 gd [.slice d1 d2 d3, .slice d4 d5 d6] 25 := by
    have h := RowAt.new w33 [.slice d1 d2 d3, .slice d4 d5 d6] 25
    rw [hgd, hY]; exact h
  have led : w.heap.size ≤ gd := by omega
  have nend : gn ≠ gd := by have := RowAt.lt rn; omega
  have nehd : gh ≠ gd := by have := RowAt.lt rh; omega
  have neod : go ≠ gd := by have := RowAt.lt ro; omega
  have necd : gc ≠ gd := by have := RowAt.lt rc; omega
  replace rn := RowAt.below rn hbY
  replace rh := RowAt.below rh hbY
  replace ro := RowAt.below ro hbY
  replace rc := RowAt.below rc hbY
  replace hS := hS.keep hbY
  replace hL := hL.keep hbY
  replace hB := below2 hB hbY
  go_upto_region 10 with fail
  rw [← hY, ← hgd]
  clear hY hbY hle hgd
  clear rd
  obtain ⟨n0, n1, nf⟩ := cells2 rn
  obtain ⟨h0, h1, hf⟩ := cells2 rh
  obtain ⟨o0, o1, of⟩ := cells2 ro
  obtain ⟨c0, c1, c2, c3, cf⟩ := cells4 rc
  go_wp2_with fail
  clear n0 n1 nf h0 h1 hf o0 o1 of c0 c1 c2 c3 cf
  go_at_call 11; refine (ck0 _ _ _ hS hL).mono ?_; rintro e w35 ⟨rfl, hb⟩
  replace rn := RowAt.below rn hb
  replace rh := RowAt.below rh hb
  replace ro := RowAt.below ro hb
  replace rc := RowAt.below rc hb
  replace hS := hS.keep hb
  replace hL := hL.keep hb
  replace hB := below2 hB hb
  clear hb
  go_wp2_with fail
  go_ret
  exact ⟨rfl, hB⟩
end Go.Proofs.YtkjhnefbcnnjlaaGreat.Nt
namespace Go.Proofs.YtkjhnefbcnnjlaaGreat.Nt
open Go.RowKit
open Go.Proofs.YtkjhnefbcnnjlaaGreat.Lk (HasRow HasLks.keep hasRow_own info_parts)
open Go.Proofs.YtkjhnefbcnnjlaaGreat.Tr (HasRts.keep)
open Go.Proofs.YtkjhnefbcnnjlaaGreat.Fib
/-- a row of routers of one's own, or none yet; no router's rows lie in it -/
structure GrowM (B : Nat) (W : World) (u : Value) (L : List Ro) : Prop where
  ex : ∃ M, rosOf M = L ∧ W.ownsRow B 51 4 u L.length (roCs M) ∧ (∀ m ∈ M, RowsOf W m ∧ ∀ g, u.ownBlock = some g → Off g m)
theorem GrowM.nil (B : Nat) (W : World) : GrowM B W (.slice none 0 0) [] := ⟨[], rfl, World.ownsRow_nil W B _ 4, fun m hm => by simp at hm⟩
theorem GrowM.has {B : Nat} {W : World} {u : Value} {L : List Ro} (h : GrowM B W u L) : HasRos W u L := by
  obtain ⟨M, e, h1, h2⟩ := h.ex
  have hl : M.length = L.length := by rw [← e]; simp [rosOf]
  exact ⟨M, e, by rw [hl]; exact hasRow_own h1, fun m hm => (h2 m hm).1⟩
theorem row_old {W : World} {v : Value} {sz n : Nat} {cs : List Value} (h : HasRow W v sz n cs) (hn : 0 < n) : v.ownBlock ≠ some W.heap.size := by
  rcases h.2 with ⟨rfl, rfl⟩ | ⟨a, cap, rfl, g1, g2, g3, g4⟩
  · omega
  · intro e
    have := (g3 hn).2
    simp only [Value.ownBlock, Option.some.injEq] at e
    omega
theorem RowsOf.old {W : World} {m : RoM} (h : RowsOf W m) : Off W.heap.size m := ⟨fun hp => row_old h.1 hp, fun hp => row_old h.2 hp⟩
theorem RowsOf.by {W W' : World} {m : RoM} {r : Option Nat} (h : RowsOf W m) (ho : ∀ g, r = some g → Off g m) (hg : W.grownBy W' r) : RowsOf W' m := by
  cases r with
  | none => exact h.off h.old ⟨hg.os, hg.tape, hg.output, hg.size, fun i hi _ => hg.block i hi (by simp)⟩
  | some g => exact h.off (ho g rfl) hg
/-- what another's writing leaves -/
theorem GrowM.far {B : Nat} {W W' : World} {u : Value} {L : List Ro} {r : Option Nat} (h : GrowM B W u L) (hg : W.grownBy W' r) (h0 : u.ownBlock = none ∨ u.ownBlock ≠ r) (ho : ∀ m, RowsOf W m → RowsOf W' m) : GrowM B W' u L := by
  obtain ⟨M, e, h1, h2⟩ := h.ex
  exact ⟨M, e, h1.kept hg h0, fun m hm => ⟨ho m (h2 m hm).1, (h2 m hm).2⟩⟩
theorem GrowM.below {B : Nat} {W W' : World} {u : Value} {L : List Ro} (h : GrowM B W u L) (hb : Below W.heap.size W W') : GrowM B W' u L := by
  obtain ⟨M, e, h1, h2⟩ := h.ex
  refine ⟨M, e, ⟨h1.1, ?_⟩, fun m hm => ⟨(h2 m hm).1.keep hb, (h2 m hm).2⟩⟩
  rcases h1.2 with h0 | ⟨g', cap', cur, e1, hg, hgb, rest⟩
  · exact .inl h0
  · exact .inr ⟨g', cap', cur, e1, hg, by rw [hb.block g' (Array.getElem?_eq_some_iff.1 hgb).1]; exact hgb, rest⟩
/-- append of one router -/
theorem GrowM.add {B : Nat} {W : World} {u : Value} {L : List Ro} (h : GrowM B W u L) (R : Ro) (x y : Value) (a : Addr) (c : Nat)
    (hc : ∀ j v, (roC ⟨R, x, y⟩)[j]? = some v → W.cell? (a.add j) = some v) (hr : RowsOf W ⟨R, x, y⟩) (ho : ∀ g, u.ownBlock = some g → Off g ⟨R, x, y⟩) (hl : L.length * 64 + 64 ≤ 140737488355328) (hB : B ≤ W.heap.size) :
    ∃ u' W', (∀ ty, (Builtin.append_ #[23, 23] ty #[u, .slice (some a) 1 c]).run Tryz.prog W = .ok u' W') ∧ GrowM B W' u' (L ++ [R]) ∧ W.grownBy W' u.ownBlock ∧ (u'.ownBlock = u.ownBlock ∨ u'.ownBlock = some W.heap.size) := by
  obtain ⟨M, e, h1, h2⟩ := h.ex
  obtain ⟨i0, hi0, hz0, hz1, hz2⟩ := info_parts info_ro
  have h1c : ∀ v ∈ roC ⟨R, x, y⟩, v.oneCell' = true := fun v hv => one_ros (W := W) (l := [⟨R, x, y⟩]) (fun m hm => by rw [List.mem_singleton.1 hm]; exact hr) v (by simpa [roCs] using hv)
  obtain ⟨u', W', hrun, k1, k2, _, k4⟩ := run_append_own_at (P := Tryz.prog) W B 23 0 51 i0 _ 4 64 Tryz.underlying23 hi0 hz0 hz1 hz2 rfl (by decide) u L.length (roCs M) h1 a 1 c (roC ⟨R, x, y⟩) rfl hc h1c (by unfold maxLen; omega) (by omega) hB
  have hoff : ∀ m, RowsOf W m → (∀ g, u.ownBlock = some g → Off g m) → RowsOf W' m ∧ ∀ g, u'.ownBlock = some g → Off g m := by
    intro m hm hof
    refine ⟨RowsOf.by hm hof k2, fun g hg => ?_⟩
    rcases k4 with k4 | k4
    · exact hof g (k4 ▸ hg)
    · rw [k4] at hg
      rw [← Option.some.inj hg]
      exact hm.old
  refine ⟨u', W', fun ty => hrun, ⟨M ++ [⟨R, x, y⟩], ?_, ?_, fun m hm => ?_⟩, k2, k4⟩
  · rw [← e]; simp [rosOf]
  · rw [List.length_append, List.length_singleton]
    have : roCs (M ++ [⟨R, x, y⟩]) = roCs M ++ roC ⟨R, x, y⟩ := by simp [roCs]
    rw [this]
    exact k1
  · rcases List.mem_append.1 hm with hm | hm
    · exact hoff m (h2 m hm).1 (h2 m hm).2
    · rw [List.mem_singleton.1 hm]
      exact hoff _ hr ho
end Go.Proofs.YtkjhnefbcnnjlaaGreat.Nt
namespace Go.Proofs.YtkjhnefbcnnjlaaGreat.Fib
open Go.RowKit Go.Shelf
open Go.Proofs.YtkjhnefbcnnjlaaGreat.Addr (RowAt below2 below_new RowAt.lt RowAt.cell RowAt.below RowAt.new RowAt.alloc RowAt.set1 RowAt.far1 cells4 gset grefl bset results_cell)
open Go.Proofs.YtkjhnefbcnnjlaaGreat.Lk (Lk HasLks HasLks.keep)
open Go.Proofs.YtkjhnefbcnnjlaaGreat.Tr (HasRts HasRts.keep)
attribute [-go_sem] Builtin.append_
theorem copy_row {e tS sz bytes : Nat} {z : Value} (hi : (Tryz.prog.info? e).map (fun i => (i.zero, i.size, i.bytes)) = some (some z, sz, bytes)) (hu : Tryz.prog.underlying tS = some (.slice e)) (hz : z.cells.size = sz) (hsz : 0 < sz) {W : World} {u : Value} {n : Nat} {cs : List Value} (h : Lk.HasRow W u sz n cs) (h1 : ∀ x ∈ cs, x.oneCell' = true) (hb : n * bytes ≤ 140737488355328) (hn : n ≤ 9223372036854775807) :
    ∃ o c w3, (∀ ty, (Builtin.append_ #[tS, tS] ty #[.slice (some ⟨W.heap.size, 0, none⟩) 0 0, u]).run Tryz.prog (W.alloc (.cells #[] e)) = .ok (.slice o n c) w3) ∧ Lk.HasRow w3 (.slice o n c) sz n cs ∧ Below W.heap.size W w3 := by
  have hk := Lk.HasRow.keep h (below_new (Below.refl _ W) (.cells #[] e))
  obtain ⟨v', w3, hrun, h2, h3⟩ := Lk.append_row hi hu hz hsz (Lk.empty_own W e sz) hk h1 (by rw [Nat.zero_add]; exact hb) (by omega) (by simp)
  rw [Nat.zero_add, List.nil_append] at h2
  have hh := Lk.hasRow_own h2
  obtain ⟨o, c, rfl, _⟩ := Lk.HasRow.slice hh
  exact ⟨o, c, w3, hrun, hh, ((Below.refl _ W).alloc (Nat.le_refl _) _).grown h3 (by simp) (fun k e => by simp [Value.ownBlock] at e; omega)⟩
set_option maxHeartbeats 4000000 in
set_option maxRecDepth 20000 in
theorem copy_any (R : Ro) (a b : Value) (w : World) (ha : HasRts w a R.rts) (hb : HasLks w b R.lks) (h1 : R.rts.length * 48 ≤ 140737488355328) (h2 : R.lks.length * 16 ≤ 140737488355328) :
    Calls Tryz.prog 13 #[.agg #[.int .i64 R.id, .bool R.up, a, b]] w fun e w' => ∃ o2 n2 m2 o3 n3 m3, e = .returned (.agg #[.int .i64 R.id, .bool R.up, .slice o2 n2 m2, .slice o3 n3 m3]) ∧ HasRts w' (.slice o2 n2 m2) R.rts ∧ HasLks w' (.slice o3 n3 m3) R.lks ∧ Below w.heap.size w w' := by
  obtain ⟨o2, m2, rfl, hm2⟩ := Lk.HasRow.slice ha
  obtain ⟨o3, m3, rfl, hm3⟩ := Lk.HasRow.slice hb
  have C1 : Hid (∀ W, HasRts W (.slice o2 R.rts.length m2) R.rts → ∃ o c w3, (∀ ty, (Builtin.append_ #[48, 48] ty #[.slice (some ⟨W.heap.size, 0, none⟩) 0 0, .slice o2 R.rts.length m2]).run Tryz.prog (W.alloc (.cells #[] 98)) = .ok (.slice o R.rts.length c) w3) ∧ HasRts w3 (.slice o R.rts.length c) R.rts ∧ Below W.heap.size W w3) := fun W h => copy_row Tr.info_rt Tryz.underlying48 rfl (by decide) h (Tr.one_routes _) h1 (by omega)
  have C2 : Hid (∀ W, HasLks W (.slice o3 R.lks.length m3) R.lks → ∃ o c w3, (∀ ty, (Builtin.append_ #[49, 49] ty #[.slice (some ⟨W.heap.size, 0, none⟩) 0 0, .slice o3 R.lks.length m3]).run Tryz.prog (W.alloc (.cells #[] 101)) = .ok (.slice o R.lks.length c) w3) ∧ HasLks w3 (.slice o R.lks.length c) R.lks ∧ Below W.heap.size W w3) := fun W h => copy_row Lk.info_lk Tryz.underlying49 rfl (by decide) h (Lk.one_links _) h2 (by omega)
  obtain ⟨id, up, rts, lks⟩ := R
  simp only at ha hb C1 C2 ⊢
  clear h1 h2 hm2 hm3
  generalize rts.length = n2 at *
  generalize lks.length = n3 at *
  obtain ⟨X, hX⟩ : ∃ X, X = (w.alloc (.cells #[.int .i64 id, .bool up, .slice o2 n2 m2, .slice o3 n3 m3] 51)).alloc (.cells #[.int .i64 0, .bool false, .slice none 0 0, .slice none 0 0] 51) := ⟨_, rfl⟩
  have hB : Below w.heap.size w X := by rw [hX]; exact below_new (below_new (Below.refl _ _) _) _
  have r0 : RowAt X w.heap.size [.int .i64 id, .bool up, .slice o2 n2 m2, .slice o3 n3 m3] 51 := by rw [hX]; exact (RowAt.new _ _ _).alloc _
  have r1 : RowAt X (w.heap.size + 1) [.int .i64 0, .bool false, .slice none 0 0, .slice none 0 0] 51 := by rw [hX, ← World.size_alloc w (.cells #[.int .i64 id, .bool up, .slice o2 n2 m2, .slice o3 n3 m3] 51)]; exact RowAt.new _ _ _
  replace ha := ha.keep hB
  replace hb := hb.keep hB
  obtain ⟨o4, c4, w3, hrun, hh4, hb3⟩ := C1.out X ha
  have R0 := RowAt.below r0 hb3
  have R1 := RowAt.below r1 hb3
  have hlt := r0.lt
  obtain ⟨Y, hY⟩ : ∃ Y, Y = w3.setCell ⟨w.heap.size, 2, none⟩ (.slice o4 n2 c4) := ⟨_, rfl⟩
  have g2 : w3.grownBy Y (some w.heap.size) := by rw [hY]; exact gset (grefl _ _)
  have y0 : RowAt Y w.heap.size [.int .i64 id, .bool up, .slice o4 n2 c4, .slice o3 n3 m3] 51 := by rw [hY]; exact R0.set1 2 _
  have y1 : RowAt Y (w.heap.size + 1) [.int .i64 0, .bool false, .slice none 0 0, .slice none 0 0] 51 := by rw [hY]; exact R1.far1 (by omega) _ _
  have hh5 : HasRts Y (.slice o4 n2 c4) rts := rts_apart hh4 R0 g2
  have hb5 : HasLks Y (.slice o3 n3 m3) lks := lks_apart (hb.keep hb3) R0 g2
  have hBY : Below w.heap.size w Y := by rw [hY]; exact bset (below2 hB hb3) (Nat.le_refl _)
  obtain ⟨o6, c6, w4, hrun2, hh6, hb6⟩ := C2.out Y hb5
  have S0 := RowAt.below y0 hb6
  have S1 := RowAt.below y1 hb6
  obtain ⟨V, hV⟩ : ∃ V, V = w4.setCell ⟨w.heap.size, 3, none⟩ (.slice o6 n3 c6) := ⟨_, rfl⟩
  have g3 : w4.grownBy V (some w.heap.size) := by rw [hV]; exact gset (grefl _ _)
  have v0 : RowAt V w.heap.size [.int .i64 id, .bool up, .slice o4 n2 c4, .slice o6 n3 c6] 51 := by rw [hV]; exact S0.set1 3 _
  have v1 : RowAt V (w.heap.size + 1) [.int .i64 0, .bool false, .slice none 0 0, .slice none 0 0] 51 := by rw [hV]; exact S1.far1 (by omega) _ _
  have HR : Hid (HasRts V (.slice o4 n2 c4) rts ∧ HasLks V (.slice o6 n3 c6) lks ∧ Below w.heap.size w V) := ⟨rts_apart (hh5.keep hb6) S0 g3, lks_apart hh6 S0 g3, by rw [hV]; exact bset (below2 hBY hb6) (Nat.le_refl _)⟩
  clear C1 C2 ha hb hh4 hh5 hb5 hh6 g2 g3 hBY hB
  obtain ⟨p0, p1, p2, p3, pf0⟩ := cells4 r0
  go_enter Tryz.func13, Tryz.ntmps13
  go_upto_region 1 with fail
  rw [← hX]
  clear hX
  have hXl : w.heap.size < X.heap.size := hlt
  have P0 : (X.alloc (.cells #[] 98)).cell? ⟨w.heap.size, 2, none⟩ = some (.slice o2 n2 m2) := (RowAt.below r0 (below_new (Below.refl _ X) _)).cell 2
  obtain ⟨q0, q1, q2, q3, qf0⟩ := cells4 R0
  go_upto_region 2 with fail
  rw [← hY]
  clear hY P0 p0 p1 p2 p3 pf0 q0 q1 q2 q3 qf0 hrun
  have P1 : (Y.alloc (.cells #[] 101)).cell? ⟨w.heap.size, 3, none⟩ = some (.slice o3 n3 m3) := (RowAt.below y0 (below_new (Below.refl _ Y) _)).cell 3
  obtain ⟨p0, p1, p2, p3, pf0⟩ := cells4 y0
  obtain ⟨q0, q1, q2, q3, qf0⟩ := cells4 S0
  go_upto_region 3 with fail
  rw [← hV]
  clear hV P1 p0 p1 p2 p3 pf0 q0 q1 q2 q3 qf0 hrun2
  obtain ⟨p0, p1, p2, p3, pf0⟩ := cells4 v0
  obtain ⟨q0, q1, q2, q3, qf0⟩ := cells4 v1
  go_wp2_with fail
  (try simp only [Exit.inBlock, Exit.then])
  refine bodyPost_ret (v := .agg #[.int .i64 id, .bool up, .slice o4 n2 c4, .slice o6 n3 c6]) ?_ rfl ⟨_, _, _, _, _, _, rfl, ?_, ?_, ?_⟩
  · rw [results_cell rfl]
    go_simp
  · exact rts_apart HR.out.1 v1 (set4_gr _ _ _ _ _ _)
  · exact lks_apart HR.out.2.1 v1 (set4_gr _ _ _ _ _ _)
  · exact set4_bl HR.out.2.2 (by omega) _ _ _ _
end Go.Proofs.YtkjhnefbcnnjlaaGreat.Fib
namespace Go.Proofs.YtkjhnefbcnnjlaaGreat.Fib
open Go.RowKit Go.Shelf
open Go.Proofs.YtkjhnefbcnnjlaaGreat.Addr (RowAt below2 below_new RowAt.lt RowAt.cell RowAt.below RowAt.new RowAt.alloc RowAt.set1 RowAt.far1 cells4 gset grefl bset results_cell)
open Go.Proofs.YtkjhnefbcnnjlaaGreat.Lk (Lk HasLks HasLks.keep)
open Go.Proofs.YtkjhnefbcnnjlaaGreat.Tr (HasRts HasRts.keep)
attribute [-go_sem] Builtin.append_
theorem copy_rown {e tS sz bytes : Nat} {z : Value} (hi : (Tryz.prog.info? e).map (fun i => (i.zero, i.size, i.bytes)) = some (some z, sz, bytes)) (hu : Tryz.prog.underlying tS = some (.slice e)) (hz : z.cells.size = sz) (hsz : 0 < sz) {W : World} {u : Value} {n : Nat} {cs : List Value} (h : Lk.HasRow W u sz n cs) (h1 : ∀ x ∈ cs, x.oneCell' = true) (hb : n * bytes ≤ 140737488355328) (hn : n ≤ 9223372036854775807) :
    ∃ o c w3, (∀ ty, (Builtin.append_ #[tS, tS] ty #[.slice (some ⟨W.heap.size, 0, none⟩) 0 0, u]).run Tryz.prog (W.alloc (.cells #[] e)) = .ok (.slice o n c) w3) ∧ Lk.HasRow w3 (.slice o n c) sz n cs ∧ NewV W.heap.size (.slice o n c) ∧ Below W.heap.size W w3 := by
  have hk := Lk.HasRow.keep h (below_new (Below.refl _ W) (.cells #[] e))
  obtain ⟨v', w3, hrun, h2, h3⟩ := Lk.append_row hi hu hz hsz (Lk.empty_own W e sz) hk h1 (by rw [Nat.zero_add]; exact hb) (by omega) (by simp)
  rw [Nat.zero_add, List.nil_append] at h2
  have hh := Lk.hasRow_own h2
  obtain ⟨o, c, rfl, _⟩ := Lk.HasRow.slice hh
  exact ⟨o, c, w3, hrun, hh, fun b e => (h2.lt b e).1, ((Below.refl _ W).alloc (Nat.le_refl _) _).grown h3 (by simp) (fun k e => by simp [Value.ownBlock] at e; omega)⟩
set_option maxHeartbeats 4000000 in
set_option maxRecDepth 20000 in
theorem copy_new (R : Ro) (a b : Value) (w : World) (ha : HasRts w a R.rts) (hb : HasLks w b R.lks) (h1 : R.rts.length * 48 ≤ 140737488355328) (h2 : R.lks.length * 16 ≤ 140737488355328) :
    Calls Tryz.prog 13 #[.agg #[.int .i64 R.id, .bool R.up, a, b]] w fun e w' => ∃ o2 n2 m2 o3 n3 m3, e = .returned (.agg #[.int .i64 R.id, .bool R.up, .slice o2 n2 m2, .slice o3 n3 m3]) ∧ HasRts w' (.slice o2 n2 m2) R.rts ∧ HasLks w' (.slice o3 n3 m3) R.lks ∧ NewV w.heap.size (.slice o2 n2 m2) ∧ NewV w.heap.size (.slice o3 n3 m3) ∧ Below w.heap.size w w' := by
  obtain ⟨o2, m2, rfl, hm2⟩ := Lk.HasRow.slice ha
  obtain ⟨o3, m3, rfl, hm3⟩ := Lk.HasRow.slice hb
  have C1 : Hid (∀ W, HasRts W (.slice o2 R.rts.length m2) R.rts → ∃ o c w3, (∀ ty, (Builtin.append_ #[48, 48] ty #[.slice (some ⟨W.heap.size, 0, none⟩) 0 0, .slice o2 R.rts.length m2]).run Tryz.prog (W.alloc (.cells #[] 98)) = .ok (.slice o R.rts.length c) w3) ∧ HasRts w3 (.slice o R.rts.length c) R.rts ∧ NewV W.heap.size (.slice o R.rts.length c) ∧ Below W.heap.size W w3) := fun W h => copy_rown Tr.info_rt Tryz.underlying48 rfl (by decide) h (Tr.one_routes _) h1 (by omega)
  have C2 : Hid (∀ W, HasLks W (.slice o3 R.lks.length m3) R.lks → ∃ o c w3, (∀ ty, (Builtin.append_ #[49, 49] ty #[.slice (some ⟨W.heap.size, 0, none⟩) 0 0, .slice o3 R.lks.length m3]).run Tryz.prog (W.alloc (.cells #[] 101)) = .ok (.slice o R.lks.length c) w3) ∧ HasLks w3 (.slice o R.lks.length c) R.lks ∧ NewV W.heap.size (.slice o R.lks.length c) ∧ Below W.heap.size W w3) := fun W h => copy_rown Lk.info_lk Tryz.underlying49 rfl (by decide) h (Lk.one_links _) h2 (by omega)
  obtain ⟨id, up, rts, lks⟩ := R
  simp only at ha hb C1 C2 ⊢
  clear h1 h2 hm2 hm3
  generalize rts.length = n2 at *
  generalize lks.length = n3 at *
  obtain ⟨X, hX⟩ : ∃ X, X = (w.alloc (.cells #[.int .i64 id, .bool up, .slice o2 n2 m2, .slice o3 n3 m3] 51)).alloc (.cells #[.int .i64 0, .bool false, .slice none 0 0, .slice none 0 0] 51) := ⟨_, rfl⟩
  have hB : Below w.heap.size w X := by rw [hX]; exact below_new (below_new (Below.refl _ _) _) _
  have r0 : RowAt X w.heap.size [.int .i64 id, .bool up, .slice o2 n2 m2, .slice o3 n3 m3] 51 := by rw [hX]; exact (RowAt.new _ _ _).alloc _
  have r1 : RowAt X (w.heap.size + 1) [.int .i64 0, .bool false, .slice none 0 0, .slice none 0 0] 51 := by rw [hX, ← World.size_alloc w (.cells #[.int .i64 id, .bool up, .slice o2 n2 m2, .slice o3 n3 m3] 51)]; exact RowAt.new _ _ _
  replace ha := ha.keep hB
  replace hb := hb.keep hB
  obtain ⟨o4, c4, w3, hrun, hh4, hnA, hb3⟩ := C1.out X ha
  have hN1 : Hid (NewV w.heap.size (.slice o4 n2 c4)) := hnA.mono hB.size
  have R0 := RowAt.below r0 hb3
  have R1 := RowAt.below r1 hb3
  have hlt := r0.lt
  obtain ⟨Y, hY⟩ : ∃ Y, Y = w3.setCell ⟨w.heap.size, 2, none⟩ (.slice o4 n2 c4) := ⟨_, rfl⟩
  have g2 : w3.grownBy Y (some w.heap.size) := by rw [hY]; exact gset (grefl _ _)
  have y0 : RowAt Y w.heap.size [.int .i64 id, .bool up, .slice o4 n2 c4, .slice o3 n3 m3] 51 := by rw [hY]; exact R0.set1 2 _
  have y1 : RowAt Y (w.heap.size + 1) [.int .i64 0, .bool false, .slice none 0 0, .slice none 0 0] 51 := by rw [hY]; exact R1.far1 (by omega) _ _
  have hh5 : HasRts Y (.slice o4 n2 c4) rts := rts_apart hh4 R0 g2
  have hb5 : HasLks Y (.slice o3 n3 m3) lks := lks_apart (hb.keep hb3) R0 g2
  have hBY : Below w.heap.size w Y := by rw [hY]; exact bset (below2 hB hb3) (Nat.le_refl _)
  obtain ⟨o6, c6, w4, hrun2, hh6, hnB, hb6⟩ := C2.out Y hb5
  have hN2 : Hid (NewV w.heap.size (.slice o6 n3 c6)) := hnB.mono hBY.size
  have S0 := RowAt.below y0 hb6
  have S1 := RowAt.below y1 hb6
  obtain ⟨V, hV⟩ : ∃ V, V = w4.setCell ⟨w.heap.size, 3, none⟩ (.slice o6 n3 c6) := ⟨_, rfl⟩
  have g3 : w4.grownBy V (some w.heap.size) := by rw [hV]; exact gset (grefl _ _)
  have v0 : RowAt V w.heap.size [.int .i64 id, .bool up, .slice o4 n2 c4, .slice o6 n3 c6] 51 := by rw [hV]; exact S0.set1 3 _
  have v1 : RowAt V (w.heap.size + 1) [.int .i64 0, .bool false, .slice none 0 0, .slice none 0 0] 51 := by rw [hV]; exact S1.far1 (by omega) _ _
  have HR : Hid (HasRts V (.slice o4 n2 c4) rts ∧ HasLks V (.slice o6 n3 c6) lks ∧ Below w.heap.size w V) := ⟨rts_apart (hh5.keep hb6) S0 g3, lks_apart hh6 S0 g3, by rw [hV]; exact bset (below2 hBY hb6) (Nat.le_refl _)⟩
  clear hnA hnB C1 C2 ha hb hh4 hh5 hb5 hh6 g2 g3 hBY hB
  obtain ⟨p0, p1, p2, p3, pf0⟩ := cells4 r0
  go_enter Tryz.func13, Tryz.ntmps13
  go_upto_region 1 with fail
  rw [← hX]
  clear hX
  have hXl : w.heap.size < X.heap.size := hlt
  have P0 : (X.alloc (.cells #[] 98)).cell? ⟨w.heap.size, 2, none⟩ = some (.slice o2 n2 m2) := (RowAt.below r0 (below_new (Below.refl _ X) _)).cell 2
  obtain ⟨q0, q1, q2, q3, qf0⟩ := cells4 R0
  go_upto_region 2 with fail
  rw [← hY]
  clear hY P0 p0 p1 p2 p3 pf0 q0 q1 q2 q3 qf0 hrun
  have P1 : (Y.alloc (.cells #[] 101)).cell? ⟨w.heap.size, 3, none⟩ = some (.slice o3 n3 m3) := (RowAt.below y0 (below_new (Below.refl _ Y) _)).cell 3
  obtain ⟨p0, p1, p2, p3, pf0⟩ := cells4 y0
  obtain ⟨q0, q1, q2, q3, qf0⟩ := cells4 S0
  go_upto_region 3 with fail
  rw [← hV]
  clear hV P1 p0 p1 p2 p3 pf0 q0 q1 q2 q3 qf0 hrun2
  obtain ⟨p0, p1, p2, p3, pf0⟩ := cells4 v0
  obtain ⟨q0, q1, q2, q3, qf0⟩ := cells4 v1
  go_wp2_with fail
  (try simp only [Exit.inBlock, Exit.then])
  refine bodyPost_ret (v := .agg #[.int .i64 id, .bool up, .slice o4 n2 c4, .slice o6 n3 c6]) ?_ rfl ⟨_, _, _, _, _, _, rfl, ?_, ?_, hN1.out, hN2.out, ?_⟩
  · rw [results_cell rfl]
    go_simp
  · exact rts_apart HR.out.1 v1 (set4_gr _ _ _ _ _ _)
  · exact lks_apart HR.out.2.1 v1 (set4_gr _ _ _ _ _ _)
  · exact set4_bl HR.out.2.2 (by omega) _ _ _ _
end Go.Proofs.YtkjhnefbcnnjlaaGreat.Fib
