/- Events and actions that came in as arguments. -/
import Derived.Test.YtbglbegljkgknaaGreatNq39
import Derived.Test.YtbglbegljkgknaaGreatNq40
import Derived.Test.YtbglbegljkgknaaGreatRows
import Derived.Test.YtbglbegljkgknaaGreatNq01
import Derived.ProofKit
import Derived.OpenShut
import Derived.SizedLaws
import Derived.Test.YtbglbegljkgknaaGreatNq07
set_option linter.unusedVariables false
namespace Go.Proofs.YtbglbegljkgknaaGreat.Nt
open Go.RowKit
open Go.Proofs.YtbglbegljkgknaaGreat.Lk (HasLks HasRow HasLks.keep hasRow_own)
open Go.Proofs.YtbglbegljkgknaaGreat.Tr (Rt HasRts HasRts.keep)
open Go.Proofs.YtbglbegljkgknaaGreat.Msg (Ev Ac okE FitE evV evC)
open Go.Proofs.YtbglbegljkgknaaGreat.Fib
open Go.Proofs.YtbglbegljkgknaaGreat.Ord (St HasSts HasSts.keep HasEvs HasEvs.keep nextL okL)
open Go.Proofs.YtbglbegljkgknaaGreat.Addr (RowAt below2 below_drew below_new bset RowAt.lt RowAt.cell RowAt.frozen RowAt.below RowAt.drew RowAt.new RowAt.alloc RowAt.set1 RowAt.gkeep RowAt.far1 gset grefl cells2 cells4 hiN loN rightB)
def e1 : Ev := ⟨1, 4, 1, 0, ⟨false, 0, 0⟩, ⟨0, 0⟩, 0, 0⟩
def e2 : Ev := ⟨5, 4, 2, 0, ⟨false, 0, 0⟩, ⟨0, 0⟩, 3, 7⟩
def e3 : Ev := ⟨3, 4, 3, 0, ⟨false, 167772160, 8⟩, ⟨1, 3⟩, 0, 0⟩
def e4 : Ev := ⟨1, 4, 4, 0, ⟨false, 0, 0⟩, ⟨0, 0⟩, 0, 0⟩
def e5 : Ev := ⟨2, 7, 1, 0, ⟨false, 0, 0⟩, ⟨0, 0⟩, 0, 0⟩
def net0 : NetT := ⟨[⟨4, 3, 0, true⟩], [⟨4, true, [⟨⟨false, 167772160, 8⟩, ⟨1, 3⟩⟩], [⟨3, 7⟩]⟩]⟩
theorem l1 : allN zeroN [e1, e2, e3] (-1) = (net0, 3, 0) := by kernel_rfl
theorem l2 : hopN net0 4 false 167772160 = ((1, 7), 0) := by kernel_rfl
theorem l3 : hopN net0 7 false 167772160 = ((0, 0), 0) := by kernel_rfl
theorem l4 : sizeE net0 = (2, 0) := by kernel_rfl
theorem l5 : (applyN net0 e4 (-1)).2 = 10 := by kernel_rfl
theorem l6 : findN net0 7 = (zeroRo, 14) := by kernel_rfl
theorem l7 : findN net0 4 = (⟨4, true, [⟨⟨false, 167772160, 8⟩, ⟨1, 3⟩⟩], [⟨3, 7⟩]⟩, 0) := by kernel_rfl
theorem l8 : (applyN net0 e5 (-1)).2 = 14 := by kernel_rfl
theorem l9 : checkN net0 = 0 := by kernel_rfl
theorem fit0 : FitN net0 := ⟨fun s hs => by
  simp only [net0, List.mem_singleton] at hs
  subst hs
  exact ⟨by decide, by decide, by decide⟩, fun R hR => by
  simp only [net0, List.mem_singleton] at hR
  subst hR
  refine ⟨by decide, fun x hx => ?_, fun x hx => ?_⟩
  · simp only [List.mem_singleton] at hx
    subst hx
    exact ⟨⟨by decide, by decide⟩, by decide, by decide⟩
  · simp only [List.mem_singleton] at hx
    subst hx
    exact ⟨by decide, by decide⟩⟩
theorem fitz : FitN zeroN := ⟨(fun s hs => by cases hs), (fun R hR => by cases hR)⟩
theorem fite (e : Ev) (h : e = e1 ∨ e = e2 ∨ e = e3 ∨ e = e4 ∨ e = e5) : FitE e := by
  rcases h with rfl | rfl | rfl | rfl | rfl <;> exact ⟨by decide, by decide, by decide, by decide, by decide, by decide, ⟨by decide, by decide⟩, by decide, by decide⟩
theorem hi10 : (hiN 167772160 : Int) = 0 := by decide
theorem lo10 : (loN 167772160 : Int) = 167772160 := by decide
theorem ev_1 : evV e1 = .agg #[.int .u8 1, .int .i64 4, .int .u64 1, .int .i64 0, .bool false, .int .u64 0, .int .u64 0, .int .i64 0, .int .u8 0, .int .i64 0, .int .i64 0, .int .i64 0] := by kernel_rfl
theorem ev_4 : evV e4 = .agg #[.int .u8 1, .int .i64 4, .int .u64 4, .int .i64 0, .bool false, .int .u64 0, .int .u64 0, .int .i64 0, .int .u8 0, .int .i64 0, .int .i64 0, .int .i64 0] := by kernel_rfl
theorem ev_5 : evV e5 = .agg #[.int .u8 2, .int .i64 7, .int .u64 1, .int .i64 0, .bool false, .int .u64 0, .int .u64 0, .int .i64 0, .int .u8 0, .int .i64 0, .int .i64 0, .int .i64 0] := by kernel_rfl
theorem lit_evs (W : World) : HasEvs (W.alloc (.cells #[.int .u8 1, .int .i64 4, .int .u64 1, .int .i64 0, .bool false, .int .u64 0, .int .u64 0, .int .i64 0, .int .u8 0, .int .i64 0, .int .i64 0, .int .i64 0, .int .u8 5, .int .i64 4, .int .u64 2, .int .i64 0, .bool false, .int .u64 0, .int .u64 0, .int .i64 0, .int .u8 0, .int .i64 0, .int .i64 3, .int .i64 7, .int .u8 3, .int .i64 4, .int .u64 3, .int .i64 0, .bool false, .int .u64 0, .int .u64 167772160, .int .i64 8, .int .u8 1, .int .i64 3, .int .i64 0, .int .i64 0] 38)) (.slice (some ⟨W.heap.size, 0, none⟩) 3 3) [e1, e2, e3] := by
  have h := Ord.hasRow_own (World.ownsRow_lit (base := W.heap.size) (e := 38) (size := 12) W #[.int .u8 1, .int .i64 4, .int .u64 1, .int .i64 0, .bool false, .int .u64 0, .int .u64 0, .int .i64 0, .int .u8 0, .int .i64 0, .int .i64 0, .int .i64 0, .int .u8 5, .int .i64 4, .int .u64 2, .int .i64 0, .bool false, .int .u64 0, .int .u64 0, .int .i64 0, .int .u8 0, .int .i64 0, .int .i64 3, .int .i64 7, .int .u8 3, .int .i64 4, .int .u64 3, .int .i64 0, .bool false, .int .u64 0, .int .u64 167772160, .int .i64 8, .int .u8 1, .int .i64 3, .int .i64 0, .int .i64 0] 3 (Nat.le_refl _) (by decide) rfl)
  have e : (#[.int .u8 1, .int .i64 4, .int .u64 1, .int .i64 0, .bool false, .int .u64 0, .int .u64 0, .int .i64 0, .int .u8 0, .int .i64 0, .int .i64 0, .int .i64 0, .int .u8 5, .int .i64 4, .int .u64 2, .int .i64 0, .bool false, .int .u64 0, .int .u64 0, .int .i64 0, .int .u8 0, .int .i64 0, .int .i64 3, .int .i64 7, .int .u8 3, .int .i64 4, .int .u64 3, .int .i64 0, .bool false, .int .u64 0, .int .u64 167772160, .int .i64 8, .int .u8 1, .int .i64 3, .int .i64 0, .int .i64 0] : Array Value).toList = Ord.evCs [e1, e2, e3] := by kernel_rfl
  rw [e] at h
  exact h
theorem al1 (W : World) (u : Value) (h : HasEvs W u [e1, e2, e3]) : Calls Tryz.prog 12 #[.agg #[.slice none 0 0, .slice none 0 0], u, .int .i64 (-1)] W (AllIs net0 3 0 W) := by
  have := all_any zeroN [e1, e2, e3] (-1) (.slice none 0 0) (.slice none 0 0) u W (Ord.hasRow_nil _ 4) (hasRos_nil _) h fitz (fun e he => fite e (by
    simp only [List.mem_cons, List.not_mem_nil, or_false] at he
    rcases he with rfl | rfl | rfl
    · exact .inl rfl
    · exact .inr (.inl rfl)
    · exact .inr (.inr (.inl rfl))))
  rw [l1] at this
  exact this
theorem hp1 (W : World) (u v : Value) (h1 : HasSts W u net0.seats) (h2 : HasRos W v net0.ros) : Calls Tryz.prog 19 #[.agg #[u, v], .int .i64 4, .bool false, .agg #[.int .u64 0, .int .u64 167772160]] W fun e w' => e = .returned (.tuple #[.agg #[.int .u8 1, .int .i64 7], .int .i64 0]) ∧ Below W.heap.size W w' := by
  have := hopF_any net0 4 false 167772160 u v W h1 h2 fit0 (by decide)
  rw [l2, hi10, lo10] at this
  exact this
theorem hp2 (W : World) (u v : Value) (h1 : HasSts W u net0.seats) (h2 : HasRos W v net0.ros) : Calls Tryz.prog 19 #[.agg #[u, v], .int .i64 7, .bool false, .agg #[.int .u64 0, .int .u64 167772160]] W fun e w' => e = .returned (.tuple #[.agg #[.int .u8 0, .int .i64 0], .int .i64 0]) ∧ Below W.heap.size W w' := by
  have := hopF_any net0 7 false 167772160 u v W h1 h2 fit0 (by decide)
  rw [l3, hi10, lo10] at this
  exact this
theorem sz1 (W : World) (u v : Value) (h1 : HasSts W u net0.seats) (h2 : HasRos W v net0.ros) : Calls Tryz.prog 21 #[.agg #[u, v]] W fun e w' => e = .returned (.tuple #[.int .i64 2, .int .i64 0]) ∧ Below W.heap.size W w' := by
  have := sizeF_any net0 u v W h1 h2 fit0
  rw [l4] at this
  exact this
theorem ap4 (W : World) (u v : Value) (h1 : HasSts W u net0.seats) (h2 : HasRos W v net0.ros) : Calls Tryz.prog 9 #[.agg #[u, v], .agg #[.int .u8 1, .int .i64 4, .int .u64 4, .int .i64 0, .bool false, .int .u64 0, .int .u64 0, .int .i64 0, .int .u8 0, .int .i64 0, .int .i64 0, .int .i64 0], .int .i64 (-1)] W (NetIs (applyN net0 e4 (-1)).1 10 W) := by
  have := apply_any net0 e4 (-1) u v W h1 h2 fit0 (fite _ (.inr (.inr (.inr (.inl rfl)))))
  rw [l5, ev_4] at this
  exact this
theorem ap5 (W : World) (u v : Value) (h1 : HasSts W u net0.seats) (h2 : HasRos W v net0.ros) : Calls Tryz.prog 9 #[.agg #[u, v], .agg #[.int .u8 2, .int .i64 7, .int .u64 1, .int .i64 0, .bool false, .int .u64 0, .int .u64 0, .int .i64 0, .int .u8 0, .int .i64 0, .int .i64 0, .int .i64 0], .int .i64 (-1)] W (NetIs (applyN net0 e5 (-1)).1 14 W) := by
  have := apply_any net0 e5 (-1) u v W h1 h2 fit0 (fite _ (.inr (.inr (.inr (.inr rfl)))))
  rw [l8, ev_5] at this
  exact this
theorem fd7 (W : World) (u v : Value) (h1 : HasSts W u net0.seats) (h2 : HasRos W v net0.ros) : Calls Tryz.prog 17 #[.agg #[u, v], .int .i64 7] W (RoIs ⟨0, false, [], []⟩ 14 W) := by
  have := findF_any net0 7 u v W h1 h2 fit0
  rw [l6] at this
  exact this
theorem fd4 (W : World) (u v : Value) (h1 : HasSts W u net0.seats) (h2 : HasRos W v net0.ros) : Calls Tryz.prog 17 #[.agg #[u, v], .int .i64 4] W (RoIs ⟨4, true, [⟨⟨false, 167772160, 8⟩, ⟨1, 3⟩⟩], [⟨3, 7⟩]⟩ 0 W) := by
  have := findF_any net0 4 u v W h1 h2 fit0
  rw [l7] at this
  exact this
theorem ck0 (W : World) (u v : Value) (h1 : HasSts W u net0.seats) (h2 : HasRos W v net0.ros) : Calls Tryz.prog 15 #[.agg #[u, v]] W fun e w' => e = .returned (.int .i64 0) ∧ Below W.heap.size W w' := by
  have := check_any net0 u v W h1 h2 fit0.ros
  rw [l9] at this
  exact this
def BoolIs (b : Bool) (w : World) (e : Ending) (w' : World) : Prop := e = .returned (.bool b) ∧ Below w.heap.size w w'
set_option maxHeartbeats 16000000 in
set_option maxRecDepth 20000 in
theorem lives_any (w : World) : Calls Tryz.prog 14 #[] w (BoolIs true w) := by
  have hB := Below.refl w.heap.size w
  go_enter Tryz.func14, Tryz.ntmps14
  obtain ⟨Y1, hY⟩ : ∃ Y, Y = (w.alloc (.cells #[.bool false, .int .u64 0, .int .u64 167772160, .int .i64 8] 33)) := ⟨_, rfl⟩
  have hbY : Below w.heap.size w Y1 := by rw [hY]; exact below_new (Below.refl _ _) _
  have hle : w.heap.size ≤ w.heap.size := hB.size
  obtain ⟨gq, hgq⟩ : ∃ g, g = w.heap.size := ⟨_, rfl⟩
  have rq : RowAt Y1 gq [.bool false, .int .u64 0, .int .u64 167772160, .int .i64 8] 33 := by
    have h := RowAt.new w [.bool false, .int .u64 0, .int .u64 167772160, .int .i64 8] 33
    rw [hgq, hY]; exact h
  have leq : w.heap.size ≤ gq := by omega
  replace hB := below2 hB hbY
  go_upto_region 2 with fail
  rw [← hY, ← hgq]
  clear hY hbY hle hgq
  obtain ⟨q0, q1, q2, q3, qf⟩ := cells4 rq
  obtain ⟨V, hV⟩ : ∃ V, V = Y1.alloc (.cells #[.int .u8 1, .int .i64 4, .int .u64 1, .int .i64 0, .bool false, .int .u64 0, .int .u64 0, .int .i64 0, .int .u8 0, .int .i64 0, .int .i64 0, .int .i64 0, .int .u8 5, .int .i64 4, .int .u64 2, .int .i64 0, .bool false, .int .u64 0, .int .u64 0, .int .i64 0, .int .u8 0, .int .i64 0, .int .i64 3, .int .i64 7, .int .u8 3, .int .i64 4, .int .u64 3, .int .i64 0, .bool false, .int .u64 0, .int .u64 167772160, .int .i64 8, .int .u8 1, .int .i64 3, .int .i64 0, .int .i64 0] 38) := ⟨_, rfl⟩
  have hbV : Below Y1.heap.size Y1 V := by rw [hV]; exact below_new (Below.refl _ _) _
  have cc := al1 V (.slice (some ⟨Y1.heap.size, 0, none⟩) 3 3) (by rw [hV]; exact lit_evs _)
  rw [hV] at cc
  go_wp2_with fail
  go_at_call 12; refine cc.mono ?_; rintro e w20 ⟨o1, n1, m1, o2, n2, m2, rfl, hS, hL, hb20⟩
  have hb21 : Below V.heap.size V w20 := by rw [hV]; exact hb20
  have hbb : Below Y1.heap.size Y1 w20 := below2 hbV hb21
  clear cc hV hbV hb20 hb21
  clear q0 q1 q2 q3 qf
  replace rq := RowAt.below rq hbb
  replace hB := below2 hB hbb
  clear hbb
  obtain ⟨Y21, hY⟩ : ∃ Y, Y = (w20.alloc (.cells #[.slice o1 n1 m1, .slice o2 n2 m2] 25)) := ⟨_, rfl⟩
  have hbY : Below w20.heap.size w20 Y21 := by rw [hY]; exact below_new (Below.refl _ _) _
  have hle : w.heap.size ≤ w20.heap.size := hB.size
  obtain ⟨gn, hgn⟩ : ∃ g, g = w20.heap.size := ⟨_, rfl⟩
  have rn : RowAt Y21 gn [.slice o1 n1 m1, .slice o2 n2 m2] 25 := by
    have h := RowAt.new w20 [.slice o1 n1 m1, .slice o2 n2 m2] 25
    rw [hgn, hY]; exact h
  have len : w.heap.size ≤ gn := by omega
  have neqn : gq ≠ gn := by have := RowAt.lt rq; omega
  replace rq := RowAt.below rq hbY
  replace hS := hS.keep hbY
  replace hL := hL.keep hbY
  replace hB := below2 hB hbY
  go_upto_region 3 with fail
  rw [← hY, ← hgn]
  clear hY hbY hle hgn
  obtain ⟨n0, n1, nf⟩ := cells2 rn
  obtain ⟨q0, q1, q2, q3, qf⟩ := cells4 rq
  go_wp2_with fail
  clear n0 n1 nf q0 q1 q2 q3 qf
  go_at_call 19; refine (hp1 _ _ _ hS hL).mono ?_; rintro e w22 ⟨rfl, hb⟩
  replace rq := RowAt.below rq hb
  replace rn := RowAt.below rn hb
  replace hS := hS.keep hb
  replace hL := hL.keep hb
  replace hB := below2 hB hb
  clear hb
  obtain ⟨Y23, hY⟩ : ∃ Y, Y = (w22.alloc (.cells #[.int .u8 1, .int .i64 7] 56)) := ⟨_, rfl⟩
  have hbY : Below w22.heap.size w22 Y23 := by rw [hY]; exact below_new (Below.refl _ _) _
  have hle : w.heap.size ≤ w22.heap.size := hB.size
  obtain ⟨gh, hgh⟩ : ∃ g, g = w22.heap.size := ⟨_, rfl⟩
  have rh : RowAt Y23 gh [.int .u8 1, .int .i64 7] 56 := by
    have h := RowAt.new w22 [.int .u8 1, .int .i64 7] 56
    rw [hgh, hY]; exact h
  have leh : w.heap.size ≤ gh := by omega
  have neqh : gq ≠ gh := by have := RowAt.lt rq; omega
  have nenh : gn ≠ gh := by have := RowAt.lt rn; omega
  replace rq := RowAt.below rq hbY
  replace rn := RowAt.below rn hbY
  replace hS := hS.keep hbY
  replace hL := hL.keep hbY
  replace hB := below2 hB hbY
  go_upto_region 4 with fail
  rw [← hY, ← hgh]
  clear hY hbY hle hgh
  obtain ⟨n0, n1, nf⟩ := cells2 rn
  obtain ⟨q0, q1, q2, q3, qf⟩ := cells4 rq
  go_wp2_with fail
  clear n0 n1 nf q0 q1 q2 q3 qf
  go_at_call 19; refine (hp2 _ _ _ hS hL).mono ?_; rintro e w24 ⟨rfl, hb⟩
  replace rq := RowAt.below rq hb
  replace rn := RowAt.below rn hb
  replace rh := RowAt.below rh hb
  replace hS := hS.keep hb
  replace hL := hL.keep hb
  replace hB := below2 hB hb
  clear hb
  obtain ⟨Y25, hY⟩ : ∃ Y, Y = (w24.alloc (.cells #[.int .u8 0, .int .i64 0] 56)) := ⟨_, rfl⟩
  have hbY : Below w24.heap.size w24 Y25 := by rw [hY]; exact below_new (Below.refl _ _) _
  have hle : w.heap.size ≤ w24.heap.size := hB.size
  obtain ⟨go, hgo⟩ : ∃ g, g = w24.heap.size := ⟨_, rfl⟩
  have ro : RowAt Y25 go [.int .u8 0, .int .i64 0] 56 := by
    have h := RowAt.new w24 [.int .u8 0, .int .i64 0] 56
    rw [hgo, hY]; exact h
  have leo : w.heap.size ≤ go := by omega
  have neqo : gq ≠ go := by have := RowAt.lt rq; omega
  have neno : gn ≠ go := by have := RowAt.lt rn; omega
  have neho : gh ≠ go := by have := RowAt.lt rh; omega
  replace rq := RowAt.below rq hbY
  replace rn := RowAt.below rn hbY
  replace rh := RowAt.below rh hbY
  replace hS := hS.keep hbY
  replace hL := hL.keep hbY
  replace hB := below2 hB hbY
  go_upto_region 5 with fail
  rw [← hY, ← hgo]
  clear hY hbY hle hgo
  clear rq
  obtain ⟨n0, n1, nf⟩ := cells2 rn
  go_wp2_with fail
  clear n0 n1 nf
  go_at_call 21; refine (sz1 _ _ _ hS hL).mono ?_; rintro e w26 ⟨rfl, hb⟩
  replace rn := RowAt.below rn hb
  replace rh := RowAt.below rh hb
  replace ro := RowAt.below ro hb
  replace hS := hS.keep hb
  replace hL := hL.keep hb
  replace hB := below2 hB hb
  clear hb
  obtain ⟨n0, n1, nf⟩ := cells2 rn
  go_wp2_with fail
  clear n0 n1 nf
  go_at_call 9; refine (ap4 _ _ _ hS hL).mono ?_; rintro e w27 ⟨a1, a2, a3, a4, a5, a6, rfl, hx1, hx2, hb⟩
  replace rn := RowAt.below rn hb
  replace rh := RowAt.below rh hb
  replace ro := RowAt.below ro hb
  replace hS := hS.keep hb
  replace hL := hL.keep hb
  replace hB := below2 hB hb
  clear hb
  clear hx1 hx2
  obtain ⟨Y28, hY⟩ : ∃ Y, Y = (w27.alloc (.cells #[.slice a1 a2 a3, .slice a4 a5 a6] 25)) := ⟨_, rfl⟩
  have hbY : Below w27.heap.size w27 Y28 := by rw [hY]; exact below_new (Below.refl _ _) _
  have hle : w.heap.size ≤ w27.heap.size := hB.size
  obtain ⟨ga, hga⟩ : ∃ g, g = w27.heap.size := ⟨_, rfl⟩
  have ra : RowAt Y28 ga [.slice a1 a2 a3, .slice a4 a5 a6] 25 := by
    have h := RowAt.new w27 [.slice a1 a2 a3, .slice a4 a5 a6] 25
    rw [hga, hY]; exact h
  have lea : w.heap.size ≤ ga := by omega
  have nena : gn ≠ ga := by have := RowAt.lt rn; omega
  have neha : gh ≠ ga := by have := RowAt.lt rh; omega
  have neoa : go ≠ ga := by have := RowAt.lt ro; omega
  replace rn := RowAt.below rn hbY
  replace rh := RowAt.below rh hbY
  replace ro := RowAt.below ro hbY
  replace hS := hS.keep hbY
  replace hL := hL.keep hbY
  replace hB := below2 hB hbY
  go_upto_region 7 with fail
  rw [← hY, ← hga]
  clear hY hbY hle hga
  clear ra
  obtain ⟨n0, n1, nf⟩ := cells2 rn
  go_wp2_with fail
  clear n0 n1 nf
  go_at_call 17; refine (fd7 _ _ _ hS hL).mono ?_; rintro e w29 ⟨b1, b2, b3, b4, b5, b6, rfl, hx1, hx2, hb⟩
  replace rn := RowAt.below rn hb
  replace rh := RowAt.below rh hb
  replace ro := RowAt.below ro hb
  replace hS := hS.keep hb
  replace hL := hL.keep hb
  replace hB := below2 hB hb
  clear hb
  clear hx1 hx2
  obtain ⟨Y30, hY⟩ : ∃ Y, Y = (w29.alloc (.cells #[.int .i64 0, .bool false, .slice b1 b2 b3, .slice b4 b5 b6] 51)) := ⟨_, rfl⟩
  have hbY : Below w29.heap.size w29 Y30 := by rw [hY]; exact below_new (Below.refl _ _) _
  have hle : w.heap.size ≤ w29.heap.size := hB.size
  obtain ⟨gb, hgb⟩ : ∃ g, g = w29.heap.size := ⟨_, rfl⟩
  have rb : RowAt Y30 gb [.int .i64 0, .bool false, .slice b1 b2 b3, .slice b4 b5 b6] 51 := by
    have h := RowAt.new w29 [.int .i64 0, .bool false, .slice b1 b2 b3, .slice b4 b5 b6] 51
    rw [hgb, hY]; exact h
  have leb : w.heap.size ≤ gb := by omega
  have nenb : gn ≠ gb := by have := RowAt.lt rn; omega
  have nehb : gh ≠ gb := by have := RowAt.lt rh; omega
  have neob : go ≠ gb := by have := RowAt.lt ro; omega
  replace rn := RowAt.below rn hbY
  replace rh := RowAt.below rh hbY
  replace ro := RowAt.below ro hbY
  replace hS := hS.keep hbY
  replace hL := hL.keep hbY
  replace hB := below2 hB hbY
  go_upto_region 8 with fail
  rw [← hY, ← hgb]
  clear hY hbY hle hgb
  clear rb
  obtain ⟨n0, n1, nf⟩ := cells2 rn
  go_wp2_with fail
  clear n0 n1 nf
  go_at_call 17; refine (fd4 _ _ _ hS hL).mono ?_; rintro e w31 ⟨c1, c2, c3, c4, c5, c6, rfl, hx1, hx2, hb⟩
  replace rn := RowAt.below rn hb
  replace rh := RowAt.below rh hb
  replace ro := RowAt.below ro hb
  replace hS := hS.keep hb
  replace hL := hL.keep hb
  replace hB := below2 hB hb
  clear hb
  clear hx1 hx2
  obtain ⟨Y32, hY⟩ : ∃ Y, Y = (w31.alloc (.cells #[.int .i64 4, .bool true, .slice c1 c2 c3, .slice c4 c5 c6] 51)) := ⟨_, rfl⟩
  have hbY : Below w31.heap.size w31 Y32 := by rw [hY]; exact below_new (Below.refl _ _) _
  have hle : w.heap.size ≤ w31.heap.size := hB.size
  obtain ⟨gc, hgc⟩ : ∃ g, g = w31.heap.size := ⟨_, rfl⟩
  have rc : RowAt Y32 gc [.int .i64 4, .bool true, .slice c1 c2 c3, .slice c4 c5 c6] 51 := by
    have h := RowAt.new w31 [.int .i64 4, .bool true, .slice c1 c2 c3, .slice c4 c5 c6] 51
    rw [hgc, hY]; exact h
  have lec : w.heap.size ≤ gc := by omega
  have nenc : gn ≠ gc := by have := RowAt.lt rn; omega
  have nehc : gh ≠ gc := by have := RowAt.lt rh; omega
  have neoc : go ≠ gc := by have := RowAt.lt ro; omega
  replace rn := RowAt.below rn hbY
  replace rh := RowAt.below rh hbY
  replace ro := RowAt.below ro hbY
  replace hS := hS.keep hbY
  replace hL := hL.keep hbY
  replace hB := below2 hB hbY
  go_upto_region 9 with fail
  rw [← hY, ← hgc]
  clear hY hbY hle hgc
  obtain ⟨n0, n1, nf⟩ := cells2 rn
  go_wp2_with fail
  clear n0 n1 nf
  go_at_call 9; refine (ap5 _ _ _ hS hL).mono ?_; rintro e w33 ⟨d1, d2, d3, d4, d5, d6, rfl, hx1, hx2, hb⟩
  replace rn := RowAt.below rn hb
  replace rh := RowAt.below rh hb
  replace ro := RowAt.below ro hb
  replace rc := RowAt.below rc hb
  replace hS := hS.keep hb
  replace hL := hL.keep hb
  replace hB := below2 hB hb
  clear hb
  clear hx1 hx2
  obtain ⟨Y34, hY⟩ : ∃ Y, Y = (w33.alloc (.cells #[.slice d1 d2 d3, .slice d4 d5 d6] 25)) := ⟨_, rfl⟩
  have hbY : Below w33.heap.size w33 Y34 := by rw [hY]; exact below_new (Below.refl _ _) _
  have hle : w.heap.size ≤ w33.heap.size := hB.size
  obtain ⟨gd, hgd⟩ : ∃ g, g = w33.heap.size := ⟨_, rfl⟩
  have rd : RowAt Y34 gd [.slice d1 d2 d3, .slice d4 d5 d6] 25 := by
    have h := RowAt.new w33 [.slice d1 d2 d3, .slice d4 d5 d6] 25
    rw [hgd, hY]; exact h
  have led : w.heap.size ≤ gd := by omega
  have nend : gn ≠ gd := by have := RowAt.lt rn; omega
  have nehd : gh ≠ gd := by have := RowAt.lt rh; omega
  have neod : go ≠ gd := by have := RowAt.lt ro; omega
  have necd : gc ≠ gd := by have := RowAt.lt rc; omega
  replace rn := RowAt.below rn hbY
  replace rh := RowAt.below rh hbY
  replace ro := RowAt.below ro hbY
  replace rc := RowAt.below rc hbY
  replace hS := hS.keep hbY
  replace hL := hL.keep hbY
  replace hB := below2 hB hbY
  go_upto_region 10 with fail
  rw [← hY, ← hgd]
  clear hY hbY hle hgd
  clear rd
  obtain ⟨n0, n1, nf⟩ := cells2 rn
  obtain ⟨h0, h1, hf⟩ := cells2 rh
  obtain ⟨o0, o1, of⟩ := cells2 ro
  obtain ⟨c0, c1, c2, c3, cf⟩ := cells4 rc
  go_wp2_with fail
  clear n0 n1 nf h0 h1 hf o0 o1 of c0 c1 c2 c3 cf
  go_at_call 15; refine (ck0 _ _ _ hS hL).mono ?_; rintro e w35 ⟨rfl, hb⟩
  replace rn := RowAt.below rn hb
  replace rh := RowAt.below rh hb
  replace ro := RowAt.below ro hb
  replace rc := RowAt.below rc hb
  replace hS := hS.keep hb
  replace hL := hL.keep hb
  replace hB := below2 hB hb
  clear hb
  go_wp2_with fail
  go_ret
  exact ⟨rfl, hB⟩
end Go.Proofs.YtbglbegljkgknaaGreat.Nt
namespace Go.Proofs.YtbglbegljkgknaaGreat.Addr
open Go.ChangeShapes Go.WideShapes Go.ChangeAt Go.RowKit
section
variable {H : Type} {enc : TypeId × Value → H} {W : World} {base : Nat} {spare : Nat → Bool} {held : Bool}
theorem wfi64 {n : Int} (h : Lit.wf (.int .i64 n)) : -9223372036854775808 ≤ n ∧ n ≤ 9223372036854775807 := by simpa [Lit.wf, IntKind.min, IntKind.max, IntKind.signed, IntKind.bits] using h
theorem wfu64 {n : Int} (h : Lit.wf (.int .u64 n)) : 0 ≤ n ∧ n ≤ 18446744073709551615 := by simpa [Lit.wf, IntKind.min, IntKind.max, IntKind.signed, IntKind.bits] using h
theorem num_of (h l : Int) (h1 : 0 ≤ h ∧ h ≤ 18446744073709551615) (h2 : 0 ≤ l ∧ l ≤ 18446744073709551615) : ∃ n : Nat, n < 2 ^ 128 ∧ h = (hiN n : Int) ∧ l = (loN n : Int) := by
  obtain ⟨a, rfl⟩ := Int.eq_ofNat_of_zero_le h1.1
  obtain ⟨b, rfl⟩ := Int.eq_ofNat_of_zero_le h2.1
  have := of_hilo a b (by omega)
  exact ⟨18446744073709551616 * a + b, by omega, by rw [this.1], by rw [this.2]⟩
set_option maxRecDepth 100000 in
theorem open_ad {x y : Value} {fuel : Nat} {d : DataW H × List MemPlace} (h : DataW.trod enc Tryz.prog W base spare held fuel 31 [x, y] = some d) : ∃ n : Nat, n < 2 ^ 128 ∧ x = .int .u64 (hiN n : Int) ∧ y = .int .u64 (loN n : Int) := by
  obtain ⟨xs, n, _, _, hlen, hxl, hfs⟩ := DataW.trod_struct Tryz.underlying31 h
  have g0 : DataW.trod enc Tryz.prog W base spare held n 29 ((([x, y] : List Value).drop 0).take (Tryz.prog.cellsOf 29)) = xs[0]? := hfs 0 _ rfl
  have g1 : DataW.trod enc Tryz.prog W base spare held n 29 ((([x, y] : List Value).drop 1).take (Tryz.prog.cellsOf 29)) = xs[1]? := hfs 1 _ rfl
  have hx2 : xs.length = 2 := hxl
  rw [List.getElem?_eq_getElem (by omega)] at g0 g1
  rw [show Tryz.prog.cellsOf 29 = 1 from by kernel_rfl] at g0 g1
  obtain ⟨a, e2, _, hw⟩ := DataW.trod_int Tryz.underlying29 g0
  obtain ⟨b, e3, _, hw2⟩ := DataW.trod_int Tryz.underlying29 g1
  obtain ⟨m, hm, r1, r2⟩ := num_of a b (wfu64 hw) (wfu64 hw2)
  have e2' : x = .int .u64 a := by injection e2
  have e3' : y = .int .u64 b := by injection e3
  exact ⟨m, hm, by rw [e2', r1], by rw [e3', r2]⟩
set_option maxRecDepth 100000 in
theorem open_addr {v : Value} {d : DataW H} {ps : List MemPlace} {r : Reach} {b0 : Nat} (hval : Value.okWide Tryz.prog W r b0 31 v) (h : DataW.Trod enc Tryz.prog W base spare held 31 v d ps) : ∃ n : Nat, v = adV n ∧ n < 2 ^ 128 := by
  obtain ⟨cs, rfl, hsz⟩ := okWide_struct Tryz.underlying31 hval
  obtain ⟨fuel, hf⟩ := h
  rw [show Tryz.prog.cellsOf 31 = 2 from by kernel_rfl] at hsz
  obtain ⟨x, y, rfl⟩ : ∃ x y, cs = #[x, y] := by
    obtain ⟨l⟩ := cs
    match l, hsz with
    | [x, y], _ => exact ⟨x, y, rfl⟩
  obtain ⟨n, hn, rfl, rfl⟩ := open_ad hf
  exact ⟨n, rfl, hn⟩
set_option maxRecDepth 100000 in
theorem open_prefix {v : Value} {d : DataW H} {ps : List MemPlace} {r : Reach} {b0 : Nat} (hval : Value.okWide Tryz.prog W r b0 33 v) (h : DataW.Trod enc Tryz.prog W base spare held 33 v d ps) : ∃ p : Pf, v = pfV p ∧ (-9223372036854775808 ≤ p.len ∧ p.len ≤ 9223372036854775807) ∧ p.n < 2 ^ 128 := by
  obtain ⟨cs, rfl, hsz⟩ := okWide_struct Tryz.underlying33 hval
  obtain ⟨fuel, hf⟩ := h
  obtain ⟨xs, n, _, _, hlen, hxl, hfs⟩ := DataW.trod_struct Tryz.underlying33 hf
  rw [show Tryz.prog.cellsOf 33 = 4 from by kernel_rfl] at hsz
  obtain ⟨s, c, f, o, rfl⟩ : ∃ s c f o, cs = #[s, c, f, o] := by
    obtain ⟨l⟩ := cs
    match l, hsz with
    | [s, c, f, o], _ => exact ⟨s, c, f, o, rfl⟩
  have g0 : DataW.trod enc Tryz.prog W base spare held n 4 ((([s, c, f, o] : List Value).drop 0).take (Tryz.prog.cellsOf 4)) = xs[0]? := hfs 0 _ rfl
  have g1 : DataW.trod enc Tryz.prog W base spare held n 31 ((([s, c, f, o] : List Value).drop 1).take (Tryz.prog.cellsOf 31)) = xs[1]? := hfs 1 _ rfl
  have g2 : DataW.trod enc Tryz.prog W base spare held n 3 ((([s, c, f, o] : List Value).drop 3).take (Tryz.prog.cellsOf 3)) = xs[2]? := hfs 2 _ rfl
  have hx3 : xs.length = 3 := hxl
  rw [List.getElem?_eq_getElem (by omega)] at g0 g1 g2
  rw [show Tryz.prog.cellsOf 4 = 1 from by kernel_rfl] at g0
  rw [show Tryz.prog.cellsOf 31 = 2 from by kernel_rfl] at g1
  rw [show Tryz.prog.cellsOf 3 = 1 from by kernel_rfl] at g2
  obtain ⟨ob, e3, _⟩ := DataW.trod_bool Tryz.underlying4 g0
  obtain ⟨m, hm, rfl, rfl⟩ := open_ad (x := c) (y := f) g1
  obtain ⟨fu, e2, _, hw⟩ := DataW.trod_int Tryz.underlying3 g2
  have e2' : o = .int .i64 fu := by injection e2
  have e3' : s = .bool ob := by injection e3
  subst e2' e3'
  exact ⟨⟨ob, m, fu⟩, rfl, wfi64 hw, hm⟩
end
end Go.Proofs.YtbglbegljkgknaaGreat.Addr
namespace Go.Proofs.YtbglbegljkgknaaGreat.Msg
open Go.ChangeShapes Go.WideShapes Go.ChangeAt Go.RowKit
open Go.Proofs.YtbglbegljkgknaaGreat.Addr (Pf okP checkP wideN firstN kP hiN loN wfi64 wfu64 open_ad)
section
variable {H : Type} {enc : TypeId × Value → H} {W : World} {base : Nat} {spare : Nat → Bool} {held : Bool}
theorem wfu8 {n : Int} (h : Lit.wf (.int .u8 n)) : 0 ≤ n ∧ n ≤ 255 := by simpa [Lit.wf, IntKind.min, IntKind.max, IntKind.signed, IntKind.bits] using h
set_option maxRecDepth 100000 in
theorem open_ac2 {x y : Value} {fuel : Nat} {d : DataW H × List MemPlace} (h : DataW.trod enc Tryz.prog W base spare held fuel 36 [x, y] = some d) : ∃ a : Ac, x = .int .u8 (a.k : Int) ∧ y = .int .i64 a.i ∧ FitA a := by
  obtain ⟨xs, n, _, _, hlen, hxl, hfs⟩ := DataW.trod_struct Tryz.underlying36 h
  have g0 : DataW.trod enc Tryz.prog W base spare held n 34 ((([x, y] : List Value).drop 0).take (Tryz.prog.cellsOf 34)) = xs[0]? := hfs 0 _ rfl
  have g1 : DataW.trod enc Tryz.prog W base spare held n 3 ((([x, y] : List Value).drop 1).take (Tryz.prog.cellsOf 3)) = xs[1]? := hfs 1 _ rfl
  have hx2 : xs.length = 2 := hxl
  rw [List.getElem?_eq_getElem (by omega)] at g0 g1
  rw [show Tryz.prog.cellsOf 34 = 1 from by kernel_rfl] at g0
  rw [show Tryz.prog.cellsOf 3 = 1 from by kernel_rfl] at g1
  obtain ⟨a, e2, _, hw⟩ := DataW.trod_int Tryz.underlying34 g0
  obtain ⟨b, e3, _, hw2⟩ := DataW.trod_int Tryz.underlying3 g1
  have e2' : x = .int .u8 a := by injection e2
  have e3' : y = .int .i64 b := by injection e3
  have q := wfu8 hw
  obtain ⟨k, rfl⟩ := Int.eq_ofNat_of_zero_le q.1
  exact ⟨⟨k, b⟩, e2', e3', q.2, wfi64 hw2⟩
set_option maxRecDepth 100000 in
theorem open_pf4 {s c f o : Value} {fuel : Nat} {d : DataW H × List MemPlace} (h : DataW.trod enc Tryz.prog W base spare held fuel 33 [s, c, f, o] = some d) : ∃ p : Pf, s = .bool p.six ∧ c = .int .u64 (hiN p.n : Int) ∧ f = .int .u64 (loN p.n : Int) ∧ o = .int .i64 p.len ∧ (-9223372036854775808 ≤ p.len ∧ p.len ≤ 9223372036854775807) ∧ p.n < 2 ^ 128 := by
  obtain ⟨xs, n, _, _, hlen, hxl, hfs⟩ := DataW.trod_struct Tryz.underlying33 h
  have g0 : DataW.trod enc Tryz.prog W base spare held n 4 ((([s, c, f, o] : List Value).drop 0).take (Tryz.prog.cellsOf 4)) = xs[0]? := hfs 0 _ rfl
  have g1 : DataW.trod enc Tryz.prog W base spare held n 31 ((([s, c, f, o] : List Value).drop 1).take (Tryz.prog.cellsOf 31)) = xs[1]? := hfs 1 _ rfl
  have g2 : DataW.trod enc Tryz.prog W base spare held n 3 ((([s, c, f, o] : List Value).drop 3).take (Tryz.prog.cellsOf 3)) = xs[2]? := hfs 2 _ rfl
  have hx3 : xs.length = 3 := hxl
  rw [List.getElem?_eq_getElem (by omega)] at g0 g1 g2
  rw [show Tryz.prog.cellsOf 4 = 1 from by kernel_rfl] at g0
  rw [show Tryz.prog.cellsOf 31 = 2 from by kernel_rfl] at g1
  rw [show Tryz.prog.cellsOf 3 = 1 from by kernel_rfl] at g2
  obtain ⟨ob, e3, _⟩ := DataW.trod_bool Tryz.underlying4 g0
  obtain ⟨m, hm, rfl, rfl⟩ := open_ad (x := c) (y := f) g1
  obtain ⟨fu, e2, _, hw⟩ := DataW.trod_int Tryz.underlying3 g2
  have e2' : o = .int .i64 fu := by injection e2
  have e3' : s = .bool ob := by injection e3
  exact ⟨⟨ob, m, fu⟩, e3', rfl, rfl, e2', wfi64 hw, hm⟩
set_option maxRecDepth 100000 in
theorem open_action {v : Value} {d : DataW H} {ps : List MemPlace} {r : Reach} {b0 : Nat} (hval : Value.okWide Tryz.prog W r b0 36 v) (h : DataW.Trod enc Tryz.prog W base spare held 36 v d ps) : ∃ a : Ac, v = acV a ∧ FitA a := by
  obtain ⟨cs, rfl, hsz⟩ := okWide_struct Tryz.underlying36 hval
  obtain ⟨fuel, hf⟩ := h
  rw [show Tryz.prog.cellsOf 36 = 2 from by kernel_rfl] at hsz
  obtain ⟨x, y, rfl⟩ : ∃ x y, cs = #[x, y] := by
    obtain ⟨l⟩ := cs
    match l, hsz with
    | [x, y], _ => exact ⟨x, y, rfl⟩
  obtain ⟨a, rfl, rfl, fa⟩ := open_ac2 hf
  exact ⟨a, rfl, fa⟩
set_option maxRecDepth 100000 in
theorem open_event {v : Value} {d : DataW H} {ps : List MemPlace} {r : Reach} {b0 : Nat} (hval : Value.okWide Tryz.prog W r b0 38 v) (h : DataW.Trod enc Tryz.prog W base spare held 38 v d ps) : ∃ e : Ev, v = evV e ∧ FitE e := by
  obtain ⟨cs, rfl, hsz⟩ := okWide_struct Tryz.underlying38 hval
  obtain ⟨fuel, hf⟩ := h
  obtain ⟨xs, n, _, _, hlen, hxl, hfs⟩ := DataW.trod_struct Tryz.underlying38 hf
  rw [show Tryz.prog.cellsOf 38 = 12 from by kernel_rfl] at hsz
  obtain ⟨c0, c1, c2, c3, c4, c5, c6, c7, c8, c9, c10, c11, rfl⟩ : ∃ c0 c1 c2 c3 c4 c5 c6 c7 c8 c9 c10 c11, cs = #[c0, c1, c2, c3, c4, c5, c6, c7, c8, c9, c10, c11] := by
    obtain ⟨l⟩ := cs
    match l, hsz with
    | [c0, c1, c2, c3, c4, c5, c6, c7, c8, c9, c10, c11], _ => exact ⟨c0, c1, c2, c3, c4, c5, c6, c7, c8, c9, c10, c11, rfl⟩
  have g0 : DataW.trod enc Tryz.prog W base spare held n 28 ((([c0, c1, c2, c3, c4, c5, c6, c7, c8, c9, c10, c11] : List Value).drop 0).take (Tryz.prog.cellsOf 28)) = xs[0]? := hfs 0 _ rfl
  have g1 : DataW.trod enc Tryz.prog W base spare held n 3 ((([c0, c1, c2, c3, c4, c5, c6, c7, c8, c9, c10, c11] : List Value).drop 1).take (Tryz.prog.cellsOf 3)) = xs[1]? := hfs 1 _ rfl
  have g2 : DataW.trod enc Tryz.prog W base spare held n 29 ((([c0, c1, c2, c3, c4, c5, c6, c7, c8, c9, c10, c11] : List Value).drop 2).take (Tryz.prog.cellsOf 29)) = xs[2]? := hfs 2 _ rfl
  have g3 : DataW.trod enc Tryz.prog W base spare held n 2 ((([c0, c1, c2, c3, c4, c5, c6, c7, c8, c9, c10, c11] : List Value).drop 3).take (Tryz.prog.cellsOf 2)) = xs[3]? := hfs 3 _ rfl
  have g4 : DataW.trod enc Tryz.prog W base spare held n 33 ((([c0, c1, c2, c3, c4, c5, c6, c7, c8, c9, c10, c11] : List Value).drop 4).take (Tryz.prog.cellsOf 33)) = xs[4]? := hfs 4 _ rfl
  have g5 : DataW.trod enc Tryz.prog W base spare held n 36 ((([c0, c1, c2, c3, c4, c5, c6, c7, c8, c9, c10, c11] : List Value).drop 8).take (Tryz.prog.cellsOf 36)) = xs[5]? := hfs 5 _ rfl
  have g6 : DataW.trod enc Tryz.prog W base spare held n 3 ((([c0, c1, c2, c3, c4, c5, c6, c7, c8, c9, c10, c11] : List Value).drop 10).take (Tryz.prog.cellsOf 3)) = xs[6]? := hfs 6 _ rfl
  have g7 : DataW.trod enc Tryz.prog W base spare held n 3 ((([c0, c1, c2, c3, c4, c5, c6, c7, c8, c9, c10, c11] : List Value).drop 11).take (Tryz.prog.cellsOf 3)) = xs[7]? := hfs 7 _ rfl
  have hx8 : xs.length = 8 := hxl
  rw [List.getElem?_eq_getElem (by omega)] at g0 g1 g2 g3 g4 g5 g6 g7
  rw [show Tryz.prog.cellsOf 28 = 1 from by kernel_rfl] at g0
  rw [show Tryz.prog.cellsOf 3 = 1 from by kernel_rfl] at g1 g6 g7
  rw [show Tryz.prog.cellsOf 29 = 1 from by kernel_rfl] at g2
  rw [show Tryz.prog.cellsOf 2 = 1 from by kernel_rfl] at g3
  rw [show Tryz.prog.cellsOf 33 = 4 from by kernel_rfl] at g4
  rw [show Tryz.prog.cellsOf 36 = 2 from by kernel_rfl] at g5
  obtain ⟨k, e0, _, w0⟩ := DataW.trod_int Tryz.underlying28 g0
  obtain ⟨r1, e1, _, w1⟩ := DataW.trod_int Tryz.underlying3 g1
  obtain ⟨s2, e2, _, w2⟩ := DataW.trod_int Tryz.underlying29 g2
  obtain ⟨t3, e3, _, w3⟩ := DataW.trod_int Tryz.underlying2 g3
  obtain ⟨p, r4, r5, r6, r7, b1, b2⟩ := open_pf4 (s := c4) (c := c5) (f := c6) (o := c7) g4
  obtain ⟨a, r8, r9, fa⟩ := open_ac2 (x := c8) (y := c9) g5
  obtain ⟨i6, e6, _, w6⟩ := DataW.trod_int Tryz.underlying3 g6
  obtain ⟨j7, e7, _, w7⟩ := DataW.trod_int Tryz.underlying3 g7
  have e0' : c0 = .int .u8 k := by injection e0
  have e1' : c1 = .int .i64 r1 := by injection e1
  have e2' : c2 = .int .u64 s2 := by injection e2
  have e3' : c3 = .int .i64 t3 := by injection e3
  have e6' : c10 = .int .i64 i6 := by injection e6
  have e7' : c11 = .int .i64 j7 := by injection e7
  have q := wfu8 w0
  have q2 := wfu64 w2
  obtain ⟨kk, rfl⟩ := Int.eq_ofNat_of_zero_le q.1
  obtain ⟨ss, rfl⟩ := Int.eq_ofNat_of_zero_le q2.1
  subst e0' e1' e2' e3' e6' e7' r4 r5 r6 r7 r8 r9
  exact ⟨⟨kk, r1, ss, t3, p, a, i6, j7⟩, rfl, ⟨q.2, wfi64 w1, q2.2, wfi64 w3, b1, b2, fa, wfi64 w6, wfi64 w7⟩⟩
end
end Go.Proofs.YtbglbegljkgknaaGreat.Msg
