/- For every event and text: spoorlaw11.MsgBack returns true, and changes nothing that was there. No condition. -/
import Derived.Test.YtcnhbaiogjfhcaaRows
import Derived.Test.YtcnhbaiogjfhcaaMsgLives
import Derived.Test.YtcnhbaiogjfhcaaMsgBackM
import Derived.Test.YtcnhbaiogjfhcaaMsgOpen
import Derived.ProofKit
import Derived.OpenShut
import Derived.ShutString
import Derived.SizedLaws
set_option linter.unusedVariables false
namespace Go.Proofs.Ytcnhbaiogjfhcaa
namespace msgBack
open Go.ChangeShapes Go.WideShapes Go.ChangeAt Go.RowKit
open Go.ChangeMaps (open_string shut_string)
open Go.Proofs.Ytcnhbaiogjfhcaa.Msg
open Go.Proofs.Ytcnhbaiogjfhcaa.Addr (Pf okP checkP wideN firstN kP hiN loN adV pfV RowAt below2 below_drew below_new bset RowAt.lt RowAt.cell RowAt.frozen RowAt.below RowAt.drew RowAt.new RowAt.alloc gdrew gset gbelow galloc grefl cells2 cells4 results_cell)

theorem own : ownKnob Try.prog.godebug = none := by kernel_rfl
theorem laidOut : laidOutB Try.prog = true := by kernel_rfl
theorem zero_fit : FitE zeroE := ⟨by decide, by decide, by decide, by decide, by decide, by decide, ⟨by decide, by decide, by decide⟩, by decide, by decide⟩
theorem get_fit (s : List UInt8) : FitE (getE s).1 := by
  have h : FitE (firstP rdE okE zeroE s).1 := by
    unfold firstP
    split
    · exact zero_fit
    · split
      · exact ev_fit s
      · exact zero_fit
  unfold getE
  split
  · exact h
  · exact zero_fit
theorem get_put (e : Ev) (h : okE e = true) : getE (evB e) = (e, 0) := by
  have h1 := rdE_put e [] h
  rw [List.append_nil] at h1
  have h2 : firstP rdE okE zeroE (evB e) = (e, [], 0) := by
    unfold firstP
    rw [h1]
    simp only
    rw [if_pos h]
  unfold getE
  rw [h2]
  rfl
theorem get_back (s : List UInt8) (h : (getE s).2 = 0) : okE (getE s).1 = true ∧ evB (getE s).1 = s := by
  unfold getE at h ⊢
  cases hr : (rdE (some s)).2 with
  | none =>
    have h2 : firstP rdE okE zeroE s = (zeroE, [], 7) := by unfold firstP; rw [hr]
    rw [h2] at h
    exact absurd h (by decide)
  | some r =>
    cases ho : okE (rdE (some s)).1 with
    | false =>
      have h2 : firstP rdE okE zeroE s = (zeroE, [], 7) := by unfold firstP; rw [hr]; simp only; rw [ho]; rfl
      rw [h2] at h
      exact absurd h (by decide)
    | true =>
      have h2 : firstP rdE okE zeroE s = ((rdE (some s)).1, r, 0) := by unfold firstP; rw [hr]; simp only; rw [ho]; rfl
      rw [h2] at h ⊢
      cases r with
      | nil =>
        simp only [List.isEmpty_nil, if_true] at h ⊢
        have := rdE_back hr ho
        rw [List.append_nil] at this
        exact ⟨ho, this.symm⟩
      | cons a t =>
        exact absurd (show (7 : Int) = 0 from h) (by decide)
theorem putL_pos (n : Nat) : 1 ≤ (putL n).length := List.length_pos_iff.2 (putL_ne n)
theorem evB_len (e : Ev) (h : okE e = true) : 4 ≤ (evB e).length ∧ (evB e).length ≤ 64 := by
  have h1 := restB_le e h
  have p1 := putL_pos e.router.toNat
  have p2 := putL_pos e.seq
  have p3 := putL_pos e.time.toNat
  obtain ⟨⟨hk, hr, hs, ht⟩, _, _⟩ := okE_bd h
  have q1 := putL_le e.router.toNat (by omega)
  have q2 := putL_le e.seq (by omega)
  have q3 := putL_le e.time.toNat (by omega)
  unfold evB
  simp only [List.length_append, List.length_cons, List.length_nil]
  omega
set_option maxHeartbeats 8000000 in
set_option maxRecDepth 20000 in
theorem walk1 (c0 c1 c2 c3 c5 c6 c7 c8 c9 c10 c11 y0 y1 y2 y3 y5 y6 y7 y8 y9 y10 y11 : Int) (c4 y4 : Bool) (B S U : ByteArray) (V V4 : Int) (w : World) (hS : 4 ≤ S.size ∧ S.size ≤ 64) 
    (p1 : ∀ W : World, Calls Try.prog 8 #[.agg #[.int .u8 c0, .int .i64 c1, .int .u64 c2, .int .i64 c3, .bool c4, .int .u64 c5, .int .u64 c6, .int .i64 c7, .int .u8 c8, .int .i64 c9, .int .i64 c10, .int .i64 c11]] W fun e w' => e = .returned (.tuple #[.string S, .int .i64 0]) ∧ Below W.heap.size W w')
    (p2 : ∀ W : World, Calls Try.prog 10 #[.string S] W fun e w' => e = .returned (.tuple #[.agg #[.int .u8 c0, .int .i64 c1, .int .u64 c2, .int .i64 c3, .bool c4, .int .u64 c5, .int .u64 c6, .int .i64 c7, .int .u8 c8, .int .i64 c9, .int .i64 c10, .int .i64 c11], .int .i64 0]) ∧ Below W.heap.size W w')
    (p3 : ∀ W : World, Calls Try.prog 10 #[.string B] W fun e w' => e = .returned (.tuple #[.agg #[.int .u8 y0, .int .i64 y1, .int .u64 y2, .int .i64 y3, .bool y4, .int .u64 y5, .int .u64 y6, .int .i64 y7, .int .u8 y8, .int .i64 y9, .int .i64 y10, .int .i64 y11], .int .i64 V]) ∧ Below W.heap.size W w')
    (p4 : ∀ W : World, Calls Try.prog 8 #[.agg #[.int .u8 y0, .int .i64 y1, .int .u64 y2, .int .i64 y3, .bool y4, .int .u64 y5, .int .u64 y6, .int .i64 y7, .int .u8 y8, .int .i64 y9, .int .i64 y10, .int .i64 y11]] W fun e w' => e = .returned (.tuple #[.string U, .int .i64 V4]) ∧ Below W.heap.size W w')
    (hfin : V = 0 → V4 = 0 ∧ U = B ∧ ∀ W : World, Calls Try.prog 13 #[.agg #[.int .u8 y0, .int .i64 y1, .int .u64 y2, .int .i64 y3, .bool y4, .int .u64 y5, .int .u64 y6, .int .i64 y7, .int .u8 y8, .int .i64 y9, .int .i64 y10, .int .i64 y11]] W fun e w' => e = .returned (.int .i64 0) ∧ Below W.heap.size W w')
    (hne : ∀ W : World, (binOp .neq 32 (.agg #[.int .u8 c0, .int .i64 c1, .int .u64 c2, .int .i64 c3, .bool c4, .int .u64 c5, .int .u64 c6, .int .i64 c7, .int .u8 c8, .int .i64 c9, .int .i64 c10, .int .i64 c11]) (.agg #[.int .u8 c0, .int .i64 c1, .int .u64 c2, .int .i64 c3, .bool c4, .int .u64 c5, .int .u64 c6, .int .i64 c7, .int .u8 c8, .int .i64 c9, .int .i64 c10, .int .i64 c11])).run Try.prog W = .ok (.bool false) W) :
    Calls Try.prog 5 #[.agg #[.int .u8 c0, .int .i64 c1, .int .u64 c2, .int .i64 c3, .bool c4, .int .u64 c5, .int .u64 c6, .int .i64 c7, .int .u8 c8, .int .i64 c9, .int .i64 c10, .int .i64 c11], .string B] w fun e w' => e = .returned (.bool true) ∧ Below w.heap.size w w' := by
  have hv := lives_any
  have hgd := ev_guard
  have s1 : decide ((64 : Int) < (S.size : Int)) = false := decide_eq_false (by omega)
  have s2 : decide ((S.size : Int) < 4) = false := decide_eq_false (by omega)
  have s3 : decide (64 < S.size) = false := decide_eq_false (by omega)
  have s4 : decide (S.size < 4) = false := decide_eq_false (by omega)
  go_enter Try.func5, Try.ntmps5
  go_upto_region 1 with fail
  have hB : Below w.heap.size w w := Below.refl _ _
  obtain ⟨Y1, hY⟩ : ∃ Y1, Y1 = w.alloc (.cells #[.int .u8 c0, .int .i64 c1, .int .u64 c2, .int .i64 c3, .bool c4, .int .u64 c5, .int .u64 c6, .int .i64 c7, .int .u8 c8, .int .i64 c9, .int .i64 c10, .int .i64 c11] 32) := ⟨_, rfl⟩
  have hbY : Below w.heap.size w Y1 := by rw [hY]; exact below_new (Below.refl _ _) _
  have ra : RowAt Y1 w.heap.size [.int .u8 c0, .int .i64 c1, .int .u64 c2, .int .i64 c3, .bool c4, .int .u64 c5, .int .u64 c6, .int .i64 c7, .int .u8 c8, .int .i64 c9, .int .i64 c10, .int .i64 c11] 32 := by rw [hY]; exact RowAt.new _ _ _
  rw [← hY]
  replace hB := below2 hB hbY
  clear hY hbY
  obtain ⟨ga, hg⟩ : ∃ g, g = w.heap.size := ⟨_, rfl⟩
  rw [← hg] at ra ⊢
  clear hg
  go_wp2_with fail
  go_at_call 12; refine (hv _).mono ?_; rintro e w2 ⟨rfl, hb⟩
  replace ra := RowAt.below ra hb
  replace hB := below2 hB hb
  clear hb
  obtain ⟨⟨k0, k1, k2, k3, k4, k5⟩, ⟨k6, k7, k8, k9, k10, k11⟩, kf, kl⟩ := cells12 ra
  go_wp2_with fail
  go_at_call 8; refine (p1 _).mono ?_; rintro e w3 ⟨rfl, hb⟩
  replace ra := RowAt.below ra hb
  replace hB := below2 hB hb
  clear hb
  clear k0 k1 k2 k3 k4 k5 k6 k7 k8 k9 k10 k11 kf kl
  go_wp2_with fail
  go_at_call 10; refine (p2 _).mono ?_; rintro e w4 ⟨rfl, hb⟩
  replace ra := RowAt.below ra hb
  replace hB := below2 hB hb
  clear hb
  go_upto_region 5 with fail
  obtain ⟨Y5, hY⟩ : ∃ Y5, Y5 = w4.alloc (.cells #[.int .u8 c0, .int .i64 c1, .int .u64 c2, .int .i64 c3, .bool c4, .int .u64 c5, .int .u64 c6, .int .i64 c7, .int .u8 c8, .int .i64 c9, .int .i64 c10, .int .i64 c11] 32) := ⟨_, rfl⟩
  have hbY : Below w4.heap.size w4 Y5 := by rw [hY]; exact below_new (Below.refl _ _) _
  have rb : RowAt Y5 w4.heap.size [.int .u8 c0, .int .i64 c1, .int .u64 c2, .int .i64 c3, .bool c4, .int .u64 c5, .int .u64 c6, .int .i64 c7, .int .u8 c8, .int .i64 c9, .int .i64 c10, .int .i64 c11] 32 := by rw [hY]; exact RowAt.new _ _ _
  rw [← hY]
  replace ra := RowAt.below ra hbY
  replace hB := below2 hB hbY
  clear hY hbY
  obtain ⟨gb, hg⟩ : ∃ g, g = w4.heap.size := ⟨_, rfl⟩
  rw [← hg] at rb ⊢
  clear hg
  obtain ⟨⟨k0, k1, k2, k3, k4, k5⟩, ⟨k6, k7, k8, k9, k10, k11⟩, kf, kl⟩ := cells12 ra
  obtain ⟨⟨m0, m1, m2, m3, m4, m5⟩, ⟨m6, m7, m8, m9, m10, m11⟩, mf, ml⟩ := cells12 rb
  go_wp2_with fail
  go_at_call 10; refine (p3 _).mono ?_; rintro e w6 ⟨rfl, hb⟩
  replace ra := RowAt.below ra hb
  replace rb := RowAt.below rb hb
  replace hB := below2 hB hb
  clear hb
  clear k0 k1 k2 k3 k4 k5 k6 k7 k8 k9 k10 k11 kf kl
  clear m0 m1 m2 m3 m4 m5 m6 m7 m8 m9 m10 m11 mf ml
  go_upto_region 8 with fail
  obtain ⟨Y7, hY⟩ : ∃ Y7, Y7 = w6.alloc (.cells #[.int .u8 y0, .int .i64 y1, .int .u64 y2, .int .i64 y3, .bool y4, .int .u64 y5, .int .u64 y6, .int .i64 y7, .int .u8 y8, .int .i64 y9, .int .i64 y10, .int .i64 y11] 32) := ⟨_, rfl⟩
  have hbY : Below w6.heap.size w6 Y7 := by rw [hY]; exact below_new (Below.refl _ _) _
  have rd : RowAt Y7 w6.heap.size [.int .u8 y0, .int .i64 y1, .int .u64 y2, .int .i64 y3, .bool y4, .int .u64 y5, .int .u64 y6, .int .i64 y7, .int .u8 y8, .int .i64 y9, .int .i64 y10, .int .i64 y11] 32 := by rw [hY]; exact RowAt.new _ _ _
  rw [← hY]
  replace ra := RowAt.below ra hbY
  replace rb := RowAt.below rb hbY
  replace hB := below2 hB hbY
  clear hY hbY
  obtain ⟨gd, hg⟩ : ∃ g, g = w6.heap.size := ⟨_, rfl⟩
  rw [← hg] at rd ⊢
  clear hg
  obtain ⟨⟨m0, m1, m2, m3, m4, m5⟩, ⟨m6, m7, m8, m9, m10, m11⟩, mf, ml⟩ := cells12 rd
  go_wp2_with fail
  go_at_call 8; refine (p4 _).mono ?_; rintro e w8 ⟨rfl, hb⟩
  replace ra := RowAt.below ra hb
  replace rb := RowAt.below rb hb
  replace rd := RowAt.below rd hb
  replace hB := below2 hB hb
  clear hb
  clear m0 m1 m2 m3 m4 m5 m6 m7 m8 m9 m10 m11 mf ml
  obtain ⟨⟨m0, m1, m2, m3, m4, m5⟩, ⟨m6, m7, m8, m9, m10, m11⟩, mf, ml⟩ := cells12 rd
  by_cases hV : V = 0
  · obtain ⟨rfl, rfl, p5⟩ := hfin hV
    subst hV
    go_wp2_with fail
    go_at_call 13; refine (p5 _).mono ?_; rintro e w9 ⟨rfl, hb⟩
    go_wp2_with fail
    go_ret
    exact ⟨rfl, below2 hB hb⟩
  · have hV1 : (V == 0) = false := beq_eq_false_iff_ne.2 hV
    have hV2 : (V != 0) = true := bne_iff_ne.2 hV
    go_wp2_with fail
    go_ret
    exact ⟨rfl, hB⟩
set_option maxHeartbeats 8000000 in
set_option maxRecDepth 20000 in
theorem walk0 (c0 c1 c2 c3 c5 c6 c7 c8 c9 c10 c11 y0 y1 y2 y3 y5 y6 y7 y8 y9 y10 y11 : Int) (c4 y4 : Bool) (B S U : ByteArray) (V V4 : Int) (w : World) 
    (p1 : ∀ W : World, Calls Try.prog 8 #[.agg #[.int .u8 c0, .int .i64 c1, .int .u64 c2, .int .i64 c3, .bool c4, .int .u64 c5, .int .u64 c6, .int .i64 c7, .int .u8 c8, .int .i64 c9, .int .i64 c10, .int .i64 c11]] W fun e w' => e = .returned (.tuple #[.string S, .int .i64 2]) ∧ Below W.heap.size W w')
    (p2 : ∀ W : World, Calls Try.prog 10 #[.string S] W fun e w' => e = .returned (.tuple #[.agg #[.int .u8 0, .int .i64 0, .int .u64 0, .int .i64 0, .bool false, .int .u64 0, .int .u64 0, .int .i64 0, .int .u8 0, .int .i64 0, .int .i64 0, .int .i64 0], .int .i64 7]) ∧ Below W.heap.size W w')
    (p3 : ∀ W : World, Calls Try.prog 10 #[.string B] W fun e w' => e = .returned (.tuple #[.agg #[.int .u8 y0, .int .i64 y1, .int .u64 y2, .int .i64 y3, .bool y4, .int .u64 y5, .int .u64 y6, .int .i64 y7, .int .u8 y8, .int .i64 y9, .int .i64 y10, .int .i64 y11], .int .i64 V]) ∧ Below W.heap.size W w')
    (p4 : ∀ W : World, Calls Try.prog 8 #[.agg #[.int .u8 y0, .int .i64 y1, .int .u64 y2, .int .i64 y3, .bool y4, .int .u64 y5, .int .u64 y6, .int .i64 y7, .int .u8 y8, .int .i64 y9, .int .i64 y10, .int .i64 y11]] W fun e w' => e = .returned (.tuple #[.string U, .int .i64 V4]) ∧ Below W.heap.size W w')
    (hfin : V = 0 → V4 = 0 ∧ U = B ∧ ∀ W : World, Calls Try.prog 13 #[.agg #[.int .u8 y0, .int .i64 y1, .int .u64 y2, .int .i64 y3, .bool y4, .int .u64 y5, .int .u64 y6, .int .i64 y7, .int .u8 y8, .int .i64 y9, .int .i64 y10, .int .i64 y11]] W fun e w' => e = .returned (.int .i64 0) ∧ Below W.heap.size W w')
    (hne : ∀ W : World, (binOp .neq 32 (.agg #[.int .u8 c0, .int .i64 c1, .int .u64 c2, .int .i64 c3, .bool c4, .int .u64 c5, .int .u64 c6, .int .i64 c7, .int .u8 c8, .int .i64 c9, .int .i64 c10, .int .i64 c11]) (.agg #[.int .u8 c0, .int .i64 c1, .int .u64 c2, .int .i64 c3, .bool c4, .int .u64 c5, .int .u64 c6, .int .i64 c7, .int .u8 c8, .int .i64 c9, .int .i64 c10, .int .i64 c11])).run Try.prog W = .ok (.bool false) W) :
    Calls Try.prog 5 #[.agg #[.int .u8 c0, .int .i64 c1, .int .u64 c2, .int .i64 c3, .bool c4, .int .u64 c5, .int .u64 c6, .int .i64 c7, .int .u8 c8, .int .i64 c9, .int .i64 c10, .int .i64 c11], .string B] w fun e w' => e = .returned (.bool true) ∧ Below w.heap.size w w' := by
  have hv := lives_any
  have hgd := ev_guard
  go_enter Try.func5, Try.ntmps5
  go_upto_region 1 with fail
  have hB : Below w.heap.size w w := Below.refl _ _
  obtain ⟨Y1, hY⟩ : ∃ Y1, Y1 = w.alloc (.cells #[.int .u8 c0, .int .i64 c1, .int .u64 c2, .int .i64 c3, .bool c4, .int .u64 c5, .int .u64 c6, .int .i64 c7, .int .u8 c8, .int .i64 c9, .int .i64 c10, .int .i64 c11] 32) := ⟨_, rfl⟩
  have hbY : Below w.heap.size w Y1 := by rw [hY]; exact below_new (Below.refl _ _) _
  have ra : RowAt Y1 w.heap.size [.int .u8 c0, .int .i64 c1, .int .u64 c2, .int .i64 c3, .bool c4, .int .u64 c5, .int .u64 c6, .int .i64 c7, .int .u8 c8, .int .i64 c9, .int .i64 c10, .int .i64 c11] 32 := by rw [hY]; exact RowAt.new _ _ _
  rw [← hY]
  replace hB := below2 hB hbY
  clear hY hbY
  obtain ⟨ga, hg⟩ : ∃ g, g = w.heap.size := ⟨_, rfl⟩
  rw [← hg] at ra ⊢
  clear hg
  go_wp2_with fail
  go_at_call 12; refine (hv _).mono ?_; rintro e w2 ⟨rfl, hb⟩
  replace ra := RowAt.below ra hb
  replace hB := below2 hB hb
  clear hb
  obtain ⟨⟨k0, k1, k2, k3, k4, k5⟩, ⟨k6, k7, k8, k9, k10, k11⟩, kf, kl⟩ := cells12 ra
  go_wp2_with fail
  go_at_call 8; refine (p1 _).mono ?_; rintro e w3 ⟨rfl, hb⟩
  replace ra := RowAt.below ra hb
  replace hB := below2 hB hb
  clear hb
  clear k0 k1 k2 k3 k4 k5 k6 k7 k8 k9 k10 k11 kf kl
  go_wp2_with fail
  go_at_call 10; refine (p2 _).mono ?_; rintro e w4 ⟨rfl, hb⟩
  replace ra := RowAt.below ra hb
  replace hB := below2 hB hb
  clear hb
  go_upto_region 5 with fail
  obtain ⟨Y5, hY⟩ : ∃ Y5, Y5 = w4.alloc (.cells #[.int .u8 0, .int .i64 0, .int .u64 0, .int .i64 0, .bool false, .int .u64 0, .int .u64 0, .int .i64 0, .int .u8 0, .int .i64 0, .int .i64 0, .int .i64 0] 32) := ⟨_, rfl⟩
  have hbY : Below w4.heap.size w4 Y5 := by rw [hY]; exact below_new (Below.refl _ _) _
  have rb : RowAt Y5 w4.heap.size [.int .u8 0, .int .i64 0, .int .u64 0, .int .i64 0, .bool false, .int .u64 0, .int .u64 0, .int .i64 0, .int .u8 0, .int .i64 0, .int .i64 0, .int .i64 0] 32 := by rw [hY]; exact RowAt.new _ _ _
  rw [← hY]
  replace ra := RowAt.below ra hbY
  replace hB := below2 hB hbY
  clear hY hbY
  obtain ⟨gb, hg⟩ : ∃ g, g = w4.heap.size := ⟨_, rfl⟩
  rw [← hg] at rb ⊢
  clear hg
  obtain ⟨⟨k0, k1, k2, k3, k4, k5⟩, ⟨k6, k7, k8, k9, k10, k11⟩, kf, kl⟩ := cells12 ra
  obtain ⟨⟨m0, m1, m2, m3, m4, m5⟩, ⟨m6, m7, m8, m9, m10, m11⟩, mf, ml⟩ := cells12 rb
  go_wp2_with fail
  go_at_call 10; refine (p3 _).mono ?_; rintro e w6 ⟨rfl, hb⟩
  replace ra := RowAt.below ra hb
  replace rb := RowAt.below rb hb
  replace hB := below2 hB hb
  clear hb
  clear k0 k1 k2 k3 k4 k5 k6 k7 k8 k9 k10 k11 kf kl
  clear m0 m1 m2 m3 m4 m5 m6 m7 m8 m9 m10 m11 mf ml
  go_upto_region 8 with fail
  obtain ⟨Y7, hY⟩ : ∃ Y7, Y7 = w6.alloc (.cells #[.int .u8 y0, .int .i64 y1, .int .u64 y2, .int .i64 y3, .bool y4, .int .u64 y5, .int .u64 y6, .int .i64 y7, .int .u8 y8, .int .i64 y9, .int .i64 y10, .int .i64 y11] 32) := ⟨_, rfl⟩
  have hbY : Below w6.heap.size w6 Y7 := by rw [hY]; exact below_new (Below.refl _ _) _
  have rd : RowAt Y7 w6.heap.size [.int .u8 y0, .int .i64 y1, .int .u64 y2, .int .i64 y3, .bool y4, .int .u64 y5, .int .u64 y6, .int .i64 y7, .int .u8 y8, .int .i64 y9, .int .i64 y10, .int .i64 y11] 32 := by rw [hY]; exact RowAt.new _ _ _
  rw [← hY]
  replace ra := RowAt.below ra hbY
  replace rb := RowAt.below rb hbY
  replace hB := below2 hB hbY
  clear hY hbY
  obtain ⟨gd, hg⟩ : ∃ g, g = w6.heap.size := ⟨_, rfl⟩
  rw [← hg] at rd ⊢
  clear hg
  obtain ⟨⟨m0, m1, m2, m3, m4, m5⟩, ⟨m6, m7, m8, m9, m10, m11⟩, mf, ml⟩ := cells12 rd
  go_wp2_with fail
  go_at_call 8; refine (p4 _).mono ?_; rintro e w8 ⟨rfl, hb⟩
  replace ra := RowAt.below ra hb
  replace rb := RowAt.below rb hb
  replace rd := RowAt.below rd hb
  replace hB := below2 hB hb
  clear hb
  clear m0 m1 m2 m3 m4 m5 m6 m7 m8 m9 m10 m11 mf ml
  obtain ⟨⟨m0, m1, m2, m3, m4, m5⟩, ⟨m6, m7, m8, m9, m10, m11⟩, mf, ml⟩ := cells12 rd
  by_cases hV : V = 0
  · obtain ⟨rfl, rfl, p5⟩ := hfin hV
    subst hV
    go_wp2_with fail
    go_at_call 13; refine (p5 _).mono ?_; rintro e w9 ⟨rfl, hb⟩
    go_wp2_with fail
    go_ret
    exact ⟨rfl, below2 hB hb⟩
  · have hV1 : (V == 0) = false := beq_eq_false_iff_ne.2 hV
    have hV2 : (V != 0) = true := bne_iff_ne.2 hV
    go_wp2_with fail
    go_ret
    exact ⟨rfl, hB⟩
theorem walk (e : Ev) (s : ByteArray) (w : World) (b0 : FitE e) (b1 : s.size ≤ 140737488351232) :
    Calls Try.prog 5 #[evV e, .string s] w fun e w' => e = .returned (.bool true) ∧ Below w.heap.size w w' := by
  obtain ⟨l, rfl⟩ : ∃ l : List UInt8, s = ⟨l.toArray⟩ := ⟨s.data.toList, by cases s; simp⟩
  have hl : (l.length : Int) ≤ 200000000000000 := by
    have : (⟨l.toArray⟩ : ByteArray).size = l.length := by simp [ByteArray.size]
    omega
  have p1 := fun W : World => eput_any e W b0
  have p3 := fun W : World => eget_any l W hl
  have p4 := fun W : World => eput_any (getE l).1 W (get_fit l)
  have p5 := fun W : World => echeck_any (getE l).1 W (get_fit l)
  have hb := get_back l
  have hne := fun W : World => ev_neq e e W
  rw [(eqE_iff e e).2 rfl] at hne
  cases hok : okE e with
  | true =>
    rw [hok, if_pos rfl, show checkE e = 0 from by unfold checkE; rw [hok]; rfl] at p1
    have hlen := evB_len e hok
    have p2 := fun W : World => eget_any (evB e) W (by omega)
    rw [get_put e hok] at p2
    refine walk1 _ _ _ _ _ _ _ _ _ _ _ _ _ _ _ _ _ _ _ _ _ _ _ _ _ ⟨(evB e).toArray⟩ _ (getE l).2 _ w ?_ p1 p2 p3 p4 ?_ hne
    · simpa [ByteArray.size] using hlen
    · intro hV
      obtain ⟨h1, h2⟩ := hb hV
      have hc : checkE (getE l).1 = 0 := by unfold checkE; rw [h1]; rfl
      rw [hc] at p5
      exact ⟨hc, by rw [if_pos h1, h2], p5⟩
  | false =>
    rw [hok, show checkE e = 2 from by unfold checkE; rw [hok]; rfl] at p1
    have p2 := fun W : World => eget_any [] W (by decide)
    rw [show getE [] = (zeroE, 7) from by kernel_rfl, evV_z] at p2
    refine walk0 _ _ _ _ _ _ _ _ _ _ _ _ _ _ _ _ _ _ _ _ _ _ _ _ _ ⟨([] : List UInt8).toArray⟩ _ (getE l).2 _ w p1 p2 p3 p4 ?_ hne
    intro hV
    obtain ⟨h1, h2⟩ := hb hV
    have hc : checkE (getE l).1 = 0 := by unfold checkE; rw [h1]; rfl
    rw [hc] at p5
    exact ⟨hc, by rw [if_pos h1, h2], p5⟩

set_option maxRecDepth 100000 in
theorem lifted (os : Os) (started : os.Started) (H : Type) (enc : TypeId × Value → H) :
    ReturnsInHanded {} Try.checked os 5 .any (Rows.msgBackSpec.pre6 enc Try.prog Try.f5 Rows.msgBackRow.domain false) (Rows.msgBackSpec.post enc Try.prog Try.f5 false true false false) := by
  refine returnsInHanded_of_change_sized (C := Try.checked) own started (by kernel_rfl) Try.func5
    (ChangeSpec.witness6 (enc := enc) (C := Try.checked) false ⟨#[], #[.agg #[.int .u8 0, .int .i64 0, .int .u64 0, .int .i64 0, .bool false, .int .u64 0, .int .u64 0, .int .i64 0, .int .u8 0, .int .i64 0, .int .i64 0, .int .i64 0], .string ByteArray.empty], []⟩ 8 (by kernel_rfl) (by kernel_rfl) (by kernel_rfl) (by kernel_rfl)) ?_
  intro W base args ds gs before hval0 hW _ hsz0 _
  have hsz : (DataW.weightsEach Try.prog (Try.f5.params.toList ++ Rows.msgBackSpec.plain.varTypes Try.prog) (ds ++ gs)).all (· ≤ reachBytes) = true := hsz0
  clear hsz0
  have hval : ∀ (j : Nat) t v, Try.f5.params[j]? = some t → args[j]? = some v → Value.okWide Try.prog W .any base t v := hval0
  have hW' := hW
  obtain ⟨p, q, hA0, hV, rfl, hfz, hnd⟩ := hW
  have hA : DataW.TrodAll enc Try.prog W 0 (fun _ => true) true Try.f5.params.toList args.toList ds p := hA0
  rw [Try.params5] at hA hval hsz
  obtain ⟨v0, vs0, d0, ds0, p0, q0, hargs, rfl, rfl, h0, r0⟩ := trodAll_cons hA
  obtain ⟨v1, vs1, d1, ds1, p1, q1, rfl, rfl, rfl, h1, r1⟩ := trodAll_cons r0
  obtain ⟨rfl, rfl, rfl⟩ := trodAll_nil r1
  obtain rfl : args = #[v0, v1] := by cases args; simp_all
  obtain ⟨rfl, rfl⟩ := trodVars_none hV
  have k0 := h0
  have lt0 : ∀ x ∈ p0, x.block < W.heap.size := by obtain ⟨m, hm⟩ := k0; exact DataW.trod_lt m _ _ _ hm
  obtain ⟨n0, rfl, b0⟩ := Msg.open_event (hval 0 32 v0 rfl rfl) h0
  obtain ⟨a1, rfl, rfl, rfl, w1⟩ := open_string Try.underlying9 (hval 1 9 v1 rfl rfl) h1
  have b1 : a1.size ≤ 140737488351232 := by
    have := sized_string hsz (j := 1) (t := 9) rfl rfl
    simpa [reachBytes] using this
  clear hA0 hval0
  refine (walk n0 a1 W b0 b1).mono fun e W' ⟨he, bel⟩ => ?_
  subst he
  exact ⟨_, rfl, _, _, _, [], _, [], hW', trodAll_mk1 (shut_bool Try.underlying4 _), (trodAll_cons_mk (Below.trod laidOut (by kernel_rfl) (of_decide_eq_true (by kernel_rfl)) k0 bel lt0) (trodAll_cons_mk (shut_string Try.underlying9 w1) trodAll_mk0)), rfl, bel.frame _, fun h => by cases h⟩

theorem over : Rows.msgBackRow.holds Try.pinned (OpenSpec.ofChange Rows.msgBackSpec) :=
  OpenClaim.holds_of_wide 5 Try.f5 rfl rfl rfl rfl rfl rfl rfl ⟨rfl, rfl, rfl, rfl, rfl⟩ rfl rfl rfl rfl rfl (by kernel_rfl) Try.func5 (by kernel_rfl)
    (of_decide_eq_true (by kernel_rfl)) (by unfold Func.isWrapper; first | (rw [if_pos (by decide +kernel)]; kernel_rfl) | (rw [if_neg (by decide +kernel)]; exact ⟨rfl, rfl⟩))
    (fun os started H enc _ => lifted os started H enc)
end msgBack
theorem mback_holds : Rows.MsgBackSaid := msgBack.over
#print axioms mback_holds
end Go.Proofs.Ytcnhbaiogjfhcaa
