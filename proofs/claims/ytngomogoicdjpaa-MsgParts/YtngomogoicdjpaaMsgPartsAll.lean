/- For every prefix, action and text: spoorlaw11.MsgParts returns true, and changes nothing that was there. No condition. -/
import Derived.Test.YtngomogoicdjpaaRows
import Derived.Test.YtngomogoicdjpaaMsgLives
import Derived.Test.YtngomogoicdjpaaMsgRX3
import Derived.Test.YtngomogoicdjpaaMsgRX4
import Derived.Test.YtngomogoicdjpaaMsgOpen
import Derived.ProofKit
import Derived.OpenShut
import Derived.ShutString
import Derived.SizedLaws
set_option linter.unusedVariables false
namespace Go.Proofs.Ytngomogoicdjpaa
namespace msgParts
open Go.ChangeShapes Go.WideShapes Go.ChangeAt Go.RowKit
open Go.ChangeMaps (open_string shut_string)
open Go.Proofs.Ytngomogoicdjpaa.Msg
open Go.Proofs.Ytngomogoicdjpaa.Addr (Pf okP checkP wideN firstN kP hiN loN adV pfV RowAt below2 below_drew below_new bset RowAt.lt RowAt.cell RowAt.frozen RowAt.below RowAt.drew RowAt.new RowAt.alloc gdrew gset gbelow galloc grefl cells2 cells4 results_cell Bl bl_ne wp_region_bl bl_call bl_same)

theorem own : ownKnob Try.prog.godebug = none := by kernel_rfl
theorem laidOut : laidOutB Try.prog = true := by kernel_rfl
theorem ac_eql (a : Ac) (w : World) : (binOp .eql 30 (acV a) (acV a)).run Try.prog w = .ok (.bool true) w := by
  have h := ac_inG a.k a.k a.i a.i w 9998
  rw [decide_eq_true rfl, decide_eq_true rfl] at h
  unfold acV at *
  rw [run_eql_struct, h]
  rfl
theorem ac_guard : Try.prog.eqGuardType Try.prog.depth 30 = false := by kernel_rfl
set_option maxHeartbeats 8000000 in
set_option maxRecDepth 20000 in
theorem walks (p1 p2 p3 q1 q2 q3 a0 a1 b0 b1 : Int) (p0 q0 : Bool) (M S T R1 R2 : ByteArray) (E1 E2 E3 E4 : Int) (w : World)
    (k1 : ∀ W : World, Calls Try.prog 12 #[.agg #[.bool p0, .int .u64 p1, .int .u64 p2, .int .i64 p3]] W fun e w' => e = .returned (.tuple #[.string S, .int .i64 E1]) ∧ Below W.heap.size W w')
    (k2 : ∀ W : World, Calls Try.prog 13 #[.agg #[.bool p0, .int .u64 p1, .int .u64 p2, .int .i64 p3]] W fun e w' => e = .returned (.tuple #[.string S, .int .i64 E1]) ∧ Below W.heap.size W w')
    (k3 : ∀ W : World, Calls Try.prog 14 #[.string M] W fun e w' => e = .returned (.tuple #[.agg #[.bool q0, .int .u64 q1, .int .u64 q2, .int .i64 q3], .string R1, .int .i64 E2]) ∧ Below W.heap.size W w')
    (k4 : ∀ W : World, Calls Try.prog 15 #[.string M] W fun e w' => e = .returned (.tuple #[.agg #[.bool q0, .int .u64 q1, .int .u64 q2, .int .i64 q3], .string R1, .int .i64 E2]) ∧ Below W.heap.size W w')
    (k5 : ∀ W : World, Calls Try.prog 16 #[.agg #[.int .u8 a0, .int .i64 a1]] W fun e w' => e = .returned (.tuple #[.string T, .int .i64 E3]) ∧ Below W.heap.size W w')
    (k6 : ∀ W : World, Calls Try.prog 17 #[.agg #[.int .u8 a0, .int .i64 a1]] W fun e w' => e = .returned (.tuple #[.string T, .int .i64 E3]) ∧ Below W.heap.size W w')
    (k7 : ∀ W : World, Calls Try.prog 18 #[.string M] W fun e w' => e = .returned (.tuple #[.agg #[.int .u8 b0, .int .i64 b1], .string R2, .int .i64 E4]) ∧ Below W.heap.size W w')
    (k8 : ∀ W : World, Calls Try.prog 19 #[.string M] W fun e w' => e = .returned (.tuple #[.agg #[.int .u8 b0, .int .i64 b1], .string R2, .int .i64 E4]) ∧ Below W.heap.size W w')
    (hp : ∀ W : World, (binOp .eql 27 (.agg #[.bool q0, .int .u64 q1, .int .u64 q2, .int .i64 q3]) (.agg #[.bool q0, .int .u64 q1, .int .u64 q2, .int .i64 q3])).run Try.prog W = .ok (.bool true) W)
    (ha : ∀ W : World, (binOp .eql 30 (.agg #[.int .u8 b0, .int .i64 b1]) (.agg #[.int .u8 b0, .int .i64 b1])).run Try.prog W = .ok (.bool true) W) :
    Calls Try.prog 4 #[.agg #[.bool p0, .int .u64 p1, .int .u64 p2, .int .i64 p3], .agg #[.int .u8 a0, .int .i64 a1], .string M] w fun e w' => e = .returned (.bool true) ∧ Below w.heap.size w w' := by
  have hv := lives_any
  have hgd := Addr.pf_guard
  have hgd2 := ac_guard
  go_enter Try.func4, Try.ntmps4
  go_upto_region 1 with fail
  have hB : Below w.heap.size w w := Below.refl _ _
  obtain ⟨Y1, hY⟩ : ∃ Y1, Y1 = (w.alloc (.cells #[.bool p0, .int .u64 p1, .int .u64 p2, .int .i64 p3] 27)).alloc (.cells #[.int .u8 a0, .int .i64 a1] 30) := ⟨_, rfl⟩
  have hbY : Below w.heap.size w Y1 := by rw [hY]; exact below_new (below_new (Below.refl _ _) _) _
  have rp : RowAt Y1 w.heap.size [.bool p0, .int .u64 p1, .int .u64 p2, .int .i64 p3] 27 := by rw [hY]; exact (RowAt.new w [.bool p0, .int .u64 p1, .int .u64 p2, .int .i64 p3] 27).alloc _
  have ra : RowAt Y1 (w.heap.size + 1) [.int .u8 a0, .int .i64 a1] 30 := by
    have h := RowAt.new (w.alloc (.cells #[.bool p0, .int .u64 p1, .int .u64 p2, .int .i64 p3] 27)) [.int .u8 a0, .int .i64 a1] 30
    simp only [World.size_alloc] at h
    rw [hY]; exact h
  rw [← hY]
  replace hB := below2 hB hbY
  clear hY hbY
  obtain ⟨gp, hg⟩ : ∃ g, g = w.heap.size := ⟨_, rfl⟩
  obtain ⟨ga, hg2⟩ : ∃ g, g = w.heap.size + 1 := ⟨_, rfl⟩
  rw [← hg] at rp
  rw [← hg2] at ra
  rw [← hg2, ← hg]
  clear hg hg2
  obtain ⟨u0, u1, u2, u3, uf⟩ := cells4 rp
  go_wp2_with fail
  go_at_call 12; refine (k1 _).mono ?_; rintro e w1 ⟨rfl, hb⟩
  replace rp := RowAt.below rp hb
  replace ra := RowAt.below ra hb
  replace hB := below2 hB hb
  clear hb u0 u1 u2 u3 uf
  obtain ⟨u0, u1, u2, u3, uf⟩ := cells4 rp
  go_wp2_with fail
  go_at_call 13; refine (k2 _).mono ?_; rintro e w2 ⟨rfl, hb⟩
  replace rp := RowAt.below rp hb
  replace ra := RowAt.below ra hb
  replace hB := below2 hB hb
  clear hb u0 u1 u2 u3 uf
  go_wp2_with fail
  go_at_call 14; refine (k3 _).mono ?_; rintro e w3 ⟨rfl, hb⟩
  replace rp := RowAt.below rp hb
  replace ra := RowAt.below ra hb
  replace hB := below2 hB hb
  clear hb 
  go_upto_region 4 with fail
  obtain ⟨Y4, hY⟩ : ∃ Y4, Y4 = w3.alloc (.cells #[.bool q0, .int .u64 q1, .int .u64 q2, .int .i64 q3] 27) := ⟨_, rfl⟩
  have hbY : Below w3.heap.size w3 Y4 := by rw [hY]; exact below_new (Below.refl _ _) _
  have rq : RowAt Y4 w3.heap.size [.bool q0, .int .u64 q1, .int .u64 q2, .int .i64 q3] 27 := by rw [hY]; exact RowAt.new _ _ _
  rw [← hY]
  replace rp := RowAt.below rp hbY
  replace ra := RowAt.below ra hbY
  replace hB := below2 hB hbY
  clear hY hbY
  obtain ⟨gq, hg⟩ : ∃ g, g = w3.heap.size := ⟨_, rfl⟩
  rw [← hg] at rq ⊢
  clear hg
  go_wp2_with fail
  go_at_call 15; refine (k4 _).mono ?_; rintro e w4 ⟨rfl, hb⟩
  replace rp := RowAt.below rp hb
  replace ra := RowAt.below ra hb
  replace rq := RowAt.below rq hb
  replace hB := below2 hB hb
  clear hb 
  go_upto_region 5 with fail
  obtain ⟨Y5, hY⟩ : ∃ Y5, Y5 = w4.alloc (.cells #[.bool q0, .int .u64 q1, .int .u64 q2, .int .i64 q3] 27) := ⟨_, rfl⟩
  have hbY : Below w4.heap.size w4 Y5 := by rw [hY]; exact below_new (Below.refl _ _) _
  have rk : RowAt Y5 w4.heap.size [.bool q0, .int .u64 q1, .int .u64 q2, .int .i64 q3] 27 := by rw [hY]; exact RowAt.new _ _ _
  rw [← hY]
  replace rp := RowAt.below rp hbY
  replace ra := RowAt.below ra hbY
  replace rq := RowAt.below rq hbY
  replace hB := below2 hB hbY
  clear hY hbY
  obtain ⟨gk, hg⟩ : ∃ g, g = w4.heap.size := ⟨_, rfl⟩
  rw [← hg] at rk ⊢
  clear hg
  obtain ⟨u0, u1, uf⟩ := cells2 ra
  go_wp2_with fail
  go_at_call 16; refine (k5 _).mono ?_; rintro e w5 ⟨rfl, hb⟩
  replace rp := RowAt.below rp hb
  replace ra := RowAt.below ra hb
  replace rq := RowAt.below rq hb
  replace rk := RowAt.below rk hb
  replace hB := below2 hB hb
  clear hb u0 u1 uf
  obtain ⟨u0, u1, uf⟩ := cells2 ra
  go_wp2_with fail
  go_at_call 17; refine (k6 _).mono ?_; rintro e w6 ⟨rfl, hb⟩
  replace rp := RowAt.below rp hb
  replace ra := RowAt.below ra hb
  replace rq := RowAt.below rq hb
  replace rk := RowAt.below rk hb
  replace hB := below2 hB hb
  clear hb u0 u1 uf
  go_wp2_with fail
  go_at_call 18; refine (k7 _).mono ?_; rintro e w7 ⟨rfl, hb⟩
  replace rp := RowAt.below rp hb
  replace ra := RowAt.below ra hb
  replace rq := RowAt.below rq hb
  replace rk := RowAt.below rk hb
  replace hB := below2 hB hb
  clear hb 
  go_upto_region 8 with fail
  obtain ⟨Y8, hY⟩ : ∃ Y8, Y8 = w7.alloc (.cells #[.int .u8 b0, .int .i64 b1] 30) := ⟨_, rfl⟩
  have hbY : Below w7.heap.size w7 Y8 := by rw [hY]; exact below_new (Below.refl _ _) _
  have rb : RowAt Y8 w7.heap.size [.int .u8 b0, .int .i64 b1] 30 := by rw [hY]; exact RowAt.new _ _ _
  rw [← hY]
  replace rp := RowAt.below rp hbY
  replace ra := RowAt.below ra hbY
  replace rq := RowAt.below rq hbY
  replace rk := RowAt.below rk hbY
  replace hB := below2 hB hbY
  clear hY hbY
  obtain ⟨gb, hg⟩ : ∃ g, g = w7.heap.size := ⟨_, rfl⟩
  rw [← hg] at rb ⊢
  clear hg
  go_wp2_with fail
  go_at_call 19; refine (k8 _).mono ?_; rintro e w8 ⟨rfl, hb⟩
  replace rp := RowAt.below rp hb
  replace ra := RowAt.below ra hb
  replace rq := RowAt.below rq hb
  replace rk := RowAt.below rk hb
  replace rb := RowAt.below rb hb
  replace hB := below2 hB hb
  clear hb 
  go_upto_region 9 with fail
  obtain ⟨Y9, hY⟩ : ∃ Y9, Y9 = w8.alloc (.cells #[.int .u8 b0, .int .i64 b1] 30) := ⟨_, rfl⟩
  have hbY : Below w8.heap.size w8 Y9 := by rw [hY]; exact below_new (Below.refl _ _) _
  have rc : RowAt Y9 w8.heap.size [.int .u8 b0, .int .i64 b1] 30 := by rw [hY]; exact RowAt.new _ _ _
  rw [← hY]
  replace rp := RowAt.below rp hbY
  replace ra := RowAt.below ra hbY
  replace rq := RowAt.below rq hbY
  replace rk := RowAt.below rk hbY
  replace rb := RowAt.below rb hbY
  replace hB := below2 hB hbY
  clear hY hbY
  obtain ⟨gc, hg⟩ : ∃ g, g = w8.heap.size := ⟨_, rfl⟩
  rw [← hg] at rc ⊢
  clear hg
  go_wp2_with fail
  go_at_call 9; refine (hv _).mono ?_; rintro e w9 ⟨rfl, hb⟩
  replace rp := RowAt.below rp hb
  replace ra := RowAt.below ra hb
  replace rq := RowAt.below rq hb
  replace rk := RowAt.below rk hb
  replace rb := RowAt.below rb hb
  replace rc := RowAt.below rc hb
  replace hB := below2 hB hb
  clear hb 
  obtain ⟨u0, u1, u2, u3, uf⟩ := cells4 rq
  obtain ⟨v0, v1, v2, v3, vf⟩ := cells4 rk
  obtain ⟨m0, m1, mf⟩ := cells2 rb
  obtain ⟨n0, n1, nf⟩ := cells2 rc
  go_wp2_with fail
  go_ret
  exact ⟨rfl, hB⟩
theorem walk (p : Pf) (a : Ac) (s : ByteArray) (w : World) (b0 : (-9223372036854775808 ≤ p.len ∧ p.len ≤ 9223372036854775807) ∧ p.n < 2 ^ 128) (b1 : FitA a) (b2 : s.size ≤ 140737488351232) :
    Calls Try.prog 4 #[pfV p, acV a, .string s] w fun e w' => e = .returned (.bool true) ∧ Below w.heap.size w w' := by
  obtain ⟨m, rfl⟩ : ∃ l : List UInt8, s = ⟨l.toArray⟩ := ⟨s.data.toList, by cases s; simp⟩
  have hl : (m.length : Int) ≤ 140737488351232 := by
    have : (⟨m.toArray⟩ : ByteArray).size = m.length := by simp [ByteArray.size]
    omega
  exact walks _ _ _ _ _ _ _ _ _ _ _ _ _ _ _ _ _ _ _ _ _ w (fun W => putPrefix_any p W b0.1 b0.2) (fun W => rputPrefix_any p W b0.1 b0.2) (fun W => getPrefix_any m W (by omega)) (fun W => rgetPrefix_any m W (by omega)) (fun W => putAction_any a W b1) (fun W => rputAction_any a W b1) (fun W => getAction_any m W (by omega)) (fun W => rgetAction_any m W (by omega)) (fun W => Addr.pf_eql _ W) (fun W => ac_eql _ W)

set_option maxRecDepth 100000 in
theorem lifted (os : Os) (started : os.Started) (H : Type) (enc : TypeId × Value → H) :
    ReturnsInHanded {} Try.checked os 4 .any (Rows.msgPartsSpec.pre6 enc Try.prog Try.f4 Rows.msgPartsRow.domain false) (Rows.msgPartsSpec.post enc Try.prog Try.f4 false true false false) := by
  refine returnsInHanded_of_change_sized (C := Try.checked) own started (by kernel_rfl) Try.func4
    (ChangeSpec.witness6 (enc := enc) (C := Try.checked) false ⟨#[], #[.agg #[.bool false, .int .u64 0, .int .u64 0, .int .i64 0], .agg #[.int .u8 0, .int .i64 0], .string ByteArray.empty], []⟩ 8 (by kernel_rfl) (by kernel_rfl) (by kernel_rfl) (by kernel_rfl)) ?_
  intro W base args ds gs before hval0 hW _ hsz0 _
  have hsz : (DataW.weightsEach Try.prog (Try.f4.params.toList ++ Rows.msgPartsSpec.plain.varTypes Try.prog) (ds ++ gs)).all (· ≤ reachBytes) = true := hsz0
  clear hsz0
  have hval : ∀ (j : Nat) t v, Try.f4.params[j]? = some t → args[j]? = some v → Value.okWide Try.prog W .any base t v := hval0
  have hW' := hW
  obtain ⟨p, q, hA0, hV, rfl, hfz, hnd⟩ := hW
  have hA : DataW.TrodAll enc Try.prog W 0 (fun _ => true) true Try.f4.params.toList args.toList ds p := hA0
  rw [Try.params4] at hA hval hsz
  obtain ⟨v0, vs0, d0, ds0, p0, q0, hargs, rfl, rfl, h0, r0⟩ := trodAll_cons hA
  obtain ⟨v1, vs1, d1, ds1, p1, q1, rfl, rfl, rfl, h1, r1⟩ := trodAll_cons r0
  obtain ⟨v2, vs2, d2, ds2, p2, q2, rfl, rfl, rfl, h2, r2⟩ := trodAll_cons r1
  obtain ⟨rfl, rfl, rfl⟩ := trodAll_nil r2
  obtain rfl : args = #[v0, v1, v2] := by cases args; simp_all
  obtain ⟨rfl, rfl⟩ := trodVars_none hV
  have k0 := h0
  have lt0 : ∀ x ∈ p0, x.block < W.heap.size := by obtain ⟨m, hm⟩ := k0; exact DataW.trod_lt m _ _ _ hm
  obtain ⟨n0, rfl, b0⟩ := Addr.open_prefix (hval 0 27 v0 rfl rfl) h0
  have k1 := h1
  have lt1 : ∀ x ∈ p1, x.block < W.heap.size := by obtain ⟨m, hm⟩ := k1; exact DataW.trod_lt m _ _ _ hm
  obtain ⟨n1, rfl, b1⟩ := Msg.open_action (hval 1 30 v1 rfl rfl) h1
  obtain ⟨a2, rfl, rfl, rfl, w2⟩ := open_string Try.underlying9 (hval 2 9 v2 rfl rfl) h2
  have b2 : a2.size ≤ 140737488351232 := by
    have := sized_string hsz (j := 2) (t := 9) rfl rfl
    simpa [reachBytes] using this
  clear hA0 hval0
  refine (walk n0 n1 a2 W b0 b1 b2).mono fun e W' ⟨he, bel⟩ => ?_
  subst he
  exact ⟨_, rfl, _, _, _, [], _, [], hW', trodAll_mk1 (shut_bool Try.underlying4 _), (trodAll_cons_mk (Below.trod laidOut (by kernel_rfl) (of_decide_eq_true (by kernel_rfl)) k0 bel lt0) (trodAll_cons_mk (Below.trod laidOut (by kernel_rfl) (of_decide_eq_true (by kernel_rfl)) k1 bel lt1) (trodAll_cons_mk (shut_string Try.underlying9 w2) trodAll_mk0))), rfl, bel.frame _, fun h => by cases h⟩

theorem over : Rows.msgPartsRow.holds Try.pinned (OpenSpec.ofChange Rows.msgPartsSpec) :=
  OpenClaim.holds_of_wide 4 Try.f4 rfl rfl rfl rfl rfl rfl rfl ⟨rfl, rfl, rfl, rfl, rfl⟩ rfl rfl rfl rfl rfl (by kernel_rfl) Try.func4 (by kernel_rfl)
    (of_decide_eq_true (by kernel_rfl)) (by unfold Func.isWrapper; first | (rw [if_pos (by decide +kernel)]; kernel_rfl) | (rw [if_neg (by decide +kernel)]; exact ⟨rfl, rfl⟩))
    (fun os started H enc _ => lifted os started H enc)
end msgParts
theorem mparts_holds : Rows.MsgPartsSaid := msgParts.over
#print axioms mparts_holds
end Go.Proofs.Ytngomogoicdjpaa
