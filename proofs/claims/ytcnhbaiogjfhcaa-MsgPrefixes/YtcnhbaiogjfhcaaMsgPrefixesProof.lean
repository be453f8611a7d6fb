/- For every prefix, action and text: spoorlaw11.MsgPrefixes returns true, and changes nothing that was there. No condition. -/
import Derived.Test.YtcnhbaiogjfhcaaRows
import Derived.Test.YtcnhbaiogjfhcaaMsgLives
import Derived.Test.YtcnhbaiogjfhcaaMsgBackM
import Derived.Test.YtcnhbaiogjfhcaaMsgOpen
import Derived.ProofKit
import Derived.OpenShut
import Derived.ShutString
import Derived.SizedLaws
set_option linter.unusedVariables false
namespace Go.Proofs.Ytcnhbaiogjfhcaa
namespace msgPrefixes
open Go.ChangeShapes Go.WideShapes Go.ChangeAt Go.RowKit
open Go.ChangeMaps (open_string shut_string)
open Go.Proofs.Ytcnhbaiogjfhcaa.Msg
open Go.Proofs.Ytcnhbaiogjfhcaa.Addr (Pf okP checkP wideN firstN kP hiN loN adV pfV RowAt below2 below_drew below_new bset RowAt.lt RowAt.cell RowAt.frozen RowAt.below RowAt.drew RowAt.new RowAt.alloc gdrew gset gbelow galloc grefl cells2 cells4 results_cell)

theorem own : ownKnob Try.prog.godebug = none := by kernel_rfl
theorem laidOut : laidOutB Try.prog = true := by kernel_rfl
theorem ac_eql (a : Ac) (w : World) : (binOp .eql 30 (acV a) (acV a)).run Try.prog w = .ok (.bool true) w := by
  have h := ac_inG a.k a.k a.i a.i w 9998
  rw [decide_eq_true rfl, decide_eq_true rfl] at h
  unfold acV at *
  rw [run_eql_struct, h]
  rfl
theorem ac_guard : Try.prog.eqGuardType Try.prog.depth 30 = false := by kernel_rfl
theorem fp_put (p : Pf) (m : List UInt8) (h : okP p = true) : firstP rdP okP zeroPf (prefB p ++ m) = (p, m, 0) := by
  unfold firstP
  rw [rdP_put p m h]
  simp only
  rw [if_pos h]
theorem fa_put (a : Ac) (m : List UInt8) (h : okA a = true) : firstP rdA okA zeroA (actB a ++ m) = (a, m, 0) := by
  unfold firstP
  rw [rdA_put a m h]
  simp only
  rw [if_pos h]
theorem fp_back (m : List UInt8) (h : (firstP rdP okP zeroPf m).2.2 = 0) : okP (firstP rdP okP zeroPf m).1 = true ∧ prefB (firstP rdP okP zeroPf m).1 ++ (firstP rdP okP zeroPf m).2.1 = m := by
  cases hr : (rdP (some m)).2 with
  | none =>
    have h2 : firstP rdP okP zeroPf m = (zeroPf, [], 7) := by unfold firstP; rw [hr]
    rw [h2] at h
    exact absurd h (by decide)
  | some r =>
    cases ho : okP (rdP (some m)).1 with
    | false =>
      have h2 : firstP rdP okP zeroPf m = (zeroPf, [], 7) := by unfold firstP; rw [hr]; simp only; rw [ho]; rfl
      rw [h2] at h
      exact absurd h (by decide)
    | true =>
      have h2 : firstP rdP okP zeroPf m = ((rdP (some m)).1, r, 0) := by unfold firstP; rw [hr]; simp only; rw [ho]; rfl
      rw [h2]
      obtain ⟨l, e1, e2⟩ := rdP_inv hr ho
      injection e1 with e1
      subst e1
      exact ⟨ho, e2.symm⟩
theorem fp_fit (m : List UInt8) : FitP (firstP rdP okP zeroPf m).1 := by
  have z : FitP zeroPf := ⟨by decide, by decide⟩
  unfold firstP
  split
  · exact z
  · split
    · exact pf_fit m
    · exact z
set_option maxHeartbeats 8000000 in
set_option maxRecDepth 20000 in
theorem walks (p1 p2 p3 q1 q2 q3 x1 x2 x3 a0 a1 b0 b1 : Int) (p0 q0 x0 : Bool) (M S SM T TM R1 R2 R3 U : ByteArray) (E1 E2 E3 E4 E5 E6 : Int) (w : World)
    (hSM : S ++ M = SM) (hTM : T ++ M = TM) (z1 : ¬ 9223372036854775807 < S.size + M.size) (z2 : ¬ 9223372036854775807 < T.size + M.size) (z3 : E5 = 0 → ¬ 9223372036854775807 < U.size + R3.size)
    (k1 : ∀ W : World, Calls Try.prog 15 #[.agg #[.bool p0, .int .u64 p1, .int .u64 p2, .int .i64 p3]] W fun e w' => e = .returned (.tuple #[.string S, .int .i64 E1]) ∧ Below W.heap.size W w')
    (k2 : ∀ W : World, Calls Try.prog 17 #[.string SM] W fun e w' => e = .returned (.tuple #[.agg #[.bool q0, .int .u64 q1, .int .u64 q2, .int .i64 q3], .string R1, .int .i64 E2]) ∧ Below W.heap.size W w')
    (k3 : ∀ W : World, Calls Try.prog 19 #[.agg #[.int .u8 a0, .int .i64 a1]] W fun e w' => e = .returned (.tuple #[.string T, .int .i64 E3]) ∧ Below W.heap.size W w')
    (k4 : ∀ W : World, Calls Try.prog 21 #[.string TM] W fun e w' => e = .returned (.tuple #[.agg #[.int .u8 b0, .int .i64 b1], .string R2, .int .i64 E4]) ∧ Below W.heap.size W w')
    (k5 : ∀ W : World, Calls Try.prog 17 #[.string M] W fun e w' => e = .returned (.tuple #[.agg #[.bool x0, .int .u64 x1, .int .u64 x2, .int .i64 x3], .string R3, .int .i64 E5]) ∧ Below W.heap.size W w')
    (k6 : ∀ W : World, Calls Try.prog 15 #[.agg #[.bool x0, .int .u64 x1, .int .u64 x2, .int .i64 x3]] W fun e w' => e = .returned (.tuple #[.string U, .int .i64 E6]) ∧ Below W.heap.size W w')
    (hA : E1 = 0 → E2 = 0 ∧ q0 = p0 ∧ q1 = p1 ∧ q2 = p2 ∧ q3 = p3 ∧ R1 = M)
    (hB' : E3 = 0 → E4 = 0 ∧ b0 = a0 ∧ b1 = a1 ∧ R2 = M)
    (hC : E5 = 0 → E6 = 0 ∧ U ++ R3 = M)
    (hp : ∀ W : World, (binOp .eql 27 (.agg #[.bool p0, .int .u64 p1, .int .u64 p2, .int .i64 p3]) (.agg #[.bool p0, .int .u64 p1, .int .u64 p2, .int .i64 p3])).run Try.prog W = .ok (.bool true) W)
    (ha : ∀ W : World, (binOp .eql 30 (.agg #[.int .u8 a0, .int .i64 a1]) (.agg #[.int .u8 a0, .int .i64 a1])).run Try.prog W = .ok (.bool true) W) :
    Calls Try.prog 7 #[.agg #[.bool p0, .int .u64 p1, .int .u64 p2, .int .i64 p3], .agg #[.int .u8 a0, .int .i64 a1], .string M] w fun e w' => e = .returned (.bool true) ∧ Below w.heap.size w w' := by
  have hv := lives_any
  have hgd := Addr.pf_guard
  have hgd2 := ac_guard
  go_enter Try.func7, Try.ntmps7
  go_upto_region 1 with fail
  have hB : Below w.heap.size w w := Below.refl _ _
  obtain ⟨Y1, hY⟩ : ∃ Y1, Y1 = (w.alloc (.cells #[.bool p0, .int .u64 p1, .int .u64 p2, .int .i64 p3] 27)).alloc (.cells #[.int .u8 a0, .int .i64 a1] 30) := ⟨_, rfl⟩
  have hbY : Below w.heap.size w Y1 := by rw [hY]; exact below_new (below_new (Below.refl _ _) _) _
  have rp : RowAt Y1 w.heap.size [.bool p0, .int .u64 p1, .int .u64 p2, .int .i64 p3] 27 := by rw [hY]; exact (RowAt.new w [.bool p0, .int .u64 p1, .int .u64 p2, .int .i64 p3] 27).alloc _
  have ra : RowAt Y1 (w.heap.size + 1) [.int .u8 a0, .int .i64 a1] 30 := by
    have h := RowAt.new (w.alloc (.cells #[.bool p0, .int .u64 p1, .int .u64 p2, .int .i64 p3] 27)) [.int .u8 a0, .int .i64 a1] 30
    simp only [World.size_alloc] at h
    rw [hY]; exact h
  rw [← hY]
  replace hB := below2 hB hbY
  clear hY hbY
  obtain ⟨gp, hg⟩ : ∃ g, g = w.heap.size := ⟨_, rfl⟩
  obtain ⟨ga, hg2⟩ : ∃ g, g = w.heap.size + 1 := ⟨_, rfl⟩
  rw [← hg] at rp
  rw [← hg2] at ra
  rw [← hg2, ← hg]
  clear hg hg2
  go_wp2_with fail
  go_at_call 12; refine (hv _).mono ?_; rintro e w2 ⟨rfl, hb⟩
  replace rp := RowAt.below rp hb
  replace ra := RowAt.below ra hb
  replace hB := below2 hB hb
  clear hb
  obtain ⟨u0, u1, u2, u3, uf⟩ := cells4 rp
  go_wp2_with fail
  go_at_call 15; refine (k1 _).mono ?_; rintro e w3 ⟨rfl, hb⟩
  replace rp := RowAt.below rp hb
  replace ra := RowAt.below ra hb
  replace hB := below2 hB hb
  clear hb
  clear u0 u1 u2 u3 uf
  go_wp2_with fail
  go_at_call 17; refine (k2 _).mono ?_; rintro e w4 ⟨rfl, hb⟩
  replace rp := RowAt.below rp hb
  replace ra := RowAt.below ra hb
  replace hB := below2 hB hb
  clear hb
  go_upto_region 5 with fail
  obtain ⟨Y5, hY⟩ : ∃ Y5, Y5 = w4.alloc (.cells #[.bool q0, .int .u64 q1, .int .u64 q2, .int .i64 q3] 27) := ⟨_, rfl⟩
  have hbY : Below w4.heap.size w4 Y5 := by rw [hY]; exact below_new (Below.refl _ _) _
  have rq : RowAt Y5 w4.heap.size [.bool q0, .int .u64 q1, .int .u64 q2, .int .i64 q3] 27 := by rw [hY]; exact RowAt.new _ _ _
  rw [← hY]
  replace rp := RowAt.below rp hbY
  replace ra := RowAt.below ra hbY
  replace hB := below2 hB hbY
  clear hY hbY
  obtain ⟨gq, hg⟩ : ∃ g, g = w4.heap.size := ⟨_, rfl⟩
  rw [← hg] at rq ⊢
  clear hg
  obtain ⟨u0, u1, uf⟩ := cells2 ra
  go_wp2_with fail
  go_at_call 19; refine (k3 _).mono ?_; rintro e w6 ⟨rfl, hb⟩
  replace rp := RowAt.below rp hb
  replace ra := RowAt.below ra hb
  replace rq := RowAt.below rq hb
  replace hB := below2 hB hb
  clear hb
  clear u0 u1 uf
  go_wp2_with fail
  go_at_call 21; refine (k4 _).mono ?_; rintro e w7 ⟨rfl, hb⟩
  replace rp := RowAt.below rp hb
  replace ra := RowAt.below ra hb
  replace rq := RowAt.below rq hb
  replace hB := below2 hB hb
  clear hb
  go_upto_region 7 with fail
  obtain ⟨Y8, hY⟩ : ∃ Y8, Y8 = w7.alloc (.cells #[.int .u8 b0, .int .i64 b1] 30) := ⟨_, rfl⟩
  have hbY : Below w7.heap.size w7 Y8 := by rw [hY]; exact below_new (Below.refl _ _) _
  have rb : RowAt Y8 w7.heap.size [.int .u8 b0, .int .i64 b1] 30 := by rw [hY]; exact RowAt.new _ _ _
  rw [← hY]
  replace rp := RowAt.below rp hbY
  replace ra := RowAt.below ra hbY
  replace rq := RowAt.below rq hbY
  replace hB := below2 hB hbY
  clear hY hbY
  obtain ⟨gb, hg⟩ : ∃ g, g = w7.heap.size := ⟨_, rfl⟩
  rw [← hg] at rb ⊢
  clear hg
  go_wp2_with fail
  go_at_call 17; refine (k5 _).mono ?_; rintro e w9 ⟨rfl, hb⟩
  replace rp := RowAt.below rp hb
  replace ra := RowAt.below ra hb
  replace rq := RowAt.below rq hb
  replace rb := RowAt.below rb hb
  replace hB := below2 hB hb
  clear hb
  go_upto_region 8 with fail
  obtain ⟨Y10, hY⟩ : ∃ Y10, Y10 = w9.alloc (.cells #[.bool x0, .int .u64 x1, .int .u64 x2, .int .i64 x3] 27) := ⟨_, rfl⟩
  have hbY : Below w9.heap.size w9 Y10 := by rw [hY]; exact below_new (Below.refl _ _) _
  have rx : RowAt Y10 w9.heap.size [.bool x0, .int .u64 x1, .int .u64 x2, .int .i64 x3] 27 := by rw [hY]; exact RowAt.new _ _ _
  rw [← hY]
  replace rp := RowAt.below rp hbY
  replace ra := RowAt.below ra hbY
  replace rq := RowAt.below rq hbY
  replace rb := RowAt.below rb hbY
  replace hB := below2 hB hbY
  clear hY hbY
  obtain ⟨gx, hg⟩ : ∃ g, g = w9.heap.size := ⟨_, rfl⟩
  rw [← hg] at rx ⊢
  clear hg
  obtain ⟨u0, u1, u2, u3, uf⟩ := cells4 rx
  go_wp2_with fail
  go_at_call 15; refine (k6 _).mono ?_; rintro e w11 ⟨rfl, hb⟩
  replace rp := RowAt.below rp hb
  replace ra := RowAt.below ra hb
  replace rq := RowAt.below rq hb
  replace rb := RowAt.below rb hb
  replace rx := RowAt.below rx hb
  replace hB := below2 hB hb
  clear hb
  clear u0 u1 u2 u3 uf
  clear k1 k2 k3 k4 k5 k6 hv hSM hTM rx
  have fin : ∀ V : Int, V = 0 ∨ ((V == 0) = false ∧ (V != 0) = true) := fun V => by
    by_cases h : V = 0
    · exact .inl h
    · exact .inr ⟨beq_eq_false_iff_ne.2 h, bne_iff_ne.2 h⟩
  have f1 := fin E1
  have f3 := fin E3
  have f5 := fin E5
  clear fin
  rcases f1 with h1 | ⟨h1, h1'⟩
  · obtain ⟨rfl, rfl, rfl, rfl, rfl, rfl⟩ := hA h1
    subst h1
    rcases f3 with h3 | ⟨h3, h3'⟩
    · obtain ⟨rfl, rfl, rfl, rfl⟩ := hB' h3
      subst h3
      rcases f5 with h5 | ⟨h5, h5'⟩
      · obtain ⟨rfl, hU⟩ := hC h5
        replace z3 := z3 h5
        subst h5
        obtain ⟨u0, u1, u2, u3, uf⟩ := cells4 rp
        obtain ⟨v0, v1, v2, v3, vf⟩ := cells4 rq
        obtain ⟨m0, m1, mf⟩ := cells2 ra
        obtain ⟨n0, n1, nf⟩ := cells2 rb
        go_wp2_with fail
        go_ret
        exact ⟨rfl, hB⟩
      · clear hC z3
        obtain ⟨u0, u1, u2, u3, uf⟩ := cells4 rp
        obtain ⟨v0, v1, v2, v3, vf⟩ := cells4 rq
        obtain ⟨m0, m1, mf⟩ := cells2 ra
        obtain ⟨n0, n1, nf⟩ := cells2 rb
        go_wp2_with fail
        go_ret
        exact ⟨rfl, hB⟩
    · clear hB'
      rcases f5 with h5 | ⟨h5, h5'⟩
      · obtain ⟨rfl, hU⟩ := hC h5
        replace z3 := z3 h5
        subst h5
        obtain ⟨u0, u1, u2, u3, uf⟩ := cells4 rp
        obtain ⟨v0, v1, v2, v3, vf⟩ := cells4 rq
        obtain ⟨m0, m1, mf⟩ := cells2 ra
        obtain ⟨n0, n1, nf⟩ := cells2 rb
        go_wp2_with fail
        go_ret
        exact ⟨rfl, hB⟩
      · clear hC z3
        obtain ⟨u0, u1, u2, u3, uf⟩ := cells4 rp
        obtain ⟨v0, v1, v2, v3, vf⟩ := cells4 rq
        obtain ⟨m0, m1, mf⟩ := cells2 ra
        obtain ⟨n0, n1, nf⟩ := cells2 rb
        go_wp2_with fail
        go_ret
        exact ⟨rfl, hB⟩
  · clear hA
    rcases f3 with h3 | ⟨h3, h3'⟩
    · obtain ⟨rfl, rfl, rfl, rfl⟩ := hB' h3
      subst h3
      rcases f5 with h5 | ⟨h5, h5'⟩
      · obtain ⟨rfl, hU⟩ := hC h5
        replace z3 := z3 h5
        subst h5
        obtain ⟨u0, u1, u2, u3, uf⟩ := cells4 rp
        obtain ⟨v0, v1, v2, v3, vf⟩ := cells4 rq
        obtain ⟨m0, m1, mf⟩ := cells2 ra
        obtain ⟨n0, n1, nf⟩ := cells2 rb
        go_wp2_with fail
        go_ret
        exact ⟨rfl, hB⟩
      · clear hC z3
        obtain ⟨u0, u1, u2, u3, uf⟩ := cells4 rp
        obtain ⟨v0, v1, v2, v3, vf⟩ := cells4 rq
        obtain ⟨m0, m1, mf⟩ := cells2 ra
        obtain ⟨n0, n1, nf⟩ := cells2 rb
        go_wp2_with fail
        go_ret
        exact ⟨rfl, hB⟩
    · clear hB'
      rcases f5 with h5 | ⟨h5, h5'⟩
      · obtain ⟨rfl, hU⟩ := hC h5
        replace z3 := z3 h5
        subst h5
        obtain ⟨u0, u1, u2, u3, uf⟩ := cells4 rp
        obtain ⟨v0, v1, v2, v3, vf⟩ := cells4 rq
        obtain ⟨m0, m1, mf⟩ := cells2 ra
        obtain ⟨n0, n1, nf⟩ := cells2 rb
        go_wp2_with fail
        go_ret
        exact ⟨rfl, hB⟩
      · clear hC z3
        obtain ⟨u0, u1, u2, u3, uf⟩ := cells4 rp
        obtain ⟨v0, v1, v2, v3, vf⟩ := cells4 rq
        obtain ⟨m0, m1, mf⟩ := cells2 ra
        obtain ⟨n0, n1, nf⟩ := cells2 rb
        go_wp2_with fail
        go_ret
        exact ⟨rfl, hB⟩
theorem walk (p : Pf) (a : Ac) (s : ByteArray) (w : World) (b0 : (-9223372036854775808 ≤ p.len ∧ p.len ≤ 9223372036854775807) ∧ p.n < 2 ^ 128) (b1 : FitA a) (b2 : s.size ≤ 140737488351232) :
    Calls Try.prog 7 #[pfV p, acV a, .string s] w fun e w' => e = .returned (.bool true) ∧ Below w.heap.size w w' := by
  obtain ⟨m, rfl⟩ : ∃ l : List UInt8, s = ⟨l.toArray⟩ := ⟨s.data.toList, by cases s; simp⟩
  have hl : (m.length : Int) ≤ 140737488351232 := by
    have : (⟨m.toArray⟩ : ByteArray).size = m.length := by simp [ByteArray.size]
    omega
  have k1 := fun W : World => putPrefix_any p W b0.1 b0.2
  have k3 := fun W : World => putAction_any a W b1
  have l1 : (if okP p then prefB p else []).length ≤ 18 := by
    have := prefB_le p
    split
    · exact this
    · simp
  have l3 : (if okA a then actB a else []).length ≤ 11 := by
    split
    · next h => exact actB_le a (okA_bd h).2.1.2
    · simp
  have hA : checkP p = 0 → firstP rdP okP zeroPf ((if okP p then prefB p else []) ++ m) = (p, m, 0) := fun h => by
    cases hok : okP p
    · unfold checkP at h; rw [hok] at h; exact absurd h (by decide)
    · exact fp_put p m hok
  have hB : checkA a = 0 → firstP rdA okA zeroA ((if okA a then actB a else []) ++ m) = (a, m, 0) := fun h => by
    cases hok : okA a
    · unfold checkA at h; rw [hok] at h; exact absurd h (by decide)
    · exact fa_put a m hok
  have hC := fp_back m
  have fx := fp_fit m
  have k5 := fun W : World => getPrefix_any m W (by omega)
  have k6 := fun W : World => putPrefix_any (firstP rdP okP zeroPf m).1 W fx.1 fx.2
  generalize (if okP p then prefB p else []) = S at *
  generalize (if okA a then actB a else []) = T at *
  have k2 := fun W : World => getPrefix_any (S ++ m) W (by rw [List.length_append]; omega)
  have k4 := fun W : World => getAction_any (T ++ m) W (by rw [List.length_append]; omega)
  have sz : ∀ l : List UInt8, (⟨l.toArray⟩ : ByteArray).size = l.length := fun l => by simp [ByteArray.size]
  refine walks _ _ _ _ _ _ _ _ _ _ _ _ _ _ _ _ ⟨m.toArray⟩ ⟨S.toArray⟩ ⟨(S ++ m).toArray⟩ ⟨T.toArray⟩ ⟨(T ++ m).toArray⟩ _ _ _ _ _ _ _ _ _ _ w (bytes_cat S m) (bytes_cat T m) (by rw [sz, sz]; omega) (by rw [sz, sz]; omega) ?_ k1 k2 k3 k4 k5 k6 ?_ ?_ ?_ (fun W => Addr.pf_eql p W) (fun W => ac_eql a W)
  · intro h
    obtain ⟨h1, h2⟩ := hC h
    rw [if_pos h1, sz, sz, ← List.length_append, h2]
    omega
  · intro h
    rw [hA h]
    exact ⟨rfl, rfl, rfl, rfl, rfl, rfl⟩
  · intro h
    rw [hB h]
    exact ⟨rfl, rfl, rfl, rfl⟩
  · intro h
    obtain ⟨h1, h2⟩ := hC h
    refine ⟨by unfold checkP; rw [h1]; rfl, ?_⟩
    rw [if_pos h1, bytes_cat, h2]

set_option maxRecDepth 100000 in
theorem lifted (os : Os) (started : os.Started) (H : Type) (enc : TypeId × Value → H) :
    ReturnsInHanded {} Try.checked os 7 .any (Rows.msgPrefixesSpec.pre6 enc Try.prog Try.f7 Rows.msgPrefixesRow.domain false) (Rows.msgPrefixesSpec.post enc Try.prog Try.f7 false true false false) := by
  refine returnsInHanded_of_change_sized (C := Try.checked) own started (by kernel_rfl) Try.func7
    (ChangeSpec.witness6 (enc := enc) (C := Try.checked) false ⟨#[], #[.agg #[.bool false, .int .u64 0, .int .u64 0, .int .i64 0], .agg #[.int .u8 0, .int .i64 0], .string ByteArray.empty], []⟩ 8 (by kernel_rfl) (by kernel_rfl) (by kernel_rfl) (by kernel_rfl)) ?_
  intro W base args ds gs before hval0 hW _ hsz0 _
  have hsz : (DataW.weightsEach Try.prog (Try.f7.params.toList ++ Rows.msgPrefixesSpec.plain.varTypes Try.prog) (ds ++ gs)).all (· ≤ reachBytes) = true := hsz0
  clear hsz0
  have hval : ∀ (j : Nat) t v, Try.f7.params[j]? = some t → args[j]? = some v → Value.okWide Try.prog W .any base t v := hval0
  have hW' := hW
  obtain ⟨p, q, hA0, hV, rfl, hfz, hnd⟩ := hW
  have hA : DataW.TrodAll enc Try.prog W 0 (fun _ => true) true Try.f7.params.toList args.toList ds p := hA0
  rw [Try.params7] at hA hval hsz
  obtain ⟨v0, vs0, d0, ds0, p0, q0, hargs, rfl, rfl, h0, r0⟩ := trodAll_cons hA
  obtain ⟨v1, vs1, d1, ds1, p1, q1, rfl, rfl, rfl, h1, r1⟩ := trodAll_cons r0
  obtain ⟨v2, vs2, d2, ds2, p2, q2, rfl, rfl, rfl, h2, r2⟩ := trodAll_cons r1
  obtain ⟨rfl, rfl, rfl⟩ := trodAll_nil r2
  obtain rfl : args = #[v0, v1, v2] := by cases args; simp_all
  obtain ⟨rfl, rfl⟩ := trodVars_none hV
  have k0 := h0
  have lt0 : ∀ x ∈ p0, x.block < W.heap.size := by obtain ⟨m, hm⟩ := k0; exact DataW.trod_lt m _ _ _ hm
  obtain ⟨n0, rfl, b0⟩ := Addr.open_prefix (hval 0 27 v0 rfl rfl) h0
  have k1 := h1
  have lt1 : ∀ x ∈ p1, x.block < W.heap.size := by obtain ⟨m, hm⟩ := k1; exact DataW.trod_lt m _ _ _ hm
  obtain ⟨n1, rfl, b1⟩ := Msg.open_action (hval 1 30 v1 rfl rfl) h1
  obtain ⟨a2, rfl, rfl, rfl, w2⟩ := open_string Try.underlying9 (hval 2 9 v2 rfl rfl) h2
  have b2 : a2.size ≤ 140737488351232 := by
    have := sized_string hsz (j := 2) (t := 9) rfl rfl
    simpa [reachBytes] using this
  clear hA0 hval0
  refine (walk n0 n1 a2 W b0 b1 b2).mono fun e W' ⟨he, bel⟩ => ?_
  subst he
  exact ⟨_, rfl, _, _, _, [], _, [], hW', trodAll_mk1 (shut_bool Try.underlying4 _), (trodAll_cons_mk (Below.trod laidOut (by kernel_rfl) (of_decide_eq_true (by kernel_rfl)) k0 bel lt0) (trodAll_cons_mk (Below.trod laidOut (by kernel_rfl) (of_decide_eq_true (by kernel_rfl)) k1 bel lt1) (trodAll_cons_mk (shut_string Try.underlying9 w2) trodAll_mk0))), rfl, bel.frame _, fun h => by cases h⟩

theorem over : Rows.msgPrefixesRow.holds Try.pinned (OpenSpec.ofChange Rows.msgPrefixesSpec) :=
  OpenClaim.holds_of_wide 7 Try.f7 rfl rfl rfl rfl rfl rfl rfl ⟨rfl, rfl, rfl, rfl, rfl⟩ rfl rfl rfl rfl rfl (by kernel_rfl) Try.func7 (by kernel_rfl)
    (of_decide_eq_true (by kernel_rfl)) (by unfold Func.isWrapper; first | (rw [if_pos (by decide +kernel)]; kernel_rfl) | (rw [if_neg (by decide +kernel)]; exact ⟨rfl, rfl⟩))
    (fun os started H enc _ => lifted os started H enc)
end msgPrefixes
theorem mprefixes_holds : Rows.MsgPrefixesSaid := msgPrefixes.over
#print axioms mprefixes_holds
end Go.Proofs.Ytcnhbaiogjfhcaa
