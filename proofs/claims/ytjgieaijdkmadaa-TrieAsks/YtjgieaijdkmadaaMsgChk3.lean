/- What unnamed and Check return. -/
import Derived.Test.YtjgieaijdkmadaaMsgChk2
set_option linter.unusedVariables false
namespace Go.Proofs.Ytjgieaijdkmadaa.Msg
open Go.RowKit
open Go.Proofs.Ytjgieaijdkmadaa.Addr (Pf okP checkP wideN firstN kP hiN loN adV pfV RowAt below2 below_drew below_new bset RowAt.lt RowAt.cell RowAt.frozen RowAt.below RowAt.drew RowAt.new RowAt.alloc gdrew gset gbelow galloc grefl cells2 cells4 results_cell)

theorem row_new2' (W : World) (cs ds : List Value) (t u : TypeId) : RowAt ((W.alloc (.cells cs.toArray t)).alloc (.cells ds.toArray u)) W.heap.size cs t ∧ RowAt ((W.alloc (.cells cs.toArray t)).alloc (.cells ds.toArray u)) (W.heap.size + 1) ds u := by
  refine ⟨(RowAt.new W cs t).alloc _, ?_⟩
  have := RowAt.new (W.alloc (.cells cs.toArray t)) ds u
  rw [World.size_alloc] at this
  exact this
theorem evV_un (e : Ev) : evV (unN e) = .agg #[.int .u8 0, .int .i64 0, .int .u64 0, .int .i64 0, .bool (if e.kind = 3 ∨ e.kind = 4 then false else e.pf.six), .int .u64 (hiN (if e.kind = 3 ∨ e.kind = 4 then 0 else e.pf.n) : Int), .int .u64 (loN (if e.kind = 3 ∨ e.kind = 4 then 0 else e.pf.n) : Int), .int .i64 (if e.kind = 3 ∨ e.kind = 4 then 0 else e.pf.len), .int .u8 ((if e.kind = 3 then 0 else e.act.k : Nat) : Int), .int .i64 (if e.kind = 3 then 0 else e.act.i), .int .i64 (if e.kind = 5 ∨ e.kind = 6 then 0 else e.iface), .int .i64 (if e.kind = 5 then 0 else e.peer)] := by
  unfold evV evC unN zeroPf zeroA
  by_cases h3 : e.kind = 3 <;> by_cases h4 : e.kind = 4 <;> simp [h3, h4]
theorem hi0 : ((hiN 0 : Nat) : Int) = 0 := by unfold Addr.hiN; simp
theorem lo0 : ((loN 0 : Nat) : Int) = 0 := by unfold Addr.loN; simp
set_option maxHeartbeats 4000000 in
theorem unnamed_any (e : Ev) (w : World) : Calls Try.prog 83 #[evV e] w fun r w' => r = .returned (evV (unN e)) ∧ Below w.heap.size w w' := by
  have HU : Hid (evV (unN e) = _) := evV_un e
  generalize evV (unN e) = R at HU ⊢
  obtain ⟨k, a, b, c, ⟨sx, n, l⟩, ⟨ak, ai⟩, i, p⟩ := e
  unfold evV evC
  simp only at *
  obtain ⟨X, hX⟩ : ∃ X, X = (w.alloc (.cells #[.int .u8 (k : Int), .int .i64 a, .int .u64 (b : Int), .int .i64 c, .bool sx, .int .u64 (hiN n : Int), .int .u64 (loN n : Int), .int .i64 l, .int .u8 (ak : Int), .int .i64 ai, .int .i64 i, .int .i64 p] 87)).alloc (.cells #[.int .u8 0, .int .i64 0, .int .u64 0, .int .i64 0, .bool false, .int .u64 0, .int .u64 0, .int .i64 0, .int .u8 0, .int .i64 0, .int .i64 0, .int .i64 0] 87) := ⟨_, rfl⟩
  have hB : Below w.heap.size w X := by rw [hX]; exact below_new (below_new (Below.refl _ _) _) _
  obtain ⟨rx, sy⟩ := row_new2' w [.int .u8 (k : Int), .int .i64 a, .int .u64 (b : Int), .int .i64 c, .bool sx, .int .u64 (hiN n : Int), .int .u64 (loN n : Int), .int .i64 l, .int .u8 (ak : Int), .int .i64 ai, .int .i64 i, .int .i64 p] [.int .u8 0, .int .i64 0, .int .u64 0, .int .i64 0, .bool false, .int .u64 0, .int .u64 0, .int .i64 0, .int .u8 0, .int .i64 0, .int .i64 0, .int .i64 0] 87 87
  rw [show (w.alloc (.cells ([.int .u8 (k : Int), .int .i64 a, .int .u64 (b : Int), .int .i64 c, .bool sx, .int .u64 (hiN n : Int), .int .u64 (loN n : Int), .int .i64 l, .int .u8 (ak : Int), .int .i64 ai, .int .i64 i, .int .i64 p] : List Value).toArray 87)).alloc (.cells ([.int .u8 0, .int .i64 0, .int .u64 0, .int .i64 0, .bool false, .int .u64 0, .int .u64 0, .int .i64 0, .int .u8 0, .int .i64 0, .int .i64 0, .int .i64 0] : List Value).toArray 87) = X from hX.symm] at rx sy
  obtain ⟨⟨y0, y1, y2, y3, y4, y5⟩, ⟨y6, y7, y8, y9, y10, y11⟩, yf, hly⟩ := cells12' rx
  obtain ⟨⟨z0, z1, z2, z3, z4, z5⟩, ⟨z6, z7, z8, z9, z10, z11⟩, zf, hlz⟩ := cells12' sy
  clear rx sy
  by_cases h3 : k = 3
  · have HV : Hid (R = .agg #[.int .u8 0, .int .i64 0, .int .u64 0, .int .i64 0, .bool false, .int .u64 0, .int .u64 0, .int .i64 0, .int .u8 0, .int .i64 0, .int .i64 i, .int .i64 p]) := by show _ = _; rw [HU.out, h3]; simp [hi0, lo0]
    have q3 : ((k : Int) == 3) = true := by rw [h3]; rfl
    clear HU h3
    go_enter Try.func83, Try.ntmps83
    go_upto_region 1 with fail
    rw [← hX]
    clear hX
    go_wp2_with fail
    refine bodyPost_ret (v := .agg #[.int .u8 0, .int .i64 0, .int .u64 0, .int .i64 0, .bool false, .int .u64 0, .int .u64 0, .int .i64 0, .int .u8 0, .int .i64 0, .int .i64 i, .int .i64 p]) ?_ rfl ⟨by rw [HV.out], ?_⟩
    · rw [results_cell rfl]
      go_simp
    · repeat' (first | with_reducible exact hB | with_reducible refine bset ?_ (by omega))
  have q3 : ((k : Int) == 3) = false := beq_eq_false_iff_ne.2 (by omega)
  by_cases h4 : k = 4
  · have HV : Hid (R = .agg #[.int .u8 0, .int .i64 0, .int .u64 0, .int .i64 0, .bool false, .int .u64 0, .int .u64 0, .int .i64 0, .int .u8 (ak : Int), .int .i64 ai, .int .i64 i, .int .i64 p]) := by show _ = _; rw [HU.out, h4]; simp [hi0, lo0]
    have q4 : ((k : Int) == 4) = true := by rw [h4]; rfl
    clear HU h4
    go_enter Try.func83, Try.ntmps83
    go_upto_region 1 with fail
    rw [← hX]
    clear hX
    go_wp2_with fail
    refine bodyPost_ret (v := .agg #[.int .u8 0, .int .i64 0, .int .u64 0, .int .i64 0, .bool false, .int .u64 0, .int .u64 0, .int .i64 0, .int .u8 (ak : Int), .int .i64 ai, .int .i64 i, .int .i64 p]) ?_ rfl ⟨by rw [HV.out], ?_⟩
    · rw [results_cell rfl]
      go_simp
    · repeat' (first | with_reducible exact hB | with_reducible refine bset ?_ (by omega))
  have q4 : ((k : Int) == 4) = false := beq_eq_false_iff_ne.2 (by omega)
  by_cases h5 : k = 5
  · have HV : Hid (R = .agg #[.int .u8 0, .int .i64 0, .int .u64 0, .int .i64 0, .bool sx, .int .u64 (hiN n : Int), .int .u64 (loN n : Int), .int .i64 l, .int .u8 (ak : Int), .int .i64 ai, .int .i64 0, .int .i64 0]) := by show _ = _; rw [HU.out, h5]; simp
    have q5 : ((k : Int) == 5) = true := by rw [h5]; rfl
    clear HU h5
    go_enter Try.func83, Try.ntmps83
    go_upto_region 1 with fail
    rw [← hX]
    clear hX
    go_wp2_with fail
    refine bodyPost_ret (v := .agg #[.int .u8 0, .int .i64 0, .int .u64 0, .int .i64 0, .bool sx, .int .u64 (hiN n : Int), .int .u64 (loN n : Int), .int .i64 l, .int .u8 (ak : Int), .int .i64 ai, .int .i64 0, .int .i64 0]) ?_ rfl ⟨by rw [HV.out], ?_⟩
    · rw [results_cell rfl]
      go_simp
    · repeat' (first | with_reducible exact hB | with_reducible refine bset ?_ (by omega))
  have q5 : ((k : Int) == 5) = false := beq_eq_false_iff_ne.2 (by omega)
  by_cases h6 : k = 6
  · have HV : Hid (R = .agg #[.int .u8 0, .int .i64 0, .int .u64 0, .int .i64 0, .bool sx, .int .u64 (hiN n : Int), .int .u64 (loN n : Int), .int .i64 l, .int .u8 (ak : Int), .int .i64 ai, .int .i64 0, .int .i64 p]) := by show _ = _; rw [HU.out, h6]; simp
    have q6 : ((k : Int) == 6) = true := by rw [h6]; rfl
    clear HU h6
    go_enter Try.func83, Try.ntmps83
    go_upto_region 1 with fail
    rw [← hX]
    clear hX
    go_wp2_with fail
    refine bodyPost_ret (v := .agg #[.int .u8 0, .int .i64 0, .int .u64 0, .int .i64 0, .bool sx, .int .u64 (hiN n : Int), .int .u64 (loN n : Int), .int .i64 l, .int .u8 (ak : Int), .int .i64 ai, .int .i64 0, .int .i64 p]) ?_ rfl ⟨by rw [HV.out], ?_⟩
    · rw [results_cell rfl]
      go_simp
    · repeat' (first | with_reducible exact hB | with_reducible refine bset ?_ (by omega))
  have q6 : ((k : Int) == 6) = false := beq_eq_false_iff_ne.2 (by omega)
  have HV : Hid (R = .agg #[.int .u8 0, .int .i64 0, .int .u64 0, .int .i64 0, .bool sx, .int .u64 (hiN n : Int), .int .u64 (loN n : Int), .int .i64 l, .int .u8 (ak : Int), .int .i64 ai, .int .i64 i, .int .i64 p]) := by show _ = _; rw [HU.out]; simp [h3, h4, h5, h6]
  clear HU h3 h4 h5 h6
  go_enter Try.func83, Try.ntmps83
  go_upto_region 1 with fail
  rw [← hX]
  clear hX
  go_wp2_with fail
  refine bodyPost_ret (v := .agg #[.int .u8 0, .int .i64 0, .int .u64 0, .int .i64 0, .bool sx, .int .u64 (hiN n : Int), .int .u64 (loN n : Int), .int .i64 l, .int .u8 (ak : Int), .int .i64 ai, .int .i64 i, .int .i64 p]) ?_ rfl ⟨by rw [HV.out], ?_⟩
  · rw [results_cell rfl]
    go_simp
  · repeat' (first | with_reducible exact hB | with_reducible refine bset ?_ (by omega))
/-- an event is right -/
def okE (e : Ev) : Bool := headB e && partsB e && eqE (unN e) zeroE
def checkE (e : Ev) : Int := if okE e then 0 else 2
theorem evV_z : evV zeroE = .agg #[.int .u8 0, .int .i64 0, .int .u64 0, .int .i64 0, .bool false, .int .u64 0, .int .u64 0, .int .i64 0, .int .u8 0, .int .i64 0, .int .i64 0, .int .i64 0] := by
  unfold evV evC zeroE zeroPf zeroA; simp [hi0, lo0]
set_option maxHeartbeats 2000000 in
theorem echeck_any (e : Ev) (w : World) (hf : FitE e) : Calls Try.prog 59 #[evV e] w fun r w' => r = .returned (.int .i64 (checkE e)) ∧ Below w.heap.size w w' := by
  have c1 := fun W => rightHead_any e W hf
  have c2 := fun W => rightParts_any e W hf
  have c3 := fun W => unnamed_any e W
  have hq := fun w => ev_neq (unN e) zeroE w
  have hgd := ev_guard
  rw [evV_z] at hq
  have HC : Hid (checkE e = if headB e && partsB e && eqE (unN e) zeroE then 0 else 2) := rfl
  generalize checkE e = R at HC ⊢
  generalize headB e = B1 at *
  generalize partsB e = B2 at *
  generalize eqE (unN e) zeroE = B3 at *
  generalize unN e = u at *
  clear hf
  obtain ⟨k, a, b, c, ⟨sx, n, l⟩, ⟨ak, ai⟩, i, p⟩ := e
  obtain ⟨k', a', b', c', ⟨sx', n', l'⟩, ⟨ak', ai'⟩, i', p'⟩ := u
  unfold evV evC at *
  simp only at *
  generalize hiN n = nh at *
  generalize loN n = nl at *
  generalize hiN n' = nh' at *
  generalize loN n' = nl' at *
  obtain ⟨X, hX⟩ : ∃ X, X = w.alloc (.cells #[.int .u8 (k : Int), .int .i64 a, .int .u64 (b : Int), .int .i64 c, .bool sx, .int .u64 (nh : Int), .int .u64 (nl : Int), .int .i64 l, .int .u8 (ak : Int), .int .i64 ai, .int .i64 i, .int .i64 p] 87) := ⟨_, rfl⟩
  have hB : Below w.heap.size w X := by rw [hX]; exact below_new (Below.refl _ _) _
  have r0 : RowAt X w.heap.size [.int .u8 (k : Int), .int .i64 a, .int .u64 (b : Int), .int .i64 c, .bool sx, .int .u64 (nh : Int), .int .u64 (nl : Int), .int .i64 l, .int .u8 (ak : Int), .int .i64 ai, .int .i64 i, .int .i64 p] 87 := by rw [hX]; exact RowAt.new _ _ _
  obtain ⟨⟨y0, y1, y2, y3, y4, y5⟩, ⟨y6, y7, y8, y9, y10, y11⟩, yf, hly⟩ := cells12' r0
  cases B1
  · have HV : Hid (R = 2) := by show _ = _; rw [HC.out]; rfl
    clear HC
    go_enter Try.func59, Try.ntmps59
    go_upto_region 1 with fail
    rw [← hX]
    clear hX
    go_wp2_with fail
    go_at_call 81; refine (c1 _).mono ?_; rintro r w1 ⟨rfl, hb1⟩
    go_wp2_with fail
    go_ret
    exact ⟨by rw [HV.out]; rfl, below2 hB hb1⟩
  cases B2
  · have HV : Hid (R = 2) := by show _ = _; rw [HC.out]; rfl
    clear HC
    go_enter Try.func59, Try.ntmps59
    go_upto_region 1 with fail
    rw [← hX]
    clear hX
    go_wp2_with fail
    go_at_call 81; refine (c1 _).mono ?_; rintro r w1 ⟨rfl, hb1⟩
    clear y0 y1 y2 y3 y4 y5 y6 y7 y8 y9 y10 y11 yf hly
    obtain ⟨⟨y0, y1, y2, y3, y4, y5⟩, ⟨y6, y7, y8, y9, y10, y11⟩, yf, hly⟩ := cells12' (RowAt.below r0 hb1)
    go_wp2_with fail
    go_at_call 82; refine (c2 _).mono ?_; rintro r w2 ⟨rfl, hb2⟩
    go_wp2_with fail
    go_ret
    exact ⟨by rw [HV.out]; rfl, below2 (below2 hB hb1) hb2⟩
  · have HV : Hid (R = if B3 then 0 else 2) := by show _ = _; rw [HC.out]; rfl
    clear HC
    cases B3
    all_goals
      go_enter Try.func59, Try.ntmps59
      go_upto_region 1 with fail
      rw [← hX]
      clear hX
      go_wp2_with fail
      go_at_call 81; refine (c1 _).mono ?_; rintro r w1 ⟨rfl, hb1⟩
      clear y0 y1 y2 y3 y4 y5 y6 y7 y8 y9 y10 y11 yf hly
      replace r0 := RowAt.below r0 hb1
      obtain ⟨⟨y0, y1, y2, y3, y4, y5⟩, ⟨y6, y7, y8, y9, y10, y11⟩, yf, hly⟩ := cells12' r0
      go_wp2_with fail
      go_at_call 82; refine (c2 _).mono ?_; rintro r w2 ⟨rfl, hb2⟩
      clear y0 y1 y2 y3 y4 y5 y6 y7 y8 y9 y10 y11 yf hly
      replace r0 := RowAt.below r0 hb2
      obtain ⟨⟨y0, y1, y2, y3, y4, y5⟩, ⟨y6, y7, y8, y9, y10, y11⟩, yf, hly⟩ := cells12' r0
      go_wp2_with fail
      go_at_call 83; refine (c3 _).mono ?_; rintro r w3 ⟨rfl, hb3⟩
      go_wp2_with fail
      go_ret
      exact ⟨by rw [HV.out]; rfl, below2 (below2 (below2 hB hb1) hb2) hb3⟩
end Go.Proofs.Ytjgieaijdkmadaa.Msg
