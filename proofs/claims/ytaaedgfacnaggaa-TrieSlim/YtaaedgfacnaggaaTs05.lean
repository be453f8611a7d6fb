/- Plain mathematics of rows of bits: the document's way of an address. -/
import Derived.Test.YtaaedgfacnaggaaTs04
import Derived.Test.YtaaedgfacnaggaaTs01
import Derived.BigQuiet
set_option linter.unusedVariables false
namespace Go.Proofs.Ytaaedgfacnaggaa.Msg
open Go.RowKit
open Go.Proofs.Ytaaedgfacnaggaa.Addr (okP checkP hiN loN pfV RowAt below2 below_new RowAt.lt RowAt.cell RowAt.frozen RowAt.below RowAt.new RowAt.alloc)

theorem cells12' {W : World} {b : Nat} {a0 a1 a2 a3 a4 a5 a6 a7 a8 a9 a10 a11 : Value} {t : TypeId} (h : RowAt W b [a0, a1, a2, a3, a4, a5, a6, a7, a8, a9, a10, a11] t) :
    (W.cell? ⟨b, 0, none⟩ = some a0 ∧ W.cell? ⟨b, 1, none⟩ = some a1 ∧ W.cell? ⟨b, 2, none⟩ = some a2 ∧ W.cell? ⟨b, 3, none⟩ = some a3 ∧ W.cell? ⟨b, 4, none⟩ = some a4 ∧ W.cell? ⟨b, 5, none⟩ = some a5) ∧ (W.cell? ⟨b, 6, none⟩ = some a6 ∧ W.cell? ⟨b, 7, none⟩ = some a7 ∧ W.cell? ⟨b, 8, none⟩ = some a8 ∧ W.cell? ⟨b, 9, none⟩ = some a9 ∧ W.cell? ⟨b, 10, none⟩ = some a10 ∧ W.cell? ⟨b, 11, none⟩ = some a11) ∧ (∀ k, W.frozen? ⟨b, k, none⟩ = false) ∧ b < W.heap.size :=
  ⟨⟨RowAt.cell h 0, RowAt.cell h 1, RowAt.cell h 2, RowAt.cell h 3, RowAt.cell h 4, RowAt.cell h 5⟩, ⟨RowAt.cell h 6, RowAt.cell h 7, RowAt.cell h 8, RowAt.cell h 9, RowAt.cell h 10, RowAt.cell h 11⟩, RowAt.frozen h, RowAt.lt h⟩
set_option maxHeartbeats 2000000 in
theorem rightParts_any (e : Ev) (w : World) (hf : FitE e) : Calls Try.prog 65 #[evV e] w fun r w' => r = .returned (.bool (partsB e)) ∧ Below w.heap.size w w' := by
  have c1 := fun W => Addr.check_any e.pf W hf.len hf.n
  have c2 := fun W => between_int 0 e.iface 65536 W
  have c3 := fun W => between_int 0 e.peer 1048576 W
  have c4 := fun W => checkAction_any e.act W hf.act
  have HC : Hid (partsB e = (okP e.pf && (decide (0 ≤ e.iface) && decide (e.iface ≤ 65536)) && (decide (0 ≤ e.peer) && decide (e.peer ≤ 1048576)) && (decide (e.kind ≠ 3) || okA e.act))) := rfl
  generalize partsB e = R at HC ⊢
  have hk1 := hf.kind
  have hcp : checkP e.pf = if okP e.pf = true then 0 else 2 := rfl
  have hca : checkA e.act = if okA e.act = true then 0 else 2 := rfl
  obtain ⟨k, a, b, c, ⟨sx, n, l⟩, ⟨ak, ai⟩, i, p⟩ := e
  unfold Addr.pfV at c1
  unfold acV at c4
  unfold evV evC
  simp only at *
  rw [hcp] at c1
  rw [hca] at c4
  clear hf hcp hca
  generalize okP ⟨sx, n, l⟩ = B1 at *
  generalize okA ⟨ak, ai⟩ = B4 at *
  generalize (decide (0 ≤ i) && decide (i ≤ 65536)) = B2 at *
  generalize (decide (0 ≤ p) && decide (p ≤ 1048576)) = B3 at *
  obtain ⟨X, hX⟩ : ∃ X, X = w.alloc (.cells #[.int .u8 (k : Int), .int .i64 a, .int .u64 (b : Int), .int .i64 c, .bool sx, .int .u64 (hiN n : Int), .int .u64 (loN n : Int), .int .i64 l, .int .u8 (ak : Int), .int .i64 ai, .int .i64 i, .int .i64 p] 91) := ⟨_, rfl⟩
  have hB : Below w.heap.size w X := by rw [hX]; exact below_new (Below.refl _ _) _
  have r0 : RowAt X w.heap.size [.int .u8 (k : Int), .int .i64 a, .int .u64 (b : Int), .int .i64 c, .bool sx, .int .u64 (hiN n : Int), .int .u64 (loN n : Int), .int .i64 l, .int .u8 (ak : Int), .int .i64 ai, .int .i64 i, .int .i64 p] 91 := by rw [hX]; exact RowAt.new _ _ _
  obtain ⟨⟨y0, y1, y2, y3, y4, y5⟩, ⟨y6, y7, y8, y9, y10, y11⟩, yf, hly⟩ := cells12' r0
  generalize hiN n = nh at *
  generalize loN n = nl at *
  cases B1
  · have HV : Hid (R = false) := by show _ = _; rw [HC.out]; rfl
    clear HC
    simp only [Bool.false_eq_true, if_false] at c1
    go_enter Try.func65, Try.ntmps65
    go_upto_region 1 with fail
    rw [← hX]
    clear hX
    go_wp2_with fail
    go_at_call 32; refine (c1 _).mono ?_; rintro r w1 ⟨rfl, hb1⟩
    go_wp2_with fail
    go_ret
    exact ⟨by rw [HV.out]; rfl, below2 hB hb1⟩
  simp only [if_true] at c1
  cases B2
  · have HV : Hid (R = false) := by show _ = _; rw [HC.out]; rfl
    clear HC
    go_enter Try.func65, Try.ntmps65
    go_upto_region 1 with fail
    rw [← hX]
    clear hX
    go_wp2_with fail
    go_at_call 32; refine (c1 _).mono ?_; rintro r w1 ⟨rfl, hb1⟩
    clear y0 y1 y2 y3 y4 y5 y6 y7 y8 y9 y10 y11 yf hly
    obtain ⟨⟨y0, y1, y2, y3, y4, y5⟩, ⟨y6, y7, y8, y9, y10, y11⟩, yf, hly⟩ := cells12' (RowAt.below r0 hb1)
    go_wp2_with fail
    go_at_call 81; refine (c2 _).mono ?_; rintro r w2 ⟨rfl, rfl⟩
    go_wp2_with fail
    go_ret
    exact ⟨by rw [HV.out]; rfl, below2 hB hb1⟩
  cases B3
  · have HV : Hid (R = false) := by show _ = _; rw [HC.out]; rfl
    clear HC
    go_enter Try.func65, Try.ntmps65
    go_upto_region 1 with fail
    rw [← hX]
    clear hX
    go_wp2_with fail
    go_at_call 32; refine (c1 _).mono ?_; rintro r w1 ⟨rfl, hb1⟩
    clear y0 y1 y2 y3 y4 y5 y6 y7 y8 y9 y10 y11 yf hly
    obtain ⟨⟨y0, y1, y2, y3, y4, y5⟩, ⟨y6, y7, y8, y9, y10, y11⟩, yf, hly⟩ := cells12' (RowAt.below r0 hb1)
    go_wp2_with fail
    go_at_call 81; refine (c2 _).mono ?_; rintro r w2 ⟨rfl, rfl⟩
    go_wp2_with fail
    go_at_call 81; refine (c3 _).mono ?_; rintro r w3 ⟨rfl, rfl⟩
    go_wp2_with fail
    go_ret
    exact ⟨by rw [HV.out]; rfl, below2 hB hb1⟩
  by_cases hk3 : k = 3
  · have HV : Hid (R = B4) := by show _ = _; rw [HC.out, hk3]; cases B4 <;> rfl
    have q : ((k : Int) != 3) = false := by rw [hk3]; rfl
    clear HC hk3
    cases B4
    all_goals
      simp only [Bool.false_eq_true, if_false, if_true] at c4
      go_enter Try.func65, Try.ntmps65
      go_upto_region 1 with fail
      rw [← hX]
      clear hX
      go_wp2_with fail
      go_at_call 32; refine (c1 _).mono ?_; rintro r w1 ⟨rfl, hb1⟩
      clear y0 y1 y2 y3 y4 y5 y6 y7 y8 y9 y10 y11 yf hly
      obtain ⟨⟨y0, y1, y2, y3, y4, y5⟩, ⟨y6, y7, y8, y9, y10, y11⟩, yf, hly⟩ := cells12' (RowAt.below r0 hb1)
      go_wp2_with fail
      go_at_call 81; refine (c2 _).mono ?_; rintro r w2 ⟨rfl, rfl⟩
      go_wp2_with fail
      go_at_call 81; refine (c3 _).mono ?_; rintro r w3 ⟨rfl, rfl⟩
      go_wp2_with fail
      go_at_call 84; refine (c4 _).mono ?_; rintro r w4 ⟨rfl, hb4⟩
      go_wp2_with fail
      go_ret
      exact ⟨by rw [HV.out]; rfl, below2 (below2 hB hb1) hb4⟩
  · have HV : Hid (R = true) := by show _ = _; rw [HC.out, decide_eq_true hk3]; rfl
    have q : ((k : Int) != 3) = true := bne_iff_ne.2 (by omega)
    clear HC hk3
    go_enter Try.func65, Try.ntmps65
    go_upto_region 1 with fail
    rw [← hX]
    clear hX
    go_wp2_with fail
    go_at_call 32; refine (c1 _).mono ?_; rintro r w1 ⟨rfl, hb1⟩
    clear y0 y1 y2 y3 y4 y5 y6 y7 y8 y9 y10 y11 yf hly
    obtain ⟨⟨y0, y1, y2, y3, y4, y5⟩, ⟨y6, y7, y8, y9, y10, y11⟩, yf, hly⟩ := cells12' (RowAt.below r0 hb1)
    go_wp2_with fail
    go_at_call 81; refine (c2 _).mono ?_; rintro r w2 ⟨rfl, rfl⟩
    go_wp2_with fail
    go_at_call 81; refine (c3 _).mono ?_; rintro r w3 ⟨rfl, rfl⟩
    go_wp2_with fail
    go_ret
    exact ⟨by rw [HV.out]; rfl, below2 hB hb1⟩
end Go.Proofs.Ytaaedgfacnaggaa.Msg
namespace Go.Proofs.Ytaaedgfacnaggaa.Msg
open Go.RowKit
open Go.Proofs.Ytaaedgfacnaggaa.Addr (hiN loN RowAt below2 below_new bset RowAt.below RowAt.new RowAt.alloc results_cell)

theorem row_new2' (W : World) (cs ds : List Value) (t u : TypeId) : RowAt ((W.alloc (.cells cs.toArray t)).alloc (.cells ds.toArray u)) W.heap.size cs t ∧ RowAt ((W.alloc (.cells cs.toArray t)).alloc (.cells ds.toArray u)) (W.heap.size + 1) ds u := by
  refine ⟨(RowAt.new W cs t).alloc _, ?_⟩
  have := RowAt.new (W.alloc (.cells cs.toArray t)) ds u
  rw [World.size_alloc] at this
  exact this
theorem evV_un (e : Ev) : evV (unN e) = .agg #[.int .u8 0, .int .i64 0, .int .u64 0, .int .i64 0, .bool (if e.kind = 3 ∨ e.kind = 4 then false else e.pf.six), .int .u64 (hiN (if e.kind = 3 ∨ e.kind = 4 then 0 else e.pf.n) : Int), .int .u64 (loN (if e.kind = 3 ∨ e.kind = 4 then 0 else e.pf.n) : Int), .int .i64 (if e.kind = 3 ∨ e.kind = 4 then 0 else e.pf.len), .int .u8 ((if e.kind = 3 then 0 else e.act.k : Nat) : Int), .int .i64 (if e.kind = 3 then 0 else e.act.i), .int .i64 (if e.kind = 5 ∨ e.kind = 6 then 0 else e.iface), .int .i64 (if e.kind = 5 then 0 else e.peer)] := by
  unfold evV evC unN zeroPf zeroA
  by_cases h3 : e.kind = 3 <;> by_cases h4 : e.kind = 4 <;> simp [h3, h4]
theorem hi0 : ((hiN 0 : Nat) : Int) = 0 := by unfold Addr.hiN; simp
theorem lo0 : ((loN 0 : Nat) : Int) = 0 := by unfold Addr.loN; simp
set_option maxHeartbeats 4000000 in
theorem unnamed_any (e : Ev) (w : World) : Calls Try.prog 66 #[evV e] w fun r w' => r = .returned (evV (unN e)) ∧ Below w.heap.size w w' := by
  have HU : Hid (evV (unN e) = _) := evV_un e
  generalize evV (unN e) = R at HU ⊢
  obtain ⟨k, a, b, c, ⟨sx, n, l⟩, ⟨ak, ai⟩, i, p⟩ := e
  unfold evV evC
  simp only at *
  obtain ⟨X, hX⟩ : ∃ X, X = (w.alloc (.cells #[.int .u8 (k : Int), .int .i64 a, .int .u64 (b : Int), .int .i64 c, .bool sx, .int .u64 (hiN n : Int), .int .u64 (loN n : Int), .int .i64 l, .int .u8 (ak : Int), .int .i64 ai, .int .i64 i, .int .i64 p] 91)).alloc (.cells #[.int .u8 0, .int .i64 0, .int .u64 0, .int .i64 0, .bool false, .int .u64 0, .int .u64 0, .int .i64 0, .int .u8 0, .int .i64 0, .int .i64 0, .int .i64 0] 91) := ⟨_, rfl⟩
  have hB : Below w.heap.size w X := by rw [hX]; exact below_new (below_new (Below.refl _ _) _) _
  obtain ⟨rx, sy⟩ := row_new2' w [.int .u8 (k : Int), .int .i64 a, .int .u64 (b : Int), .int .i64 c, .bool sx, .int .u64 (hiN n : Int), .int .u64 (loN n : Int), .int .i64 l, .int .u8 (ak : Int), .int .i64 ai, .int .i64 i, .int .i64 p] [.int .u8 0, .int .i64 0, .int .u64 0, .int .i64 0, .bool false, .int .u64 0, .int .u64 0, .int .i64 0, .int .u8 0, .int .i64 0, .int .i64 0, .int .i64 0] 91 91
  rw [show (w.alloc (.cells ([.int .u8 (k : Int), .int .i64 a, .int .u64 (b : Int), .int .i64 c, .bool sx, .int .u64 (hiN n : Int), .int .u64 (loN n : Int), .int .i64 l, .int .u8 (ak : Int), .int .i64 ai, .int .i64 i, .int .i64 p] : List Value).toArray 91)).alloc (.cells ([.int .u8 0, .int .i64 0, .int .u64 0, .int .i64 0, .bool false, .int .u64 0, .int .u64 0, .int .i64 0, .int .u8 0, .int .i64 0, .int .i64 0, .int .i64 0] : List Value).toArray 91) = X from hX.symm] at rx sy
  obtain ⟨⟨y0, y1, y2, y3, y4, y5⟩, ⟨y6, y7, y8, y9, y10, y11⟩, yf, hly⟩ := cells12' rx
  obtain ⟨⟨z0, z1, z2, z3, z4, z5⟩, ⟨z6, z7, z8, z9, z10, z11⟩, zf, hlz⟩ := cells12' sy
  clear rx sy
  by_cases h3 : k = 3
  · have HV : Hid (R = .agg #[.int .u8 0, .int .i64 0, .int .u64 0, .int .i64 0, .bool false, .int .u64 0, .int .u64 0, .int .i64 0, .int .u8 0, .int .i64 0, .int .i64 i, .int .i64 p]) := by show _ = _; rw [HU.out, h3]; simp [hi0, lo0]
    have q3 : ((k : Int) == 3) = true := by rw [h3]; rfl
    clear HU h3
    go_enter Try.func66, Try.ntmps66
    go_upto_region 1 with fail
    rw [← hX]
    clear hX
    go_wp2_with fail
    refine bodyPost_ret (v := .agg #[.int .u8 0, .int .i64 0, .int .u64 0, .int .i64 0, .bool false, .int .u64 0, .int .u64 0, .int .i64 0, .int .u8 0, .int .i64 0, .int .i64 i, .int .i64 p]) ?_ rfl ⟨by rw [HV.out], ?_⟩
    · rw [results_cell rfl]
      go_simp
    · repeat' (first | with_reducible exact hB | with_reducible refine bset ?_ (by omega))
  have q3 : ((k : Int) == 3) = false := beq_eq_false_iff_ne.2 (by omega)
  by_cases h4 : k = 4
  · have HV : Hid (R = .agg #[.int .u8 0, .int .i64 0, .int .u64 0, .int .i64 0, .bool false, .int .u64 0, .int .u64 0, .int .i64 0, .int .u8 (ak : Int), .int .i64 ai, .int .i64 i, .int .i64 p]) := by show _ = _; rw [HU.out, h4]; simp [hi0, lo0]
    have q4 : ((k : Int) == 4) = true := by rw [h4]; rfl
    clear HU h4
    go_enter Try.func66, Try.ntmps66
    go_upto_region 1 with fail
    rw [← hX]
    clear hX
    go_wp2_with fail
    refine bodyPost_ret (v := .agg #[.int .u8 0, .int .i64 0, .int .u64 0, .int .i64 0, .bool false, .int .u64 0, .int .u64 0, .int .i64 0, .int .u8 (ak : Int), .int .i64 ai, .int .i64 i, .int .i64 p]) ?_ rfl ⟨by rw [HV.out], ?_⟩
    · rw [results_cell rfl]
      go_simp
    · repeat' (first | with_reducible exact hB | with_reducible refine bset ?_ (by omega))
  have q4 : ((k : Int) == 4) = false := beq_eq_false_iff_ne.2 (by omega)
  by_cases h5 : k = 5
  · have HV : Hid (R = .agg #[.int .u8 0, .int .i64 0, .int .u64 0, .int .i64 0, .bool sx, .int .u64 (hiN n : Int), .int .u64 (loN n : Int), .int .i64 l, .int .u8 (ak : Int), .int .i64 ai, .int .i64 0, .int .i64 0]) := by show _ = _; rw [HU.out, h5]; simp
    have q5 : ((k : Int) == 5) = true := by rw [h5]; rfl
    clear HU h5
    go_enter Try.func66, Try.ntmps66
    go_upto_region 1 with fail
    rw [← hX]
    clear hX
    go_wp2_with fail
    refine bodyPost_ret (v := .agg #[.int .u8 0, .int .i64 0, .int .u64 0, .int .i64 0, .bool sx, .int .u64 (hiN n : Int), .int .u64 (loN n : Int), .int .i64 l, .int .u8 (ak : Int), .int .i64 ai, .int .i64 0, .int .i64 0]) ?_ rfl ⟨by rw [HV.out], ?_⟩
    · rw [results_cell rfl]
      go_simp
    · repeat' (first | with_reducible exact hB | with_reducible refine bset ?_ (by omega))
  have q5 : ((k : Int) == 5) = false := beq_eq_false_iff_ne.2 (by omega)
  by_cases h6 : k = 6
  · have HV : Hid (R = .agg #[.int .u8 0, .int .i64 0, .int .u64 0, .int .i64 0, .bool sx, .int .u64 (hiN n : Int), .int .u64 (loN n : Int), .int .i64 l, .int .u8 (ak : Int), .int .i64 ai, .int .i64 0, .int .i64 p]) := by show _ = _; rw [HU.out, h6]; simp
    have q6 : ((k : Int) == 6) = true := by rw [h6]; rfl
    clear HU h6
    go_enter Try.func66, Try.ntmps66
    go_upto_region 1 with fail
    rw [← hX]
    clear hX
    go_wp2_with fail
    refine bodyPost_ret (v := .agg #[.int .u8 0, .int .i64 0, .int .u64 0, .int .i64 0, .bool sx, .int .u64 (hiN n : Int), .int .u64 (loN n : Int), .int .i64 l, .int .u8 (ak : Int), .int .i64 ai, .int .i64 0, .int .i64 p]) ?_ rfl ⟨by rw [HV.out], ?_⟩
    · rw [results_cell rfl]
      go_simp
    · repeat' (first | with_reducible exact hB | with_reducible refine bset ?_ (by omega))
  have q6 : ((k : Int) == 6) = false := beq_eq_false_iff_ne.2 (by omega)
  have HV : Hid (R = .agg #[.int .u8 0, .int .i64 0, .int .u64 0, .int .i64 0, .bool sx, .int .u64 (hiN n : Int), .int .u64 (loN n : Int), .int .i64 l, .int .u8 (ak : Int), .int .i64 ai, .int .i64 i, .int .i64 p]) := by show _ = _; rw [HU.out]; simp [h3, h4, h5, h6]
  clear HU h3 h4 h5 h6
  go_enter Try.func66, Try.ntmps66
  go_upto_region 1 with fail
  rw [← hX]
  clear hX
  go_wp2_with fail
  refine bodyPost_ret (v := .agg #[.int .u8 0, .int .i64 0, .int .u64 0, .int .i64 0, .bool sx, .int .u64 (hiN n : Int), .int .u64 (loN n : Int), .int .i64 l, .int .u8 (ak : Int), .int .i64 ai, .int .i64 i, .int .i64 p]) ?_ rfl ⟨by rw [HV.out], ?_⟩
  · rw [results_cell rfl]
    go_simp
  · repeat' (first | with_reducible exact hB | with_reducible refine bset ?_ (by omega))
/-- an event is right -/
def okE (e : Ev) : Bool := headB e && partsB e && eqE (unN e) zeroE
def checkE (e : Ev) : Int := if okE e then 0 else 2
theorem evV_z : evV zeroE = .agg #[.int .u8 0, .int .i64 0, .int .u64 0, .int .i64 0, .bool false, .int .u64 0, .int .u64 0, .int .i64 0, .int .u8 0, .int .i64 0, .int .i64 0, .int .i64 0] := by
  unfold evV evC zeroE zeroPf zeroA; simp [hi0, lo0]
set_option maxHeartbeats 2000000 in
theorem echeck_any (e : Ev) (w : World) (hf : FitE e) : Calls Try.prog 43 #[evV e] w fun r w' => r = .returned (.int .i64 (checkE e)) ∧ Below w.heap.size w w' := by
  have c1 := fun W => rightHead_any e W hf
  have c2 := fun W => rightParts_any e W hf
  have c3 := fun W => unnamed_any e W
  have hq := fun w => ev_neq (unN e) zeroE w
  have hgd := ev_guard
  rw [evV_z] at hq
  have HC : Hid (checkE e = if headB e && partsB e && eqE (unN e) zeroE then 0 else 2) := rfl
  generalize checkE e = R at HC ⊢
  generalize headB e = B1 at *
  generalize partsB e = B2 at *
  generalize eqE (unN e) zeroE = B3 at *
  generalize unN e = u at *
  clear hf
  obtain ⟨k, a, b, c, ⟨sx, n, l⟩, ⟨ak, ai⟩, i, p⟩ := e
  obtain ⟨k', a', b', c', ⟨sx', n', l'⟩, ⟨ak', ai'⟩, i', p'⟩ := u
  unfold evV evC at *
  simp only at *
  generalize hiN n = nh at *
  generalize loN n = nl at *
  generalize hiN n' = nh' at *
  generalize loN n' = nl' at *
  obtain ⟨X, hX⟩ : ∃ X, X = w.alloc (.cells #[.int .u8 (k : Int), .int .i64 a, .int .u64 (b : Int), .int .i64 c, .bool sx, .int .u64 (nh : Int), .int .u64 (nl : Int), .int .i64 l, .int .u8 (ak : Int), .int .i64 ai, .int .i64 i, .int .i64 p] 91) := ⟨_, rfl⟩
  have hB : Below w.heap.size w X := by rw [hX]; exact below_new (Below.refl _ _) _
  have r0 : RowAt X w.heap.size [.int .u8 (k : Int), .int .i64 a, .int .u64 (b : Int), .int .i64 c, .bool sx, .int .u64 (nh : Int), .int .u64 (nl : Int), .int .i64 l, .int .u8 (ak : Int), .int .i64 ai, .int .i64 i, .int .i64 p] 91 := by rw [hX]; exact RowAt.new _ _ _
  obtain ⟨⟨y0, y1, y2, y3, y4, y5⟩, ⟨y6, y7, y8, y9, y10, y11⟩, yf, hly⟩ := cells12' r0
  cases B1
  · have HV : Hid (R = 2) := by show _ = _; rw [HC.out]; rfl
    clear HC
    go_enter Try.func43, Try.ntmps43
    go_upto_region 1 with fail
    rw [← hX]
    clear hX
    go_wp2_with fail
    go_at_call 64; refine (c1 _).mono ?_; rintro r w1 ⟨rfl, hb1⟩
    go_wp2_with fail
    go_ret
    exact ⟨by rw [HV.out]; rfl, below2 hB hb1⟩
  cases B2
  · have HV : Hid (R = 2) := by show _ = _; rw [HC.out]; rfl
    clear HC
    go_enter Try.func43, Try.ntmps43
    go_upto_region 1 with fail
    rw [← hX]
    clear hX
    go_wp2_with fail
    go_at_call 64; refine (c1 _).mono ?_; rintro r w1 ⟨rfl, hb1⟩
    clear y0 y1 y2 y3 y4 y5 y6 y7 y8 y9 y10 y11 yf hly
    obtain ⟨⟨y0, y1, y2, y3, y4, y5⟩, ⟨y6, y7, y8, y9, y10, y11⟩, yf, hly⟩ := cells12' (RowAt.below r0 hb1)
    go_wp2_with fail
    go_at_call 65; refine (c2 _).mono ?_; rintro r w2 ⟨rfl, hb2⟩
    go_wp2_with fail
    go_ret
    exact ⟨by rw [HV.out]; rfl, below2 (below2 hB hb1) hb2⟩
  · have HV : Hid (R = if B3 then 0 else 2) := by show _ = _; rw [HC.out]; rfl
    clear HC
    cases B3
    all_goals
      go_enter Try.func43, Try.ntmps43
      go_upto_region 1 with fail
      rw [← hX]
      clear hX
      go_wp2_with fail
      go_at_call 64; refine (c1 _).mono ?_; rintro r w1 ⟨rfl, hb1⟩
      clear y0 y1 y2 y3 y4 y5 y6 y7 y8 y9 y10 y11 yf hly
      replace r0 := RowAt.below r0 hb1
      obtain ⟨⟨y0, y1, y2, y3, y4, y5⟩, ⟨y6, y7, y8, y9, y10, y11⟩, yf, hly⟩ := cells12' r0
      go_wp2_with fail
      go_at_call 65; refine (c2 _).mono ?_; rintro r w2 ⟨rfl, hb2⟩
      clear y0 y1 y2 y3 y4 y5 y6 y7 y8 y9 y10 y11 yf hly
      replace r0 := RowAt.below r0 hb2
      obtain ⟨⟨y0, y1, y2, y3, y4, y5⟩, ⟨y6, y7, y8, y9, y10, y11⟩, yf, hly⟩ := cells12' r0
      go_wp2_with fail
      go_at_call 66; refine (c3 _).mono ?_; rintro r w3 ⟨rfl, hb3⟩
      go_wp2_with fail
      go_ret
      exact ⟨by rw [HV.out]; rfl, below2 (below2 (below2 hB hb1) hb2) hb3⟩
end Go.Proofs.Ytaaedgfacnaggaa.Msg
namespace Go.Proofs.Ytaaedgfacnaggaa.Tr
open Go.RowKit
open Go.Proofs.Ytaaedgfacnaggaa.Msg (evV evC okE checkE headB partsB unN zeroE eqE eqE_iff echeck_any)
open Go.Proofs.Ytaaedgfacnaggaa.Lk (HasRow)
open Go.Proofs.Ytaaedgfacnaggaa.Addr (Pf hiN loN pfV RowAt below2 below_new RowAt.cell RowAt.below RowAt.new RowAt.alloc Bl bl_ne wp_region_bl bl_call)
theorem okE_add (r : Rt) : okE ⟨3, 0, 1, 0, r.pf, r.act, 0, 0⟩ = okR r := by
  have h1 : headB ⟨3, 0, 1, 0, r.pf, r.act, 0, 0⟩ = true := by unfold headB; rfl
  have h2 : partsB ⟨3, 0, 1, 0, r.pf, r.act, 0, 0⟩ = okR r := by
    unfold partsB okR
    simp
  have h3 : eqE (unN ⟨3, 0, 1, 0, r.pf, r.act, 0, 0⟩) zeroE = true := by
    rw [eqE_iff]
    unfold unN zeroE
    simp
  unfold okE
  rw [h1, h2, h3]
  simp
set_option maxHeartbeats 4000000 in
set_option maxRecDepth 20000 in
theorem right_any (r : Rt) (w : World) (hf : FitR r) : Calls Try.prog 21 #[.agg #[.bool r.pf.six, .int .u64 (hiN r.pf.n : Int), .int .u64 (loN r.pf.n : Int), .int .i64 r.pf.len, .int .u8 (r.act.k : Int), .int .i64 r.act.i]] w fun e w' => e = .returned (.bool (okR r)) ∧ Below w.heap.size w w' := by
  have cc := fun W => echeck_any ⟨3, 0, 1, 0, r.pf, r.act, 0, 0⟩ W ⟨by simp, by simp, by simp, by simp, hf.1.1, hf.1.2, hf.2, by simp, by simp⟩
  have hck : checkE ⟨3, 0, 1, 0, r.pf, r.act, 0, 0⟩ = if okR r then 0 else 2 := by unfold checkE; rw [okE_add]
  rw [hck] at cc
  unfold evV evC at cc
  simp only at cc
  obtain ⟨X, hX⟩ : ∃ X, X = w.alloc (.cells #[.bool r.pf.six, .int .u64 (hiN r.pf.n : Int), .int .u64 (loN r.pf.n : Int), .int .i64 r.pf.len, .int .u8 (r.act.k : Int), .int .i64 r.act.i] 37) := ⟨_, rfl⟩
  have hB : Below w.heap.size w X := by rw [hX]; exact below_new (Below.refl _ _) _
  have r0 : RowAt X w.heap.size [.bool r.pf.six, .int .u64 (hiN r.pf.n : Int), .int .u64 (loN r.pf.n : Int), .int .i64 r.pf.len, .int .u8 (r.act.k : Int), .int .i64 r.act.i] 37 := by rw [hX]; exact RowAt.new _ _ _
  generalize okR r = B at *
  generalize r.pf.six = s0 at *
  generalize (hiN r.pf.n : Int) = s1 at *
  generalize (loN r.pf.n : Int) = s2 at *
  generalize r.pf.len = s3 at *
  generalize (r.act.k : Int) = s4 at *
  generalize r.act.i = s5 at *
  clear hf hck
  have y0 := r0.cell 0
  have y1 := r0.cell 1
  have y2 := r0.cell 2
  have y3 := r0.cell 3
  have y4 := r0.cell 4
  have y5 := r0.cell 5
  simp only [List.getElem?_cons_zero, List.getElem?_cons_succ] at y0 y1 y2 y3 y4 y5
  go_enter Try.func21, Try.ntmps21
  go_upto_region 1 with fail
  rw [← hX]
  clear hX r0
  go_wp2_with fail
  go_at_call 43; refine (cc _).mono ?_; rintro e w1 ⟨rfl, hb1⟩
  have hF := below2 hB hb1
  clear cc y0 y1 y2 y3 y4 y5
  cases B
  · simp only [Bool.false_eq_true, if_false]
    go_wp2_with fail
    go_ret
    exact ⟨rfl, hF⟩
  · simp only [if_true]
    go_wp2_with fail
    go_ret
    exact ⟨rfl, hF⟩
def prevR (l : List Rt) (k : Nat) : Option Pf := match k with
  | 0 => none
  | j + 1 => (l[j]?).map (·.pf)
theorem rise_zero (l : List Rt) (h : 0 < l.length) : rise (prevR l 0) (l.drop 0) = (okR l[0] && rise (prevR l 1) (l.drop 1)) := by
  match l, h with
  | s :: t, _ => rfl
theorem rise_succ (l : List Rt) (j : Nat) (h : j + 1 < l.length) : rise (prevR l (j + 1)) (l.drop (j + 1)) = (okR l[j + 1] && !decide (ordP l[j + 1].pf l[j].pf ≤ 0) && rise (prevR l (j + 2)) (l.drop (j + 2))) := by
  have e1 : prevR l (j + 1) = some l[j].pf := by show (l[j]?).map (·.pf) = _; rw [List.getElem?_eq_getElem (by omega)]; rfl
  have e2 : prevR l (j + 2) = some l[j + 1].pf := by show (l[j + 1]?).map (·.pf) = _; rw [List.getElem?_eq_getElem (by omega)]; rfl
  have e3 : l.drop (j + 1) = l[j + 1] :: l.drop (j + 2) := List.drop_eq_getElem_cons h
  have e4 : decide (ordP l[j].pf l[j + 1].pf < 0) = !decide (ordP l[j + 1].pf l[j].pf ≤ 0) := by
    rw [Bool.eq_iff_iff]
    simp only [decide_eq_true_eq, Bool.not_eq_true', decide_eq_false_iff_not, Int.not_le]
    rw [ordP_lt, ordP_gt]
  rw [e1, e2, e3, rise, e4]
theorem round_bad {l : List Rt} {k : Nat} (hk : k < l.length) {R : Int} (HD : R = if rise none l then 0 else 2) (HG : rise none l = rise (prevR l k) (l.drop k)) (h : okR l[k] = false) : R = 2 := by
  rw [HD, HG]
  cases k with
  | zero => rw [rise_zero l hk, h]; rfl
  | succ j => rw [rise_succ l j hk, h]; rfl
theorem round_first {l : List Rt} {k : Nat} (hk : k < l.length) (HG : rise none l = rise (prevR l k) (l.drop k)) (h : okR l[k] = true) (h0 : k = 0) : rise none l = rise (prevR l 1) (l.drop 1) := by
  subst h0
  rw [HG, rise_zero l hk, h, Bool.true_and]
theorem round_next {l : List Rt} {k j : Nat} (hk : k < l.length) {R : Int} (HD : R = if rise none l then 0 else 2) (HG : rise none l = rise (prevR l k) (l.drop k)) (h : okR l[k] = true) (h0 : k = j + 1) (hj : j < l.length) :
    (decide (ordP l[k].pf l[j].pf ≤ 0) = false → rise none l = rise (prevR l (k + 1)) (l.drop (k + 1))) ∧ (decide (ordP l[k].pf l[j].pf ≤ 0) = true → R = 2) := by
  subst h0
  constructor
  · intro hd
    rw [HG, rise_succ l j hk, h, hd]
    rfl
  · intro hd
    rw [HD, HG, rise_succ l j hk, h, hd]
    rfl
theorem six_at {X : World} {g i : Nat} {r : Rt} (h : ∀ t, t < 6 → X.cell? ⟨g, i + t, none⟩ = (rtC r)[t]?) : X.cell? ⟨g, i, none⟩ = some (.bool r.pf.six) ∧ X.cell? ⟨g, i + 1, none⟩ = some (.int .u64 (hiN r.pf.n : Int)) ∧ X.cell? ⟨g, i + 2, none⟩ = some (.int .u64 (loN r.pf.n : Int)) ∧ X.cell? ⟨g, i + 3, none⟩ = some (.int .i64 r.pf.len) ∧ X.cell? ⟨g, i + 4, none⟩ = some (.int .u8 (r.act.k : Int)) ∧ X.cell? ⟨g, i + 5, none⟩ = some (.int .i64 r.act.i) :=
  ⟨h 0 (by decide), h 1 (by decide), h 2 (by decide), h 3 (by decide), h 4 (by decide), h 5 (by decide)⟩
set_option maxHeartbeats 4000000 in
set_option maxRecDepth 20000 in
theorem check_any (l : List Rt) (v : Value) (w : World) (h : HasRts w v l) (hfit : ∀ r ∈ l, FitR r) :
    Calls Try.prog 9 #[v] w fun e w' => e = .returned (.int .i64 (checkT l)) ∧ Below w.heap.size w w' := by
  obtain ⟨o, c, rfl, hc1, hc2⟩ := Lk.HasRow.slice h
  have HR : Hid (∀ wr : World, Below w.heap.size w wr → HasRts wr (.slice o l.length c) l) := fun wr hb => h.keep hb
  obtain ⟨n, hn⟩ : ∃ n, n = l.length := ⟨_, rfl⟩
  have HN : Hid (n = l.length) := hn
  rw [← hn] at HR hc1 ⊢
  have HC : Hid (checkT l = if (decide (n ≤ 256) && rise none l) then 0 else 2) := by show _ = _; unfold checkT okT; rw [← hn]
  generalize checkT l = R at HC ⊢
  clear h hn
  by_cases h256 : 256 < n
  · have HV : Hid (R = 2) := by show _ = _; rw [HC.out, decide_eq_false (by omega)]; rfl
    have q1 : decide ((256 : Int) < (n : Int)) = true := decide_eq_true (by omega)
    have q2 : decide (256 < n) = true := decide_eq_true h256
    clear HC HR
    go_enter Try.func9, Try.ntmps9
    go_wp2_with fail
    go_ret
    exact ⟨by first | (rw [HV.out]; rfl) | rfl, Below.refl _ _⟩
  · have HD : Hid (R = if rise none l then 0 else 2) := by show _ = _; rw [HC.out, decide_eq_true (by omega)]; rfl
    have hni : (n : Int) ≤ 256 := by omega
    have q1 : decide ((256 : Int) < (n : Int)) = false := decide_eq_false (by omega)
    have q2 : decide (256 < n) = false := decide_eq_false h256
    clear HC h256
    go_enter Try.func9, Try.ntmps9
    go_wp2_with fail
    go_loopw [10] (fun i wr => ∃ k : Nat, k ≤ n ∧ i = .int .i64 k ∧ Below w.heap.size w wr ∧ Hid (rise none l = rise (prevR l k) (l.drop k))) (fun i _ => n - (Go.RowKit.intOf i).toNat)
    case atStart => exact ⟨0, by omega, rfl, Below.refl _ _, (rfl : rise none l = _)⟩
    case round =>
      obtain ⟨k, hk, rfl, hB, HG⟩ := hrel
      have hh := HR.out _ hB
      by_cases hlt : k < n
      · have hkz : k < l.length := by rw [← HN.out]; exact hlt
        obtain ⟨g1, i1, rfl, hg1, ax⟩ := HasRts.cell hh k hkz
        obtain ⟨a0, a1, a2, a3, a4, a5⟩ := six_at ax
        clear ax
        have hfk := hfit l[k] (List.getElem_mem hkz)
        have cr := fun W : World => right_any l[k] W hfk
        have hki : (k : Int) < (n : Int) := by omega
        have HB1 : Hid (okR l[k] = false → R = 2) := fun h => round_bad hkz HD.out HG.out h
        have HB2 : Hid (okR l[k] = true → k = 0 → rise none l = rise (prevR l 1) (l.drop 1)) := fun h h0 => round_first hkz HG.out h h0
        have HB3 : Hid (okR l[k] = true → ∀ (j : Nat) (hj : j < l.length), k = j + 1 → (decide (ordP l[k].pf l[j].pf ≤ 0) = false → rise none l = rise (prevR l (k + 1)) (l.drop (k + 1))) ∧ (decide (ordP l[k].pf l[j].pf ≤ 0) = true → R = 2)) := fun h j hj h0 => round_next hkz HD.out HG.out h h0 hj
        have co := fun (j : Nat) (hj : j < l.length) (W : World) => order_any l[k].pf l[j].pf W hfk.1 (hfit l[j] (List.getElem_mem hj)).1
        unfold pfV at co
        have HCO : Hid (∀ (j : Nat) (hj : j < l.length) (W : World), Calls Try.prog 22 #[.agg #[.bool l[k].pf.six, .int .u64 (hiN l[k].pf.n : Int), .int .u64 (loN l[k].pf.n : Int), .int .i64 l[k].pf.len], .agg #[.bool l[j].pf.six, .int .u64 (hiN l[j].pf.n : Int), .int .u64 (loN l[j].pf.n : Int), .int .i64 l[j].pf.len]] W fun e w' => e = .returned (.int .i64 (ordP l[k].pf l[j].pf)) ∧ Below W.heap.size W w') := co
        clear co HG hfk
        generalize okR l[k] = B1 at cr HB1 HB2 HB3
        obtain ⟨rk, hrk⟩ : ∃ rk, rk = l[k] := ⟨_, rfl⟩
        rw [← hrk] at a0 a1 a2 a3 a4 a5 cr HB3 HCO
        clear hrk
        have HPX : Hid (∀ p q, ordP rk.pf q = p → ordP rk.pf q = p) := fun _ _ h => h
        obtain ⟨rp, ra⟩ := rk
        obtain ⟨s0, sn, s3⟩ := rp
        obtain ⟨sk, s5⟩ := ra
        simp only at a0 a1 a2 a3 a4 a5 cr HCO HB3
        generalize (hiN sn : Int) = s1 at a1 cr HCO
        generalize (loN sn : Int) = s2 at a2 cr HCO
        generalize (sk : Int) = s4 at a4 cr
        clear HPX
        go_upto_region 6 with fail
        obtain ⟨X, hX⟩ : ∃ X, X = wr.alloc (.cells #[.bool s0, .int .u64 s1, .int .u64 s2, .int .i64 s3, .int .u8 s4, .int .i64 s5] 37) := ⟨_, rfl⟩
        have hbX : Below wr.heap.size wr X := by rw [hX]; exact below_new (Below.refl _ _) _
        have rx : RowAt X wr.heap.size [.bool s0, .int .u64 s1, .int .u64 s2, .int .i64 s3, .int .u8 s4, .int .i64 s5] 37 := by rw [hX]; exact RowAt.new _ _ _
        rw [← hX]
        have hBX := below2 hB hbX
        have hhX := hh.keep hbX
        clear hX
        obtain ⟨gs, hgs⟩ : ∃ g, g = wr.heap.size := ⟨_, rfl⟩
        rw [← hgs] at rx ⊢
        clear hgs a0 a1 a2 a3 a4 a5 hg1
        have m0 : ∀ p : Bl X, p.W.cell? ⟨gs, 0, none⟩ = some (.bool s0) := fun p => (rx.below p.h).cell 0
        have m1 : ∀ p : Bl X, p.W.cell? ⟨gs, 1, none⟩ = some (.int .u64 s1) := fun p => (rx.below p.h).cell 1
        have m2 : ∀ p : Bl X, p.W.cell? ⟨gs, 2, none⟩ = some (.int .u64 s2) := fun p => (rx.below p.h).cell 2
        have m3 : ∀ p : Bl X, p.W.cell? ⟨gs, 3, none⟩ = some (.int .i64 s3) := fun p => (rx.below p.h).cell 3
        have m4 : ∀ p : Bl X, p.W.cell? ⟨gs, 4, none⟩ = some (.int .u8 s4) := fun p => (rx.below p.h).cell 4
        have m5 : ∀ p : Bl X, p.W.cell? ⟨gs, 5, none⟩ = some (.int .i64 s5) := fun p => (rx.below p.h).cell 5
        haveI := bl_ne X
        cases B1
        · have HV : Hid (R = 2) := HB1.out rfl
          clear HB1 HB2 HB3 HD hh hhX
          refine wp_region_bl (by kernel_rfl) (by kernel_rfl) ?_
          repeat (go_big_quiet_step (first | (go_at_call 21; with_reducible exact bl_call (cr _))))
          refine wpQuiet_nil ?_
          intro wq hw'
          obtain ⟨⟨wz, hq⟩, hw2⟩ := hw'
          subst hw2
          have hW := below2 hBX hq
          go_wp2_with fail
          go_ret
          exact ⟨by first | (rw [HV.out]; rfl) | rfl, hW⟩
        · by_cases hk0 : k = 0
          · have HS1 : Hid (rise none l = rise (prevR l 1) (l.drop 1)) := HB2.out rfl hk0
            clear HB1 HB2 HB3 hh hhX
            have hz1 : decide ((0 : Int) < (k : Int)) = false := decide_eq_false (by omega)
            have hz2 : decide (0 < k) = false := decide_eq_false (by omega)
            have HK : Hid (k = 0) := hk0
            clear hk0
            refine wp_region_bl (by kernel_rfl) (by kernel_rfl) ?_
            repeat (go_big_quiet_step (first | (go_at_call 21; with_reducible exact bl_call (cr _))))
            refine wpQuiet_nil ?_
            intro wq hw'
            obtain ⟨⟨wz, hq⟩, hw2⟩ := hw'
            subst hw2
            have hW := below2 hBX hq
            go_wp2_with fail
            go_roundw
            case rel => exact ⟨k + 1, by omega, by go_num, hW, by rw [HK.out]; exact HS1⟩
            case measure => simp [Go.RowKit.intOf]; omega
          · obtain ⟨j, hj⟩ : ∃ j, k = j + 1 := ⟨k - 1, by omega⟩
            have hj2 : j < l.length := by omega
            obtain ⟨g2, i2, e12, hg2, bx⟩ := HasRts.cell hhX j hj2
            obtain ⟨b0, b1, b2, b3, _, _⟩ := six_at bx
            clear bx
            injection e12 with e12
            injection e12 with e1 e2
            subst e1 e2
            obtain ⟨HN1, HN2⟩ := HB3.out rfl j hj2 hj
            have co := HCO.out j hj2
            clear HCO HB1 HB2 HB3 hh hhX
            generalize ordP ⟨s0, sn, s3⟩ l[j].pf = OR at HN1 HN2 co
            have HN1 : Hid (decide (OR ≤ 0) = false → rise none l = rise (prevR l (k + 1)) (l.drop (k + 1))) := HN1
            have HN2 : Hid (decide (OR ≤ 0) = true → R = 2) := HN2
            generalize l[j].pf.six = t0 at co b0
            generalize (hiN l[j].pf.n : Int) = t1 at co b1
            generalize (loN l[j].pf.n : Int) = t2 at co b2
            generalize l[j].pf.len = t3 at co b3
            have u0 : ∀ p : Bl X, p.W.cell? ⟨g1, i1 + j * 6, none⟩ = some (.bool t0) := fun p => (p.h.cell (p := ⟨g1, i1 + j * 6, none⟩) hg2).trans b0
            have u1 : ∀ p : Bl X, p.W.cell? ⟨g1, i1 + j * 6 + 1, none⟩ = some (.int .u64 t1) := fun p => (p.h.cell (p := ⟨g1, i1 + j * 6 + 1, none⟩) hg2).trans b1
            have u2 : ∀ p : Bl X, p.W.cell? ⟨g1, i1 + j * 6 + 2, none⟩ = some (.int .u64 t2) := fun p => (p.h.cell (p := ⟨g1, i1 + j * 6 + 2, none⟩) hg2).trans b2
            have u3 : ∀ p : Bl X, p.W.cell? ⟨g1, i1 + j * 6 + 3, none⟩ = some (.int .i64 t3) := fun p => (p.h.cell (p := ⟨g1, i1 + j * 6 + 3, none⟩) hg2).trans b3
            clear b0 b1 b2 b3 hg2
            have e1 : (k : Int) - 1 = (j : Int) := by omega
            have e2 : IntKind.i64.wrap (j : Int) = (j : Int) := by rw [IntKind.wrap_i64]; omega
            have hkp : decide ((0 : Int) < (k : Int)) = true := decide_eq_true (by omega)
            have hkp' : decide (0 < k) = true := decide_eq_true (by omega)
            have hjn : (j : Int) < (n : Int) := by omega
            clear hj hk0
            cases B2 : decide (OR ≤ 0)
            · have HS1 : Hid (rise none l = rise (prevR l (k + 1)) (l.drop (k + 1))) := HN1.out B2
              clear HN1 HN2
              refine wp_region_bl (by kernel_rfl) (by kernel_rfl) ?_
              repeat (go_big_quiet_step (first | (go_at_call 21; with_reducible exact bl_call (cr _)) | (go_at_call 22; with_reducible exact bl_call (co _))))
              refine wpQuiet_nil ?_
              intro wq hw'
              obtain ⟨⟨wz, hq⟩, hw2⟩ := hw'
              subst hw2
              have hW := below2 hBX hq
              go_wp2_with fail
              go_roundw
              case rel => exact ⟨k + 1, by omega, by go_num, hW, HS1⟩
              case measure => simp [Go.RowKit.intOf]; omega
            · have HV : Hid (R = 2) := HN2.out B2
              clear HN1 HN2 HD
              refine wp_region_bl (by kernel_rfl) (by kernel_rfl) ?_
              repeat (go_big_quiet_step (first | (go_at_call 21; with_reducible exact bl_call (cr _)) | (go_at_call 22; with_reducible exact bl_call (co _))))
              refine wpQuiet_nil ?_
              intro wq hw'
              obtain ⟨⟨wz, hq⟩, hw2⟩ := hw'
              subst hw2
              have hW := below2 hBX hq
              go_wp2_with fail
              go_ret
              exact ⟨by first | (rw [HV.out]; rfl) | rfl, hW⟩
      · obtain rfl : k = n := by omega
        have HV : Hid (R = 0) := by
          show _ = _
          rw [HD.out, HG.out, List.drop_of_length_le (by rw [← HN.out]; exact Nat.le_refl _)]
          unfold prevR
          split <;> rfl
        clear hh HG HD
        go_wp2
        go_ret
        exact ⟨by first | (rw [HV.out]; rfl) | rfl, hB⟩
end Go.Proofs.Ytaaedgfacnaggaa.Tr
namespace Go.Proofs.Ytaaedgfacnaggaa.Addr

/-- a number's last W bits, the highest first -/
def bitL (W n : Nat) : List Nat := (List.range W).map fun i => (n.testBit (W - 1 - i)).toNat
theorem bitL_len (W n : Nat) : (bitL W n).length = W := by simp [bitL]
theorem bitL_get (W n i : Nat) (h : i < W) : (bitL W n)[i]'(by rw [bitL_len]; exact h) = (n.testBit (W - 1 - i)).toNat := by simp [bitL]
theorem mod_zero_bits (n k : Nat) : n % 2 ^ k = 0 ↔ ∀ j, j < k → n.testBit j = false := by
  constructor
  · intro h j hj
    have := Nat.testBit_mod_two_pow n k j
    rw [h, Nat.zero_testBit] at this
    simpa [hj] using this.symm
  · intro h
    apply Nat.eq_of_testBit_eq
    intro j
    rw [Nat.testBit_mod_two_pow, Nat.zero_testBit]
    by_cases hj : j < k
    · simp [h j hj]
    · simp [hj]
theorem div_eq_bits {n m k W : Nat} (hn : n < 2 ^ W) (hm : m < 2 ^ W) : n / 2 ^ k = m / 2 ^ k ↔ ∀ j, k ≤ j → j < W → n.testBit j = m.testBit j := by
  constructor
  · intro h j h1 h2
    have e1 : (n / 2 ^ k).testBit (j - k) = n.testBit (j - k + k) := Nat.testBit_div_two_pow n (j - k)
    have e2 : (m / 2 ^ k).testBit (j - k) = m.testBit (j - k + k) := Nat.testBit_div_two_pow m (j - k)
    rw [show j - k + k = j by omega] at e1 e2
    rw [← e1, ← e2, h]
  · intro h
    apply Nat.eq_of_testBit_eq
    intro j
    rw [Nat.testBit_div_two_pow, Nat.testBit_div_two_pow]
    by_cases hj : j + k < W
    · exact h _ (by omega) hj
    · have hle : (2 : Nat) ^ W ≤ 2 ^ (j + k) := Nat.pow_le_pow_right (by decide) (by omega)
      rw [Nat.testBit_lt_two_pow (by omega), Nat.testBit_lt_two_pow (by omega)]
end Go.Proofs.Ytaaedgfacnaggaa.Addr
