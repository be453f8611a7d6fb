/- What unnamed and Check return. -/
import Derived.Test.YtkjhnefbcnnjlaaTv06
set_option linter.unusedVariables false
namespace Go.Proofs.Ytkjhnefbcnnjlaa.Msg
open Go.RowKit
open Go.Proofs.Ytkjhnefbcnnjlaa.Addr (Pf hiN loN)

theorem ev_guard : Try.prog.eqGuardType Try.prog.depth 49 = false := by kernel_rfl
theorem ad_inG (n m : Nat) (w : World) (f : Nat) : (Op.equalIn (f + 2) 42 (.agg #[.int .u64 (hiN n : Int), .int .u64 (loN n : Int)]) (.agg #[.int .u64 (hiN m : Int), .int .u64 (loN m : Int)])).run Try.prog w = .ok (decide (n = m)) w := by
  have u9 := Try.underlying31
  have a9 := Try.isAgg31
  have z9 := Try.sizeOf31
  have hS : Try.prog.underlying 42 = some (.struct (Try.prog.fieldsOf 42)) := by kernel_rfl
  have hp : Try.prog.stoodInHeld 42 = false := by kernel_rfl
  have HD : (decide (n = m)) = (decide (hiN n = hiN m) && decide (loN n = loN m)) := by
    by_cases h : n = m
    · subst h; simp
    · have : ¬ (hiN n = hiN m ∧ loN n = loN m) := fun hc => h (Addr.eq_hilo hc.1 hc.2)
      rw [decide_eq_false h, ← Bool.decide_and, decide_eq_false this]
  rw [HD]
  generalize hiN n = a
  generalize loN n = b
  generalize hiN m = c
  generalize loN m = d
  rw [show f + 2 = (f + 1) + 1 from rfl, run_equalIn_agg w (f + 1) 42 _ _ hS hp]
  simp only [Program.fieldsOf, Try.underlying42]
  by_cases h1 : a = c
  · subst h1
    by_cases h2 : b = d
    · subst h2
      go_simp
    · have : ¬ ((b : Int) = (d : Int)) := by omega
      go_simp
  · have : ¬ ((a : Int) = (c : Int)) := by omega
    go_simp
theorem ac_inG (k l : Nat) (i j : Int) (w : World) (f : Nat) : (Op.equalIn (f + 2) 47 (.agg #[.int .u8 (k : Int), .int .i64 i]) (.agg #[.int .u8 (l : Int), .int .i64 j])).run Try.prog w = .ok (decide (k = l) && decide (i = j)) w := by
  have u9 := Try.underlying45
  have a9 := Try.isAgg45
  have z9 := Try.sizeOf45
  have u3 := Try.underlying3
  have a3 := Try.isAgg3
  have z3 := Try.sizeOf3
  have hS : Try.prog.underlying 47 = some (.struct (Try.prog.fieldsOf 47)) := by kernel_rfl
  have hp : Try.prog.stoodInHeld 47 = false := by kernel_rfl
  rw [show f + 2 = (f + 1) + 1 from rfl, run_equalIn_agg w (f + 1) 47 _ _ hS hp]
  simp only [Program.fieldsOf, Try.underlying47]
  by_cases h1 : k = l
  · subst h1
    by_cases h2 : i = j
    · subst h2
      go_simp
    · go_simp
  · have : ¬ ((k : Int) = (l : Int)) := by omega
    go_simp
theorem pf_inG (s t : Bool) (n m : Nat) (i j : Int) (w : World) (f : Nat) : (Op.equalIn (f + 3) 44 (.agg #[.bool s, .int .u64 (hiN n : Int), .int .u64 (loN n : Int), .int .i64 i]) (.agg #[.bool t, .int .u64 (hiN m : Int), .int .u64 (loN m : Int), .int .i64 j])).run Try.prog w = .ok (decide (s = t) && decide (n = m) && decide (i = j)) w := by
  have u3 := Try.underlying3
  have a3 := Try.isAgg3
  have z3 := Try.sizeOf3
  have u4 := Try.underlying4
  have a4 := Try.isAgg4
  have z4 := Try.sizeOf4
  have a24 := Try.isAgg42
  have z24 := Try.sizeOf42
  have hS : Try.prog.underlying 44 = some (.struct (Try.prog.fieldsOf 44)) := by kernel_rfl
  have hp : Try.prog.stoodInHeld 44 = false := by kernel_rfl
  have hin := fun w => ad_inG n m w f
  rw [show f + 3 = (f + 2) + 1 from rfl, run_equalIn_agg w (f + 2) 44 _ _ hS hp]
  simp only [Program.fieldsOf, Try.underlying44]
  generalize decide (n = m) = D at *
  by_cases h1 : s = t
  · subst h1
    cases D
    · go_simp
    · by_cases h2 : i = j
      · subst h2
        go_simp
      · go_simp
  · have hst : (s == t) = false := by cases s <;> cases t <;> simp_all
    go_simp
/-- all parts of two events are alike -/
def eqE (e f : Ev) : Bool := decide (e.kind = f.kind) && decide (e.router = f.router) && decide (e.seq = f.seq) && decide (e.time = f.time) && (decide (e.pf.six = f.pf.six) && decide (e.pf.n = f.pf.n) && decide (e.pf.len = f.pf.len)) && (decide (e.act.k = f.act.k) && decide (e.act.i = f.act.i)) && decide (e.iface = f.iface) && decide (e.peer = f.peer)
theorem eqE_iff (e f : Ev) : eqE e f = true ↔ e = f := by
  obtain ⟨k, r, s, t, ⟨sx, n, l⟩, ⟨ak, ai⟩, i, p⟩ := e
  obtain ⟨k', r', s', t', ⟨sx', n', l'⟩, ⟨ak', ai'⟩, i', p'⟩ := f
  unfold eqE
  simp only [Bool.and_eq_true, decide_eq_true_eq, Ev.mk.injEq, Addr.Pf.mk.injEq, Ac.mk.injEq, and_assoc]
set_option maxHeartbeats 1000000 in
theorem ev_in (e f : Ev) (w : World) : (Op.equalIn 10000 49 (evV e) (evV f)).run Try.prog w = .ok (eqE e f) w := by
  have u3 := Try.underlying3
  have a3 := Try.isAgg3
  have z3 := Try.sizeOf3
  have u2 := Try.underlying2
  have a2 := Try.isAgg2
  have z2 := Try.sizeOf2
  have u9 := Try.underlying31
  have a9 := Try.isAgg31
  have z9 := Try.sizeOf31
  have u7 := Try.underlying40
  have a7 := Try.isAgg40
  have z7 := Try.sizeOf40
  have a24 := Try.isAgg44
  have z24 := Try.sizeOf44
  have a25 := Try.isAgg47
  have z25 := Try.sizeOf47
  have hS : Try.prog.underlying 49 = some (.struct (Try.prog.fieldsOf 49)) := by kernel_rfl
  have hp : Try.prog.stoodInHeld 49 = false := by kernel_rfl
  obtain ⟨k, r, s, t, ⟨sx, n, l⟩, ⟨ak, ai⟩, i, p⟩ := e
  obtain ⟨k', r', s', t', ⟨sx', n', l'⟩, ⟨ak', ai'⟩, i', p'⟩ := f
  have h1 := fun w => pf_inG sx sx' n n' l l' w 9996
  have h2 := fun w => ac_inG ak ak' ai ai' w 9997
  unfold evV evC eqE
  simp only
  rw [show (10000 : Nat) = 9999 + 1 from rfl, run_equalIn_agg w 9999 49 _ _ hS hp]
  simp only [Program.fieldsOf, Try.underlying49]
  generalize (decide (sx = sx') && decide (n = n') && decide (l = l')) = D1 at *
  generalize (decide (ak = ak') && decide (ai = ai')) = D2 at *
  by_cases g1 : k = k'
  · subst g1
    by_cases g2 : r = r'
    · subst g2
      by_cases g3 : s = s'
      · subst g3
        by_cases g4 : t = t'
        · subst g4
          cases D1
          · go_simp
          · cases D2
            · go_simp
            · by_cases g5 : i = i'
              · subst g5
                by_cases g6 : p = p'
                · subst g6
                  go_simp
                · go_simp
              · go_simp
        · go_simp
      · have : ¬ ((s : Int) = (s' : Int)) := by omega
        go_simp
    · go_simp
  · have : ¬ ((k : Int) = (k' : Int)) := by omega
    go_simp
theorem ev_neq (e f : Ev) (w : World) : (binOp .neq 49 (evV e) (evV f)).run Try.prog w = .ok (.bool (!eqE e f)) w := by
  have h := ev_in e f w
  unfold evV at *
  rw [run_neq_struct, h]
  rfl
end Go.Proofs.Ytkjhnefbcnnjlaa.Msg
namespace Go.Proofs.Ytkjhnefbcnnjlaa.Msg
open Go.RowKit
open Go.Proofs.Ytkjhnefbcnnjlaa.Addr (okP checkP hiN loN pfV RowAt below2 below_new RowAt.lt RowAt.cell RowAt.frozen RowAt.below RowAt.new RowAt.alloc)

theorem cells12' {W : World} {b : Nat} {a0 a1 a2 a3 a4 a5 a6 a7 a8 a9 a10 a11 : Value} {t : TypeId} (h : RowAt W b [a0, a1, a2, a3, a4, a5, a6, a7, a8, a9, a10, a11] t) :
    (W.cell? ⟨b, 0, none⟩ = some a0 ∧ W.cell? ⟨b, 1, none⟩ = some a1 ∧ W.cell? ⟨b, 2, none⟩ = some a2 ∧ W.cell? ⟨b, 3, none⟩ = some a3 ∧ W.cell? ⟨b, 4, none⟩ = some a4 ∧ W.cell? ⟨b, 5, none⟩ = some a5) ∧ (W.cell? ⟨b, 6, none⟩ = some a6 ∧ W.cell? ⟨b, 7, none⟩ = some a7 ∧ W.cell? ⟨b, 8, none⟩ = some a8 ∧ W.cell? ⟨b, 9, none⟩ = some a9 ∧ W.cell? ⟨b, 10, none⟩ = some a10 ∧ W.cell? ⟨b, 11, none⟩ = some a11) ∧ (∀ k, W.frozen? ⟨b, k, none⟩ = false) ∧ b < W.heap.size :=
  ⟨⟨RowAt.cell h 0, RowAt.cell h 1, RowAt.cell h 2, RowAt.cell h 3, RowAt.cell h 4, RowAt.cell h 5⟩, ⟨RowAt.cell h 6, RowAt.cell h 7, RowAt.cell h 8, RowAt.cell h 9, RowAt.cell h 10, RowAt.cell h 11⟩, RowAt.frozen h, RowAt.lt h⟩
set_option maxHeartbeats 2000000 in
theorem rightParts_any (e : Ev) (w : World) (hf : FitE e) : Calls Try.prog 38 #[evV e] w fun r w' => r = .returned (.bool (partsB e)) ∧ Below w.heap.size w w' := by
  have c1 := fun W => Addr.check_any e.pf W hf.len hf.n
  have c2 := fun W => between_int 0 e.iface 65536 W
  have c3 := fun W => between_int 0 e.peer 1048576 W
  have c4 := fun W => checkAction_any e.act W hf.act
  have HC : Hid (partsB e = (okP e.pf && (decide (0 ≤ e.iface) && decide (e.iface ≤ 65536)) && (decide (0 ≤ e.peer) && decide (e.peer ≤ 1048576)) && (decide (e.kind ≠ 3) || okA e.act))) := rfl
  generalize partsB e = R at HC ⊢
  have hk1 := hf.kind
  have hcp : checkP e.pf = if okP e.pf = true then 0 else 2 := rfl
  have hca : checkA e.act = if okA e.act = true then 0 else 2 := rfl
  obtain ⟨k, a, b, c, ⟨sx, n, l⟩, ⟨ak, ai⟩, i, p⟩ := e
  unfold Addr.pfV at c1
  unfold acV at c4
  unfold evV evC
  simp only at *
  rw [hcp] at c1
  rw [hca] at c4
  clear hf hcp hca
  generalize okP ⟨sx, n, l⟩ = B1 at *
  generalize okA ⟨ak, ai⟩ = B4 at *
  generalize (decide (0 ≤ i) && decide (i ≤ 65536)) = B2 at *
  generalize (decide (0 ≤ p) && decide (p ≤ 1048576)) = B3 at *
  obtain ⟨X, hX⟩ : ∃ X, X = w.alloc (.cells #[.int .u8 (k : Int), .int .i64 a, .int .u64 (b : Int), .int .i64 c, .bool sx, .int .u64 (hiN n : Int), .int .u64 (loN n : Int), .int .i64 l, .int .u8 (ak : Int), .int .i64 ai, .int .i64 i, .int .i64 p] 49) := ⟨_, rfl⟩
  have hB : Below w.heap.size w X := by rw [hX]; exact below_new (Below.refl _ _) _
  have r0 : RowAt X w.heap.size [.int .u8 (k : Int), .int .i64 a, .int .u64 (b : Int), .int .i64 c, .bool sx, .int .u64 (hiN n : Int), .int .u64 (loN n : Int), .int .i64 l, .int .u8 (ak : Int), .int .i64 ai, .int .i64 i, .int .i64 p] 49 := by rw [hX]; exact RowAt.new _ _ _
  obtain ⟨⟨y0, y1, y2, y3, y4, y5⟩, ⟨y6, y7, y8, y9, y10, y11⟩, yf, hly⟩ := cells12' r0
  generalize hiN n = nh at *
  generalize loN n = nl at *
  cases B1
  · have HV : Hid (R = false) := by show _ = _; rw [HC.out]; rfl
    clear HC
    simp only [Bool.false_eq_true, if_false] at c1
    go_enter Try.func38, Try.ntmps38
    go_upto_region 1 with fail
    rw [← hX]
    clear hX
    go_wp2_with fail
    go_at_call 63; refine (c1 _).mono ?_; rintro r w1 ⟨rfl, hb1⟩
    go_wp2_with fail
    go_ret
    exact ⟨by rw [HV.out]; rfl, below2 hB hb1⟩
  simp only [if_true] at c1
  cases B2
  · have HV : Hid (R = false) := by show _ = _; rw [HC.out]; rfl
    clear HC
    go_enter Try.func38, Try.ntmps38
    go_upto_region 1 with fail
    rw [← hX]
    clear hX
    go_wp2_with fail
    go_at_call 63; refine (c1 _).mono ?_; rintro r w1 ⟨rfl, hb1⟩
    clear y0 y1 y2 y3 y4 y5 y6 y7 y8 y9 y10 y11 yf hly
    obtain ⟨⟨y0, y1, y2, y3, y4, y5⟩, ⟨y6, y7, y8, y9, y10, y11⟩, yf, hly⟩ := cells12' (RowAt.below r0 hb1)
    go_wp2_with fail
    go_at_call 60; refine (c2 _).mono ?_; rintro r w2 ⟨rfl, rfl⟩
    go_wp2_with fail
    go_ret
    exact ⟨by rw [HV.out]; rfl, below2 hB hb1⟩
  cases B3
  · have HV : Hid (R = false) := by show _ = _; rw [HC.out]; rfl
    clear HC
    go_enter Try.func38, Try.ntmps38
    go_upto_region 1 with fail
    rw [← hX]
    clear hX
    go_wp2_with fail
    go_at_call 63; refine (c1 _).mono ?_; rintro r w1 ⟨rfl, hb1⟩
    clear y0 y1 y2 y3 y4 y5 y6 y7 y8 y9 y10 y11 yf hly
    obtain ⟨⟨y0, y1, y2, y3, y4, y5⟩, ⟨y6, y7, y8, y9, y10, y11⟩, yf, hly⟩ := cells12' (RowAt.below r0 hb1)
    go_wp2_with fail
    go_at_call 60; refine (c2 _).mono ?_; rintro r w2 ⟨rfl, rfl⟩
    go_wp2_with fail
    go_at_call 60; refine (c3 _).mono ?_; rintro r w3 ⟨rfl, rfl⟩
    go_wp2_with fail
    go_ret
    exact ⟨by rw [HV.out]; rfl, below2 hB hb1⟩
  by_cases hk3 : k = 3
  · have HV : Hid (R = B4) := by show _ = _; rw [HC.out, hk3]; cases B4 <;> rfl
    have q : ((k : Int) != 3) = false := by rw [hk3]; rfl
    clear HC hk3
    cases B4
    all_goals
      simp only [Bool.false_eq_true, if_false, if_true] at c4
      go_enter Try.func38, Try.ntmps38
      go_upto_region 1 with fail
      rw [← hX]
      clear hX
      go_wp2_with fail
      go_at_call 63; refine (c1 _).mono ?_; rintro r w1 ⟨rfl, hb1⟩
      clear y0 y1 y2 y3 y4 y5 y6 y7 y8 y9 y10 y11 yf hly
      obtain ⟨⟨y0, y1, y2, y3, y4, y5⟩, ⟨y6, y7, y8, y9, y10, y11⟩, yf, hly⟩ := cells12' (RowAt.below r0 hb1)
      go_wp2_with fail
      go_at_call 60; refine (c2 _).mono ?_; rintro r w2 ⟨rfl, rfl⟩
      go_wp2_with fail
      go_at_call 60; refine (c3 _).mono ?_; rintro r w3 ⟨rfl, rfl⟩
      go_wp2_with fail
      go_at_call 64; refine (c4 _).mono ?_; rintro r w4 ⟨rfl, hb4⟩
      go_wp2_with fail
      go_ret
      exact ⟨by rw [HV.out]; rfl, below2 (below2 hB hb1) hb4⟩
  · have HV : Hid (R = true) := by show _ = _; rw [HC.out, decide_eq_true hk3]; rfl
    have q : ((k : Int) != 3) = true := bne_iff_ne.2 (by omega)
    clear HC hk3
    go_enter Try.func38, Try.ntmps38
    go_upto_region 1 with fail
    rw [← hX]
    clear hX
    go_wp2_with fail
    go_at_call 63; refine (c1 _).mono ?_; rintro r w1 ⟨rfl, hb1⟩
    clear y0 y1 y2 y3 y4 y5 y6 y7 y8 y9 y10 y11 yf hly
    obtain ⟨⟨y0, y1, y2, y3, y4, y5⟩, ⟨y6, y7, y8, y9, y10, y11⟩, yf, hly⟩ := cells12' (RowAt.below r0 hb1)
    go_wp2_with fail
    go_at_call 60; refine (c2 _).mono ?_; rintro r w2 ⟨rfl, rfl⟩
    go_wp2_with fail
    go_at_call 60; refine (c3 _).mono ?_; rintro r w3 ⟨rfl, rfl⟩
    go_wp2_with fail
    go_ret
    exact ⟨by rw [HV.out]; rfl, below2 hB hb1⟩
end Go.Proofs.Ytkjhnefbcnnjlaa.Msg
namespace Go.Proofs.Ytkjhnefbcnnjlaa.Msg
open Go.RowKit
open Go.Proofs.Ytkjhnefbcnnjlaa.Addr (hiN loN RowAt below2 below_new bset RowAt.below RowAt.new RowAt.alloc results_cell)

theorem row_new2' (W : World) (cs ds : List Value) (t u : TypeId) : RowAt ((W.alloc (.cells cs.toArray t)).alloc (.cells ds.toArray u)) W.heap.size cs t ∧ RowAt ((W.alloc (.cells cs.toArray t)).alloc (.cells ds.toArray u)) (W.heap.size + 1) ds u := by
  refine ⟨(RowAt.new W cs t).alloc _, ?_⟩
  have := RowAt.new (W.alloc (.cells cs.toArray t)) ds u
  rw [World.size_alloc] at this
  exact this
theorem evV_un (e : Ev) : evV (unN e) = .agg #[.int .u8 0, .int .i64 0, .int .u64 0, .int .i64 0, .bool (if e.kind = 3 ∨ e.kind = 4 then false else e.pf.six), .int .u64 (hiN (if e.kind = 3 ∨ e.kind = 4 then 0 else e.pf.n) : Int), .int .u64 (loN (if e.kind = 3 ∨ e.kind = 4 then 0 else e.pf.n) : Int), .int .i64 (if e.kind = 3 ∨ e.kind = 4 then 0 else e.pf.len), .int .u8 ((if e.kind = 3 then 0 else e.act.k : Nat) : Int), .int .i64 (if e.kind = 3 then 0 else e.act.i), .int .i64 (if e.kind = 5 ∨ e.kind = 6 then 0 else e.iface), .int .i64 (if e.kind = 5 then 0 else e.peer)] := by
  unfold evV evC unN zeroPf zeroA
  by_cases h3 : e.kind = 3 <;> by_cases h4 : e.kind = 4 <;> simp [h3, h4]
theorem hi0 : ((hiN 0 : Nat) : Int) = 0 := by unfold Addr.hiN; simp
theorem lo0 : ((loN 0 : Nat) : Int) = 0 := by unfold Addr.loN; simp
set_option maxHeartbeats 4000000 in
theorem unnamed_any (e : Ev) (w : World) : Calls Try.prog 39 #[evV e] w fun r w' => r = .returned (evV (unN e)) ∧ Below w.heap.size w w' := by
  have HU : Hid (evV (unN e) = _) := evV_un e
  generalize evV (unN e) = R at HU ⊢
  obtain ⟨k, a, b, c, ⟨sx, n, l⟩, ⟨ak, ai⟩, i, p⟩ := e
  unfold evV evC
  simp only at *
  obtain ⟨X, hX⟩ : ∃ X, X = (w.alloc (.cells #[.int .u8 (k : Int), .int .i64 a, .int .u64 (b : Int), .int .i64 c, .bool sx, .int .u64 (hiN n : Int), .int .u64 (loN n : Int), .int .i64 l, .int .u8 (ak : Int), .int .i64 ai, .int .i64 i, .int .i64 p] 49)).alloc (.cells #[.int .u8 0, .int .i64 0, .int .u64 0, .int .i64 0, .bool false, .int .u64 0, .int .u64 0, .int .i64 0, .int .u8 0, .int .i64 0, .int .i64 0, .int .i64 0] 49) := ⟨_, rfl⟩
  have hB : Below w.heap.size w X := by rw [hX]; exact below_new (below_new (Below.refl _ _) _) _
  obtain ⟨rx, sy⟩ := row_new2' w [.int .u8 (k : Int), .int .i64 a, .int .u64 (b : Int), .int .i64 c, .bool sx, .int .u64 (hiN n : Int), .int .u64 (loN n : Int), .int .i64 l, .int .u8 (ak : Int), .int .i64 ai, .int .i64 i, .int .i64 p] [.int .u8 0, .int .i64 0, .int .u64 0, .int .i64 0, .bool false, .int .u64 0, .int .u64 0, .int .i64 0, .int .u8 0, .int .i64 0, .int .i64 0, .int .i64 0] 49 49
  rw [show (w.alloc (.cells ([.int .u8 (k : Int), .int .i64 a, .int .u64 (b : Int), .int .i64 c, .bool sx, .int .u64 (hiN n : Int), .int .u64 (loN n : Int), .int .i64 l, .int .u8 (ak : Int), .int .i64 ai, .int .i64 i, .int .i64 p] : List Value).toArray 49)).alloc (.cells ([.int .u8 0, .int .i64 0, .int .u64 0, .int .i64 0, .bool false, .int .u64 0, .int .u64 0, .int .i64 0, .int .u8 0, .int .i64 0, .int .i64 0, .int .i64 0] : List Value).toArray 49) = X from hX.symm] at rx sy
  obtain ⟨⟨y0, y1, y2, y3, y4, y5⟩, ⟨y6, y7, y8, y9, y10, y11⟩, yf, hly⟩ := cells12' rx
  obtain ⟨⟨z0, z1, z2, z3, z4, z5⟩, ⟨z6, z7, z8, z9, z10, z11⟩, zf, hlz⟩ := cells12' sy
  clear rx sy
  by_cases h3 : k = 3
  · have HV : Hid (R = .agg #[.int .u8 0, .int .i64 0, .int .u64 0, .int .i64 0, .bool false, .int .u64 0, .int .u64 0, .int .i64 0, .int .u8 0, .int .i64 0, .int .i64 i, .int .i64 p]) := by show _ = _; rw [HU.out, h3]; simp [hi0, lo0]
    have q3 : ((k : Int) == 3) = true := by rw [h3]; rfl
    clear HU h3
    go_enter Try.func39, Try.ntmps39
    go_upto_region 1 with fail
    rw [← hX]
    clear hX
    go_wp2_with fail
    refine bodyPost_ret (v := .agg #[.int .u8 0, .int .i64 0, .int .u64 0, .int .i64 0, .bool false, .int .u64 0, .int .u64 0, .int .i64 0, .int .u8 0, .int .i64 0, .int .i64 i, .int .i64 p]) ?_ rfl ⟨by rw [HV.out], ?_⟩
    · rw [results_cell rfl]
      go_simp
    · repeat' (first | with_reducible exact hB | with_reducible refine bset ?_ (by omega))
  have q3 : ((k : Int) == 3) = false := beq_eq_false_iff_ne.2 (by omega)
  by_cases h4 : k = 4
  · have HV : Hid (R = .agg #[.int .u8 0, .int .i64 0, .int .u64 0, .int .i64 0, .bool false, .int .u64 0, .int .u64 0, .int .i64 0, .int .u8 (ak : Int), .int .i64 ai, .int .i64 i, .int .i64 p]) := by show _ = _; rw [HU.out, h4]; simp [hi0, lo0]
    have q4 : ((k : Int) == 4) = true := by rw [h4]; rfl
    clear HU h4
    go_enter Try.func39, Try.ntmps39
    go_upto_region 1 with fail
    rw [← hX]
    clear hX
    go_wp2_with fail
    refine bodyPost_ret (v := .agg #[.int .u8 0, .int .i64 0, .int .u64 0, .int .i64 0, .bool false, .int .u64 0, .int .u64 0, .int .i64 0, .int .u8 (ak : Int), .int .i64 ai, .int .i64 i, .int .i64 p]) ?_ rfl ⟨by rw [HV.out], ?_⟩
    · rw [results_cell rfl]
      go_simp
    · repeat' (first | with_reducible exact hB | with_reducible refine bset ?_ (by omega))
  have q4 : ((k : Int) == 4) = false := beq_eq_false_iff_ne.2 (by omega)
  by_cases h5 : k = 5
  · have HV : Hid (R = .agg #[.int .u8 0, .int .i64 0, .int .u64 0, .int .i64 0, .bool sx, .int .u64 (hiN n : Int), .int .u64 (loN n : Int), .int .i64 l, .int .u8 (ak : Int), .int .i64 ai, .int .i64 0, .int .i64 0]) := by show _ = _; rw [HU.out, h5]; simp
    have q5 : ((k : Int) == 5) = true := by rw [h5]; rfl
    clear HU h5
    go_enter Try.func39, Try.ntmps39
    go_upto_region 1 with fail
    rw [← hX]
    clear hX
    go_wp2_with fail
    refine bodyPost_ret (v := .agg #[.int .u8 0, .int .i64 0, .int .u64 0, .int .i64 0, .bool sx, .int .u64 (hiN n : Int), .int .u64 (loN n : Int), .int .i64 l, .int .u8 (ak : Int), .int .i64 ai, .int .i64 0, .int .i64 0]) ?_ rfl ⟨by rw [HV.out], ?_⟩
    · rw [results_cell rfl]
      go_simp
    · repeat' (first | with_reducible exact hB | with_reducible refine bset ?_ (by omega))
  have q5 : ((k : Int) == 5) = false := beq_eq_false_iff_ne.2 (by omega)
  by_cases h6 : k = 6
  · have HV : Hid (R = .agg #[.int .u8 0, .int .i64 0, .int .u64 0, .int .i64 0, .bool sx, .int .u64 (hiN n : Int), .int .u64 (loN n : Int), .int .i64 l, .int .u8 (ak : Int), .int .i64 ai, .int .i64 0, .int .i64 p]) := by show _ = _; rw [HU.out, h6]; simp
    have q6 : ((k : Int) == 6) = true := by rw [h6]; rfl
    clear HU h6
    go_enter Try.func39, Try.ntmps39
    go_upto_region 1 with fail
    rw [← hX]
    clear hX
    go_wp2_with fail
    refine bodyPost_ret (v := .agg #[.int .u8 0, .int .i64 0, .int .u64 0, .int .i64 0, .bool sx, .int .u64 (hiN n : Int), .int .u64 (loN n : Int), .int .i64 l, .int .u8 (ak : Int), .int .i64 ai, .int .i64 0, .int .i64 p]) ?_ rfl ⟨by rw [HV.out], ?_⟩
    · rw [results_cell rfl]
      go_simp
    · repeat' (first | with_reducible exact hB | with_reducible refine bset ?_ (by omega))
  have q6 : ((k : Int) == 6) = false := beq_eq_false_iff_ne.2 (by omega)
  have HV : Hid (R = .agg #[.int .u8 0, .int .i64 0, .int .u64 0, .int .i64 0, .bool sx, .int .u64 (hiN n : Int), .int .u64 (loN n : Int), .int .i64 l, .int .u8 (ak : Int), .int .i64 ai, .int .i64 i, .int .i64 p]) := by show _ = _; rw [HU.out]; simp [h3, h4, h5, h6]
  clear HU h3 h4 h5 h6
  go_enter Try.func39, Try.ntmps39
  go_upto_region 1 with fail
  rw [← hX]
  clear hX
  go_wp2_with fail
  refine bodyPost_ret (v := .agg #[.int .u8 0, .int .i64 0, .int .u64 0, .int .i64 0, .bool sx, .int .u64 (hiN n : Int), .int .u64 (loN n : Int), .int .i64 l, .int .u8 (ak : Int), .int .i64 ai, .int .i64 i, .int .i64 p]) ?_ rfl ⟨by rw [HV.out], ?_⟩
  · rw [results_cell rfl]
    go_simp
  · repeat' (first | with_reducible exact hB | with_reducible refine bset ?_ (by omega))
/-- an event is right -/
def okE (e : Ev) : Bool := headB e && partsB e && eqE (unN e) zeroE
def checkE (e : Ev) : Int := if okE e then 0 else 2
theorem evV_z : evV zeroE = .agg #[.int .u8 0, .int .i64 0, .int .u64 0, .int .i64 0, .bool false, .int .u64 0, .int .u64 0, .int .i64 0, .int .u8 0, .int .i64 0, .int .i64 0, .int .i64 0] := by
  unfold evV evC zeroE zeroPf zeroA; simp [hi0, lo0]
set_option maxHeartbeats 2000000 in
theorem echeck_any (e : Ev) (w : World) (hf : FitE e) : Calls Try.prog 18 #[evV e] w fun r w' => r = .returned (.int .i64 (checkE e)) ∧ Below w.heap.size w w' := by
  have c1 := fun W => rightHead_any e W hf
  have c2 := fun W => rightParts_any e W hf
  have c3 := fun W => unnamed_any e W
  have hq := fun w => ev_neq (unN e) zeroE w
  have hgd := ev_guard
  rw [evV_z] at hq
  have HC : Hid (checkE e = if headB e && partsB e && eqE (unN e) zeroE then 0 else 2) := rfl
  generalize checkE e = R at HC ⊢
  generalize headB e = B1 at *
  generalize partsB e = B2 at *
  generalize eqE (unN e) zeroE = B3 at *
  generalize unN e = u at *
  clear hf
  obtain ⟨k, a, b, c, ⟨sx, n, l⟩, ⟨ak, ai⟩, i, p⟩ := e
  obtain ⟨k', a', b', c', ⟨sx', n', l'⟩, ⟨ak', ai'⟩, i', p'⟩ := u
  unfold evV evC at *
  simp only at *
  generalize hiN n = nh at *
  generalize loN n = nl at *
  generalize hiN n' = nh' at *
  generalize loN n' = nl' at *
  obtain ⟨X, hX⟩ : ∃ X, X = w.alloc (.cells #[.int .u8 (k : Int), .int .i64 a, .int .u64 (b : Int), .int .i64 c, .bool sx, .int .u64 (nh : Int), .int .u64 (nl : Int), .int .i64 l, .int .u8 (ak : Int), .int .i64 ai, .int .i64 i, .int .i64 p] 49) := ⟨_, rfl⟩
  have hB : Below w.heap.size w X := by rw [hX]; exact below_new (Below.refl _ _) _
  have r0 : RowAt X w.heap.size [.int .u8 (k : Int), .int .i64 a, .int .u64 (b : Int), .int .i64 c, .bool sx, .int .u64 (nh : Int), .int .u64 (nl : Int), .int .i64 l, .int .u8 (ak : Int), .int .i64 ai, .int .i64 i, .int .i64 p] 49 := by rw [hX]; exact RowAt.new _ _ _
  obtain ⟨⟨y0, y1, y2, y3, y4, y5⟩, ⟨y6, y7, y8, y9, y10, y11⟩, yf, hly⟩ := cells12' r0
  cases B1
  · have HV : Hid (R = 2) := by show _ = _; rw [HC.out]; rfl
    clear HC
    go_enter Try.func18, Try.ntmps18
    go_upto_region 1 with fail
    rw [← hX]
    clear hX
    go_wp2_with fail
    go_at_call 37; refine (c1 _).mono ?_; rintro r w1 ⟨rfl, hb1⟩
    go_wp2_with fail
    go_ret
    exact ⟨by rw [HV.out]; rfl, below2 hB hb1⟩
  cases B2
  · have HV : Hid (R = 2) := by show _ = _; rw [HC.out]; rfl
    clear HC
    go_enter Try.func18, Try.ntmps18
    go_upto_region 1 with fail
    rw [← hX]
    clear hX
    go_wp2_with fail
    go_at_call 37; refine (c1 _).mono ?_; rintro r w1 ⟨rfl, hb1⟩
    clear y0 y1 y2 y3 y4 y5 y6 y7 y8 y9 y10 y11 yf hly
    obtain ⟨⟨y0, y1, y2, y3, y4, y5⟩, ⟨y6, y7, y8, y9, y10, y11⟩, yf, hly⟩ := cells12' (RowAt.below r0 hb1)
    go_wp2_with fail
    go_at_call 38; refine (c2 _).mono ?_; rintro r w2 ⟨rfl, hb2⟩
    go_wp2_with fail
    go_ret
    exact ⟨by rw [HV.out]; rfl, below2 (below2 hB hb1) hb2⟩
  · have HV : Hid (R = if B3 then 0 else 2) := by show _ = _; rw [HC.out]; rfl
    clear HC
    cases B3
    all_goals
      go_enter Try.func18, Try.ntmps18
      go_upto_region 1 with fail
      rw [← hX]
      clear hX
      go_wp2_with fail
      go_at_call 37; refine (c1 _).mono ?_; rintro r w1 ⟨rfl, hb1⟩
      clear y0 y1 y2 y3 y4 y5 y6 y7 y8 y9 y10 y11 yf hly
      replace r0 := RowAt.below r0 hb1
      obtain ⟨⟨y0, y1, y2, y3, y4, y5⟩, ⟨y6, y7, y8, y9, y10, y11⟩, yf, hly⟩ := cells12' r0
      go_wp2_with fail
      go_at_call 38; refine (c2 _).mono ?_; rintro r w2 ⟨rfl, hb2⟩
      clear y0 y1 y2 y3 y4 y5 y6 y7 y8 y9 y10 y11 yf hly
      replace r0 := RowAt.below r0 hb2
      obtain ⟨⟨y0, y1, y2, y3, y4, y5⟩, ⟨y6, y7, y8, y9, y10, y11⟩, yf, hly⟩ := cells12' r0
      go_wp2_with fail
      go_at_call 39; refine (c3 _).mono ?_; rintro r w3 ⟨rfl, hb3⟩
      go_wp2_with fail
      go_ret
      exact ⟨by rw [HV.out]; rfl, below2 (below2 (below2 hB hb1) hb2) hb3⟩
end Go.Proofs.Ytkjhnefbcnnjlaa.Msg
