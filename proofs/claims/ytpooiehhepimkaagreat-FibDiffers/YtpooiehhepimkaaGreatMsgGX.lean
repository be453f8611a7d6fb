/- The document's answer of layer 11: whether an event is right, whole. -/
import Derived.Test.YtpooiehhepimkaaGreatAddrBase
import Derived.Test.YtpooiehhepimkaaGreatMsgChk
import Derived.Test.YtpooiehhepimkaaGreatMsgChk3
import Derived.Test.YtpooiehhepimkaaGreatAddrGF
set_option linter.unusedVariables false
namespace Go.Proofs.YtpooiehhepimkaaGreat.Msg
open Go.RowKit
open Go.Proofs.YtpooiehhepimkaaGreat.Addr (RowAt RowAt.lt gset grefl)
theorem gkeep {W W' : World} {g k : Nat} {cs : List Value} {t : TypeId} (h : RowAt W k cs t) (hg : W.grownBy W' (some g)) (hne : k ≠ g) : RowAt W' k cs t := (hg.block k (RowAt.lt h) (by intro e; injection e with e; exact hne e)).trans h
theorem gsetO (W : World) (b k : Nat) (v : Value) : W.grownBy (W.setCell ⟨b, k, none⟩ v) (some b) := gset (grefl W _)
end Go.Proofs.YtpooiehhepimkaaGreat.Msg
namespace Go.Proofs.YtpooiehhepimkaaGreat.Msg
open Go.RowKit
open Go.Proofs.YtpooiehhepimkaaGreat.Addr (Pf okP checkP wideN firstN kP hiN loN adV pfV RowAt below2 below_drew below_new bset RowAt.lt RowAt.cell RowAt.frozen RowAt.below RowAt.drew RowAt.new RowAt.alloc gdrew gset gbelow galloc grefl cells2 cells4 results_cell)

set_option maxHeartbeats 2000000 in
theorem acts_any (a : Ac) (w : World) (hf : FitA a) : Calls Tryz.prog 51 #[acV a] w fun e w' => e = .returned (.bool (okA a)) ∧ Below w.heap.size w w' := by
  have hk : okA a = if (a.k : Int) = 1 then (decide (0 ≤ a.i) && decide (a.i ≤ 65536)) else ((decide ((a.k : Int) = 2) || decide ((a.k : Int) = 3)) && decide (a.i = 0)) := by
    rw [Bool.eq_iff_iff]
    unfold okA
    split <;> simp only [Bool.and_eq_true, Bool.or_eq_true, decide_eq_true_eq] <;> omega
  rw [hk]
  unfold acV
  clear hk hf
  generalize (a.k : Int) = k
  generalize a.i = i
  by_cases h1 : k = 1
  · subst h1
    rw [if_pos rfl]
    cases h2 : decide (0 ≤ i)
    all_goals
      go_enter Tryz.func51, Tryz.ntmps51
      go_upto_region 1 with fail
      obtain ⟨Y1, hY⟩ : ∃ Y1, Y1 = w.alloc (.cells #[.int .u8 1, .int .i64 i] 34) := ⟨_, rfl⟩
      have hbY : Below w.heap.size w Y1 := by rw [hY]; exact below_new (Below.refl _ _) _
      have ra : RowAt Y1 w.heap.size [.int .u8 1, .int .i64 i] 34 := by rw [hY]; exact RowAt.new _ _ _
      rw [← hY]
      clear hY
      obtain ⟨u0, u1, uf⟩ := cells2 ra
      go_wp2_with fail
      go_ret
      exact ⟨by simp_all, hbY⟩
  · have h1' : (k == 1) = false := beq_eq_false_iff_ne.2 h1
    rw [if_neg h1]
    by_cases h2 : k = 2
    · subst h2
      cases h3 : decide (i = 0)
      all_goals
        go_enter Tryz.func51, Tryz.ntmps51
        go_upto_region 1 with fail
        obtain ⟨Y1, hY⟩ : ∃ Y1, Y1 = w.alloc (.cells #[.int .u8 2, .int .i64 i] 34) := ⟨_, rfl⟩
        have hbY : Below w.heap.size w Y1 := by rw [hY]; exact below_new (Below.refl _ _) _
        have ra : RowAt Y1 w.heap.size [.int .u8 2, .int .i64 i] 34 := by rw [hY]; exact RowAt.new _ _ _
        rw [← hY]
        clear hY
        obtain ⟨u0, u1, uf⟩ := cells2 ra
        go_wp2_with fail
        go_ret
        exact ⟨by simp_all, hbY⟩
    · have h2' : (k == 2) = false := beq_eq_false_iff_ne.2 h2
      by_cases h3 : k = 3
      · subst h3
        cases h4 : decide (i = 0)
        all_goals
          go_enter Tryz.func51, Tryz.ntmps51
          go_upto_region 1 with fail
          obtain ⟨Y1, hY⟩ : ∃ Y1, Y1 = w.alloc (.cells #[.int .u8 3, .int .i64 i] 34) := ⟨_, rfl⟩
          have hbY : Below w.heap.size w Y1 := by rw [hY]; exact below_new (Below.refl _ _) _
          have ra : RowAt Y1 w.heap.size [.int .u8 3, .int .i64 i] 34 := by rw [hY]; exact RowAt.new _ _ _
          rw [← hY]
          clear hY
          obtain ⟨u0, u1, uf⟩ := cells2 ra
          go_wp2_with fail
          go_ret
          exact ⟨by simp_all, hbY⟩
      · have h3' : (k == 3) = false := beq_eq_false_iff_ne.2 h3
        go_enter Tryz.func51, Tryz.ntmps51
        go_upto_region 1 with fail
        obtain ⟨Y1, hY⟩ : ∃ Y1, Y1 = w.alloc (.cells #[.int .u8 k, .int .i64 i] 34) := ⟨_, rfl⟩
        have hbY : Below w.heap.size w Y1 := by rw [hY]; exact below_new (Below.refl _ _) _
        have ra : RowAt Y1 w.heap.size [.int .u8 k, .int .i64 i] 34 := by rw [hY]; exact RowAt.new _ _ _
        rw [← hY]
        clear hY
        obtain ⟨u0, u1, uf⟩ := cells2 ra
        go_wp2_with fail
        go_ret
        exact ⟨by simp_all, hbY⟩
end Go.Proofs.YtpooiehhepimkaaGreat.Msg
namespace Go.Proofs.YtpooiehhepimkaaGreat.Msg
open Go.RowKit
open Go.Proofs.YtpooiehhepimkaaGreat.Addr (Pf okP checkP wideN firstN kP hiN loN adV pfV)
/-- what an event of its kind may have, taken out of it -/
def wantE (e : Ev) : Ev := ⟨e.kind, e.router, e.seq, e.time, if e.kind = 3 ∨ e.kind = 4 then e.pf else zeroPf, if e.kind = 3 then e.act else zeroA, if e.kind = 5 ∨ e.kind = 6 then e.iface else 0, if e.kind = 5 then e.peer else 0⟩
def rangeB (e : Ev) : Bool := (decide (0 ≤ e.router) && decide (e.router ≤ 1048576)) && (decide (1 ≤ e.seq) && decide (e.seq ≤ 1099511627776)) && (decide (0 ≤ e.time) && decide (e.time ≤ 1099511627776))
def kindB (e : Ev) : Bool :=
  if e.kind = 1 ∨ e.kind = 2 then true
  else if e.kind = 3 then okP e.pf && okA e.act
  else if e.kind = 4 then okP e.pf
  else if e.kind = 5 then (decide (0 ≤ e.iface) && decide (e.iface ≤ 65536)) && (decide (0 ≤ e.peer) && decide (e.peer ≤ 1048576))
  else if e.kind = 6 then (decide (0 ≤ e.iface) && decide (e.iface ≤ 65536))
  else false
theorem okP_zero : okP zeroPf = true := by kernel_rfl
theorem want_un (e : Ev) : eqE (wantE e) e = eqE (unN e) zeroE := by
  rw [Bool.eq_iff_iff, eqE_iff, eqE_iff]
  obtain ⟨k, a, b, c, pf, ac, i, p⟩ := e
  unfold wantE unN zeroE
  simp only [Ev.mk.injEq, true_and]
  by_cases h3 : k = 3
  · subst h3; simp
    constructor <;> rintro ⟨h1, h2⟩ <;> exact ⟨h1.symm, h2.symm⟩
  by_cases h4 : k = 4
  · subst h4; simp
    constructor <;> rintro ⟨h1, h2, h3⟩ <;> exact ⟨h1.symm, h2.symm, h3.symm⟩
  by_cases h5 : k = 5
  · subst h5; simp
    constructor <;> rintro ⟨h1, h2⟩ <;> exact ⟨h1.symm, h2.symm⟩
  by_cases h6 : k = 6
  · subst h6; simp
    constructor <;> rintro ⟨h1, h2, h3⟩ <;> exact ⟨h1.symm, h2.symm, h3.symm⟩
  simp only [h3, h4, h5, h6, or_self, if_false]
  constructor <;> rintro ⟨h1, h2, h7, h8⟩ <;> exact ⟨h1.symm, h2.symm, h7.symm, h8.symm⟩
theorem okE_ref (e : Ev) : okE e = (rangeB e && kindB e && eqE (wantE e) e) := by
  rw [want_un]
  unfold okE
  cases hq : eqE (unN e) zeroE with
  | false => simp
  | true =>
    have hu := (eqE_iff _ _).1 hq
    simp only [Bool.and_true]
    have hz := okP_zero
    obtain ⟨k, a, b, c, pf, ac, i, p⟩ := e
    unfold unN zeroE at hu
    simp only [Ev.mk.injEq, true_and] at hu
    obtain ⟨h1, h2, h3, h4⟩ := hu
    unfold headB partsB rangeB kindB
    simp only
    by_cases k1 : k = 1
    · subst k1
      simp at h1 h2 h3 h4
      subst h1 h2 h3 h4
      simp [hz]
    by_cases k2 : k = 2
    · subst k2
      simp at h1 h2 h3 h4
      subst h1 h2 h3 h4
      simp [hz]
    by_cases k3 : k = 3
    · subst k3
      simp at h3 h4
      subst h3 h4
      simp
    by_cases k4 : k = 4
    · subst k4
      simp at h2 h3 h4
      subst h2 h3 h4
      simp
    by_cases k5 : k = 5
    · subst k5
      simp at h1 h2
      subst h1 h2
      simp [hz]
    by_cases k6 : k = 6
    · subst k6
      simp at h1 h2 h4
      subst h1 h2 h4
      simp [hz]
    have hno : (decide (1 ≤ k) && decide (k ≤ 6)) = false := by
      rw [Bool.and_eq_false_iff, decide_eq_false_iff_not, decide_eq_false_iff_not]
      omega
    rw [hno]
    simp [k1, k2, k3, k4, k5, k6]
theorem checkE_ref (e : Ev) : checkE e = if rangeB e && kindB e && eqE (wantE e) e then 0 else 2 := by unfold checkE; rw [okE_ref]
end Go.Proofs.YtpooiehhepimkaaGreat.Msg
namespace Go.Proofs.YtpooiehhepimkaaGreat.Msg
open Go.RowKit
open Go.Proofs.YtpooiehhepimkaaGreat.Addr (Pf okP checkP wideN firstN kP hiN loN adV pfV RowAt below2 below_drew below_new bset RowAt.lt RowAt.cell RowAt.frozen RowAt.below RowAt.drew RowAt.new RowAt.alloc gdrew gset gbelow galloc grefl cells2 cells4 results_cell)

set_option maxHeartbeats 4000000 in
theorem rck_r0 (k a b c hi lo l ak ai i p : Int) (sx : Bool) (w : World) (q0 : decide (a < 0) = true) :
    Calls Tryz.prog 25 #[.agg #[.int .u8 k, .int .i64 a, .int .u64 b, .int .i64 c, .bool sx, .int .u64 hi, .int .u64 lo, .int .i64 l, .int .u8 ak, .int .i64 ai, .int .i64 i, .int .i64 p]] w fun e w' => e = .returned (.int .i64 2) ∧ Below w.heap.size w w' := by
  obtain ⟨X, hX⟩ : ∃ X, X = w.alloc (.cells #[.int .u8 k, .int .i64 a, .int .u64 b, .int .i64 c, .bool sx, .int .u64 hi, .int .u64 lo, .int .i64 l, .int .u8 ak, .int .i64 ai, .int .i64 i, .int .i64 p] 36) := ⟨_, rfl⟩
  have hB : Below w.heap.size w X := by rw [hX]; exact below_new (Below.refl _ _) _
  have r0 : RowAt X w.heap.size [.int .u8 k, .int .i64 a, .int .u64 b, .int .i64 c, .bool sx, .int .u64 hi, .int .u64 lo, .int .i64 l, .int .u8 ak, .int .i64 ai, .int .i64 i, .int .i64 p] 36 := by rw [hX]; exact RowAt.new _ _ _
  go_enter Tryz.func25, Tryz.ntmps25
  go_upto_region 1 with fail
  rw [← hX]
  clear hX
  obtain ⟨g0, hg0⟩ : ∃ g, g = w.heap.size := ⟨_, rfl⟩
  have hgw : w.heap.size ≤ g0 := by omega
  rw [← hg0] at r0 ⊢
  clear hg0
  obtain ⟨⟨y0, y1, y2, y3, y4, y5⟩, ⟨y6, y7, y8, y9, y10, y11⟩, yf, hly⟩ := cells12' r0
  go_wp2_with fail
  go_ret
  exact ⟨rfl, hB⟩
set_option maxHeartbeats 4000000 in
theorem rck_r1 (k a b c hi lo l ak ai i p : Int) (sx : Bool) (w : World) (q0 : decide (a < 0) = false) (q1 : decide (1048576 < a) = true) :
    Calls Tryz.prog 25 #[.agg #[.int .u8 k, .int .i64 a, .int .u64 b, .int .i64 c, .bool sx, .int .u64 hi, .int .u64 lo, .int .i64 l, .int .u8 ak, .int .i64 ai, .int .i64 i, .int .i64 p]] w fun e w' => e = .returned (.int .i64 2) ∧ Below w.heap.size w w' := by
  obtain ⟨X, hX⟩ : ∃ X, X = w.alloc (.cells #[.int .u8 k, .int .i64 a, .int .u64 b, .int .i64 c, .bool sx, .int .u64 hi, .int .u64 lo, .int .i64 l, .int .u8 ak, .int .i64 ai, .int .i64 i, .int .i64 p] 36) := ⟨_, rfl⟩
  have hB : Below w.heap.size w X := by rw [hX]; exact below_new (Below.refl _ _) _
  have r0 : RowAt X w.heap.size [.int .u8 k, .int .i64 a, .int .u64 b, .int .i64 c, .bool sx, .int .u64 hi, .int .u64 lo, .int .i64 l, .int .u8 ak, .int .i64 ai, .int .i64 i, .int .i64 p] 36 := by rw [hX]; exact RowAt.new _ _ _
  go_enter Tryz.func25, Tryz.ntmps25
  go_upto_region 1 with fail
  rw [← hX]
  clear hX
  obtain ⟨g0, hg0⟩ : ∃ g, g = w.heap.size := ⟨_, rfl⟩
  have hgw : w.heap.size ≤ g0 := by omega
  rw [← hg0] at r0 ⊢
  clear hg0
  obtain ⟨⟨y0, y1, y2, y3, y4, y5⟩, ⟨y6, y7, y8, y9, y10, y11⟩, yf, hly⟩ := cells12' r0
  go_wp2_with fail
  go_ret
  exact ⟨rfl, hB⟩
set_option maxHeartbeats 4000000 in
theorem rck_r2 (k a b c hi lo l ak ai i p : Int) (sx : Bool) (w : World) (q0 : decide (a < 0) = false) (q1 : decide (1048576 < a) = false) (q2 : decide (b < 1) = true) :
    Calls Tryz.prog 25 #[.agg #[.int .u8 k, .int .i64 a, .int .u64 b, .int .i64 c, .bool sx, .int .u64 hi, .int .u64 lo, .int .i64 l, .int .u8 ak, .int .i64 ai, .int .i64 i, .int .i64 p]] w fun e w' => e = .returned (.int .i64 2) ∧ Below w.heap.size w w' := by
  obtain ⟨X, hX⟩ : ∃ X, X = w.alloc (.cells #[.int .u8 k, .int .i64 a, .int .u64 b, .int .i64 c, .bool sx, .int .u64 hi, .int .u64 lo, .int .i64 l, .int .u8 ak, .int .i64 ai, .int .i64 i, .int .i64 p] 36) := ⟨_, rfl⟩
  have hB : Below w.heap.size w X := by rw [hX]; exact below_new (Below.refl _ _) _
  have r0 : RowAt X w.heap.size [.int .u8 k, .int .i64 a, .int .u64 b, .int .i64 c, .bool sx, .int .u64 hi, .int .u64 lo, .int .i64 l, .int .u8 ak, .int .i64 ai, .int .i64 i, .int .i64 p] 36 := by rw [hX]; exact RowAt.new _ _ _
  go_enter Tryz.func25, Tryz.ntmps25
  go_upto_region 1 with fail
  rw [← hX]
  clear hX
  obtain ⟨g0, hg0⟩ : ∃ g, g = w.heap.size := ⟨_, rfl⟩
  have hgw : w.heap.size ≤ g0 := by omega
  rw [← hg0] at r0 ⊢
  clear hg0
  obtain ⟨⟨y0, y1, y2, y3, y4, y5⟩, ⟨y6, y7, y8, y9, y10, y11⟩, yf, hly⟩ := cells12' r0
  go_wp2_with fail
  go_ret
  exact ⟨rfl, hB⟩
set_option maxHeartbeats 4000000 in
theorem rck_r3 (k a b c hi lo l ak ai i p : Int) (sx : Bool) (w : World) (q0 : decide (a < 0) = false) (q1 : decide (1048576 < a) = false) (q2 : decide (b < 1) = false) (q3 : decide (1099511627776 < b) = true) :
    Calls Tryz.prog 25 #[.agg #[.int .u8 k, .int .i64 a, .int .u64 b, .int .i64 c, .bool sx, .int .u64 hi, .int .u64 lo, .int .i64 l, .int .u8 ak, .int .i64 ai, .int .i64 i, .int .i64 p]] w fun e w' => e = .returned (.int .i64 2) ∧ Below w.heap.size w w' := by
  obtain ⟨X, hX⟩ : ∃ X, X = w.alloc (.cells #[.int .u8 k, .int .i64 a, .int .u64 b, .int .i64 c, .bool sx, .int .u64 hi, .int .u64 lo, .int .i64 l, .int .u8 ak, .int .i64 ai, .int .i64 i, .int .i64 p] 36) := ⟨_, rfl⟩
  have hB : Below w.heap.size w X := by rw [hX]; exact below_new (Below.refl _ _) _
  have r0 : RowAt X w.heap.size [.int .u8 k, .int .i64 a, .int .u64 b, .int .i64 c, .bool sx, .int .u64 hi, .int .u64 lo, .int .i64 l, .int .u8 ak, .int .i64 ai, .int .i64 i, .int .i64 p] 36 := by rw [hX]; exact RowAt.new _ _ _
  go_enter Tryz.func25, Tryz.ntmps25
  go_upto_region 1 with fail
  rw [← hX]
  clear hX
  obtain ⟨g0, hg0⟩ : ∃ g, g = w.heap.size := ⟨_, rfl⟩
  have hgw : w.heap.size ≤ g0 := by omega
  rw [← hg0] at r0 ⊢
  clear hg0
  obtain ⟨⟨y0, y1, y2, y3, y4, y5⟩, ⟨y6, y7, y8, y9, y10, y11⟩, yf, hly⟩ := cells12' r0
  go_wp2_with fail
  go_ret
  exact ⟨rfl, hB⟩
set_option maxHeartbeats 4000000 in
theorem rck_r4 (k a b c hi lo l ak ai i p : Int) (sx : Bool) (w : World) (q0 : decide (a < 0) = false) (q1 : decide (1048576 < a) = false) (q2 : decide (b < 1) = false) (q3 : decide (1099511627776 < b) = false) (q4 : decide (c < 0) = true) :
    Calls Tryz.prog 25 #[.agg #[.int .u8 k, .int .i64 a, .int .u64 b, .int .i64 c, .bool sx, .int .u64 hi, .int .u64 lo, .int .i64 l, .int .u8 ak, .int .i64 ai, .int .i64 i, .int .i64 p]] w fun e w' => e = .returned (.int .i64 2) ∧ Below w.heap.size w w' := by
  obtain ⟨X, hX⟩ : ∃ X, X = w.alloc (.cells #[.int .u8 k, .int .i64 a, .int .u64 b, .int .i64 c, .bool sx, .int .u64 hi, .int .u64 lo, .int .i64 l, .int .u8 ak, .int .i64 ai, .int .i64 i, .int .i64 p] 36) := ⟨_, rfl⟩
  have hB : Below w.heap.size w X := by rw [hX]; exact below_new (Below.refl _ _) _
  have r0 : RowAt X w.heap.size [.int .u8 k, .int .i64 a, .int .u64 b, .int .i64 c, .bool sx, .int .u64 hi, .int .u64 lo, .int .i64 l, .int .u8 ak, .int .i64 ai, .int .i64 i, .int .i64 p] 36 := by rw [hX]; exact RowAt.new _ _ _
  go_enter Tryz.func25, Tryz.ntmps25
  go_upto_region 1 with fail
  rw [← hX]
  clear hX
  obtain ⟨g0, hg0⟩ : ∃ g, g = w.heap.size := ⟨_, rfl⟩
  have hgw : w.heap.size ≤ g0 := by omega
  rw [← hg0] at r0 ⊢
  clear hg0
  obtain ⟨⟨y0, y1, y2, y3, y4, y5⟩, ⟨y6, y7, y8, y9, y10, y11⟩, yf, hly⟩ := cells12' r0
  go_wp2_with fail
  go_ret
  exact ⟨rfl, hB⟩
set_option maxHeartbeats 4000000 in
theorem rck_r5 (k a b c hi lo l ak ai i p : Int) (sx : Bool) (w : World) (q0 : decide (a < 0) = false) (q1 : decide (1048576 < a) = false) (q2 : decide (b < 1) = false) (q3 : decide (1099511627776 < b) = false) (q4 : decide (c < 0) = false) (q5 : decide (1099511627776 < c) = true) :
    Calls Tryz.prog 25 #[.agg #[.int .u8 k, .int .i64 a, .int .u64 b, .int .i64 c, .bool sx, .int .u64 hi, .int .u64 lo, .int .i64 l, .int .u8 ak, .int .i64 ai, .int .i64 i, .int .i64 p]] w fun e w' => e = .returned (.int .i64 2) ∧ Below w.heap.size w w' := by
  obtain ⟨X, hX⟩ : ∃ X, X = w.alloc (.cells #[.int .u8 k, .int .i64 a, .int .u64 b, .int .i64 c, .bool sx, .int .u64 hi, .int .u64 lo, .int .i64 l, .int .u8 ak, .int .i64 ai, .int .i64 i, .int .i64 p] 36) := ⟨_, rfl⟩
  have hB : Below w.heap.size w X := by rw [hX]; exact below_new (Below.refl _ _) _
  have r0 : RowAt X w.heap.size [.int .u8 k, .int .i64 a, .int .u64 b, .int .i64 c, .bool sx, .int .u64 hi, .int .u64 lo, .int .i64 l, .int .u8 ak, .int .i64 ai, .int .i64 i, .int .i64 p] 36 := by rw [hX]; exact RowAt.new _ _ _
  go_enter Tryz.func25, Tryz.ntmps25
  go_upto_region 1 with fail
  rw [← hX]
  clear hX
  obtain ⟨g0, hg0⟩ : ∃ g, g = w.heap.size := ⟨_, rfl⟩
  have hgw : w.heap.size ≤ g0 := by omega
  rw [← hg0] at r0 ⊢
  clear hg0
  obtain ⟨⟨y0, y1, y2, y3, y4, y5⟩, ⟨y6, y7, y8, y9, y10, y11⟩, yf, hly⟩ := cells12' r0
  go_wp2_with fail
  go_ret
  exact ⟨rfl, hB⟩
set_option maxRecDepth 20000 in
set_option maxHeartbeats 4000000 in
theorem rck_1 (a b c hi lo l ak ai i p : Int) (sx : Bool) (w : World) (B3 : Bool) (q0 : decide (a < 0) = false) (q1 : decide (1048576 < a) = false) (q2 : decide (b < 1) = false) (q3 : decide (1099511627776 < b) = false) (q4 : decide (c < 0) = false) (q5 : decide (1099511627776 < c) = false) (hq : ∀ W : World, (binOp .neq 36 (.agg #[.int .u8 1, .int .i64 a, .int .u64 b, .int .i64 c, .bool false, .int .u64 0, .int .u64 0, .int .i64 0, .int .u8 0, .int .i64 0, .int .i64 0, .int .i64 0]) (.agg #[.int .u8 1, .int .i64 a, .int .u64 b, .int .i64 c, .bool sx, .int .u64 hi, .int .u64 lo, .int .i64 l, .int .u8 ak, .int .i64 ai, .int .i64 i, .int .i64 p])).run Tryz.prog W = .ok (.bool (!B3)) W) :
    Calls Tryz.prog 25 #[.agg #[.int .u8 1, .int .i64 a, .int .u64 b, .int .i64 c, .bool sx, .int .u64 hi, .int .u64 lo, .int .i64 l, .int .u8 ak, .int .i64 ai, .int .i64 i, .int .i64 p]] w fun e w' => e = .returned (.int .i64 (if B3 then 0 else 2)) ∧ Below w.heap.size w w' := by
  have hgd := ev_guard
  obtain ⟨X, hX⟩ : ∃ X, X = w.alloc (.cells #[.int .u8 1, .int .i64 a, .int .u64 b, .int .i64 c, .bool sx, .int .u64 hi, .int .u64 lo, .int .i64 l, .int .u8 ak, .int .i64 ai, .int .i64 i, .int .i64 p] 36) := ⟨_, rfl⟩
  have hB : Below w.heap.size w X := by rw [hX]; exact below_new (Below.refl _ _) _
  have r0 : RowAt X w.heap.size [.int .u8 1, .int .i64 a, .int .u64 b, .int .i64 c, .bool sx, .int .u64 hi, .int .u64 lo, .int .i64 l, .int .u8 ak, .int .i64 ai, .int .i64 i, .int .i64 p] 36 := by rw [hX]; exact RowAt.new _ _ _
  go_enter Tryz.func25, Tryz.ntmps25
  go_upto_region 1 with fail
  rw [← hX]
  clear hX
  obtain ⟨g0, hg0⟩ : ∃ g, g = w.heap.size := ⟨_, rfl⟩
  have hgw : w.heap.size ≤ g0 := by omega
  rw [← hg0] at r0 ⊢
  clear hg0
  obtain ⟨⟨y0, y1, y2, y3, y4, y5⟩, ⟨y6, y7, y8, y9, y10, y11⟩, yf, hly⟩ := cells12' r0
  go_upto_region 3 with fail
  go_upto_region 4 with fail
  obtain ⟨Y, hY⟩ : ∃ Y, Y = X.alloc (.cells #[.int .u8 1, .int .i64 a, .int .u64 b, .int .i64 c, .bool false, .int .u64 0, .int .u64 0, .int .i64 0, .int .u8 0, .int .i64 0, .int .i64 0, .int .i64 0] 36) := ⟨_, rfl⟩
  have hbY : Below X.heap.size X Y := by rw [hY]; exact below_new (Below.refl _ _) _
  have r1 : RowAt Y X.heap.size [.int .u8 1, .int .i64 a, .int .u64 b, .int .i64 c, .bool false, .int .u64 0, .int .u64 0, .int .i64 0, .int .u8 0, .int .i64 0, .int .i64 0, .int .i64 0] 36 := by rw [hY]; exact RowAt.new _ _ _
  rw [← hY]
  replace r0 := RowAt.below r0 hbY
  replace hB := below2 hB hbY
  obtain ⟨g1, hg1⟩ : ∃ g, g = X.heap.size := ⟨_, rfl⟩
  have hgl : g0 < g1 := by omega
  rw [← hg1] at r1 ⊢
  clear hg1 hY hbY y0 y1 y2 y3 y4 y5 y6 y7 y8 y9 y10 y11 yf hly q0 q1 q2 q3 q4 q5
  obtain ⟨⟨y0, y1, y2, y3, y4, y5⟩, ⟨y6, y7, y8, y9, y10, y11⟩, yf, hly⟩ := cells12' r0
  obtain ⟨⟨z0, z1, z2, z3, z4, z5⟩, ⟨z6, z7, z8, z9, z10, z11⟩, zf, hlz⟩ := cells12' r1
  cases B3
  all_goals
    simp only [Bool.not_false, Bool.not_true] at hq
    go_wp2_with fail
    go_ret
    exact ⟨rfl, hB⟩
set_option maxRecDepth 20000 in
set_option maxHeartbeats 4000000 in
theorem rck_2 (a b c hi lo l ak ai i p : Int) (sx : Bool) (w : World) (B3 : Bool) (q0 : decide (a < 0) = false) (q1 : decide (1048576 < a) = false) (q2 : decide (b < 1) = false) (q3 : decide (1099511627776 < b) = false) (q4 : decide (c < 0) = false) (q5 : decide (1099511627776 < c) = false) (hq : ∀ W : World, (binOp .neq 36 (.agg #[.int .u8 2, .int .i64 a, .int .u64 b, .int .i64 c, .bool false, .int .u64 0, .int .u64 0, .int .i64 0, .int .u8 0, .int .i64 0, .int .i64 0, .int .i64 0]) (.agg #[.int .u8 2, .int .i64 a, .int .u64 b, .int .i64 c, .bool sx, .int .u64 hi, .int .u64 lo, .int .i64 l, .int .u8 ak, .int .i64 ai, .int .i64 i, .int .i64 p])).run Tryz.prog W = .ok (.bool (!B3)) W) :
    Calls Tryz.prog 25 #[.agg #[.int .u8 2, .int .i64 a, .int .u64 b, .int .i64 c, .bool sx, .int .u64 hi, .int .u64 lo, .int .i64 l, .int .u8 ak, .int .i64 ai, .int .i64 i, .int .i64 p]] w fun e w' => e = .returned (.int .i64 (if B3 then 0 else 2)) ∧ Below w.heap.size w w' := by
  have hgd := ev_guard
  obtain ⟨X, hX⟩ : ∃ X, X = w.alloc (.cells #[.int .u8 2, .int .i64 a, .int .u64 b, .int .i64 c, .bool sx, .int .u64 hi, .int .u64 lo, .int .i64 l, .int .u8 ak, .int .i64 ai, .int .i64 i, .int .i64 p] 36) := ⟨_, rfl⟩
  have hB : Below w.heap.size w X := by rw [hX]; exact below_new (Below.refl _ _) _
  have r0 : RowAt X w.heap.size [.int .u8 2, .int .i64 a, .int .u64 b, .int .i64 c, .bool sx, .int .u64 hi, .int .u64 lo, .int .i64 l, .int .u8 ak, .int .i64 ai, .int .i64 i, .int .i64 p] 36 := by rw [hX]; exact RowAt.new _ _ _
  go_enter Tryz.func25, Tryz.ntmps25
  go_upto_region 1 with fail
  rw [← hX]
  clear hX
  obtain ⟨g0, hg0⟩ : ∃ g, g = w.heap.size := ⟨_, rfl⟩
  have hgw : w.heap.size ≤ g0 := by omega
  rw [← hg0] at r0 ⊢
  clear hg0
  obtain ⟨⟨y0, y1, y2, y3, y4, y5⟩, ⟨y6, y7, y8, y9, y10, y11⟩, yf, hly⟩ := cells12' r0
  go_upto_region 3 with fail
  go_upto_region 4 with fail
  obtain ⟨Y, hY⟩ : ∃ Y, Y = X.alloc (.cells #[.int .u8 2, .int .i64 a, .int .u64 b, .int .i64 c, .bool false, .int .u64 0, .int .u64 0, .int .i64 0, .int .u8 0, .int .i64 0, .int .i64 0, .int .i64 0] 36) := ⟨_, rfl⟩
  have hbY : Below X.heap.size X Y := by rw [hY]; exact below_new (Below.refl _ _) _
  have r1 : RowAt Y X.heap.size [.int .u8 2, .int .i64 a, .int .u64 b, .int .i64 c, .bool false, .int .u64 0, .int .u64 0, .int .i64 0, .int .u8 0, .int .i64 0, .int .i64 0, .int .i64 0] 36 := by rw [hY]; exact RowAt.new _ _ _
  rw [← hY]
  replace r0 := RowAt.below r0 hbY
  replace hB := below2 hB hbY
  obtain ⟨g1, hg1⟩ : ∃ g, g = X.heap.size := ⟨_, rfl⟩
  have hgl : g0 < g1 := by omega
  rw [← hg1] at r1 ⊢
  clear hg1 hY hbY y0 y1 y2 y3 y4 y5 y6 y7 y8 y9 y10 y11 yf hly q0 q1 q2 q3 q4 q5
  obtain ⟨⟨y0, y1, y2, y3, y4, y5⟩, ⟨y6, y7, y8, y9, y10, y11⟩, yf, hly⟩ := cells12' r0
  obtain ⟨⟨z0, z1, z2, z3, z4, z5⟩, ⟨z6, z7, z8, z9, z10, z11⟩, zf, hlz⟩ := cells12' r1
  cases B3
  all_goals
    simp only [Bool.not_false, Bool.not_true] at hq
    go_wp2_with fail
    go_ret
    exact ⟨rfl, hB⟩
set_option maxHeartbeats 4000000 in
theorem rck_o (k a b c hi lo l ak ai i p : Int) (sx : Bool) (w : World) (q0 : decide (a < 0) = false) (q1 : decide (1048576 < a) = false) (q2 : decide (b < 1) = false) (q3 : decide (1099511627776 < b) = false) (q4 : decide (c < 0) = false) (q5 : decide (1099511627776 < c) = false) (k1 : (k == 1) = false) (k2 : (k == 2) = false) (k3 : (k == 3) = false) (k4 : (k == 4) = false) (k5 : (k == 5) = false) (k6 : (k == 6) = false) :
    Calls Tryz.prog 25 #[.agg #[.int .u8 k, .int .i64 a, .int .u64 b, .int .i64 c, .bool sx, .int .u64 hi, .int .u64 lo, .int .i64 l, .int .u8 ak, .int .i64 ai, .int .i64 i, .int .i64 p]] w fun e w' => e = .returned (.int .i64 2) ∧ Below w.heap.size w w' := by
  have hgd := ev_guard
  obtain ⟨X, hX⟩ : ∃ X, X = w.alloc (.cells #[.int .u8 k, .int .i64 a, .int .u64 b, .int .i64 c, .bool sx, .int .u64 hi, .int .u64 lo, .int .i64 l, .int .u8 ak, .int .i64 ai, .int .i64 i, .int .i64 p] 36) := ⟨_, rfl⟩
  have hB : Below w.heap.size w X := by rw [hX]; exact below_new (Below.refl _ _) _
  have r0 : RowAt X w.heap.size [.int .u8 k, .int .i64 a, .int .u64 b, .int .i64 c, .bool sx, .int .u64 hi, .int .u64 lo, .int .i64 l, .int .u8 ak, .int .i64 ai, .int .i64 i, .int .i64 p] 36 := by rw [hX]; exact RowAt.new _ _ _
  go_enter Tryz.func25, Tryz.ntmps25
  go_upto_region 1 with fail
  rw [← hX]
  clear hX
  obtain ⟨g0, hg0⟩ : ∃ g, g = w.heap.size := ⟨_, rfl⟩
  have hgw : w.heap.size ≤ g0 := by omega
  rw [← hg0] at r0 ⊢
  clear hg0
  obtain ⟨⟨y0, y1, y2, y3, y4, y5⟩, ⟨y6, y7, y8, y9, y10, y11⟩, yf, hly⟩ := cells12' r0
  go_upto_region 3 with fail
  go_upto_region 4 with fail
  obtain ⟨Y, hY⟩ : ∃ Y, Y = X.alloc (.cells #[.int .u8 k, .int .i64 a, .int .u64 b, .int .i64 c, .bool false, .int .u64 0, .int .u64 0, .int .i64 0, .int .u8 0, .int .i64 0, .int .i64 0, .int .i64 0] 36) := ⟨_, rfl⟩
  have hbY : Below X.heap.size X Y := by rw [hY]; exact below_new (Below.refl _ _) _
  have r1 : RowAt Y X.heap.size [.int .u8 k, .int .i64 a, .int .u64 b, .int .i64 c, .bool false, .int .u64 0, .int .u64 0, .int .i64 0, .int .u8 0, .int .i64 0, .int .i64 0, .int .i64 0] 36 := by rw [hY]; exact RowAt.new _ _ _
  rw [← hY]
  replace r0 := RowAt.below r0 hbY
  replace hB := below2 hB hbY
  obtain ⟨g1, hg1⟩ : ∃ g, g = X.heap.size := ⟨_, rfl⟩
  have hgl : g0 < g1 := by omega
  rw [← hg1] at r1 ⊢
  clear hg1 hY hbY y0 y1 y2 y3 y4 y5 y6 y7 y8 y9 y10 y11 yf hly q0 q1 q2 q3 q4 q5
  obtain ⟨⟨y0, y1, y2, y3, y4, y5⟩, ⟨y6, y7, y8, y9, y10, y11⟩, yf, hly⟩ := cells12' r0
  obtain ⟨⟨z0, z1, z2, z3, z4, z5⟩, ⟨z6, z7, z8, z9, z10, z11⟩, zf, hlz⟩ := cells12' r1
  go_wp2_with fail
  go_ret
  exact ⟨rfl, hB⟩
end Go.Proofs.YtpooiehhepimkaaGreat.Msg
namespace Go.Proofs.YtpooiehhepimkaaGreat.Msg
open Go.RowKit
open Go.Proofs.YtpooiehhepimkaaGreat.Addr (Pf okP checkP wideN firstN kP hiN loN adV pfV RowAt below2 below_drew below_new bset RowAt.lt RowAt.cell RowAt.frozen RowAt.below RowAt.drew RowAt.new RowAt.alloc gdrew gset gbelow galloc grefl cells2 cells4 results_cell)

set_option maxRecDepth 20000 in
set_option maxHeartbeats 4000000 in
theorem rck_4 (a b c hi lo l ak ai i p : Int) (sx : Bool) (w : World) (B1 B3 : Bool) (q0 : decide (a < 0) = false) (q1 : decide (1048576 < a) = false) (q2 : decide (b < 1) = false) (q3 : decide (1099511627776 < b) = false) (q4 : decide (c < 0) = false) (q5 : decide (1099511627776 < c) = false) (cP : ∀ W : World, Calls Tryz.prog 50 #[.agg #[.bool sx, .int .u64 hi, .int .u64 lo, .int .i64 l]] W fun e w' => e = .returned (.int .i64 (if B1 then 0 else 2)) ∧ Below W.heap.size W w') (hq : ∀ W : World, (binOp .neq 36 (.agg #[.int .u8 4, .int .i64 a, .int .u64 b, .int .i64 c, .bool sx, .int .u64 hi, .int .u64 lo, .int .i64 l, .int .u8 0, .int .i64 0, .int .i64 0, .int .i64 0]) (.agg #[.int .u8 4, .int .i64 a, .int .u64 b, .int .i64 c, .bool sx, .int .u64 hi, .int .u64 lo, .int .i64 l, .int .u8 ak, .int .i64 ai, .int .i64 i, .int .i64 p])).run Tryz.prog W = .ok (.bool (!B3)) W) :
    Calls Tryz.prog 25 #[.agg #[.int .u8 4, .int .i64 a, .int .u64 b, .int .i64 c, .bool sx, .int .u64 hi, .int .u64 lo, .int .i64 l, .int .u8 ak, .int .i64 ai, .int .i64 i, .int .i64 p]] w fun e w' => e = .returned (.int .i64 (if B1 && B3 then 0 else 2)) ∧ Below w.heap.size w w' := by
  have hgd := ev_guard
  obtain ⟨X, hX⟩ : ∃ X, X = w.alloc (.cells #[.int .u8 4, .int .i64 a, .int .u64 b, .int .i64 c, .bool sx, .int .u64 hi, .int .u64 lo, .int .i64 l, .int .u8 ak, .int .i64 ai, .int .i64 i, .int .i64 p] 36) := ⟨_, rfl⟩
  have hB : Below w.heap.size w X := by rw [hX]; exact below_new (Below.refl _ _) _
  have r0 : RowAt X w.heap.size [.int .u8 4, .int .i64 a, .int .u64 b, .int .i64 c, .bool sx, .int .u64 hi, .int .u64 lo, .int .i64 l, .int .u8 ak, .int .i64 ai, .int .i64 i, .int .i64 p] 36 := by rw [hX]; exact RowAt.new _ _ _
  go_enter Tryz.func25, Tryz.ntmps25
  go_upto_region 1 with fail
  rw [← hX]
  clear hX
  obtain ⟨g0, hg0⟩ : ∃ g, g = w.heap.size := ⟨_, rfl⟩
  have hgw : w.heap.size ≤ g0 := by omega
  rw [← hg0] at r0 ⊢
  clear hg0
  obtain ⟨⟨y0, y1, y2, y3, y4, y5⟩, ⟨y6, y7, y8, y9, y10, y11⟩, yf, hly⟩ := cells12' r0
  go_upto_region 3 with fail
  go_upto_region 4 with fail
  obtain ⟨Y, hY⟩ : ∃ Y, Y = X.alloc (.cells #[.int .u8 4, .int .i64 a, .int .u64 b, .int .i64 c, .bool false, .int .u64 0, .int .u64 0, .int .i64 0, .int .u8 0, .int .i64 0, .int .i64 0, .int .i64 0] 36) := ⟨_, rfl⟩
  have hbY : Below X.heap.size X Y := by rw [hY]; exact below_new (Below.refl _ _) _
  have r1 : RowAt Y X.heap.size [.int .u8 4, .int .i64 a, .int .u64 b, .int .i64 c, .bool false, .int .u64 0, .int .u64 0, .int .i64 0, .int .u8 0, .int .i64 0, .int .i64 0, .int .i64 0] 36 := by rw [hY]; exact RowAt.new _ _ _
  rw [← hY]
  replace r0 := RowAt.below r0 hbY
  replace hB := below2 hB hbY
  obtain ⟨g1, hg1⟩ : ∃ g, g = X.heap.size := ⟨_, rfl⟩
  have hgl : g0 < g1 := by omega
  rw [← hg1] at r1 ⊢
  clear hg1 hY hbY y0 y1 y2 y3 y4 y5 y6 y7 y8 y9 y10 y11 yf hly q0 q1 q2 q3 q4 q5
  obtain ⟨⟨y0, y1, y2, y3, y4, y5⟩, ⟨y6, y7, y8, y9, y10, y11⟩, yf, hly⟩ := cells12' r0
  obtain ⟨⟨z0, z1, z2, z3, z4, z5⟩, ⟨z6, z7, z8, z9, z10, z11⟩, zf, hlz⟩ := cells12' r1
  go_upto_region 14 with fail
  have s1 := set1 (set1 (set1 (set1 (r1) 4 (.bool sx)) 5 (.int .u64 hi)) 6 (.int .u64 lo)) 7 (.int .i64 l)
  have s0 := gkeep (gkeep (gkeep (gkeep (r0) (gsetO (Y) g1 4 (.bool sx)) (by omega)) (gsetO ((Y).setCell ⟨g1, 4, none⟩ (.bool sx)) g1 5 (.int .u64 hi)) (by omega)) (gsetO (((Y).setCell ⟨g1, 4, none⟩ (.bool sx)).setCell ⟨g1, 5, none⟩ (.int .u64 hi)) g1 6 (.int .u64 lo)) (by omega)) (gsetO ((((Y).setCell ⟨g1, 4, none⟩ (.bool sx)).setCell ⟨g1, 5, none⟩ (.int .u64 hi)).setCell ⟨g1, 6, none⟩ (.int .u64 lo)) g1 7 (.int .i64 l)) (by omega)
  have sB : Below w.heap.size w (((((Y).setCell ⟨g1, 4, none⟩ (.bool sx)).setCell ⟨g1, 5, none⟩ (.int .u64 hi)).setCell ⟨g1, 6, none⟩ (.int .u64 lo)).setCell ⟨g1, 7, none⟩ (.int .i64 l)) := bset (bset (bset (bset (hB) (by omega)) (by omega)) (by omega)) (by omega)
  generalize ((((Y).setCell ⟨g1, 4, none⟩ (.bool sx)).setCell ⟨g1, 5, none⟩ (.int .u64 hi)).setCell ⟨g1, 6, none⟩ (.int .u64 lo)).setCell ⟨g1, 7, none⟩ (.int .i64 l) = V at *
  simp only [List.set_cons_succ, List.set_cons_zero] at s1
  clear r0 r1 hB
  clear y0 y1 y2 y3 y4 y5 y6 y7 y8 y9 y10 y11 yf hly z0 z1 z2 z3 z4 z5 z6 z7 z8 z9 z10 z11 zf hlz
  have r0 := s0
  have r1 := s1
  have hB := sB
  clear s0 s1 sB
  obtain ⟨⟨y0, y1, y2, y3, y4, y5⟩, ⟨y6, y7, y8, y9, y10, y11⟩, yf, hly⟩ := cells12' r0
  obtain ⟨⟨z0, z1, z2, z3, z4, z5⟩, ⟨z6, z7, z8, z9, z10, z11⟩, zf, hlz⟩ := cells12' r1
  go_wp2_with fail
  go_at_call 50; refine (cP _).mono ?_; rintro e w1 ⟨rfl, hbq⟩
  replace r0 := RowAt.below r0 hbq
  replace r1 := RowAt.below r1 hbq
  replace hB := below2 hB hbq
  clear y0 y1 y2 y3 y4 y5 y6 y7 y8 y9 y10 y11 yf hly z0 z1 z2 z3 z4 z5 z6 z7 z8 z9 z10 z11 zf hlz hbq
  obtain ⟨⟨y0, y1, y2, y3, y4, y5⟩, ⟨y6, y7, y8, y9, y10, y11⟩, yf, hly⟩ := cells12' r0
  obtain ⟨⟨z0, z1, z2, z3, z4, z5⟩, ⟨z6, z7, z8, z9, z10, z11⟩, zf, hlz⟩ := cells12' r1
  cases B1 <;> cases B3
  all_goals
    go_wp2_with fail
    go_ret
    exact ⟨rfl, hB⟩
set_option maxRecDepth 20000 in
set_option maxHeartbeats 4000000 in
theorem rck_6 (a b c hi lo l ak ai i p : Int) (sx : Bool) (w : World) (B3 : Bool) (q0 : decide (a < 0) = false) (q1 : decide (1048576 < a) = false) (q2 : decide (b < 1) = false) (q3 : decide (1099511627776 < b) = false) (q4 : decide (c < 0) = false) (q5 : decide (1099511627776 < c) = false) (hq : ∀ W : World, (binOp .neq 36 (.agg #[.int .u8 6, .int .i64 a, .int .u64 b, .int .i64 c, .bool false, .int .u64 0, .int .u64 0, .int .i64 0, .int .u8 0, .int .i64 0, .int .i64 i, .int .i64 0]) (.agg #[.int .u8 6, .int .i64 a, .int .u64 b, .int .i64 c, .bool sx, .int .u64 hi, .int .u64 lo, .int .i64 l, .int .u8 ak, .int .i64 ai, .int .i64 i, .int .i64 p])).run Tryz.prog W = .ok (.bool (!B3)) W) :
    Calls Tryz.prog 25 #[.agg #[.int .u8 6, .int .i64 a, .int .u64 b, .int .i64 c, .bool sx, .int .u64 hi, .int .u64 lo, .int .i64 l, .int .u8 ak, .int .i64 ai, .int .i64 i, .int .i64 p]] w fun e w' => e = .returned (.int .i64 (if (decide (0 ≤ i) && decide (i ≤ 65536)) && B3 then 0 else 2)) ∧ Below w.heap.size w w' := by
  have hgd := ev_guard
  obtain ⟨R, HR⟩ : ∃ R : Int, Hid (R = (if (decide (0 ≤ i) && decide (i ≤ 65536)) && B3 then 0 else 2)) := ⟨_, rfl⟩
  rw [← HR.out]
  obtain ⟨X, hX⟩ : ∃ X, X = w.alloc (.cells #[.int .u8 6, .int .i64 a, .int .u64 b, .int .i64 c, .bool sx, .int .u64 hi, .int .u64 lo, .int .i64 l, .int .u8 ak, .int .i64 ai, .int .i64 i, .int .i64 p] 36) := ⟨_, rfl⟩
  have hB : Below w.heap.size w X := by rw [hX]; exact below_new (Below.refl _ _) _
  have r0 : RowAt X w.heap.size [.int .u8 6, .int .i64 a, .int .u64 b, .int .i64 c, .bool sx, .int .u64 hi, .int .u64 lo, .int .i64 l, .int .u8 ak, .int .i64 ai, .int .i64 i, .int .i64 p] 36 := by rw [hX]; exact RowAt.new _ _ _
  go_enter Tryz.func25, Tryz.ntmps25
  go_upto_region 1 with fail
  rw [← hX]
  clear hX
  obtain ⟨g0, hg0⟩ : ∃ g, g = w.heap.size := ⟨_, rfl⟩
  have hgw : w.heap.size ≤ g0 := by omega
  rw [← hg0] at r0 ⊢
  clear hg0
  obtain ⟨⟨y0, y1, y2, y3, y4, y5⟩, ⟨y6, y7, y8, y9, y10, y11⟩, yf, hly⟩ := cells12' r0
  go_upto_region 3 with fail
  go_upto_region 4 with fail
  obtain ⟨Y, hY⟩ : ∃ Y, Y = X.alloc (.cells #[.int .u8 6, .int .i64 a, .int .u64 b, .int .i64 c, .bool false, .int .u64 0, .int .u64 0, .int .i64 0, .int .u8 0, .int .i64 0, .int .i64 0, .int .i64 0] 36) := ⟨_, rfl⟩
  have hbY : Below X.heap.size X Y := by rw [hY]; exact below_new (Below.refl _ _) _
  have r1 : RowAt Y X.heap.size [.int .u8 6, .int .i64 a, .int .u64 b, .int .i64 c, .bool false, .int .u64 0, .int .u64 0, .int .i64 0, .int .u8 0, .int .i64 0, .int .i64 0, .int .i64 0] 36 := by rw [hY]; exact RowAt.new _ _ _
  rw [← hY]
  replace r0 := RowAt.below r0 hbY
  replace hB := below2 hB hbY
  obtain ⟨g1, hg1⟩ : ∃ g, g = X.heap.size := ⟨_, rfl⟩
  have hgl : g0 < g1 := by omega
  rw [← hg1] at r1 ⊢
  clear hg1 hY hbY y0 y1 y2 y3 y4 y5 y6 y7 y8 y9 y10 y11 yf hly q0 q1 q2 q3 q4 q5
  obtain ⟨⟨y0, y1, y2, y3, y4, y5⟩, ⟨y6, y7, y8, y9, y10, y11⟩, yf, hly⟩ := cells12' r0
  obtain ⟨⟨z0, z1, z2, z3, z4, z5⟩, ⟨z6, z7, z8, z9, z10, z11⟩, zf, hlz⟩ := cells12' r1
  go_upto_region 20 with fail
  have s1 := set1 (r1) 10 (.int .i64 i)
  have s0 := gkeep (r0) (gsetO (Y) g1 10 (.int .i64 i)) (by omega)
  have sB : Below w.heap.size w ((Y).setCell ⟨g1, 10, none⟩ (.int .i64 i)) := bset (hB) (by omega)
  generalize (Y).setCell ⟨g1, 10, none⟩ (.int .i64 i) = V at *
  simp only [List.set_cons_succ, List.set_cons_zero] at s1
  clear r0 r1 hB
  clear y0 y1 y2 y3 y4 y5 y6 y7 y8 y9 y10 y11 yf hly z0 z1 z2 z3 z4 z5 z6 z7 z8 z9 z10 z11 zf hlz
  have r0 := s0
  have r1 := s1
  have hB := sB
  clear s0 s1 sB
  obtain ⟨⟨y0, y1, y2, y3, y4, y5⟩, ⟨y6, y7, y8, y9, y10, y11⟩, yf, hly⟩ := cells12' r0
  obtain ⟨⟨z0, z1, z2, z3, z4, z5⟩, ⟨z6, z7, z8, z9, z10, z11⟩, zf, hlz⟩ := cells12' r1
  cases q1 : decide (0 ≤ i) <;> cases q2 : decide (i ≤ 65536) <;> cases B3
  all_goals
    go_wp2_with fail
    go_ret
    exact ⟨by rw [HR.out]; simp [q1, q2], hB⟩
set_option maxRecDepth 20000 in
set_option maxHeartbeats 4000000 in
theorem rck_5 (a b c hi lo l ak ai i p : Int) (sx : Bool) (w : World) (B3 : Bool) (q0 : decide (a < 0) = false) (q1 : decide (1048576 < a) = false) (q2 : decide (b < 1) = false) (q3 : decide (1099511627776 < b) = false) (q4 : decide (c < 0) = false) (q5 : decide (1099511627776 < c) = false) (hq : ∀ W : World, (binOp .neq 36 (.agg #[.int .u8 5, .int .i64 a, .int .u64 b, .int .i64 c, .bool false, .int .u64 0, .int .u64 0, .int .i64 0, .int .u8 0, .int .i64 0, .int .i64 i, .int .i64 p]) (.agg #[.int .u8 5, .int .i64 a, .int .u64 b, .int .i64 c, .bool sx, .int .u64 hi, .int .u64 lo, .int .i64 l, .int .u8 ak, .int .i64 ai, .int .i64 i, .int .i64 p])).run Tryz.prog W = .ok (.bool (!B3)) W) :
    Calls Tryz.prog 25 #[.agg #[.int .u8 5, .int .i64 a, .int .u64 b, .int .i64 c, .bool sx, .int .u64 hi, .int .u64 lo, .int .i64 l, .int .u8 ak, .int .i64 ai, .int .i64 i, .int .i64 p]] w fun e w' => e = .returned (.int .i64 (if ((decide (0 ≤ i) && decide (i ≤ 65536)) && (decide (0 ≤ p) && decide (p ≤ 1048576))) && B3 then 0 else 2)) ∧ Below w.heap.size w w' := by
  have hgd := ev_guard
  obtain ⟨R, HR⟩ : ∃ R : Int, Hid (R = (if ((decide (0 ≤ i) && decide (i ≤ 65536)) && (decide (0 ≤ p) && decide (p ≤ 1048576))) && B3 then 0 else 2)) := ⟨_, rfl⟩
  rw [← HR.out]
  obtain ⟨X, hX⟩ : ∃ X, X = w.alloc (.cells #[.int .u8 5, .int .i64 a, .int .u64 b, .int .i64 c, .bool sx, .int .u64 hi, .int .u64 lo, .int .i64 l, .int .u8 ak, .int .i64 ai, .int .i64 i, .int .i64 p] 36) := ⟨_, rfl⟩
  have hB : Below w.heap.size w X := by rw [hX]; exact below_new (Below.refl _ _) _
  have r0 : RowAt X w.heap.size [.int .u8 5, .int .i64 a, .int .u64 b, .int .i64 c, .bool sx, .int .u64 hi, .int .u64 lo, .int .i64 l, .int .u8 ak, .int .i64 ai, .int .i64 i, .int .i64 p] 36 := by rw [hX]; exact RowAt.new _ _ _
  go_enter Tryz.func25, Tryz.ntmps25
  go_upto_region 1 with fail
  rw [← hX]
  clear hX
  obtain ⟨g0, hg0⟩ : ∃ g, g = w.heap.size := ⟨_, rfl⟩
  have hgw : w.heap.size ≤ g0 := by omega
  rw [← hg0] at r0 ⊢
  clear hg0
  obtain ⟨⟨y0, y1, y2, y3, y4, y5⟩, ⟨y6, y7, y8, y9, y10, y11⟩, yf, hly⟩ := cells12' r0
  go_upto_region 3 with fail
  go_upto_region 4 with fail
  obtain ⟨Y, hY⟩ : ∃ Y, Y = X.alloc (.cells #[.int .u8 5, .int .i64 a, .int .u64 b, .int .i64 c, .bool false, .int .u64 0, .int .u64 0, .int .i64 0, .int .u8 0, .int .i64 0, .int .i64 0, .int .i64 0] 36) := ⟨_, rfl⟩
  have hbY : Below X.heap.size X Y := by rw [hY]; exact below_new (Below.refl _ _) _
  have r1 : RowAt Y X.heap.size [.int .u8 5, .int .i64 a, .int .u64 b, .int .i64 c, .bool false, .int .u64 0, .int .u64 0, .int .i64 0, .int .u8 0, .int .i64 0, .int .i64 0, .int .i64 0] 36 := by rw [hY]; exact RowAt.new _ _ _
  rw [← hY]
  replace r0 := RowAt.below r0 hbY
  replace hB := below2 hB hbY
  obtain ⟨g1, hg1⟩ : ∃ g, g = X.heap.size := ⟨_, rfl⟩
  have hgl : g0 < g1 := by omega
  rw [← hg1] at r1 ⊢
  clear hg1 hY hbY y0 y1 y2 y3 y4 y5 y6 y7 y8 y9 y10 y11 yf hly q0 q1 q2 q3 q4 q5
  obtain ⟨⟨y0, y1, y2, y3, y4, y5⟩, ⟨y6, y7, y8, y9, y10, y11⟩, yf, hly⟩ := cells12' r0
  obtain ⟨⟨z0, z1, z2, z3, z4, z5⟩, ⟨z6, z7, z8, z9, z10, z11⟩, zf, hlz⟩ := cells12' r1
  go_upto_region 16 with fail
  go_cut [4] (fun v wc => v = .bool true ∧ RowAt wc g0 [.int .u8 5, .int .i64 a, .int .u64 b, .int .i64 c, .bool sx, .int .u64 hi, .int .u64 lo, .int .i64 l, .int .u8 ak, .int .i64 ai, .int .i64 i, .int .i64 p] 36 ∧ RowAt wc g1 [.int .u8 5, .int .i64 a, .int .u64 b, .int .i64 c, .bool false, .int .u64 0, .int .u64 0, .int .i64 0, .int .u8 0, .int .i64 0, .int .i64 i, .int .i64 p] 36 ∧ Below w.heap.size w wc)
  case first =>
    go_region
    all_goals go_wp2_with fail
    all_goals go_meet
    all_goals
      refine ⟨rfl, ?_, ?_, ?_⟩
      · exact RowAt.drew (gkeep (gkeep (r0) (gsetO _ g1 10 (.int .i64 i)) (by omega)) (gsetO _ g1 11 (.int .i64 p)) (by omega))
      · have s1 := set1 (set1 (r1) 10 (.int .i64 i)) 11 (.int .i64 p)
        simp only [List.set_cons_succ, List.set_cons_zero] at s1
        exact RowAt.drew s1
      · exact below_drew (bset (bset (hB) (by omega)) (by omega))
  case rest =>
  obtain ⟨rfl, r0, r1, hB⟩ := hcut
  clear y0 y1 y2 y3 y4 y5 y6 y7 y8 y9 y10 y11 yf hly z0 z1 z2 z3 z4 z5 z6 z7 z8 z9 z10 z11 zf hlz
  obtain ⟨⟨y0, y1, y2, y3, y4, y5⟩, ⟨y6, y7, y8, y9, y10, y11⟩, yf, hly⟩ := cells12' r0
  obtain ⟨⟨z0, z1, z2, z3, z4, z5⟩, ⟨z6, z7, z8, z9, z10, z11⟩, zf, hlz⟩ := cells12' r1
  cases q1 : decide (0 ≤ i) <;> cases q2 : decide (i ≤ 65536) <;> cases q3 : decide (0 ≤ p) <;> cases q4 : decide (p ≤ 1048576) <;> cases B3
  all_goals
    go_wp2_with fail
    go_ret
    exact ⟨by rw [HR.out]; simp [q1, q2, q3, q4], hB⟩
set_option maxRecDepth 20000 in
set_option maxHeartbeats 4000000 in
theorem rck_3 (a b c hi lo l ak ai i p : Int) (sx : Bool) (w : World) (B1 B2 B3 : Bool) (q0 : decide (a < 0) = false) (q1 : decide (1048576 < a) = false) (q2 : decide (b < 1) = false) (q3 : decide (1099511627776 < b) = false) (q4 : decide (c < 0) = false) (q5 : decide (1099511627776 < c) = false) (cP : ∀ W : World, Calls Tryz.prog 50 #[.agg #[.bool sx, .int .u64 hi, .int .u64 lo, .int .i64 l]] W fun e w' => e = .returned (.int .i64 (if B1 then 0 else 2)) ∧ Below W.heap.size W w') (cA : ∀ W : World, Calls Tryz.prog 51 #[.agg #[.int .u8 ak, .int .i64 ai]] W fun e w' => e = .returned (.bool B2) ∧ Below W.heap.size W w') (hq : ∀ W : World, (binOp .neq 36 (.agg #[.int .u8 3, .int .i64 a, .int .u64 b, .int .i64 c, .bool sx, .int .u64 hi, .int .u64 lo, .int .i64 l, .int .u8 ak, .int .i64 ai, .int .i64 0, .int .i64 0]) (.agg #[.int .u8 3, .int .i64 a, .int .u64 b, .int .i64 c, .bool sx, .int .u64 hi, .int .u64 lo, .int .i64 l, .int .u8 ak, .int .i64 ai, .int .i64 i, .int .i64 p])).run Tryz.prog W = .ok (.bool (!B3)) W) :
    Calls Tryz.prog 25 #[.agg #[.int .u8 3, .int .i64 a, .int .u64 b, .int .i64 c, .bool sx, .int .u64 hi, .int .u64 lo, .int .i64 l, .int .u8 ak, .int .i64 ai, .int .i64 i, .int .i64 p]] w fun e w' => e = .returned (.int .i64 (if B1 && B2 && B3 then 0 else 2)) ∧ Below w.heap.size w w' := by
  have hgd := ev_guard
  obtain ⟨X, hX⟩ : ∃ X, X = w.alloc (.cells #[.int .u8 3, .int .i64 a, .int .u64 b, .int .i64 c, .bool sx, .int .u64 hi, .int .u64 lo, .int .i64 l, .int .u8 ak, .int .i64 ai, .int .i64 i, .int .i64 p] 36) := ⟨_, rfl⟩
  have hB : Below w.heap.size w X := by rw [hX]; exact below_new (Below.refl _ _) _
  have r0 : RowAt X w.heap.size [.int .u8 3, .int .i64 a, .int .u64 b, .int .i64 c, .bool sx, .int .u64 hi, .int .u64 lo, .int .i64 l, .int .u8 ak, .int .i64 ai, .int .i64 i, .int .i64 p] 36 := by rw [hX]; exact RowAt.new _ _ _
  go_enter Tryz.func25, Tryz.ntmps25
  go_upto_region 1 with fail
  rw [← hX]
  clear hX
  obtain ⟨g0, hg0⟩ : ∃ g, g = w.heap.size := ⟨_, rfl⟩
  have hgw : w.heap.size ≤ g0 := by omega
  rw [← hg0] at r0 ⊢
  clear hg0
  obtain ⟨⟨y0, y1, y2, y3, y4, y5⟩, ⟨y6, y7, y8, y9, y10, y11⟩, yf, hly⟩ := cells12' r0
  go_upto_region 3 with fail
  go_upto_region 4 with fail
  obtain ⟨Y, hY⟩ : ∃ Y, Y = X.alloc (.cells #[.int .u8 3, .int .i64 a, .int .u64 b, .int .i64 c, .bool false, .int .u64 0, .int .u64 0, .int .i64 0, .int .u8 0, .int .i64 0, .int .i64 0, .int .i64 0] 36) := ⟨_, rfl⟩
  have hbY : Below X.heap.size X Y := by rw [hY]; exact below_new (Below.refl _ _) _
  have r1 : RowAt Y X.heap.size [.int .u8 3, .int .i64 a, .int .u64 b, .int .i64 c, .bool false, .int .u64 0, .int .u64 0, .int .i64 0, .int .u8 0, .int .i64 0, .int .i64 0, .int .i64 0] 36 := by rw [hY]; exact RowAt.new _ _ _
  rw [← hY]
  replace r0 := RowAt.below r0 hbY
  replace hB := below2 hB hbY
  obtain ⟨g1, hg1⟩ : ∃ g, g = X.heap.size := ⟨_, rfl⟩
  have hgl : g0 < g1 := by omega
  rw [← hg1] at r1 ⊢
  clear hg1 hY hbY y0 y1 y2 y3 y4 y5 y6 y7 y8 y9 y10 y11 yf hly q0 q1 q2 q3 q4 q5
  obtain ⟨⟨y0, y1, y2, y3, y4, y5⟩, ⟨y6, y7, y8, y9, y10, y11⟩, yf, hly⟩ := cells12' r0
  obtain ⟨⟨z0, z1, z2, z3, z4, z5⟩, ⟨z6, z7, z8, z9, z10, z11⟩, zf, hlz⟩ := cells12' r1
  go_upto_region 10 with fail
  go_cut [4] (fun v wc => v = .bool true ∧ RowAt wc g0 [.int .u8 3, .int .i64 a, .int .u64 b, .int .i64 c, .bool sx, .int .u64 hi, .int .u64 lo, .int .i64 l, .int .u8 ak, .int .i64 ai, .int .i64 i, .int .i64 p] 36 ∧ RowAt wc g1 [.int .u8 3, .int .i64 a, .int .u64 b, .int .i64 c, .bool sx, .int .u64 hi, .int .u64 lo, .int .i64 l, .int .u8 ak, .int .i64 ai, .int .i64 0, .int .i64 0] 36 ∧ Below w.heap.size w wc)
  case first =>
    go_region
    all_goals go_wp2_with fail
    all_goals go_meet
    all_goals
      refine ⟨rfl, ?_, ?_, ?_⟩
      · exact RowAt.drew (gkeep (gkeep (gkeep (gkeep (gkeep (gkeep (r0) (gsetO _ g1 4 (.bool sx)) (by omega)) (gsetO _ g1 5 (.int .u64 hi)) (by omega)) (gsetO _ g1 6 (.int .u64 lo)) (by omega)) (gsetO _ g1 7 (.int .i64 l)) (by omega)) (gsetO _ g1 8 (.int .u8 ak)) (by omega)) (gsetO _ g1 9 (.int .i64 ai)) (by omega))
      · have s1 := set1 (set1 (set1 (set1 (set1 (set1 (r1) 4 (.bool sx)) 5 (.int .u64 hi)) 6 (.int .u64 lo)) 7 (.int .i64 l)) 8 (.int .u8 ak)) 9 (.int .i64 ai)
        simp only [List.set_cons_succ, List.set_cons_zero] at s1
        exact RowAt.drew s1
      · exact below_drew (bset (bset (bset (bset (bset (bset (hB) (by omega)) (by omega)) (by omega)) (by omega)) (by omega)) (by omega))
  case rest =>
  obtain ⟨rfl, r0, r1, hB⟩ := hcut
  clear y0 y1 y2 y3 y4 y5 y6 y7 y8 y9 y10 y11 yf hly z0 z1 z2 z3 z4 z5 z6 z7 z8 z9 z10 z11 zf hlz
  obtain ⟨⟨y0, y1, y2, y3, y4, y5⟩, ⟨y6, y7, y8, y9, y10, y11⟩, yf, hly⟩ := cells12' r0
  obtain ⟨⟨z0, z1, z2, z3, z4, z5⟩, ⟨z6, z7, z8, z9, z10, z11⟩, zf, hlz⟩ := cells12' r1
  go_wp2_with fail
  go_at_call 50; refine (cP _).mono ?_; rintro e w1 ⟨rfl, hbq⟩
  replace r0 := RowAt.below r0 hbq
  replace r1 := RowAt.below r1 hbq
  replace hB := below2 hB hbq
  clear y0 y1 y2 y3 y4 y5 y6 y7 y8 y9 y10 y11 yf hly z0 z1 z2 z3 z4 z5 z6 z7 z8 z9 z10 z11 zf hlz hbq
  obtain ⟨⟨y0, y1, y2, y3, y4, y5⟩, ⟨y6, y7, y8, y9, y10, y11⟩, yf, hly⟩ := cells12' r0
  obtain ⟨⟨z0, z1, z2, z3, z4, z5⟩, ⟨z6, z7, z8, z9, z10, z11⟩, zf, hlz⟩ := cells12' r1
  cases B1
  · go_wp2_with fail
    go_ret
    exact ⟨rfl, hB⟩
  · go_wp2_with fail
    go_at_call 51; refine (cA _).mono ?_; rintro e w2 ⟨rfl, hbq⟩
    replace r0 := RowAt.below r0 hbq
    replace r1 := RowAt.below r1 hbq
    replace hB := below2 hB hbq
    clear y0 y1 y2 y3 y4 y5 y6 y7 y8 y9 y10 y11 yf hly z0 z1 z2 z3 z4 z5 z6 z7 z8 z9 z10 z11 zf hlz hbq
    obtain ⟨⟨y0, y1, y2, y3, y4, y5⟩, ⟨y6, y7, y8, y9, y10, y11⟩, yf, hly⟩ := cells12' r0
    obtain ⟨⟨z0, z1, z2, z3, z4, z5⟩, ⟨z6, z7, z8, z9, z10, z11⟩, zf, hlz⟩ := cells12' r1
    cases B2 <;> cases B3
    all_goals
      go_wp2_with fail
      go_ret
      exact ⟨rfl, hB⟩
end Go.Proofs.YtpooiehhepimkaaGreat.Msg
namespace Go.Proofs.YtpooiehhepimkaaGreat.Msg
open Go.RowKit
open Go.Proofs.YtpooiehhepimkaaGreat.Addr (Pf okP checkP wideN firstN kP hiN loN adV pfV)
theorem rcheckE_any (e : Ev) (w : World) (hf : FitE e) : Calls Tryz.prog 25 #[evV e] w fun r w' => r = .returned (.int .i64 (checkE e)) ∧ Below w.heap.size w w' := by
  have hq := fun W : World => ev_neq (wantE e) e W
  have cA := fun W : World => acts_any e.act W hf.act
  have cP := fun W : World => Addr.rcheck_any e.pf W hf.len hf.n
  have hcp : checkP e.pf = if okP e.pf = true then 0 else 2 := rfl
  rw [hcp] at cP
  rw [checkE_ref]
  obtain ⟨k, a, b, c, ⟨sx, n, l⟩, ⟨ak, ai⟩, i, p⟩ := e
  clear hcp
  unfold Addr.pfV at cP
  unfold acV at cA
  unfold evV evC at hq ⊢
  simp only at *
  by_cases h0 : a < 0
  · have hr : rangeB ⟨k, a, b, c, ⟨sx, n, l⟩, ⟨ak, ai⟩, i, p⟩ = false := by
      unfold rangeB
      simp only [Bool.and_eq_false_iff, decide_eq_false_iff_not]
      omega
    rw [hr]
    exact rck_r0 k a b c (hiN n) (loN n) l ak ai i p sx w  (decide_eq_true h0)
  by_cases h1 : 1048576 < a
  · have hr : rangeB ⟨k, a, b, c, ⟨sx, n, l⟩, ⟨ak, ai⟩, i, p⟩ = false := by
      unfold rangeB
      simp only [Bool.and_eq_false_iff, decide_eq_false_iff_not]
      omega
    rw [hr]
    exact rck_r1 k a b c (hiN n) (loN n) l ak ai i p sx w (decide_eq_false h0) (decide_eq_true h1)
  by_cases h2 : (b : Int) < 1
  · have hr : rangeB ⟨k, a, b, c, ⟨sx, n, l⟩, ⟨ak, ai⟩, i, p⟩ = false := by
      unfold rangeB
      simp only [Bool.and_eq_false_iff, decide_eq_false_iff_not]
      omega
    rw [hr]
    exact rck_r2 k a b c (hiN n) (loN n) l ak ai i p sx w (decide_eq_false h0) (decide_eq_false h1) (decide_eq_true h2)
  by_cases h3 : 1099511627776 < (b : Int)
  · have hr : rangeB ⟨k, a, b, c, ⟨sx, n, l⟩, ⟨ak, ai⟩, i, p⟩ = false := by
      unfold rangeB
      simp only [Bool.and_eq_false_iff, decide_eq_false_iff_not]
      omega
    rw [hr]
    exact rck_r3 k a b c (hiN n) (loN n) l ak ai i p sx w (decide_eq_false h0) (decide_eq_false h1) (decide_eq_false h2) (decide_eq_true h3)
  by_cases h4 : c < 0
  · have hr : rangeB ⟨k, a, b, c, ⟨sx, n, l⟩, ⟨ak, ai⟩, i, p⟩ = false := by
      unfold rangeB
      simp only [Bool.and_eq_false_iff, decide_eq_false_iff_not]
      omega
    rw [hr]
    exact rck_r4 k a b c (hiN n) (loN n) l ak ai i p sx w (decide_eq_false h0) (decide_eq_false h1) (decide_eq_false h2) (decide_eq_false h3) (decide_eq_true h4)
  by_cases h5 : 1099511627776 < c
  · have hr : rangeB ⟨k, a, b, c, ⟨sx, n, l⟩, ⟨ak, ai⟩, i, p⟩ = false := by
      unfold rangeB
      simp only [Bool.and_eq_false_iff, decide_eq_false_iff_not]
      omega
    rw [hr]
    exact rck_r5 k a b c (hiN n) (loN n) l ak ai i p sx w (decide_eq_false h0) (decide_eq_false h1) (decide_eq_false h2) (decide_eq_false h3) (decide_eq_false h4) (decide_eq_true h5)
  have hr : rangeB ⟨k, a, b, c, ⟨sx, n, l⟩, ⟨ak, ai⟩, i, p⟩ = true := by
    unfold rangeB
    simp only [Bool.and_eq_true, decide_eq_true_eq]
    omega
  rw [hr, Bool.true_and]
  replace h0 := decide_eq_false h0
  replace h1 := decide_eq_false h1
  replace h2 := decide_eq_false h2
  replace h3 := decide_eq_false h3
  replace h4 := decide_eq_false h4
  replace h5 := decide_eq_false h5
  have z0 := hi0
  have z1 := lo0
  generalize eqE (wantE ⟨k, a, b, c, ⟨sx, n, l⟩, ⟨ak, ai⟩, i, p⟩) ⟨k, a, b, c, ⟨sx, n, l⟩, ⟨ak, ai⟩, i, p⟩ = B3 at *
  by_cases k1 : k = 1
  · subst k1
    have hk : kindB ⟨1, a, b, c, ⟨sx, n, l⟩, ⟨ak, ai⟩, i, p⟩ = true := by unfold kindB; simp
    rw [hk]
    rw [Bool.true_and]
    refine rck_1 a b c (hiN n) (loN n) l ak ai i p sx w B3 h0 h1 h2 h3 h4 h5  ?_
    intro W
    have := hq W
    unfold wantE at this
    simp [zeroPf, zeroA, z0, z1] at this
    exact this
  by_cases k2 : k = 2
  · subst k2
    have hk : kindB ⟨2, a, b, c, ⟨sx, n, l⟩, ⟨ak, ai⟩, i, p⟩ = true := by unfold kindB; simp
    rw [hk]
    rw [Bool.true_and]
    refine rck_2 a b c (hiN n) (loN n) l ak ai i p sx w B3 h0 h1 h2 h3 h4 h5  ?_
    intro W
    have := hq W
    unfold wantE at this
    simp [zeroPf, zeroA, z0, z1] at this
    exact this
  by_cases k3 : k = 3
  · subst k3
    have hk : kindB ⟨3, a, b, c, ⟨sx, n, l⟩, ⟨ak, ai⟩, i, p⟩ = (okP ⟨sx, n, l⟩ && okA ⟨ak, ai⟩) := by unfold kindB; simp
    rw [hk]
    skip
    refine rck_3 a b c (hiN n) (loN n) l ak ai i p sx w _ _ B3 h0 h1 h2 h3 h4 h5 cP cA ?_
    intro W
    have := hq W
    unfold wantE at this
    simp at this
    exact this
  by_cases k4 : k = 4
  · subst k4
    have hk : kindB ⟨4, a, b, c, ⟨sx, n, l⟩, ⟨ak, ai⟩, i, p⟩ = okP ⟨sx, n, l⟩ := by unfold kindB; simp
    rw [hk]
    skip
    refine rck_4 a b c (hiN n) (loN n) l ak ai i p sx w _ B3 h0 h1 h2 h3 h4 h5 cP ?_
    intro W
    have := hq W
    unfold wantE at this
    simp [zeroA] at this
    exact this
  by_cases k5 : k = 5
  · subst k5
    have hk : kindB ⟨5, a, b, c, ⟨sx, n, l⟩, ⟨ak, ai⟩, i, p⟩ = ((decide (0 ≤ i) && decide (i ≤ 65536)) && (decide (0 ≤ p) && decide (p ≤ 1048576))) := by unfold kindB; simp
    rw [hk]
    skip
    refine rck_5 a b c (hiN n) (loN n) l ak ai i p sx w B3 h0 h1 h2 h3 h4 h5  ?_
    intro W
    have := hq W
    unfold wantE at this
    simp [zeroPf, zeroA, z0, z1] at this
    exact this
  by_cases k6 : k = 6
  · subst k6
    have hk : kindB ⟨6, a, b, c, ⟨sx, n, l⟩, ⟨ak, ai⟩, i, p⟩ = (decide (0 ≤ i) && decide (i ≤ 65536)) := by unfold kindB; simp
    rw [hk]
    skip
    refine rck_6 a b c (hiN n) (loN n) l ak ai i p sx w B3 h0 h1 h2 h3 h4 h5  ?_
    intro W
    have := hq W
    unfold wantE at this
    simp [zeroPf, zeroA, z0, z1] at this
    exact this
  have hk : kindB ⟨k, a, b, c, ⟨sx, n, l⟩, ⟨ak, ai⟩, i, p⟩ = false := by unfold kindB; simp [k1, k2, k3, k4, k5, k6]
  rw [hk]
  exact rck_o k a b c (hiN n) (loN n) l ak ai i p sx w h0 h1 h2 h3 h4 h5 (beq_eq_false_iff_ne.2 (by omega)) (beq_eq_false_iff_ne.2 (by omega)) (beq_eq_false_iff_ne.2 (by omega)) (beq_eq_false_iff_ne.2 (by omega)) (beq_eq_false_iff_ne.2 (by omega)) (beq_eq_false_iff_ne.2 (by omega))
end Go.Proofs.YtpooiehhepimkaaGreat.Msg
