/- Routers that come in, with the sizes that the row's own reach gives. -/
import Derived.Test.YtpooiehhepimkaaGreatFibGZ
import Derived.SizedLaws
set_option linter.unusedVariables false
namespace Go.Proofs.YtpooiehhepimkaaGreat.Fib
open Go.RowKit
open Go.Proofs.YtpooiehhepimkaaGreat.Addr (Pf hiN loN rightB RowAt below2 below_drew below_new RowAt.lt RowAt.cell RowAt.frozen RowAt.below RowAt.drew RowAt.new RowAt.alloc RowAt.set1 RowAt.far1 cells4 cells2 gset grefl bset gbelow gdrew RowAt.gkeep results_cell)
open Go.Proofs.YtpooiehhepimkaaGreat.Msg (Ev Ac okE FitE evV evC checkE FitA)
open Go.Proofs.YtpooiehhepimkaaGreat.Lk (Lk HasLks HasLks.keep FitL peerL)
open Go.Proofs.YtpooiehhepimkaaGreat.Tr (Rt HasRts HasRts.keep FitR longT rtA)
def BoolIs (b : Bool) (w : World) (e : Ending) (w' : World) : Prop := e = .returned (.bool b) ∧ Below w.heap.size w w'
def RoAt (id : Int) (up : Bool) (rts : List Rt) (lks : List Lk) (why : Int) (w : World) (e : Ending) (w' : World) : Prop :=
  ∃ o2 n2 m2 o3 n3 m3, e = .returned (.tuple #[.agg #[.int .i64 id, .bool up, .slice o2 n2 m2, .slice o3 n3 m3], .int .i64 why]) ∧ HasRts w' (.slice o2 n2 m2) rts ∧ HasLks w' (.slice o3 n3 m3) lks ∧ Below w.heap.size w w'
def R1 : Ro := ⟨4, false, [], []⟩
def R2 : Ro := ⟨4, true, [], []⟩
def R3 : Ro := ⟨4, true, [⟨⟨false, 167772160, 8⟩, ⟨1, 3⟩⟩], []⟩
def R4 : Ro := ⟨4, true, [⟨⟨false, 167772160, 8⟩, ⟨1, 3⟩⟩], [⟨3, 7⟩]⟩
def e5 : Ev := ⟨5, 4, 1, 0, ⟨false, 0, 0⟩, ⟨0, 0⟩, 3, 7⟩
def e1 : Ev := ⟨1, 4, 1, 0, ⟨false, 0, 0⟩, ⟨0, 0⟩, 0, 0⟩
def e3 : Ev := ⟨3, 4, 1, 0, ⟨false, 167772160, 8⟩, ⟨1, 3⟩, 0, 0⟩
def e2 : Ev := ⟨2, 5, 1, 0, ⟨false, 0, 0⟩, ⟨0, 0⟩, 0, 0⟩
def e2b : Ev := ⟨2, 4, 1, 0, ⟨false, 0, 0⟩, ⟨0, 0⟩, 0, 0⟩
def fitB (e : Ev) : Bool := decide ((e.kind : Int) ≤ 255) && decide (-9223372036854775808 ≤ e.router) && decide (e.router ≤ 9223372036854775807) && decide ((e.seq : Int) ≤ 18446744073709551615) && decide (-9223372036854775808 ≤ e.time) && decide (e.time ≤ 9223372036854775807) && decide (-9223372036854775808 ≤ e.pf.len) && decide (e.pf.len ≤ 9223372036854775807) && decide (e.pf.n < 2 ^ 128) && decide ((e.act.k : Int) ≤ 255) && decide (-9223372036854775808 ≤ e.act.i) && decide (e.act.i ≤ 9223372036854775807) && decide (-9223372036854775808 ≤ e.iface) && decide (e.iface ≤ 9223372036854775807) && decide (-9223372036854775808 ≤ e.peer) && decide (e.peer ≤ 9223372036854775807)
theorem fit_of {e : Ev} (h : fitB e = true) : FitE e := by
  unfold fitB at h
  simp only [Bool.and_eq_true, decide_eq_true_eq] at h
  obtain ⟨⟨⟨⟨⟨⟨⟨⟨⟨⟨⟨⟨⟨⟨⟨a, b⟩, c⟩, d⟩, e⟩, f⟩, g⟩, i⟩, j⟩, k⟩, l⟩, m⟩, n⟩, o⟩, p⟩, q⟩ := h
  exact ⟨a, ⟨b, c⟩, d, ⟨e, f⟩, ⟨g, i⟩, j, ⟨k, l, m⟩, ⟨n, o⟩, ⟨p, q⟩⟩
theorem fit1 : FitRo R1 := ⟨by decide, (by intro x h; cases h), (by intro x h; cases h)⟩
theorem fit2 : FitRo R2 := ⟨by decide, (by intro x h; cases h), (by intro x h; cases h)⟩
theorem fitRt : FitR ⟨⟨false, 167772160, 8⟩, ⟨1, 3⟩⟩ := ⟨⟨by decide, by decide⟩, by decide, by decide, by decide⟩
theorem fit3 : FitRo R3 := ⟨by decide, by intro x h; rcases List.mem_singleton.1 h with rfl; exact fitRt, (by intro x h; cases h)⟩
theorem fit4 : FitRo R4 := ⟨by decide, by intro x h; rcases List.mem_singleton.1 h with rfl; exact fitRt, by intro x h; rcases List.mem_singleton.1 h with rfl; exact ⟨by decide, by decide⟩⟩
theorem z4v : evV e5 = .agg #[.int .u8 5, .int .i64 4, .int .u64 1, .int .i64 0, .bool false, .int .u64 0, .int .u64 0, .int .i64 0, .int .u8 0, .int .i64 0, .int .i64 3, .int .i64 7] := by unfold evV evC e5; rfl
theorem ap1 (W : World) (a b : Value) (ha : HasRts W a R1.rts) (hb : HasLks W b R1.lks) : Calls Tryz.prog 6 #[.agg #[.int .i64 4, .bool false, a, b], .agg #[.int .u8 5, .int .i64 4, .int .u64 1, .int .i64 0, .bool false, .int .u64 0, .int .u64 0, .int .i64 0, .int .u8 0, .int .i64 0, .int .i64 3, .int .i64 7]] W (RoAt 4 false R1.rts R1.lks 10 W) := by
  have h := apply_any R1 e5 a b W ha hb fit1 (fit_of (by decide))
  rw [show applyRo R1 e5 = (R1, 10) by kernel_rfl] at h
  rw [show evV e5 = .agg #[.int .u8 5, .int .i64 4, .int .u64 1, .int .i64 0, .bool false, .int .u64 0, .int .u64 0, .int .i64 0, .int .u8 0, .int .i64 0, .int .i64 3, .int .i64 7] by unfold evV evC e5; rfl] at h
  exact h
theorem ap2 (W : World) (a b : Value) (ha : HasRts W a R1.rts) (hb : HasLks W b R1.lks) : Calls Tryz.prog 6 #[.agg #[.int .i64 4, .bool false, a, b], .agg #[.int .u8 1, .int .i64 4, .int .u64 1, .int .i64 0, .bool false, .int .u64 0, .int .u64 0, .int .i64 0, .int .u8 0, .int .i64 0, .int .i64 0, .int .i64 0]] W (RoAt 4 true R2.rts R2.lks 0 W) := by
  have h := apply_any R1 e1 a b W ha hb fit1 (fit_of (by decide))
  rw [show applyRo R1 e1 = (R2, 0) by kernel_rfl] at h
  rw [show evV e1 = .agg #[.int .u8 1, .int .i64 4, .int .u64 1, .int .i64 0, .bool false, .int .u64 0, .int .u64 0, .int .i64 0, .int .u8 0, .int .i64 0, .int .i64 0, .int .i64 0] by unfold evV evC e1; rfl] at h
  exact h
theorem ap3 (W : World) (a b : Value) (ha : HasRts W a R2.rts) (hb : HasLks W b R2.lks) : Calls Tryz.prog 6 #[.agg #[.int .i64 4, .bool true, a, b], .agg #[.int .u8 3, .int .i64 4, .int .u64 1, .int .i64 0, .bool false, .int .u64 0, .int .u64 167772160, .int .i64 8, .int .u8 1, .int .i64 3, .int .i64 0, .int .i64 0]] W (RoAt 4 true R3.rts R3.lks 0 W) := by
  have h := apply_any R2 e3 a b W ha hb fit2 (fit_of (by decide))
  rw [show applyRo R2 e3 = (R3, 0) by kernel_rfl] at h
  rw [show evV e3 = .agg #[.int .u8 3, .int .i64 4, .int .u64 1, .int .i64 0, .bool false, .int .u64 0, .int .u64 167772160, .int .i64 8, .int .u8 1, .int .i64 3, .int .i64 0, .int .i64 0] by unfold evV evC e3; rfl] at h
  exact h
theorem ap4 (W : World) (a b : Value) (ha : HasRts W a R3.rts) (hb : HasLks W b R3.lks) : Calls Tryz.prog 6 #[.agg #[.int .i64 4, .bool true, a, b], .agg #[.int .u8 5, .int .i64 4, .int .u64 1, .int .i64 0, .bool false, .int .u64 0, .int .u64 0, .int .i64 0, .int .u8 0, .int .i64 0, .int .i64 3, .int .i64 7]] W (RoAt 4 true R4.rts R4.lks 0 W) := by
  have h := apply_any R3 e5 a b W ha hb fit3 (fit_of (by decide))
  rw [show applyRo R3 e5 = (R4, 0) by kernel_rfl] at h
  rw [show evV e5 = .agg #[.int .u8 5, .int .i64 4, .int .u64 1, .int .i64 0, .bool false, .int .u64 0, .int .u64 0, .int .i64 0, .int .u8 0, .int .i64 0, .int .i64 3, .int .i64 7] by unfold evV evC e5; rfl] at h
  exact h
theorem ap5 (W : World) (a b : Value) (ha : HasRts W a R4.rts) (hb : HasLks W b R4.lks) : Calls Tryz.prog 6 #[.agg #[.int .i64 4, .bool true, a, b], .agg #[.int .u8 2, .int .i64 5, .int .u64 1, .int .i64 0, .bool false, .int .u64 0, .int .u64 0, .int .i64 0, .int .u8 0, .int .i64 0, .int .i64 0, .int .i64 0]] W (RoAt 4 true R4.rts R4.lks 14 W) := by
  have h := apply_any R4 e2 a b W ha hb fit4 (fit_of (by decide))
  rw [show applyRo R4 e2 = (R4, 14) by kernel_rfl] at h
  rw [show evV e2 = .agg #[.int .u8 2, .int .i64 5, .int .u64 1, .int .i64 0, .bool false, .int .u64 0, .int .u64 0, .int .i64 0, .int .u8 0, .int .i64 0, .int .i64 0, .int .i64 0] by unfold evV evC e2; rfl] at h
  exact h
theorem ap6 (W : World) (a b : Value) (ha : HasRts W a R4.rts) (hb : HasLks W b R4.lks) : Calls Tryz.prog 6 #[.agg #[.int .i64 4, .bool true, a, b], .agg #[.int .u8 2, .int .i64 4, .int .u64 1, .int .i64 0, .bool false, .int .u64 0, .int .u64 0, .int .i64 0, .int .u8 0, .int .i64 0, .int .i64 0, .int .i64 0]] W (RoAt 4 false R1.rts R1.lks 0 W) := by
  have h := apply_any R4 e2b a b W ha hb fit4 (fit_of (by decide))
  rw [show applyRo R4 e2b = (R1, 0) by kernel_rfl] at h
  rw [show evV e2b = .agg #[.int .u8 2, .int .i64 4, .int .u64 1, .int .i64 0, .bool false, .int .u64 0, .int .u64 0, .int .i64 0, .int .u8 0, .int .i64 0, .int .i64 0, .int .i64 0] by unfold evV evC e2b; rfl] at h
  exact h
theorem hp1 (W : World) (a b : Value) (ha : HasRts W a R3.rts) (hb : HasLks W b R3.lks) : Calls Tryz.prog 32 #[.agg #[.int .i64 4, .bool true, a, b], .bool false, .agg #[.int .u64 0, .int .u64 167772417]] W fun e w' => e = .returned (.tuple #[.agg #[.int .u8 0, .int .i64 0], .int .i64 0]) ∧ Below W.heap.size W w' := by
  have h := hop_any R3 false 167772417 a b W ha hb fit3 (by decide)
  rw [show hopRo R3 false 167772417 = ((0, 0), 0) by kernel_rfl, show hiN 167772417 = 0 by decide, show loN 167772417 = 167772417 by decide] at h
  exact h
theorem hp2 (W : World) (a b : Value) (ha : HasRts W a R4.rts) (hb : HasLks W b R4.lks) : Calls Tryz.prog 32 #[.agg #[.int .i64 4, .bool true, a, b], .bool false, .agg #[.int .u64 0, .int .u64 167772417]] W fun e w' => e = .returned (.tuple #[.agg #[.int .u8 1, .int .i64 7], .int .i64 0]) ∧ Below W.heap.size W w' := by
  have h := hop_any R4 false 167772417 a b W ha hb fit4 (by decide)
  rw [show hopRo R4 false 167772417 = ((1, 7), 0) by kernel_rfl, show hiN 167772417 = 0 by decide, show loN 167772417 = 167772417 by decide] at h
  exact h
theorem mk4 (W : World) : Calls Tryz.prog 8 #[.int .i64 4] W (RoAt 4 false R1.rts R1.lks 0 W) := by
  have h := make_any 4 W
  rw [show makeRo 4 = (R1, 0) by kernel_rfl] at h
  exact h
theorem sz4 (W : World) (a b : Value) (ha : HasRts W a R4.rts) (hb : HasLks W b R4.lks) : Calls Tryz.prog 10 #[.agg #[.int .i64 4, .bool true, a, b]] W fun e w' => e = .returned (.tuple #[.int .i64 2, .int .i64 0]) ∧ Below W.heap.size W w' := by
  have h := size_fn R4 a b W ha hb fit4
  rw [show sizeRo R4 = (2, 0) by kernel_rfl] at h
  exact h
theorem ck4 (W : World) (a b : Value) (ha : HasRts W a R4.rts) (hb : HasLks W b R4.lks) : Calls Tryz.prog 13 #[.agg #[.int .i64 4, .bool true, a, b]] W fun e w' => e = .returned (.int .i64 0) ∧ Below W.heap.size W w' := by
  have h := check_any R4 a b W ha hb fit4.rts
  rw [show checkRo R4 = 0 by kernel_rfl] at h
  exact h
set_option maxHeartbeats 8000000 in
set_option maxRecDepth 20000 in
theorem lives_any (w : World) : Calls Tryz.prog 12 #[] w (BoolIs true w) := by
  have hB := Below.refl w.heap.size w
  go_enter Tryz.func12, Tryz.ntmps12
  obtain ⟨Y1, hY⟩ : ∃ Y, Y = (w.alloc (.cells #[.bool false, .int .u64 0, .int .u64 167772160, .int .i64 8] 31)) := ⟨_, rfl⟩
  have hbY : Below w.heap.size w Y1 := by rw [hY]; exact below_new (Below.refl _ _) _
  have hle : w.heap.size ≤ w.heap.size := hB.size
  obtain ⟨gp, hgp⟩ : ∃ g, g = w.heap.size := ⟨_, rfl⟩
  have rp : RowAt Y1 gp [.bool false, .int .u64 0, .int .u64 167772160, .int .i64 8] 31 := by
    have h := RowAt.new w [.bool false, .int .u64 0, .int .u64 167772160, .int .i64 8] 31
    rw [hgp, hY]; exact h
  have lep : w.heap.size ≤ gp := by omega
  replace hB := below2 hB hbY
  go_upto_region 2 with fail
  rw [← hY, ← hgp]
  clear hY hbY hle hgp
  obtain ⟨Y2, hY⟩ : ∃ Y, Y = (Y1.alloc (.cells #[.int .u64 0, .int .u64 167772417] 29)) := ⟨_, rfl⟩
  have hbY : Below Y1.heap.size Y1 Y2 := by rw [hY]; exact below_new (Below.refl _ _) _
  have hle : w.heap.size ≤ Y1.heap.size := hB.size
  obtain ⟨gq, hgq⟩ : ∃ g, g = Y1.heap.size := ⟨_, rfl⟩
  have rq : RowAt Y2 gq [.int .u64 0, .int .u64 167772417] 29 := by
    have h := RowAt.new Y1 [.int .u64 0, .int .u64 167772417] 29
    rw [hgq, hY]; exact h
  have leq : w.heap.size ≤ gq := by omega
  have nepq : gp ≠ gq := by have := RowAt.lt rp; omega
  replace rp := RowAt.below rp hbY
  replace hB := below2 hB hbY
  go_upto_region 3 with fail
  rw [← hY, ← hgq]
  clear hY hbY hle hgq
  go_wp2_with fail
  go_at_call 8; refine (mk4 _).mono ?_; rintro e w3 ⟨oa1, na1, ma1, ob1, nb1, mb1, rfl, ha1, hb1, hb⟩
  replace rp := RowAt.below rp hb
  replace rq := RowAt.below rq hb
  replace hB := below2 hB hb
  clear hb
  obtain ⟨Y4, hY⟩ : ∃ Y, Y = (w3.alloc (.cells #[.int .i64 4, .bool false, .slice oa1 na1 ma1, .slice ob1 nb1 mb1] 25)) := ⟨_, rfl⟩
  have hbY : Below w3.heap.size w3 Y4 := by rw [hY]; exact below_new (Below.refl _ _) _
  have hle : w.heap.size ≤ w3.heap.size := hB.size
  obtain ⟨gr, hgr⟩ : ∃ g, g = w3.heap.size := ⟨_, rfl⟩
  have rr : RowAt Y4 gr [.int .i64 4, .bool false, .slice oa1 na1 ma1, .slice ob1 nb1 mb1] 25 := by
    have h := RowAt.new w3 [.int .i64 4, .bool false, .slice oa1 na1 ma1, .slice ob1 nb1 mb1] 25
    rw [hgr, hY]; exact h
  have ler : w.heap.size ≤ gr := by omega
  have nepr : gp ≠ gr := by have := RowAt.lt rp; omega
  have neqr : gq ≠ gr := by have := RowAt.lt rq; omega
  replace rp := RowAt.below rp hbY
  replace rq := RowAt.below rq hbY
  replace ha1 := ha1.keep hbY
  replace hb1 := hb1.keep hbY
  replace hB := below2 hB hbY
  go_upto_region 4 with fail
  rw [← hY, ← hgr]
  clear hY hbY hle hgr
  obtain ⟨r0, r1, r2, r3, rf⟩ := cells4 rr
  go_wp2_with fail
  clear r0 r1 r2 r3 rf
  go_at_call 6; refine (ap1 _ _ _ ha1 hb1).mono ?_; rintro e w5 ⟨oa2, na2, ma2, ob2, nb2, mb2, rfl, ha2, hb2, hb⟩
  replace rp := RowAt.below rp hb
  replace rq := RowAt.below rq hb
  replace rr := RowAt.below rr hb
  replace ha1 := ha1.keep hb
  replace hb1 := hb1.keep hb
  replace hB := below2 hB hb
  clear hb
  obtain ⟨Y6, hY⟩ : ∃ Y, Y = (w5.alloc (.cells #[.int .i64 4, .bool false, .slice oa2 na2 ma2, .slice ob2 nb2 mb2] 25)) := ⟨_, rfl⟩
  have hbY : Below w5.heap.size w5 Y6 := by rw [hY]; exact below_new (Below.refl _ _) _
  have hle : w.heap.size ≤ w5.heap.size := hB.size
  obtain ⟨gs, hgs⟩ : ∃ g, g = w5.heap.size := ⟨_, rfl⟩
  have rs : RowAt Y6 gs [.int .i64 4, .bool false, .slice oa2 na2 ma2, .slice ob2 nb2 mb2] 25 := by
    have h := RowAt.new w5 [.int .i64 4, .bool false, .slice oa2 na2 ma2, .slice ob2 nb2 mb2] 25
    rw [hgs, hY]; exact h
  have les : w.heap.size ≤ gs := by omega
  have neps : gp ≠ gs := by have := RowAt.lt rp; omega
  have neqs : gq ≠ gs := by have := RowAt.lt rq; omega
  have ners : gr ≠ gs := by have := RowAt.lt rr; omega
  replace rp := RowAt.below rp hbY
  replace rq := RowAt.below rq hbY
  replace rr := RowAt.below rr hbY
  replace ha1 := ha1.keep hbY
  replace hb1 := hb1.keep hbY
  replace ha2 := ha2.keep hbY
  replace hb2 := hb2.keep hbY
  replace hB := below2 hB hbY
  go_upto_region 5 with fail
  rw [← hY, ← hgs]
  clear hY hbY hle hgs
  clear rs ha2 hb2
  obtain ⟨r0, r1, r2, r3, rf⟩ := cells4 rr
  go_wp2_with fail
  clear r0 r1 r2 r3 rf
  go_at_call 6; refine (ap2 _ _ _ ha1 hb1).mono ?_; rintro e w7 ⟨oa3, na3, ma3, ob3, nb3, mb3, rfl, ha3, hb3, hb⟩
  replace rp := RowAt.below rp hb
  replace rq := RowAt.below rq hb
  replace rr := RowAt.below rr hb
  replace ha1 := ha1.keep hb
  replace hb1 := hb1.keep hb
  replace hB := below2 hB hb
  clear hb
  clear ha1 hb1
  obtain ⟨r0, r1, r2, r3, rf⟩ := cells4 rr
  obtain ⟨Y8, hY⟩ : ∃ Y, Y = ((((w7.setCell ⟨gr, 0, none⟩ (.int .i64 4)).setCell ⟨gr, 1, none⟩ (.bool true)).setCell ⟨gr, 2, none⟩ (.slice oa3 na3 ma3)).setCell ⟨gr, 3, none⟩ (.slice ob3 nb3 mb3)) := ⟨_, rfl⟩
  have hG : w7.grownBy Y8 (some gr) := by rw [hY]; exact set4_gr _ _ _ _ _ _
  replace hB : Below w.heap.size w Y8 := by rw [hY]; exact set4_bl hB ler _ _ _ _
  replace ha3 := rts_apart ha3 rr hG
  replace hb3 := lks_apart hb3 rr hG
  replace rr : RowAt Y8 gr [.int .i64 4, .bool true, .slice oa3 na3 ma3, .slice ob3 nb3 mb3] 25 := by rw [hY]; exact set4_row rr _ _ _ _
  replace rp := RowAt.gkeep rp hG (by intro h; injection h with h; omega)
  replace rq := RowAt.gkeep rq hG (by intro h; injection h with h; omega)
  go_upto_region 6 with fail
  clear r0 r1 r2 r3 rf
  rw [← hY]
  clear hY hG
  obtain ⟨r0, r1, r2, r3, rf⟩ := cells4 rr
  obtain ⟨p0, p1, p2, p3, pf⟩ := cells4 rp
  go_wp2_with fail
  clear r0 r1 r2 r3 rf p0 p1 p2 p3 pf
  go_at_call 6; refine (ap3 _ _ _ ha3 hb3).mono ?_; rintro e w9 ⟨oa4, na4, ma4, ob4, nb4, mb4, rfl, ha4, hb4, hb⟩
  replace rp := RowAt.below rp hb
  replace rq := RowAt.below rq hb
  replace rr := RowAt.below rr hb
  replace ha3 := ha3.keep hb
  replace hb3 := hb3.keep hb
  replace hB := below2 hB hb
  clear hb
  clear rp ha3 hb3
  obtain ⟨r0, r1, r2, r3, rf⟩ := cells4 rr
  obtain ⟨Y10, hY⟩ : ∃ Y, Y = ((((w9.setCell ⟨gr, 0, none⟩ (.int .i64 4)).setCell ⟨gr, 1, none⟩ (.bool true)).setCell ⟨gr, 2, none⟩ (.slice oa4 na4 ma4)).setCell ⟨gr, 3, none⟩ (.slice ob4 nb4 mb4)) := ⟨_, rfl⟩
  have hG : w9.grownBy Y10 (some gr) := by rw [hY]; exact set4_gr _ _ _ _ _ _
  replace hB : Below w.heap.size w Y10 := by rw [hY]; exact set4_bl hB ler _ _ _ _
  replace ha4 := rts_apart ha4 rr hG
  replace hb4 := lks_apart hb4 rr hG
  replace rr : RowAt Y10 gr [.int .i64 4, .bool true, .slice oa4 na4 ma4, .slice ob4 nb4 mb4] 25 := by rw [hY]; exact set4_row rr _ _ _ _
  replace rq := RowAt.gkeep rq hG (by intro h; injection h with h; omega)
  go_upto_region 7 with fail
  clear r0 r1 r2 r3 rf
  rw [← hY]
  clear hY hG
  obtain ⟨r0, r1, r2, r3, rf⟩ := cells4 rr
  obtain ⟨q0, q1, qf⟩ := cells2 rq
  go_wp2_with fail
  clear r0 r1 r2 r3 rf q0 q1 qf
  go_at_call 32; refine (hp1 _ _ _ ha4 hb4).mono ?_; rintro e w11 ⟨rfl, hb⟩
  replace rq := RowAt.below rq hb
  replace rr := RowAt.below rr hb
  replace ha4 := ha4.keep hb
  replace hb4 := hb4.keep hb
  replace hB := below2 hB hb
  clear hb
  obtain ⟨Y12, hY⟩ : ∃ Y, Y = (w11.alloc (.cells #[.int .u8 0, .int .i64 0] 70)) := ⟨_, rfl⟩
  have hbY : Below w11.heap.size w11 Y12 := by rw [hY]; exact below_new (Below.refl _ _) _
  have hle : w.heap.size ≤ w11.heap.size := hB.size
  obtain ⟨gh, hgh⟩ : ∃ g, g = w11.heap.size := ⟨_, rfl⟩
  have rh : RowAt Y12 gh [.int .u8 0, .int .i64 0] 70 := by
    have h := RowAt.new w11 [.int .u8 0, .int .i64 0] 70
    rw [hgh, hY]; exact h
  have leh : w.heap.size ≤ gh := by omega
  have neqh : gq ≠ gh := by have := RowAt.lt rq; omega
  have nerh : gr ≠ gh := by have := RowAt.lt rr; omega
  replace rq := RowAt.below rq hbY
  replace rr := RowAt.below rr hbY
  replace ha4 := ha4.keep hbY
  replace hb4 := hb4.keep hbY
  replace hB := below2 hB hbY
  go_upto_region 8 with fail
  rw [← hY, ← hgh]
  clear hY hbY hle hgh
  obtain ⟨r0, r1, r2, r3, rf⟩ := cells4 rr
  go_wp2_with fail
  clear r0 r1 r2 r3 rf
  go_at_call 6; refine (ap4 _ _ _ ha4 hb4).mono ?_; rintro e w13 ⟨oa5, na5, ma5, ob5, nb5, mb5, rfl, ha5, hb5, hb⟩
  replace rq := RowAt.below rq hb
  replace rr := RowAt.below rr hb
  replace rh := RowAt.below rh hb
  replace ha4 := ha4.keep hb
  replace hb4 := hb4.keep hb
  replace hB := below2 hB hb
  clear hb
  clear ha4 hb4
  obtain ⟨r0, r1, r2, r3, rf⟩ := cells4 rr
  obtain ⟨Y14, hY⟩ : ∃ Y, Y = ((((w13.setCell ⟨gr, 0, none⟩ (.int .i64 4)).setCell ⟨gr, 1, none⟩ (.bool true)).setCell ⟨gr, 2, none⟩ (.slice oa5 na5 ma5)).setCell ⟨gr, 3, none⟩ (.slice ob5 nb5 mb5)) := ⟨_, rfl⟩
  have hG : w13.grownBy Y14 (some gr) := by rw [hY]; exact set4_gr _ _ _ _ _ _
  replace hB : Below w.heap.size w Y14 := by rw [hY]; exact set4_bl hB ler _ _ _ _
  replace ha5 := rts_apart ha5 rr hG
  replace hb5 := lks_apart hb5 rr hG
  replace rr : RowAt Y14 gr [.int .i64 4, .bool true, .slice oa5 na5 ma5, .slice ob5 nb5 mb5] 25 := by rw [hY]; exact set4_row rr _ _ _ _
  replace rq := RowAt.gkeep rq hG (by intro h; injection h with h; omega)
  replace rh := RowAt.gkeep rh hG (by intro h; injection h with h; omega)
  go_upto_region 9 with fail
  clear r0 r1 r2 r3 rf
  rw [← hY]
  clear hY hG
  obtain ⟨r0, r1, r2, r3, rf⟩ := cells4 rr
  obtain ⟨q0, q1, qf⟩ := cells2 rq
  go_wp2_with fail
  clear r0 r1 r2 r3 rf q0 q1 qf
  go_at_call 32; refine (hp2 _ _ _ ha5 hb5).mono ?_; rintro e w15 ⟨rfl, hb⟩
  replace rq := RowAt.below rq hb
  replace rr := RowAt.below rr hb
  replace rh := RowAt.below rh hb
  replace ha5 := ha5.keep hb
  replace hb5 := hb5.keep hb
  replace hB := below2 hB hb
  clear hb
  obtain ⟨Y16, hY⟩ : ∃ Y, Y = (w15.alloc (.cells #[.int .u8 1, .int .i64 7] 70)) := ⟨_, rfl⟩
  have hbY : Below w15.heap.size w15 Y16 := by rw [hY]; exact below_new (Below.refl _ _) _
  have hle : w.heap.size ≤ w15.heap.size := hB.size
  obtain ⟨gk, hgk⟩ : ∃ g, g = w15.heap.size := ⟨_, rfl⟩
  have rk : RowAt Y16 gk [.int .u8 1, .int .i64 7] 70 := by
    have h := RowAt.new w15 [.int .u8 1, .int .i64 7] 70
    rw [hgk, hY]; exact h
  have lek : w.heap.size ≤ gk := by omega
  have neqk : gq ≠ gk := by have := RowAt.lt rq; omega
  have nerk : gr ≠ gk := by have := RowAt.lt rr; omega
  have nehk : gh ≠ gk := by have := RowAt.lt rh; omega
  replace rq := RowAt.below rq hbY
  replace rr := RowAt.below rr hbY
  replace rh := RowAt.below rh hbY
  replace ha5 := ha5.keep hbY
  replace hb5 := hb5.keep hbY
  replace hB := below2 hB hbY
  go_upto_region 10 with fail
  rw [← hY, ← hgk]
  clear hY hbY hle hgk
  clear rq
  obtain ⟨r0, r1, r2, r3, rf⟩ := cells4 rr
  go_wp2_with fail
  clear r0 r1 r2 r3 rf
  go_at_call 10; refine (sz4 _ _ _ ha5 hb5).mono ?_; rintro e w17 ⟨rfl, hb⟩
  replace rr := RowAt.below rr hb
  replace rh := RowAt.below rh hb
  replace rk := RowAt.below rk hb
  replace ha5 := ha5.keep hb
  replace hb5 := hb5.keep hb
  replace hB := below2 hB hb
  clear hb
  obtain ⟨r0, r1, r2, r3, rf⟩ := cells4 rr
  go_wp2_with fail
  clear r0 r1 r2 r3 rf
  go_at_call 6; refine (ap5 _ _ _ ha5 hb5).mono ?_; rintro e w18 ⟨oa6, na6, ma6, ob6, nb6, mb6, rfl, ha6, hb6, hb⟩
  replace rr := RowAt.below rr hb
  replace rh := RowAt.below rh hb
  replace rk := RowAt.below rk hb
  replace ha5 := ha5.keep hb
  replace hb5 := hb5.keep hb
  replace hB := below2 hB hb
  clear hb
  obtain ⟨Y19, hY⟩ : ∃ Y, Y = (w18.alloc (.cells #[.int .i64 4, .bool true, .slice oa6 na6 ma6, .slice ob6 nb6 mb6] 25)) := ⟨_, rfl⟩
  have hbY : Below w18.heap.size w18 Y19 := by rw [hY]; exact below_new (Below.refl _ _) _
  have hle : w.heap.size ≤ w18.heap.size := hB.size
  obtain ⟨gs, hgs⟩ : ∃ g, g = w18.heap.size := ⟨_, rfl⟩
  have rs : RowAt Y19 gs [.int .i64 4, .bool true, .slice oa6 na6 ma6, .slice ob6 nb6 mb6] 25 := by
    have h := RowAt.new w18 [.int .i64 4, .bool true, .slice oa6 na6 ma6, .slice ob6 nb6 mb6] 25
    rw [hgs, hY]; exact h
  have les : w.heap.size ≤ gs := by omega
  have ners : gr ≠ gs := by have := RowAt.lt rr; omega
  have nehs : gh ≠ gs := by have := RowAt.lt rh; omega
  have neks : gk ≠ gs := by have := RowAt.lt rk; omega
  replace rr := RowAt.below rr hbY
  replace rh := RowAt.below rh hbY
  replace rk := RowAt.below rk hbY
  replace ha5 := ha5.keep hbY
  replace hb5 := hb5.keep hbY
  replace ha6 := ha6.keep hbY
  replace hb6 := hb6.keep hbY
  replace hB := below2 hB hbY
  go_upto_region 12 with fail
  rw [← hY, ← hgs]
  clear hY hbY hle hgs
  clear rs ha6 hb6
  obtain ⟨r0, r1, r2, r3, rf⟩ := cells4 rr
  go_wp2_with fail
  clear r0 r1 r2 r3 rf
  go_at_call 6; refine (ap6 _ _ _ ha5 hb5).mono ?_; rintro e w20 ⟨oa7, na7, ma7, ob7, nb7, mb7, rfl, ha7, hb7, hb⟩
  replace rr := RowAt.below rr hb
  replace rh := RowAt.below rh hb
  replace rk := RowAt.below rk hb
  replace ha5 := ha5.keep hb
  replace hb5 := hb5.keep hb
  replace hB := below2 hB hb
  clear hb
  have hn1 : na7 = 0 := by obtain ⟨_, _, e, _⟩ := Lk.HasRow.slice ha7; injection e
  have hn2 : nb7 = 0 := by obtain ⟨_, _, e, _⟩ := Lk.HasRow.slice hb7; injection e
  subst hn1 hn2
  obtain ⟨Y21, hY⟩ : ∃ Y, Y = (w20.alloc (.cells #[.int .i64 4, .bool false, .slice oa7 0 ma7, .slice ob7 0 mb7] 25)) := ⟨_, rfl⟩
  have hbY : Below w20.heap.size w20 Y21 := by rw [hY]; exact below_new (Below.refl _ _) _
  have hle : w.heap.size ≤ w20.heap.size := hB.size
  obtain ⟨gd, hgd⟩ : ∃ g, g = w20.heap.size := ⟨_, rfl⟩
  have rd : RowAt Y21 gd [.int .i64 4, .bool false, .slice oa7 0 ma7, .slice ob7 0 mb7] 25 := by
    have h := RowAt.new w20 [.int .i64 4, .bool false, .slice oa7 0 ma7, .slice ob7 0 mb7] 25
    rw [hgd, hY]; exact h
  have led : w.heap.size ≤ gd := by omega
  have nerd : gr ≠ gd := by have := RowAt.lt rr; omega
  have nehd : gh ≠ gd := by have := RowAt.lt rh; omega
  have nekd : gk ≠ gd := by have := RowAt.lt rk; omega
  replace rr := RowAt.below rr hbY
  replace rh := RowAt.below rh hbY
  replace rk := RowAt.below rk hbY
  replace ha5 := ha5.keep hbY
  replace hb5 := hb5.keep hbY
  replace ha7 := ha7.keep hbY
  replace hb7 := hb7.keep hbY
  replace hB := below2 hB hbY
  go_upto_region 13 with fail
  rw [← hY, ← hgd]
  clear hY hbY hle hgd
  clear ha7 hb7
  obtain ⟨h0, h1, hf⟩ := cells2 rh
  obtain ⟨k0, k1, kf⟩ := cells2 rk
  obtain ⟨d0, d1, d2, d3, df⟩ := cells4 rd
  obtain ⟨r0, r1, r2, r3, rf⟩ := cells4 rr
  go_wp2_with fail
  clear h0 h1 hf k0 k1 kf d0 d1 d2 d3 df r0 r1 r2 r3 rf
  go_at_call 13; refine (ck4 _ _ _ ha5 hb5).mono ?_; rintro e w22 ⟨rfl, hb⟩
  replace rr := RowAt.below rr hb
  replace rh := RowAt.below rh hb
  replace rk := RowAt.below rk hb
  replace rd := RowAt.below rd hb
  replace ha5 := ha5.keep hb
  replace hb5 := hb5.keep hb
  replace hB := below2 hB hb
  clear hb
  go_wp2_with fail
  go_ret
  exact ⟨rfl, hB⟩
end Go.Proofs.YtpooiehhepimkaaGreat.Fib
namespace Go.Proofs.YtpooiehhepimkaaGreat.Fib
open Go.ChangeShapes Go.WideShapes Go.ChangeAt Go.RowKit
open Go.Proofs.YtpooiehhepimkaaGreat.Lk (HasLks FitL Lk)
open Go.Proofs.YtpooiehhepimkaaGreat.Tr (HasRts FitR Rt)
section
variable {H : Type} {enc : TypeId × Value → H} {W : World} {base : Nat} {spare : Nat → Bool} {held : Bool}
theorem rts_small {v : Value} {fuel : Nat} {x : DataW H × List MemPlace} {zs : List Rt} (h : DataW.trod enc Tryz.prog W base spare held fuel 22 [v] = some x) (hs : HasRts W v zs) (hw : ∀ n ∈ x.1.weights Tryz.prog 22, n ≤ reachBytes) : zs.length * 48 ≤ reachBytes := by
  rcases Go.Deep.open_slice Tryz.underlying22 h with ⟨hcs, _⟩ | ⟨a, l, c, m, n, D, Pl, hcs, _, hl, hm, hmm, hx, hr⟩
  · injection hcs with e; subst e
    rcases hs.2 with ⟨_, h0⟩ | ⟨a, cap, e, _⟩
    · rw [h0]; exact Nat.zero_le _
    · cases e
  · injection hcs with e; subst e
    have hl2 : l = zs.length := by
      rcases hs.2 with ⟨e, _⟩ | ⟨a, cap, e, _⟩
      · cases e
      · injection e
    have := hw ((l + (m - l)) * 48) (by
      rw [hx]
      simp only [DataW.weights, Tryz.underlying22]
      rw [show Tryz.prog.bytesOf 59 = 48 by kernel_rfl]
      simp)
    rw [← hl2]
    exact Nat.le_trans (Nat.mul_le_mul_right 48 (Nat.le_add_right _ _)) this
theorem lks_small {v : Value} {fuel : Nat} {x : DataW H × List MemPlace} {zs : List Lk} (h : DataW.trod enc Tryz.prog W base spare held fuel 23 [v] = some x) (hs : HasLks W v zs) (hw : ∀ n ∈ x.1.weights Tryz.prog 23, n ≤ reachBytes) : zs.length * 16 ≤ reachBytes := by
  rcases Go.Deep.open_slice Tryz.underlying23 h with ⟨hcs, _⟩ | ⟨a, l, c, m, n, D, Pl, hcs, _, hl, hm, hmm, hx, hr⟩
  · injection hcs with e; subst e
    rcases hs.2 with ⟨_, h0⟩ | ⟨a, cap, e, _⟩
    · rw [h0]; exact Nat.zero_le _
    · cases e
  · injection hcs with e; subst e
    have hl2 : l = zs.length := by
      rcases hs.2 with ⟨e, _⟩ | ⟨a, cap, e, _⟩
      · cases e
      · injection e
    have := hw ((l + (m - l)) * 16) (by
      rw [hx]
      simp only [DataW.weights, Tryz.underlying23]
      rw [show Tryz.prog.bytesOf 64 = 16 by kernel_rfl]
      simp)
    rw [← hl2]
    exact Nat.le_trans (Nat.mul_le_mul_right 16 (Nat.le_add_right _ _)) this
set_option maxRecDepth 100000 in
theorem open_router_s {v : Value} {d : DataW H} {ps : List MemPlace} {r : Reach} {b0 : Nat} (hval : Value.okWide Tryz.prog W r b0 25 v) (h : DataW.Trod enc Tryz.prog W base spare held 25 v d ps) (hw0 : ∀ n ∈ d.weights Tryz.prog 25, n ≤ reachBytes) :
    ∃ (R : Ro) (a b : Value), v = .agg #[.int .i64 R.id, .bool R.up, a, b] ∧ HasRts W a R.rts ∧ HasLks W b R.lks ∧ FitRo R ∧ R.rts.length * 48 ≤ 140737488351232 ∧ R.lks.length * 16 ≤ 140737488351232 := by
  obtain ⟨cs, rfl, hsz⟩ := okWide_struct Tryz.underlying25 hval
  obtain ⟨fuel, hf⟩ := h
  obtain ⟨xs, n, _, hxx, hlen, hxl, hfs⟩ := DataW.trod_struct Tryz.underlying25 hf
  rw [show Tryz.prog.cellsOf 25 = 4 from by kernel_rfl] at hsz
  obtain ⟨i, o, s, c, rfl⟩ : ∃ i o s c, cs = #[i, o, s, c] := by
    obtain ⟨l⟩ := cs
    match l, hsz with
    | [i, o, s, c], _ => exact ⟨i, o, s, c, rfl⟩
  have g0 : DataW.trod enc Tryz.prog W base spare held n 3 ((([i, o, s, c] : List Value).drop 0).take (Tryz.prog.cellsOf 3)) = xs[0]? := hfs 0 _ rfl
  have g1 : DataW.trod enc Tryz.prog W base spare held n 4 ((([i, o, s, c] : List Value).drop 1).take (Tryz.prog.cellsOf 4)) = xs[1]? := hfs 1 _ rfl
  have g2 : DataW.trod enc Tryz.prog W base spare held n 22 ((([i, o, s, c] : List Value).drop 2).take (Tryz.prog.cellsOf 22)) = xs[2]? := hfs 2 _ rfl
  have g3 : DataW.trod enc Tryz.prog W base spare held n 23 ((([i, o, s, c] : List Value).drop 3).take (Tryz.prog.cellsOf 23)) = xs[3]? := hfs 3 _ rfl
  have hx4 : xs.length = 4 := hxl
  have hd : d = .agg (xs.map (·.1)) := (Prod.mk.inj hxx).1
  have part : ∀ (i : Nat) (t : TypeId) (hi : i < xs.length), ([3, 4, 22, 23] : List TypeId)[i]? = some t → ∀ m ∈ (xs[i]).1.weights Tryz.prog t, m ≤ reachBytes := by
    intro i t hi ht m hm
    refine hw0 m ?_
    rw [hd]
    simp only [DataW.weights, Tryz.underlying25]
    exact DataW.weights_mem_each (ts := [3, 4, 22, 23]) (j := i) ht (by rw [List.getElem?_map, List.getElem?_eq_getElem hi]; rfl) m hm
  have w2 := part 2 22 (by omega) rfl
  have w3 := part 3 23 (by omega) rfl
  rw [List.getElem?_eq_getElem (by omega)] at g0 g1 g2 g3
  rw [show Tryz.prog.cellsOf 3 = 1 from by kernel_rfl] at g0
  rw [show Tryz.prog.cellsOf 4 = 1 from by kernel_rfl] at g1
  rw [show Tryz.prog.cellsOf 22 = 1 from by kernel_rfl] at g2
  rw [show Tryz.prog.cellsOf 23 = 1 from by kernel_rfl] at g3
  obtain ⟨zs, hs, hzl⟩ := Tr.open_routes (v := s) g2
  obtain ⟨qs, hp, hql⟩ := Lk.open_links (v := c) g3
  have z1 := rts_small (v := s) g2 hs w2
  have z2 := lks_small (v := c) g3 hp w3
  obtain ⟨fu, e2, _, hw⟩ := DataW.trod_int Tryz.underlying3 g0
  obtain ⟨ob, e3, _⟩ := DataW.trod_bool Tryz.underlying4 g1
  have e2' : i = .int .i64 fu := by injection e2
  have e3' : o = .bool ob := by injection e3
  subst e2' e3'
  have hr : reachBytes = 140737488351232 := by decide
  rw [hr] at z1 z2
  exact ⟨⟨fu, ob, zs, qs⟩, s, c, rfl, hs, hp, ⟨Lk.wfi hw, hzl, hql⟩, z1, z2⟩
end
end Go.Proofs.YtpooiehhepimkaaGreat.Fib
