/- spoorlaw17.lives. -/
import Derived.Test.YtklbnnnkogghpaaFibHZ
set_option linter.unusedVariables false
namespace Go.Proofs.Ytklbnnnkogghpaa.Fib
open Go.RowKit
open Go.Proofs.Ytklbnnnkogghpaa.Addr (Pf hiN loN rightB RowAt below2 below_drew below_new RowAt.lt RowAt.cell RowAt.frozen RowAt.below RowAt.drew RowAt.new RowAt.alloc RowAt.set1 RowAt.far1 cells4 cells2 gset grefl bset gbelow gdrew RowAt.gkeep results_cell)
open Go.Proofs.Ytklbnnnkogghpaa.Msg (Ev Ac okE FitE evV evC checkE FitA)
open Go.Proofs.Ytklbnnnkogghpaa.Lk (Lk HasLks HasLks.keep FitL peerL)
open Go.Proofs.Ytklbnnnkogghpaa.Tr (Rt HasRts HasRts.keep FitR longT rtA)
def BoolIs (b : Bool) (w : World) (e : Ending) (w' : World) : Prop := e = .returned (.bool b) ∧ Below w.heap.size w w'
def RoAt (id : Int) (up : Bool) (rts : List Rt) (lks : List Lk) (why : Int) (w : World) (e : Ending) (w' : World) : Prop :=
  ∃ o2 n2 m2 o3 n3 m3, e = .returned (.tuple #[.agg #[.int .i64 id, .bool up, .slice o2 n2 m2, .slice o3 n3 m3], .int .i64 why]) ∧ HasRts w' (.slice o2 n2 m2) rts ∧ HasLks w' (.slice o3 n3 m3) lks ∧ Below w.heap.size w w'
def R1 : Ro := ⟨4, false, [], []⟩
def R2 : Ro := ⟨4, true, [], []⟩
def R3 : Ro := ⟨4, true, [⟨⟨false, 167772160, 8⟩, ⟨1, 3⟩⟩], []⟩
def R4 : Ro := ⟨4, true, [⟨⟨false, 167772160, 8⟩, ⟨1, 3⟩⟩], [⟨3, 7⟩]⟩
def e5 : Ev := ⟨5, 4, 1, 0, ⟨false, 0, 0⟩, ⟨0, 0⟩, 3, 7⟩
def e1 : Ev := ⟨1, 4, 1, 0, ⟨false, 0, 0⟩, ⟨0, 0⟩, 0, 0⟩
def e3 : Ev := ⟨3, 4, 1, 0, ⟨false, 167772160, 8⟩, ⟨1, 3⟩, 0, 0⟩
def e2 : Ev := ⟨2, 5, 1, 0, ⟨false, 0, 0⟩, ⟨0, 0⟩, 0, 0⟩
def e2b : Ev := ⟨2, 4, 1, 0, ⟨false, 0, 0⟩, ⟨0, 0⟩, 0, 0⟩
def fitB (e : Ev) : Bool := decide ((e.kind : Int) ≤ 255) && decide (-9223372036854775808 ≤ e.router) && decide (e.router ≤ 9223372036854775807) && decide ((e.seq : Int) ≤ 18446744073709551615) && decide (-9223372036854775808 ≤ e.time) && decide (e.time ≤ 9223372036854775807) && decide (-9223372036854775808 ≤ e.pf.len) && decide (e.pf.len ≤ 9223372036854775807) && decide (e.pf.n < 2 ^ 128) && decide ((e.act.k : Int) ≤ 255) && decide (-9223372036854775808 ≤ e.act.i) && decide (e.act.i ≤ 9223372036854775807) && decide (-9223372036854775808 ≤ e.iface) && decide (e.iface ≤ 9223372036854775807) && decide (-9223372036854775808 ≤ e.peer) && decide (e.peer ≤ 9223372036854775807)
theorem fit_of {e : Ev} (h : fitB e = true) : FitE e := by
  unfold fitB at h
  simp only [Bool.and_eq_true, decide_eq_true_eq] at h
  obtain ⟨⟨⟨⟨⟨⟨⟨⟨⟨⟨⟨⟨⟨⟨⟨a, b⟩, c⟩, d⟩, e⟩, f⟩, g⟩, i⟩, j⟩, k⟩, l⟩, m⟩, n⟩, o⟩, p⟩, q⟩ := h
  exact ⟨a, ⟨b, c⟩, d, ⟨e, f⟩, ⟨g, i⟩, j, ⟨k, l, m⟩, ⟨n, o⟩, ⟨p, q⟩⟩
theorem fit1 : FitRo R1 := ⟨by decide, (by intro x h; cases h), (by intro x h; cases h)⟩
theorem fit2 : FitRo R2 := ⟨by decide, (by intro x h; cases h), (by intro x h; cases h)⟩
theorem fitRt : FitR ⟨⟨false, 167772160, 8⟩, ⟨1, 3⟩⟩ := ⟨⟨by decide, by decide⟩, by decide, by decide, by decide⟩
theorem fit3 : FitRo R3 := ⟨by decide, by intro x h; rcases List.mem_singleton.1 h with rfl; exact fitRt, (by intro x h; cases h)⟩
theorem fit4 : FitRo R4 := ⟨by decide, by intro x h; rcases List.mem_singleton.1 h with rfl; exact fitRt, by intro x h; rcases List.mem_singleton.1 h with rfl; exact ⟨by decide, by decide⟩⟩
theorem z4v : evV e5 = .agg #[.int .u8 5, .int .i64 4, .int .u64 1, .int .i64 0, .bool false, .int .u64 0, .int .u64 0, .int .i64 0, .int .u8 0, .int .i64 0, .int .i64 3, .int .i64 7] := by unfold evV evC e5; rfl
theorem ap1 (W : World) (a b : Value) (ha : HasRts W a R1.rts) (hb : HasLks W b R1.lks) : Calls Try.prog 9 #[.agg #[.int .i64 4, .bool false, a, b], .agg #[.int .u8 5, .int .i64 4, .int .u64 1, .int .i64 0, .bool false, .int .u64 0, .int .u64 0, .int .i64 0, .int .u8 0, .int .i64 0, .int .i64 3, .int .i64 7]] W (RoAt 4 false R1.rts R1.lks 10 W) := by
  have h := apply_any R1 e5 a b W ha hb fit1 (fit_of (by decide))
  rw [show applyRo R1 e5 = (R1, 10) by kernel_rfl] at h
  rw [show evV e5 = .agg #[.int .u8 5, .int .i64 4, .int .u64 1, .int .i64 0, .bool false, .int .u64 0, .int .u64 0, .int .i64 0, .int .u8 0, .int .i64 0, .int .i64 3, .int .i64 7] by unfold evV evC e5; rfl] at h
  exact h
theorem ap2 (W : World) (a b : Value) (ha : HasRts W a R1.rts) (hb : HasLks W b R1.lks) : Calls Try.prog 9 #[.agg #[.int .i64 4, .bool false, a, b], .agg #[.int .u8 1, .int .i64 4, .int .u64 1, .int .i64 0, .bool false, .int .u64 0, .int .u64 0, .int .i64 0, .int .u8 0, .int .i64 0, .int .i64 0, .int .i64 0]] W (RoAt 4 true R2.rts R2.lks 0 W) := by
  have h := apply_any R1 e1 a b W ha hb fit1 (fit_of (by decide))
  rw [show applyRo R1 e1 = (R2, 0) by kernel_rfl] at h
  rw [show evV e1 = .agg #[.int .u8 1, .int .i64 4, .int .u64 1, .int .i64 0, .bool false, .int .u64 0, .int .u64 0, .int .i64 0, .int .u8 0, .int .i64 0, .int .i64 0, .int .i64 0] by unfold evV evC e1; rfl] at h
  exact h
theorem ap3 (W : World) (a b : Value) (ha : HasRts W a R2.rts) (hb : HasLks W b R2.lks) : Calls Try.prog 9 #[.agg #[.int .i64 4, .bool true, a, b], .agg #[.int .u8 3, .int .i64 4, .int .u64 1, .int .i64 0, .bool false, .int .u64 0, .int .u64 167772160, .int .i64 8, .int .u8 1, .int .i64 3, .int .i64 0, .int .i64 0]] W (RoAt 4 true R3.rts R3.lks 0 W) := by
  have h := apply_any R2 e3 a b W ha hb fit2 (fit_of (by decide))
  rw [show applyRo R2 e3 = (R3, 0) by kernel_rfl] at h
  rw [show evV e3 = .agg #[.int .u8 3, .int .i64 4, .int .u64 1, .int .i64 0, .bool false, .int .u64 0, .int .u64 167772160, .int .i64 8, .int .u8 1, .int .i64 3, .int .i64 0, .int .i64 0] by unfold evV evC e3; rfl] at h
  exact h
theorem ap4 (W : World) (a b : Value) (ha : HasRts W a R3.rts) (hb : HasLks W b R3.lks) : Calls Try.prog 9 #[.agg #[.int .i64 4, .bool true, a, b], .agg #[.int .u8 5, .int .i64 4, .int .u64 1, .int .i64 0, .bool false, .int .u64 0, .int .u64 0, .int .i64 0, .int .u8 0, .int .i64 0, .int .i64 3, .int .i64 7]] W (RoAt 4 true R4.rts R4.lks 0 W) := by
  have h := apply_any R3 e5 a b W ha hb fit3 (fit_of (by decide))
  rw [show applyRo R3 e5 = (R4, 0) by kernel_rfl] at h
  rw [show evV e5 = .agg #[.int .u8 5, .int .i64 4, .int .u64 1, .int .i64 0, .bool false, .int .u64 0, .int .u64 0, .int .i64 0, .int .u8 0, .int .i64 0, .int .i64 3, .int .i64 7] by unfold evV evC e5; rfl] at h
  exact h
theorem ap5 (W : World) (a b : Value) (ha : HasRts W a R4.rts) (hb : HasLks W b R4.lks) : Calls Try.prog 9 #[.agg #[.int .i64 4, .bool true, a, b], .agg #[.int .u8 2, .int .i64 5, .int .u64 1, .int .i64 0, .bool false, .int .u64 0, .int .u64 0, .int .i64 0, .int .u8 0, .int .i64 0, .int .i64 0, .int .i64 0]] W (RoAt 4 true R4.rts R4.lks 14 W) := by
  have h := apply_any R4 e2 a b W ha hb fit4 (fit_of (by decide))
  rw [show applyRo R4 e2 = (R4, 14) by kernel_rfl] at h
  rw [show evV e2 = .agg #[.int .u8 2, .int .i64 5, .int .u64 1, .int .i64 0, .bool false, .int .u64 0, .int .u64 0, .int .i64 0, .int .u8 0, .int .i64 0, .int .i64 0, .int .i64 0] by unfold evV evC e2; rfl] at h
  exact h
theorem ap6 (W : World) (a b : Value) (ha : HasRts W a R4.rts) (hb : HasLks W b R4.lks) : Calls Try.prog 9 #[.agg #[.int .i64 4, .bool true, a, b], .agg #[.int .u8 2, .int .i64 4, .int .u64 1, .int .i64 0, .bool false, .int .u64 0, .int .u64 0, .int .i64 0, .int .u8 0, .int .i64 0, .int .i64 0, .int .i64 0]] W (RoAt 4 false R1.rts R1.lks 0 W) := by
  have h := apply_any R4 e2b a b W ha hb fit4 (fit_of (by decide))
  rw [show applyRo R4 e2b = (R1, 0) by kernel_rfl] at h
  rw [show evV e2b = .agg #[.int .u8 2, .int .i64 4, .int .u64 1, .int .i64 0, .bool false, .int .u64 0, .int .u64 0, .int .i64 0, .int .u8 0, .int .i64 0, .int .i64 0, .int .i64 0] by unfold evV evC e2b; rfl] at h
  exact h
theorem hp1 (W : World) (a b : Value) (ha : HasRts W a R3.rts) (hb : HasLks W b R3.lks) : Calls Try.prog 10 #[.agg #[.int .i64 4, .bool true, a, b], .bool false, .agg #[.int .u64 0, .int .u64 167772417]] W fun e w' => e = .returned (.tuple #[.agg #[.int .u8 0, .int .i64 0], .int .i64 0]) ∧ Below W.heap.size W w' := by
  have h := hop_any R3 false 167772417 a b W ha hb fit3 (by decide)
  rw [show hopRo R3 false 167772417 = ((0, 0), 0) by kernel_rfl, show hiN 167772417 = 0 by decide, show loN 167772417 = 167772417 by decide] at h
  exact h
theorem hp2 (W : World) (a b : Value) (ha : HasRts W a R4.rts) (hb : HasLks W b R4.lks) : Calls Try.prog 10 #[.agg #[.int .i64 4, .bool true, a, b], .bool false, .agg #[.int .u64 0, .int .u64 167772417]] W fun e w' => e = .returned (.tuple #[.agg #[.int .u8 1, .int .i64 7], .int .i64 0]) ∧ Below W.heap.size W w' := by
  have h := hop_any R4 false 167772417 a b W ha hb fit4 (by decide)
  rw [show hopRo R4 false 167772417 = ((1, 7), 0) by kernel_rfl, show hiN 167772417 = 0 by decide, show loN 167772417 = 167772417 by decide] at h
  exact h
theorem mk4 (W : World) : Calls Try.prog 8 #[.int .i64 4] W (RoAt 4 false R1.rts R1.lks 0 W) := by
  have h := make_any 4 W
  rw [show makeRo 4 = (R1, 0) by kernel_rfl] at h
  exact h
theorem sz4 (W : World) (a b : Value) (ha : HasRts W a R4.rts) (hb : HasLks W b R4.lks) : Calls Try.prog 11 #[.agg #[.int .i64 4, .bool true, a, b]] W fun e w' => e = .returned (.tuple #[.int .i64 2, .int .i64 0]) ∧ Below W.heap.size W w' := by
  have h := size_fn R4 a b W ha hb fit4
  rw [show sizeRo R4 = (2, 0) by kernel_rfl] at h
  exact h
theorem ck4 (W : World) (a b : Value) (ha : HasRts W a R4.rts) (hb : HasLks W b R4.lks) : Calls Try.prog 12 #[.agg #[.int .i64 4, .bool true, a, b]] W fun e w' => e = .returned (.int .i64 0) ∧ Below W.heap.size W w' := by
  have h := check_any R4 a b W ha hb fit4.rts
  rw [show checkRo R4 = 0 by kernel_rfl] at h
  exact h
set_option maxHeartbeats 8000000 in
set_option maxRecDepth 20000 in
theorem lives_any (w : World) : Calls Try.prog 4 #[] w (BoolIs true w) := by
  have hB := Below.refl w.heap.size w
  go_enter Try.func4, Try.ntmps4
  obtain ⟨Y1, hY⟩ : ∃ Y, Y = (w.alloc (.cells #[.bool false, .int .u64 0, .int .u64 167772160, .int .i64 8] 38)) := ⟨_, rfl⟩
  have hbY : Below w.heap.size w Y1 := by rw [hY]; exact below_new (Below.refl _ _) _
  have hle : w.heap.size ≤ w.heap.size := hB.size
  obtain ⟨gp, hgp⟩ : ∃ g, g = w.heap.size := ⟨_, rfl⟩
  have rp : RowAt Y1 gp [.bool false, .int .u64 0, .int .u64 167772160, .int .i64 8] 38 := by
    have h := RowAt.new w [.bool false, .int .u64 0, .int .u64 167772160, .int .i64 8] 38
    rw [hgp, hY]; exact h
  have lep : w.heap.size ≤ gp := by omega
  replace hB := below2 hB hbY
  go_upto_region 2 with fail
  rw [← hY, ← hgp]
  clear hY hbY hle hgp
  obtain ⟨Y2, hY⟩ : ∃ Y, Y = (Y1.alloc (.cells #[.int .u64 0, .int .u64 167772417] 36)) := ⟨_, rfl⟩
  have hbY : Below Y1.heap.size Y1 Y2 := by rw [hY]; exact below_new (Below.refl _ _) _
  have hle : w.heap.size ≤ Y1.heap.size := hB.size
  obtain ⟨gq, hgq⟩ : ∃ g, g = Y1.heap.size := ⟨_, rfl⟩
  have rq : RowAt Y2 gq [.int .u64 0, .int .u64 167772417] 36 := by
    have h := RowAt.new Y1 [.int .u64 0, .int .u64 167772417] 36
    rw [hgq, hY]; exact h
  have leq : w.heap.size ≤ gq := by omega
  have nepq : gp ≠ gq := by have := RowAt.lt rp; omega
  replace rp := RowAt.below rp hbY
  replace hB := below2 hB hbY
  go_upto_region 3 with fail
  rw [← hY, ← hgq]
  clear hY hbY hle hgq
  go_wp2_with fail
  go_at_call 8; refine (mk4 _).mono ?_; rintro e w3 ⟨oa1, na1, ma1, ob1, nb1, mb1, rfl, ha1, hb1, hb⟩
  replace rp := RowAt.below rp hb
  replace rq := RowAt.below rq hb
  replace hB := below2 hB hb
  clear hb
  obtain ⟨Y4, hY⟩ : ∃ Y, Y = (w3.alloc (.cells #[.int .i64 4, .bool false, .slice oa1 na1 ma1, .slice ob1 nb1 mb1] 25)) := ⟨_, rfl⟩
  have hbY : Below w3.heap.size w3 Y4 := by rw [hY]; exact below_new (Below.refl _ _) _
  have hle : w.heap.size ≤ w3.heap.size := hB.size
  obtain ⟨gr, hgr⟩ : ∃ g, g = w3.heap.size := ⟨_, rfl⟩
  have rr : RowAt Y4 gr [.int .i64 4, .bool false, .slice oa1 na1 ma1, .slice ob1 nb1 mb1] 25 := by
    have h := RowAt.new w3 [.int .i64 4, .bool false, .slice oa1 na1 ma1, .slice ob1 nb1 mb1] 25
    rw [hgr, hY]; exact h
  have ler : w.heap.size ≤ gr := by omega
  have nepr : gp ≠ gr := by have := RowAt.lt rp; omega
  have neqr : gq ≠ gr := by have := RowAt.lt rq; omega
  replace rp := RowAt.below rp hbY
  replace rq := RowAt.below rq hbY
  replace ha1 := ha1.keep hbY
  replace hb1 := hb1.keep hbY
  replace hB := below2 hB hbY
  go_upto_region 4 with fail
  rw [← hY, ← hgr]
  clear hY hbY hle hgr
  obtain ⟨r0, r1, r2, r3, rf⟩ := cells4 rr
  go_wp2_with fail
  clear r0 r1 r2 r3 rf
  go_at_call 9; refine (ap1 _ _ _ ha1 hb1).mono ?_; rintro e w5 ⟨oa2, na2, ma2, ob2, nb2, mb2, rfl, ha2, hb2, hb⟩
  replace rp := RowAt.below rp hb
  replace rq := RowAt.below rq hb
  replace rr := RowAt.below rr hb
  replace ha1 := ha1.keep hb
  replace hb1 := hb1.keep hb
  replace hB := below2 hB hb
  clear hb
  obtain ⟨Y6, hY⟩ : ∃ Y, Y = (w5.alloc (.cells #[.int .i64 4, .bool false, .slice oa2 na2 ma2, .slice ob2 nb2 mb2] 25)) := ⟨_, rfl⟩
  have hbY : Below w5.heap.size w5 Y6 := by rw [hY]; exact below_new (Below.refl _ _) _
  have hle : w.heap.size ≤ w5.heap.size := hB.size
  obtain ⟨gs, hgs⟩ : ∃ g, g = w5.heap.size := ⟨_, rfl⟩
  have rs : RowAt Y6 gs [.int .i64 4, .bool false, .slice oa2 na2 ma2, .slice ob2 nb2 mb2] 25 := by
    have h := RowAt.new w5 [.int .i64 4, .bool false, .slice oa2 na2 ma2, .slice ob2 nb2 mb2] 25
    rw [hgs, hY]; exact h
  have les : w.heap.size ≤ gs := by omega
  have neps : gp ≠ gs := by have := RowAt.lt rp; omega
  have neqs : gq ≠ gs := by have := RowAt.lt rq; omega
  have ners : gr ≠ gs := by have := RowAt.lt rr; omega
  replace rp := RowAt.below rp hbY
  replace rq := RowAt.below rq hbY
  replace rr := RowAt.below rr hbY
  replace ha1 := ha1.keep hbY
  replace hb1 := hb1.keep hbY
  replace ha2 := ha2.keep hbY
  replace hb2 := hb2.keep hbY
  replace hB := below2 hB hbY
  go_upto_region 5 with fail
  rw [← hY, ← hgs]
  clear hY hbY hle hgs
  clear rs ha2 hb2
  obtain ⟨r0, r1, r2, r3, rf⟩ := cells4 rr
  go_wp2_with fail
  clear r0 r1 r2 r3 rf
  go_at_call 9; refine (ap2 _ _ _ ha1 hb1).mono ?_; rintro e w7 ⟨oa3, na3, ma3, ob3, nb3, mb3, rfl, ha3, hb3, hb⟩
  replace rp := RowAt.below rp hb
  replace rq := RowAt.below rq hb
  replace rr := RowAt.below rr hb
  replace ha1 := ha1.keep hb
  replace hb1 := hb1.keep hb
  replace hB := below2 hB hb
  clear hb
  clear ha1 hb1
  obtain ⟨r0, r1, r2, r3, rf⟩ := cells4 rr
  obtain ⟨Y8, hY⟩ : ∃ Y, Y = ((((w7.setCell ⟨gr, 0, none⟩ (.int .i64 4)).setCell ⟨gr, 1, none⟩ (.bool true)).setCell ⟨gr, 2, none⟩ (.slice oa3 na3 ma3)).setCell ⟨gr, 3, none⟩ (.slice ob3 nb3 mb3)) := ⟨_, rfl⟩
  have hG : w7.grownBy Y8 (some gr) := by rw [hY]; exact set4_gr _ _ _ _ _ _
  replace hB : Below w.heap.size w Y8 := by rw [hY]; exact set4_bl hB ler _ _ _ _
  replace ha3 := rts_apart ha3 rr hG
  replace hb3 := lks_apart hb3 rr hG
  replace rr : RowAt Y8 gr [.int .i64 4, .bool true, .slice oa3 na3 ma3, .slice ob3 nb3 mb3] 25 := by rw [hY]; exact set4_row rr _ _ _ _
  replace rp := RowAt.gkeep rp hG (by intro h; injection h with h; omega)
  replace rq := RowAt.gkeep rq hG (by intro h; injection h with h; omega)
  go_upto_region 6 with fail
  clear r0 r1 r2 r3 rf
  rw [← hY]
  clear hY hG
  obtain ⟨r0, r1, r2, r3, rf⟩ := cells4 rr
  obtain ⟨p0, p1, p2, p3, pf⟩ := cells4 rp
  go_wp2_with fail
  clear r0 r1 r2 r3 rf p0 p1 p2 p3 pf
  go_at_call 9; refine (ap3 _ _ _ ha3 hb3).mono ?_; rintro e w9 ⟨oa4, na4, ma4, ob4, nb4, mb4, rfl, ha4, hb4, hb⟩
  replace rp := RowAt.below rp hb
  replace rq := RowAt.below rq hb
  replace rr := RowAt.below rr hb
  replace ha3 := ha3.keep hb
  replace hb3 := hb3.keep hb
  replace hB := below2 hB hb
  clear hb
  clear rp ha3 hb3
  obtain ⟨r0, r1, r2, r3, rf⟩ := cells4 rr
  obtain ⟨Y10, hY⟩ : ∃ Y, Y = ((((w9.setCell ⟨gr, 0, none⟩ (.int .i64 4)).setCell ⟨gr, 1, none⟩ (.bool true)).setCell ⟨gr, 2, none⟩ (.slice oa4 na4 ma4)).setCell ⟨gr, 3, none⟩ (.slice ob4 nb4 mb4)) := ⟨_, rfl⟩
  have hG : w9.grownBy Y10 (some gr) := by rw [hY]; exact set4_gr _ _ _ _ _ _
  replace hB : Below w.heap.size w Y10 := by rw [hY]; exact set4_bl hB ler _ _ _ _
  replace ha4 := rts_apart ha4 rr hG
  replace hb4 := lks_apart hb4 rr hG
  replace rr : RowAt Y10 gr [.int .i64 4, .bool true, .slice oa4 na4 ma4, .slice ob4 nb4 mb4] 25 := by rw [hY]; exact set4_row rr _ _ _ _
  replace rq := RowAt.gkeep rq hG (by intro h; injection h with h; omega)
  go_upto_region 7 with fail
  clear r0 r1 r2 r3 rf
  rw [← hY]
  clear hY hG
  obtain ⟨r0, r1, r2, r3, rf⟩ := cells4 rr
  obtain ⟨q0, q1, qf⟩ := cells2 rq
  go_wp2_with fail
  clear r0 r1 r2 r3 rf q0 q1 qf
  go_at_call 10; refine (hp1 _ _ _ ha4 hb4).mono ?_; rintro e w11 ⟨rfl, hb⟩
  replace rq := RowAt.below rq hb
  replace rr := RowAt.below rr hb
  replace ha4 := ha4.keep hb
  replace hb4 := hb4.keep hb
  replace hB := below2 hB hb
  clear hb
  obtain ⟨Y12, hY⟩ : ∃ Y, Y = (w11.alloc (.cells #[.int .u8 0, .int .i64 0] 49)) := ⟨_, rfl⟩
  have hbY : Below w11.heap.size w11 Y12 := by rw [hY]; exact below_new (Below.refl _ _) _
  have hle : w.heap.size ≤ w11.heap.size := hB.size
  obtain ⟨gh, hgh⟩ : ∃ g, g = w11.heap.size := ⟨_, rfl⟩
  have rh : RowAt Y12 gh [.int .u8 0, .int .i64 0] 49 := by
    have h := RowAt.new w11 [.int .u8 0, .int .i64 0] 49
    rw [hgh, hY]; exact h
  have leh : w.heap.size ≤ gh := by omega
  have neqh : gq ≠ gh := by have := RowAt.lt rq; omega
  have nerh : gr ≠ gh := by have := RowAt.lt rr; omega
  replace rq := RowAt.below rq hbY
  replace rr := RowAt.below rr hbY
  replace ha4 := ha4.keep hbY
  replace hb4 := hb4.keep hbY
  replace hB := below2 hB hbY
  go_upto_region 8 with fail
  rw [← hY, ← hgh]
  clear hY hbY hle hgh
  obtain ⟨r0, r1, r2, r3, rf⟩ := cells4 rr
  go_wp2_with fail
  clear r0 r1 r2 r3 rf
  go_at_call 9; refine (ap4 _ _ _ ha4 hb4).mono ?_; rintro e w13 ⟨oa5, na5, ma5, ob5, nb5, mb5, rfl, ha5, hb5, hb⟩
  replace rq := RowAt.below rq hb
  replace rr := RowAt.below rr hb
  replace rh := RowAt.below rh hb
  replace ha4 := ha4.keep hb
  replace hb4 := hb4.keep hb
  replace hB := below2 hB hb
  clear hb
  clear ha4 hb4
  obtain ⟨r0, r1, r2, r3, rf⟩ := cells4 rr
  obtain ⟨Y14, hY⟩ : ∃ Y, Y = ((((w13.setCell ⟨gr, 0, none⟩ (.int .i64 4)).setCell ⟨gr, 1, none⟩ (.bool true)).setCell ⟨gr, 2, none⟩ (.slice oa5 na5 ma5)).setCell ⟨gr, 3, none⟩ (.slice ob5 nb5 mb5)) := ⟨_, rfl⟩
  have hG : w13.grownBy Y14 (some gr) := by rw [hY]; exact set4_gr _ _ _ _ _ _
  replace hB : Below w.heap.size w Y14 := by rw [hY]; exact set4_bl hB ler _ _ _ _
  replace ha5 := rts_apart ha5 rr hG
  replace hb5 := lks_apart hb5 rr hG
  replace rr : RowAt Y14 gr [.int .i64 4, .bool true, .slice oa5 na5 ma5, .slice ob5 nb5 mb5] 25 := by rw [hY]; exact set4_row rr _ _ _ _
  replace rq := RowAt.gkeep rq hG (by intro h; injection h with h; omega)
  replace rh := RowAt.gkeep rh hG (by intro h; injection h with h; omega)
  go_upto_region 9 with fail
  clear r0 r1 r2 r3 rf
  rw [← hY]
  clear hY hG
  obtain ⟨r0, r1, r2, r3, rf⟩ := cells4 rr
  obtain ⟨q0, q1, qf⟩ := cells2 rq
  go_wp2_with fail
  clear r0 r1 r2 r3 rf q0 q1 qf
  go_at_call 10; refine (hp2 _ _ _ ha5 hb5).mono ?_; rintro e w15 ⟨rfl, hb⟩
  replace rq := RowAt.below rq hb
  replace rr := RowAt.below rr hb
  replace rh := RowAt.below rh hb
  replace ha5 := ha5.keep hb
  replace hb5 := hb5.keep hb
  replace hB := below2 hB hb
  clear hb
  obtain ⟨Y16, hY⟩ : ∃ Y, Y = (w15.alloc (.cells #[.int .u8 1, .int .i64 7] 49)) := ⟨_, rfl⟩
  have hbY : Below w15.heap.size w15 Y16 := by rw [hY]; exact below_new (Below.refl _ _) _
  have hle : w.heap.size ≤ w15.heap.size := hB.size
  obtain ⟨gk, hgk⟩ : ∃ g, g = w15.heap.size := ⟨_, rfl⟩
  have rk : RowAt Y16 gk [.int .u8 1, .int .i64 7] 49 := by
    have h := RowAt.new w15 [.int .u8 1, .int .i64 7] 49
    rw [hgk, hY]; exact h
  have lek : w.heap.size ≤ gk := by omega
  have neqk : gq ≠ gk := by have := RowAt.lt rq; omega
  have nerk : gr ≠ gk := by have := RowAt.lt rr; omega
  have nehk : gh ≠ gk := by have := RowAt.lt rh; omega
  replace rq := RowAt.below rq hbY
  replace rr := RowAt.below rr hbY
  replace rh := RowAt.below rh hbY
  replace ha5 := ha5.keep hbY
  replace hb5 := hb5.keep hbY
  replace hB := below2 hB hbY
  go_upto_region 10 with fail
  rw [← hY, ← hgk]
  clear hY hbY hle hgk
  clear rq
  obtain ⟨r0, r1, r2, r3, rf⟩ := cells4 rr
  go_wp2_with fail
  clear r0 r1 r2 r3 rf
  go_at_call 11; refine (sz4 _ _ _ ha5 hb5).mono ?_; rintro e w17 ⟨rfl, hb⟩
  replace rr := RowAt.below rr hb
  replace rh := RowAt.below rh hb
  replace rk := RowAt.below rk hb
  replace ha5 := ha5.keep hb
  replace hb5 := hb5.keep hb
  replace hB := below2 hB hb
  clear hb
  obtain ⟨r0, r1, r2, r3, rf⟩ := cells4 rr
  go_wp2_with fail
  clear r0 r1 r2 r3 rf
  go_at_call 9; refine (ap5 _ _ _ ha5 hb5).mono ?_; rintro e w18 ⟨oa6, na6, ma6, ob6, nb6, mb6, rfl, ha6, hb6, hb⟩
  replace rr := RowAt.below rr hb
  replace rh := RowAt.below rh hb
  replace rk := RowAt.below rk hb
  replace ha5 := ha5.keep hb
  replace hb5 := hb5.keep hb
  replace hB := below2 hB hb
  clear hb
  obtain ⟨Y19, hY⟩ : ∃ Y, Y = (w18.alloc (.cells #[.int .i64 4, .bool true, .slice oa6 na6 ma6, .slice ob6 nb6 mb6] 25)) := ⟨_, rfl⟩
  have hbY : Below w18.heap.size w18 Y19 := by rw [hY]; exact below_new (Below.refl _ _) _
  have hle : w.heap.size ≤ w18.heap.size := hB.size
  obtain ⟨gs, hgs⟩ : ∃ g, g = w18.heap.size := ⟨_, rfl⟩
  have rs : RowAt Y19 gs [.int .i64 4, .bool true, .slice oa6 na6 ma6, .slice ob6 nb6 mb6] 25 := by
    have h := RowAt.new w18 [.int .i64 4, .bool true, .slice oa6 na6 ma6, .slice ob6 nb6 mb6] 25
    rw [hgs, hY]; exact h
  have les : w.heap.size ≤ gs := by omega
  have ners : gr ≠ gs := by have := RowAt.lt rr; omega
  have nehs : gh ≠ gs := by have := RowAt.lt rh; omega
  have neks : gk ≠ gs := by have := RowAt.lt rk; omega
  replace rr := RowAt.below rr hbY
  replace rh := RowAt.below rh hbY
  replace rk := RowAt.below rk hbY
  replace ha5 := ha5.keep hbY
  replace hb5 := hb5.keep hbY
  replace ha6 := ha6.keep hbY
  replace hb6 := hb6.keep hbY
  replace hB := below2 hB hbY
  go_upto_region 12 with fail
  rw [← hY, ← hgs]
  clear hY hbY hle hgs
  clear rs ha6 hb6
  obtain ⟨r0, r1, r2, r3, rf⟩ := cells4 rr
  go_wp2_with fail
  clear r0 r1 r2 r3 rf
  go_at_call 9; refine (ap6 _ _ _ ha5 hb5).mono ?_; rintro e w20 ⟨oa7, na7, ma7, ob7, nb7, mb7, rfl, ha7, hb7, hb⟩
  replace rr := RowAt.below rr hb
  replace rh := RowAt.below rh hb
  replace rk := RowAt.below rk hb
  replace ha5 := ha5.keep hb
  replace hb5 := hb5.keep hb
  replace hB := below2 hB hb
  clear hb
  have hn1 : na7 = 0 := by obtain ⟨_, _, e, _⟩ := Lk.HasRow.slice ha7; injection e
  have hn2 : nb7 = 0 := by obtain ⟨_, _, e, _⟩ := Lk.HasRow.slice hb7; injection e
  subst hn1 hn2
  obtain ⟨Y21, hY⟩ : ∃ Y, Y = (w20.alloc (.cells #[.int .i64 4, .bool false, .slice oa7 0 ma7, .slice ob7 0 mb7] 25)) := ⟨_, rfl⟩
  have hbY : Below w20.heap.size w20 Y21 := by rw [hY]; exact below_new (Below.refl _ _) _
  have hle : w.heap.size ≤ w20.heap.size := hB.size
  obtain ⟨gd, hgd⟩ : ∃ g, g = w20.heap.size := ⟨_, rfl⟩
  have rd : RowAt Y21 gd [.int .i64 4, .bool false, .slice oa7 0 ma7, .slice ob7 0 mb7] 25 := by
    have h := RowAt.new w20 [.int .i64 4, .bool false, .slice oa7 0 ma7, .slice ob7 0 mb7] 25
    rw [hgd, hY]; exact h
  have led : w.heap.size ≤ gd := by omega
  have nerd : gr ≠ gd := by have := RowAt.lt rr; omega
  have nehd : gh ≠ gd := by have := RowAt.lt rh; omega
  have nekd : gk ≠ gd := by have := RowAt.lt rk; omega
  replace rr := RowAt.below rr hbY
  replace rh := RowAt.below rh hbY
  replace rk := RowAt.below rk hbY
  replace ha5 := ha5.keep hbY
  replace hb5 := hb5.keep hbY
  replace ha7 := ha7.keep hbY
  replace hb7 := hb7.keep hbY
  replace hB := below2 hB hbY
  go_upto_region 13 with fail
  rw [← hY, ← hgd]
  clear hY hbY hle hgd
  clear ha7 hb7
  obtain ⟨h0, h1, hf⟩ := cells2 rh
  obtain ⟨k0, k1, kf⟩ := cells2 rk
  obtain ⟨d0, d1, d2, d3, df⟩ := cells4 rd
  obtain ⟨r0, r1, r2, r3, rf⟩ := cells4 rr
  go_wp2_with fail
  clear h0 h1 hf k0 k1 kf d0 d1 d2 d3 df r0 r1 r2 r3 rf
  go_at_call 12; refine (ck4 _ _ _ ha5 hb5).mono ?_; rintro e w22 ⟨rfl, hb⟩
  replace rr := RowAt.below rr hb
  replace rh := RowAt.below rh hb
  replace rk := RowAt.below rk hb
  replace rd := RowAt.below rd hb
  replace ha5 := ha5.keep hb
  replace hb5 := hb5.keep hb
  replace hB := below2 hB hb
  clear hb
  go_wp2_with fail
  go_ret
  exact ⟨rfl, hB⟩
end Go.Proofs.Ytklbnnnkogghpaa.Fib
