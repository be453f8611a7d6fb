/- The document's answer of routers: Apply. -/
import Derived.Test.YtpooiehhepimkaaGreatTrCheck
import Derived.Test.YtpooiehhepimkaaGreatAddrGF
import Derived.Test.YtpooiehhepimkaaGreatMsgGX
import Derived.Test.YtpooiehhepimkaaGreatTrGY
import Derived.Test.YtpooiehhepimkaaGreatTrGZ
import Derived.Test.YtpooiehhepimkaaGreatAddrHalves
import Derived.Laws.ResultCell
import Derived.Test.YtpooiehhepimkaaGreatTrRows
import Derived.Test.YtpooiehhepimkaaGreatTrPutM
import Derived.Test.YtpooiehhepimkaaGreatMsgPfEq
import Derived.Test.YtpooiehhepimkaaGreatLkGZ
import Derived.Test.YtpooiehhepimkaaGreatFibGZ
import Derived.Test.YtpooiehhepimkaaGreatFibGL
set_option linter.unusedVariables false
namespace Go.Proofs.YtpooiehhepimkaaGreat.Tr
open Go.RowKit
open Go.Proofs.YtpooiehhepimkaaGreat.Msg (Ac okA FitA)
open Go.Proofs.YtpooiehhepimkaaGreat.Lk (HasRow)
open Go.Proofs.YtpooiehhepimkaaGreat.Addr (Pf okP checkP cmpN hiN loN pfV adV RowAt below2 below_drew below_new bset RowAt.lt RowAt.cell RowAt.frozen RowAt.below RowAt.drew RowAt.new RowAt.alloc cells2 cells4 Bl bl_ne wp_region_bl bl_call bl_same)
theorem less_swap (p q : Pf) : decide (ordP p q < 0) = !decide (ordP q p ≤ 0) := by
  have h1 := ordP_lt p q
  have h2 := ordP_gt q p
  by_cases h : ltP p q
  · rw [decide_eq_true (h1.2 h), decide_eq_false (by have := h2.2 h; omega)]; rfl
  · rw [decide_eq_false (fun c => h (h1.1 c)), decide_eq_true (by rcases Int.lt_or_le 0 (ordP q p) with c | c; exact absurd (h2.1 c) h; exact c)]; rfl
set_option maxHeartbeats 2000000 in
theorem one_any (r : Rt) (w : World) (hf : FitR r) : Calls Tryz.prog 52 #[.agg #[.bool r.pf.six, .int .u64 (hiN r.pf.n : Int), .int .u64 (loN r.pf.n : Int), .int .i64 r.pf.len, .int .u8 (r.act.k : Int), .int .i64 r.act.i]] w fun e w' => e = .returned (.bool (okR r)) ∧ Below w.heap.size w w' := by
  have c1 : ∀ W, Calls Tryz.prog 50 #[.agg #[.bool r.pf.six, .int .u64 (hiN r.pf.n : Int), .int .u64 (loN r.pf.n : Int), .int .i64 r.pf.len]] W fun e w' => e = .returned (.int .i64 (if okP r.pf then 0 else 2)) ∧ Below W.heap.size W w' := fun W => Addr.rcheck_any r.pf W hf.1.1 hf.1.2
  have c2 : ∀ W, Calls Tryz.prog 51 #[.agg #[.int .u8 (r.act.k : Int), .int .i64 r.act.i]] W fun e w' => e = .returned (.bool (okA r.act)) ∧ Below W.heap.size W w' := fun W => Msg.acts_any r.act W hf.2
  have hR : okR r = (okP r.pf && okA r.act) := rfl
  rw [hR]
  generalize okP r.pf = kp at c1 ⊢
  generalize okA r.act = ka at c2 ⊢
  generalize r.pf.six = z0 at *
  generalize (hiN r.pf.n : Int) = z1 at *
  generalize (loN r.pf.n : Int) = z2 at *
  generalize r.pf.len = z3 at *
  generalize (r.act.k : Int) = z4 at *
  generalize r.act.i = z5 at *
  clear hf
  obtain ⟨X, hX⟩ : ∃ X, X = w.alloc (.cells #[.bool z0, .int .u64 z1, .int .u64 z2, .int .i64 z3, .int .u8 z4, .int .i64 z5] 59) := ⟨_, rfl⟩
  have hB : Below w.heap.size w X := by rw [hX]; exact below_new (Below.refl _ _) _
  have r0 : RowAt X w.heap.size [.bool z0, .int .u64 z1, .int .u64 z2, .int .i64 z3, .int .u8 z4, .int .i64 z5] 59 := by rw [hX]; exact RowAt.new _ _ _
  go_enter Tryz.func52, Tryz.ntmps52
  go_upto_region 1 with fail
  rw [← hX]
  clear hX
  have s0 := RowAt.cell r0 0
  have s1 := RowAt.cell r0 1
  have s2 := RowAt.cell r0 2
  have s3 := RowAt.cell r0 3
  simp only [List.getElem?_cons_succ, List.getElem?_cons_zero] at s0 s1 s2 s3
  go_wp2_with fail
  clear s0 s1 s2 s3
  go_at_call 50; refine (c1 _).mono ?_; rintro e w1 ⟨rfl, hb1⟩
  replace hB := below2 hB hb1
  replace r0 := RowAt.below r0 hb1
  clear hb1 c1
  cases kp
  · go_wp2_with fail
    go_ret
    exact ⟨rfl, hB⟩
  · have s4 := RowAt.cell r0 4
    have s5 := RowAt.cell r0 5
    simp only [List.getElem?_cons_succ, List.getElem?_cons_zero] at s4 s5
    go_wp2_with fail
    clear s4 s5
    go_at_call 51; refine (c2 _).mono ?_; rintro e w2 ⟨rfl, hb2⟩
    replace hB := below2 hB hb2
    go_wp2_with fail
    go_ret
    exact ⟨by cases ka <;> rfl, hB⟩
set_option maxHeartbeats 2000000 in
theorem less_any (p q : Pf) (w : World) (hp : FitP p) (hq : FitP q) : Calls Tryz.prog 54 #[.agg #[.bool p.six, .int .u64 (hiN p.n : Int), .int .u64 (loN p.n : Int), .int .i64 p.len], .agg #[.bool q.six, .int .u64 (hiN q.n : Int), .int .u64 (loN q.n : Int), .int .i64 q.len]] w fun e w' => e = .returned (.bool (decide (ordP p q < 0))) ∧ Below w.heap.size w w' := by
  have c1 : ∀ W, Calls Tryz.prog 84 #[.agg #[.int .u64 (hiN p.n : Int), .int .u64 (loN p.n : Int)], .agg #[.int .u64 (hiN q.n : Int), .int .u64 (loN q.n : Int)]] W fun e w' => e = .returned (.int .i64 (cmpN p.n q.n)) ∧ Below W.heap.size W w' := fun W => Addr.rcmp_any p.n q.n W hp.2 hq.2
  have HR : Hid (decide (ordP p q < 0) = if p.six = q.six then (decide (cmpN p.n q.n < 0) || (decide (cmpN p.n q.n = 0) && decide (p.len < q.len))) else q.six) := by
    show _ = _
    unfold ordP cmpN cmpI kindN
    cases p.six <;> cases q.six <;> simp <;> (repeat' split) <;> simp_all <;> omega
  generalize decide (ordP p q < 0) = D at HR ⊢
  generalize cmpN p.n q.n = C at c1 HR
  generalize p.six = ps at *
  generalize q.six = qs at *
  generalize (hiN p.n : Int) = p1 at *
  generalize (loN p.n : Int) = p2 at *
  generalize (hiN q.n : Int) = q1 at *
  generalize (loN q.n : Int) = q2 at *
  generalize p.len = pl at *
  generalize q.len = ql at *
  clear hp hq
  obtain ⟨X, hX⟩ : ∃ X, X = (w.alloc (.cells #[.bool ps, .int .u64 p1, .int .u64 p2, .int .i64 pl] 31)).alloc (.cells #[.bool qs, .int .u64 q1, .int .u64 q2, .int .i64 ql] 31) := ⟨_, rfl⟩
  have hB : Below w.heap.size w X := by rw [hX]; exact below_new (below_new (Below.refl _ _) _) _
  have r0 : RowAt X w.heap.size [.bool ps, .int .u64 p1, .int .u64 p2, .int .i64 pl] 31 := by rw [hX]; exact (RowAt.new _ _ _).alloc _
  have r1 : RowAt X (w.heap.size + 1) [.bool qs, .int .u64 q1, .int .u64 q2, .int .i64 ql] 31 := by rw [hX, ← World.size_alloc w (.cells #[.bool ps, .int .u64 p1, .int .u64 p2, .int .i64 pl] 31)]; exact RowAt.new _ _ _
  obtain ⟨a0, a1, a2, a3, af⟩ := cells4 r0
  obtain ⟨b0, b1, b2, b3, bf⟩ := cells4 r1
  by_cases hs : ps = qs
  · have HV : Hid (D = (decide (C < 0) || (decide (C = 0) && decide (pl < ql)))) := by show _ = _; rw [HR.out, if_pos hs]
    clear HR
    subst hs
    go_enter Tryz.func54, Tryz.ntmps54
    go_upto_region 1 with fail
    rw [← hX]
    clear hX
    go_wp2_with fail
    clear a0 a1 a2 a3 af b0 b1 b2 b3 bf
    go_at_call 84; refine (c1 _).mono ?_; rintro e w1 ⟨rfl, hb1⟩
    replace hB := below2 hB hb1
    obtain ⟨a0, a1, a2, a3, af⟩ := cells4 (RowAt.below r0 hb1)
    obtain ⟨b0, b1, b2, b3, bf⟩ := cells4 (RowAt.below r1 hb1)
    clear hb1 c1 r0 r1
    by_cases hC : C < 0
    · have HW : Hid (D = true) := by show _ = _; rw [HV.out, decide_eq_true hC]; rfl
      have hCb : decide (C < 0) = true := decide_eq_true hC
      clear HV hC
      go_wp2_with fail
      go_ret
      exact ⟨by rw [HW.out]; rfl, hB⟩
    · have hCb : decide (C < 0) = false := decide_eq_false hC
      by_cases hC0 : C = 0
      · have HW : Hid (D = decide (pl < ql)) := by show _ = _; rw [HV.out, decide_eq_false hC, decide_eq_true hC0]; simp
        have hCe : (C == 0) = true := by simpa using hC0
        clear HV hC hC0
        go_wp2_with fail
        go_ret
        exact ⟨by rw [HW.out]; rfl, hB⟩
      · have HW : Hid (D = false) := by show _ = _; rw [HV.out, decide_eq_false hC, decide_eq_false hC0]; simp
        have hCe : (C == 0) = false := by simpa using hC0
        clear HV hC hC0
        go_wp2_with fail
        go_ret
        exact ⟨by rw [HW.out]; rfl, hB⟩
  · have HV : Hid (D = qs) := by show _ = _; rw [HR.out, if_neg hs]
    clear HR
    cases ps <;> cases qs
    any_goals exact absurd rfl hs
    all_goals clear hs
    all_goals go_enter Tryz.func54, Tryz.ntmps54
    all_goals go_upto_region 1 with fail
    all_goals rw [← hX]
    all_goals clear hX
    all_goals go_wp2_with fail
    all_goals go_ret
    all_goals exact ⟨by rw [HV.out]; rfl, hB⟩
set_option maxHeartbeats 8000000 in
set_option maxRecDepth 20000 in
theorem rcheck_any (l : List Rt) (v : Value) (w : World) (h : HasRts w v l) (hfit : ∀ r ∈ l, FitR r) :
    Calls Tryz.prog 35 #[v] w fun e w' => e = .returned (.int .i64 (checkT l)) ∧ Below w.heap.size w w' := by
  obtain ⟨o, c, rfl, hc1, hc2⟩ := Lk.HasRow.slice h
  have HR : Hid (∀ wr : World, Below w.heap.size w wr → HasRts wr (.slice o l.length c) l) := fun wr hb => h.keep hb
  obtain ⟨n, hn⟩ : ∃ n, n = l.length := ⟨_, rfl⟩
  have HN : Hid (n = l.length) := hn
  rw [← hn] at HR hc1 ⊢
  have HC : Hid (checkT l = if (decide (n ≤ 256) && rise none l) then 0 else 2) := by show _ = _; unfold checkT okT; rw [← hn]
  generalize checkT l = R at HC ⊢
  clear h hn
  by_cases h256 : 256 < n
  · have HV : Hid (R = 2) := by show _ = _; rw [HC.out, decide_eq_false (by omega)]; rfl
    have q1 : decide ((256 : Int) < (n : Int)) = true := decide_eq_true (by omega)
    have q2 : decide (256 < n) = true := decide_eq_true h256
    clear HC HR
    go_enter Tryz.func35, Tryz.ntmps35
    go_wp2_with fail
    go_ret
    exact ⟨by first | (rw [HV.out]; rfl) | rfl, Below.refl _ _⟩
  · have HD : Hid (R = if rise none l then 0 else 2) := by show _ = _; rw [HC.out, decide_eq_true (by omega)]; rfl
    have hni : (n : Int) ≤ 256 := by omega
    have q1 : decide ((256 : Int) < (n : Int)) = false := decide_eq_false (by omega)
    have q2 : decide (256 < n) = false := decide_eq_false h256
    clear HC h256
    go_enter Tryz.func35, Tryz.ntmps35
    go_wp2_with fail
    go_loopw [10] (fun i wr => ∃ k : Nat, k ≤ n ∧ i = .int .i64 k ∧ Below w.heap.size w wr ∧ Hid (rise none l = rise (prevR l k) (l.drop k))) (fun i _ => n - (Go.RowKit.intOf i).toNat)
    case atStart => exact ⟨0, by omega, rfl, Below.refl _ _, (rfl : rise none l = _)⟩
    case round =>
      obtain ⟨k, hk, rfl, hB, HG⟩ := hrel
      have hh := HR.out _ hB
      by_cases hlt : k < n
      · have hkz : k < l.length := by rw [← HN.out]; exact hlt
        obtain ⟨g1, i1, rfl, hg1, ax⟩ := HasRts.cell hh k hkz
        obtain ⟨a0, a1, a2, a3, a4, a5⟩ := six_at ax
        clear ax
        have hfk := hfit l[k] (List.getElem_mem hkz)
        have cr := fun W : World => one_any l[k] W hfk
        have hki : (k : Int) < (n : Int) := by omega
        have HB1 : Hid (okR l[k] = false → R = 2) := fun h => round_bad hkz HD.out HG.out h
        have HB2 : Hid (okR l[k] = true → k = 0 → rise none l = rise (prevR l 1) (l.drop 1)) := fun h h0 => round_first hkz HG.out h h0
        have HB3 : Hid (okR l[k] = true → ∀ (j : Nat) (hj : j < l.length), k = j + 1 → (decide (ordP l[k].pf l[j].pf ≤ 0) = false → rise none l = rise (prevR l (k + 1)) (l.drop (k + 1))) ∧ (decide (ordP l[k].pf l[j].pf ≤ 0) = true → R = 2)) := fun h j hj h0 => round_next hkz HD.out HG.out h h0 hj
        have HCO : Hid (∀ (j : Nat) (hj : j < l.length) (W : World), Calls Tryz.prog 54 #[.agg #[.bool l[j].pf.six, .int .u64 (hiN l[j].pf.n : Int), .int .u64 (loN l[j].pf.n : Int), .int .i64 l[j].pf.len], .agg #[.bool l[k].pf.six, .int .u64 (hiN l[k].pf.n : Int), .int .u64 (loN l[k].pf.n : Int), .int .i64 l[k].pf.len]] W fun e w' => e = .returned (.bool (!decide (ordP l[k].pf l[j].pf ≤ 0))) ∧ Below W.heap.size W w') := fun j hj W => by
          have h := less_any l[j].pf l[k].pf W (hfit l[j] (List.getElem_mem hj)).1 hfk.1
          rw [less_swap] at h
          exact h
        clear HG hfk
        generalize okR l[k] = B1 at cr HB1 HB2 HB3
        obtain ⟨rk, hrk⟩ : ∃ rk, rk = l[k] := ⟨_, rfl⟩
        rw [← hrk] at a0 a1 a2 a3 a4 a5 cr HB3 HCO
        clear hrk
        have HPX : Hid (∀ p q, ordP rk.pf q = p → ordP rk.pf q = p) := fun _ _ h => h
        obtain ⟨rp, ra⟩ := rk
        obtain ⟨s0, sn, s3⟩ := rp
        obtain ⟨sk, s5⟩ := ra
        simp only at a0 a1 a2 a3 a4 a5 cr HCO HB3
        generalize (hiN sn : Int) = s1 at a1 cr HCO
        generalize (loN sn : Int) = s2 at a2 cr HCO
        generalize (sk : Int) = s4 at a4 cr
        clear HPX
        go_upto_region 6 with fail
        obtain ⟨X, hX⟩ : ∃ X, X = wr.alloc (.cells #[.bool s0, .int .u64 s1, .int .u64 s2, .int .i64 s3, .int .u8 s4, .int .i64 s5] 59) := ⟨_, rfl⟩
        have hbX : Below wr.heap.size wr X := by rw [hX]; exact below_new (Below.refl _ _) _
        have rx : RowAt X wr.heap.size [.bool s0, .int .u64 s1, .int .u64 s2, .int .i64 s3, .int .u8 s4, .int .i64 s5] 59 := by rw [hX]; exact RowAt.new _ _ _
        rw [← hX]
        have hBX := below2 hB hbX
        have hhX := hh.keep hbX
        clear hX
        obtain ⟨gs, hgs⟩ : ∃ g, g = wr.heap.size := ⟨_, rfl⟩
        rw [← hgs] at rx ⊢
        clear hgs a0 a1 a2 a3 a4 a5 hg1
        have m0 : ∀ p : Bl X, p.W.cell? ⟨gs, 0, none⟩ = some (.bool s0) := fun p => (rx.below p.h).cell 0
        have m1 : ∀ p : Bl X, p.W.cell? ⟨gs, 1, none⟩ = some (.int .u64 s1) := fun p => (rx.below p.h).cell 1
        have m2 : ∀ p : Bl X, p.W.cell? ⟨gs, 2, none⟩ = some (.int .u64 s2) := fun p => (rx.below p.h).cell 2
        have m3 : ∀ p : Bl X, p.W.cell? ⟨gs, 3, none⟩ = some (.int .i64 s3) := fun p => (rx.below p.h).cell 3
        have m4 : ∀ p : Bl X, p.W.cell? ⟨gs, 4, none⟩ = some (.int .u8 s4) := fun p => (rx.below p.h).cell 4
        have m5 : ∀ p : Bl X, p.W.cell? ⟨gs, 5, none⟩ = some (.int .i64 s5) := fun p => (rx.below p.h).cell 5
        haveI := bl_ne X
        cases B1
        · have HV : Hid (R = 2) := HB1.out rfl
          clear HB1 HB2 HB3 HD hh hhX
          refine wp_region_bl (by kernel_rfl) (by kernel_rfl) ?_
          repeat (go_big_quiet_step (first | (go_at_call 52; with_reducible exact bl_call (cr _))))
          refine wpQuiet_nil ?_
          intro wq hw'
          obtain ⟨⟨wz, hq⟩, hw2⟩ := hw'
          subst hw2
          have hW := below2 hBX hq
          go_wp2_with fail
          go_ret
          exact ⟨by first | (rw [HV.out]; rfl) | rfl, hW⟩
        · by_cases hk0 : k = 0
          · have HS1 : Hid (rise none l = rise (prevR l 1) (l.drop 1)) := HB2.out rfl hk0
            clear HB1 HB2 HB3 hh hhX
            have hz1 : decide ((0 : Int) < (k : Int)) = false := decide_eq_false (by omega)
            have hz2 : decide (0 < k) = false := decide_eq_false (by omega)
            have HK : Hid (k = 0) := hk0
            clear hk0
            refine wp_region_bl (by kernel_rfl) (by kernel_rfl) ?_
            repeat (go_big_quiet_step (first | (go_at_call 52; with_reducible exact bl_call (cr _))))
            refine wpQuiet_nil ?_
            intro wq hw'
            obtain ⟨⟨wz, hq⟩, hw2⟩ := hw'
            subst hw2
            have hW := below2 hBX hq
            go_wp2_with fail
            go_roundw
            case rel => exact ⟨k + 1, by omega, by go_num, hW, by rw [HK.out]; exact HS1⟩
            case measure => simp [Go.RowKit.intOf]; omega
          · obtain ⟨j, hj⟩ : ∃ j, k = j + 1 := ⟨k - 1, by omega⟩
            have hj2 : j < l.length := by omega
            obtain ⟨g2, i2, e12, hg2, bx⟩ := HasRts.cell hhX j hj2
            obtain ⟨b0, b1, b2, b3, _, _⟩ := six_at bx
            clear bx
            injection e12 with e12
            injection e12 with e1 e2
            subst e1 e2
            obtain ⟨HN1, HN2⟩ := HB3.out rfl j hj2 hj
            have co := HCO.out j hj2
            clear HCO HB1 HB2 HB3 hh hhX
            generalize ordP ⟨s0, sn, s3⟩ l[j].pf = OR at HN1 HN2 co
            have HN1 : Hid (decide (OR ≤ 0) = false → rise none l = rise (prevR l (k + 1)) (l.drop (k + 1))) := HN1
            have HN2 : Hid (decide (OR ≤ 0) = true → R = 2) := HN2
            generalize l[j].pf.six = t0 at co b0
            generalize (hiN l[j].pf.n : Int) = t1 at co b1
            generalize (loN l[j].pf.n : Int) = t2 at co b2
            generalize l[j].pf.len = t3 at co b3
            have u0 : ∀ p : Bl X, p.W.cell? ⟨g1, i1 + j * 6, none⟩ = some (.bool t0) := fun p => (p.h.cell (p := ⟨g1, i1 + j * 6, none⟩) hg2).trans b0
            have u1 : ∀ p : Bl X, p.W.cell? ⟨g1, i1 + j * 6 + 1, none⟩ = some (.int .u64 t1) := fun p => (p.h.cell (p := ⟨g1, i1 + j * 6 + 1, none⟩) hg2).trans b1
            have u2 : ∀ p : Bl X, p.W.cell? ⟨g1, i1 + j * 6 + 2, none⟩ = some (.int .u64 t2) := fun p => (p.h.cell (p := ⟨g1, i1 + j * 6 + 2, none⟩) hg2).trans b2
            have u3 : ∀ p : Bl X, p.W.cell? ⟨g1, i1 + j * 6 + 3, none⟩ = some (.int .i64 t3) := fun p => (p.h.cell (p := ⟨g1, i1 + j * 6 + 3, none⟩) hg2).trans b3
            clear b0 b1 b2 b3 hg2
            have e1 : (k : Int) - 1 = (j : Int) := by omega
            have e2 : IntKind.i64.wrap (j : Int) = (j : Int) := by rw [IntKind.wrap_i64]; omega
            have hkp : decide ((0 : Int) < (k : Int)) = true := decide_eq_true (by omega)
            have hkp' : decide (0 < k) = true := decide_eq_true (by omega)
            have hjn : (j : Int) < (n : Int) := by omega
            clear hj hk0
            cases B2 : decide (OR ≤ 0)
            · rw [B2] at co
              simp only [Bool.not_false] at co
              have HS1 : Hid (rise none l = rise (prevR l (k + 1)) (l.drop (k + 1))) := HN1.out B2
              clear HN1 HN2
              refine wp_region_bl (by kernel_rfl) (by kernel_rfl) ?_
              repeat (go_big_quiet_step (first | (go_at_call 52; with_reducible exact bl_call (cr _)) | (go_at_call 54; with_reducible exact bl_call (co _))))
              refine wpQuiet_nil ?_
              intro wq hw'
              obtain ⟨⟨wz, hq⟩, hw2⟩ := hw'
              subst hw2
              have hW := below2 hBX hq
              go_wp2_with fail
              go_roundw
              case rel => exact ⟨k + 1, by omega, by go_num, hW, HS1⟩
              case measure => simp [Go.RowKit.intOf]; omega
            · rw [B2] at co
              simp only [Bool.not_true] at co
              have HV : Hid (R = 2) := HN2.out B2
              clear HN1 HN2 HD
              refine wp_region_bl (by kernel_rfl) (by kernel_rfl) ?_
              repeat (go_big_quiet_step (first | (go_at_call 52; with_reducible exact bl_call (cr _)) | (go_at_call 54; with_reducible exact bl_call (co _))))
              refine wpQuiet_nil ?_
              intro wq hw'
              obtain ⟨⟨wz, hq⟩, hw2⟩ := hw'
              subst hw2
              have hW := below2 hBX hq
              go_wp2_with fail
              go_ret
              exact ⟨by first | (rw [HV.out]; rfl) | rfl, hW⟩
      · obtain rfl : k = n := by omega
        have HV : Hid (R = 0) := by
          show _ = _
          rw [HD.out, HG.out, List.drop_of_length_le (by rw [← HN.out]; exact Nat.le_refl _)]
          unfold prevR
          split <;> rfl
        clear hh HG HD
        go_wp2
        go_ret
        exact ⟨by first | (rw [HV.out]; rfl) | rfl, hB⟩
end Go.Proofs.YtpooiehhepimkaaGreat.Tr
namespace Go.Proofs.YtpooiehhepimkaaGreat.Tr
open Go.RowKit
open Go.Proofs.YtpooiehhepimkaaGreat.Msg (Ac okA FitA)
open Go.Proofs.YtpooiehhepimkaaGreat.Lk (HasRow)
open Go.Proofs.YtpooiehhepimkaaGreat.Addr (Pf okP hasB cmpN hiN loN pfV adV RowAt below2 below_drew below_new bset gset grefl RowAt.gkeep RowAt.lt RowAt.cell RowAt.frozen RowAt.below RowAt.drew RowAt.new RowAt.alloc RowAt.set1 RowAt.far1 cells2 cells4)
def startR : Rt := ⟨⟨false, 0, -1⟩, ⟨0, 0⟩⟩
def stepR (six : Bool) (a : Nat) (b r : Rt) : Rt := if decide (b.pf.len < r.pf.len) && hasB r.pf six a then r else b
def bestF (six : Bool) (a : Nat) (l : List Rt) : Rt := l.foldl (stepR six a) startR
def bestT (l : List Rt) (six : Bool) (a : Nat) : Rt × Bool := if (bestF six a l).pf.len < 0 then (zeroR, false) else (bestF six a l, true)
theorem best_last {six : Bool} {a : Nat} : ∀ (l : List Rt), Up l → bestF six a l = (l.filter (hasR six a)).getLast?.getD startR := by
  intro l
  unfold bestF
  rw [← List.reverse_reverse l]
  generalize l.reverse = m
  induction m with
  | nil => intro _; rfl
  | cons r m ih =>
    intro hu
    rw [List.reverse_cons] at hu ⊢
    have hp := List.pairwise_append.1 hu
    have ih := ih hp.1
    rw [List.foldl_append, ih, List.filter_append]
    show stepR six a _ r = _
    unfold stepR
    cases hh : hasB r.pf six a with
    | false =>
      rw [Bool.and_false, List.filter_cons_of_neg (by unfold hasR; rw [hh]; simp)]
      simp
    | true =>
      rw [List.filter_cons_of_pos (by unfold hasR; exact hh), List.filter_nil]
      have hlt : ((m.reverse.filter (hasR six a)).getLast?.getD startR).pf.len < r.pf.len := by
        cases hL : (m.reverse.filter (hasR six a)).getLast? with
        | none =>
          have := (ok_parts (has_ok hh)).1
          show (-1 : Int) < _
          omega
        | some y =>
          have hy := List.mem_of_getLast? hL
          obtain ⟨h1, h2⟩ := List.mem_filter.1 hy
          exact (later_long (hp.2.2 y h1 r (by simp)) h2 hh).1
      rw [decide_eq_true hlt]
      simp
theorem best_long {l : List Rt} {six : Bool} {a : Nat} (hl : okT l = true) (ha : Addr.rightB six a = true) : bestT l six a = ((longT l six a).1, decide ((longT l six a).2 = 0)) := by
  have hu := ((okT_iff l).1 hl).2.2
  have hok := ((okT_iff l).1 hl).2.1
  unfold bestT longT
  rw [best_last l hu, hl, ha]
  simp only [Bool.and_self, if_true]
  unfold lastR codeR
  cases hL : (l.filter (hasR six a)).getLast? with
  | none =>
    have he := List.getLast?_eq_none_iff.1 hL
    rw [he]
    rfl
  | some y =>
    have hy := List.mem_of_getLast? hL
    obtain ⟨h1, h2⟩ := List.mem_filter.1 hy
    have h3 := (ok_parts (has_ok h2)).1
    have hne : (l.filter (hasR six a)).length ≠ 0 := fun e => by
      rw [List.length_eq_zero_iff] at e
      rw [e] at hy
      cases hy
    simp only [Option.getD_some]
    rw [if_neg (by omega), if_neg hne]
    rfl
theorem bestF_fit {l : List Rt} (hf : ∀ x ∈ l, FitR x) (six : Bool) (a : Nat) : FitR (bestF six a l) := by
  unfold bestF
  have h0 : FitR startR := ⟨⟨by decide, by decide⟩, by decide, by decide, by decide⟩
  generalize startR = s at h0
  induction l generalizing s with
  | nil => exact h0
  | cons r l ih =>
    refine ih (fun x hx => hf x (List.mem_cons_of_mem _ hx)) _ ?_
    unfold stepR
    split
    · exact hf r List.mem_cons_self
    · exact h0
theorem set6_row {W : World} {B : Nat} {c0 c1 c2 c3 c4 c5 : Value} {t : TypeId} (h : RowAt W B [c0, c1, c2, c3, c4, c5] t) (x0 x1 x2 x3 x4 x5 : Value) : RowAt ((((((W.setCell ⟨B, 0, none⟩ x0).setCell ⟨B, 1, none⟩ x1).setCell ⟨B, 2, none⟩ x2).setCell ⟨B, 3, none⟩ x3).setCell ⟨B, 4, none⟩ x4).setCell ⟨B, 5, none⟩ x5) B [x0, x1, x2, x3, x4, x5] t := (((((h.set1 0 x0).set1 1 x1).set1 2 x2).set1 3 x3).set1 4 x4).set1 5 x5
theorem set6_bl {b0 B : Nat} {w0 W : World} (h : Below b0 w0 W) (hb : b0 ≤ B) (x0 x1 x2 x3 x4 x5 : Value) : Below b0 w0 ((((((W.setCell ⟨B, 0, none⟩ x0).setCell ⟨B, 1, none⟩ x1).setCell ⟨B, 2, none⟩ x2).setCell ⟨B, 3, none⟩ x3).setCell ⟨B, 4, none⟩ x4).setCell ⟨B, 5, none⟩ x5) := bset (bset (bset (bset (bset (bset h hb) hb) hb) hb) hb) hb
theorem six_of {W : World} {B : Nat} {c0 c1 c2 c3 c4 c5 : Value} {t : TypeId} (h : RowAt W B [c0, c1, c2, c3, c4, c5] t) : W.cell? ⟨B, 0, none⟩ = some c0 ∧ W.cell? ⟨B, 1, none⟩ = some c1 ∧ W.cell? ⟨B, 2, none⟩ = some c2 ∧ W.cell? ⟨B, 3, none⟩ = some c3 ∧ W.cell? ⟨B, 4, none⟩ = some c4 ∧ W.cell? ⟨B, 5, none⟩ = some c5 ∧ ∀ k, W.frozen? ⟨B, k, none⟩ = false := ⟨h.cell 0, h.cell 1, h.cell 2, h.cell 3, h.cell 4, h.cell 5, h.frozen⟩
end Go.Proofs.YtpooiehhepimkaaGreat.Tr
namespace Go.Proofs.YtpooiehhepimkaaGreat.Tr
open Go.RowKit Go.Shelf
open Go.Proofs.YtpooiehhepimkaaGreat.Msg (Ac okA FitA eqP eqP_iff eqP_not pf_neq pf_eqb)
open Go.Proofs.YtpooiehhepimkaaGreat.Lk (HasRow append_row empty_own own_below hasRow_own)
open Go.Proofs.YtpooiehhepimkaaGreat.Addr (Pf okP hiN loN pfV RowAt below2 below_drew below_new bset RowAt.lt RowAt.cell RowAt.frozen RowAt.below RowAt.drew RowAt.new RowAt.alloc cells2 cells4)
attribute [-go_sem] Builtin.append_
/-- a row of a call's own -/
structure Own1 (w W : World) (u : Value) (a : List Rt) : Prop where
  ou : W.ownsRow w.heap.size 59 6 u a.length (rtCs a)
  bl : Below w.heap.size w W
theorem Own1.below {w W W' : World} {u : Value} {a : List Rt} (h : Own1 w W u a) (hb : Below W.heap.size W W') : Own1 w W' u a := ⟨own_below h.ou hb, below2 h.bl hb⟩
theorem Own1.app {w W : World} {u x : Value} {a m : List Rt} (h : Own1 w W u a) (hx : HasRts W x m) (hb : a.length + m.length ≤ 1000000) :
    ∃ v' w3, (∀ ty, (Builtin.append_ #[22, 22] ty #[u, x]).run Tryz.prog W = .ok v' w3) ∧ Own1 w w3 v' (a ++ m) := by
  obtain ⟨v', w3, hrun, h1, h2⟩ := append_row info_rt Tryz.underlying22 rfl (by decide) h.ou hx (one_routes m) (by omega) (by omega) h.bl.size
  refine ⟨v', w3, hrun, by rw [← List.length_append, ← rtCs_app] at h1; exact h1, ?_⟩
  exact h.bl.grown h2 h.bl.size (fun k e => (h.ou.lt k e).1)
theorem lit_rt (W : World) (x : Rt) : HasRts (W.alloc (.cells #[.bool x.pf.six, .int .u64 (hiN x.pf.n : Int), .int .u64 (loN x.pf.n : Int), .int .i64 x.pf.len, .int .u8 (x.act.k : Int), .int .i64 x.act.i] 59)) (.slice (some ⟨W.heap.size, 0, none⟩) 1 1) [x] := by
  refine ⟨rfl, .inr ⟨⟨W.heap.size, 0, none⟩, 1, rfl, Nat.le_refl _, by decide, fun _ => ⟨rfl, by simp⟩, fun j hj => ?_⟩⟩
  rw [Lk.addr_add, Nat.zero_add]
  exact (RowAt.new W (rtC x) 59).cell j
theorem filter_snocR (p : Rt → Bool) (l : List Rt) (k : Nat) (h : k < l.length) : (l.take (k + 1)).filter p = (l.take k).filter p ++ (if p l[k] then [l[k]] else []) := by
  rw [List.take_succ_eq_append_getElem h, List.filter_append]
  congr 1
  cases hp : p l[k] <;> simp [hp]
theorem filter_leR (p : Rt → Bool) (l : List Rt) (k : Nat) : ((l.take k).filter p).length ≤ l.length := Nat.le_trans (List.length_filter_le _ _) (by rw [List.length_take]; omega)
theorem others_eqP (l : List Rt) (p : Pf) : othersT l p = l.filter (fun s => !eqP s.pf p) := by
  unfold othersT
  congr 1
  funext s
  congr 1
  rw [Bool.eq_iff_iff, decide_eq_true_eq, eqP_iff, ordP_eq]
set_option maxHeartbeats 8000000 in
set_option maxRecDepth 20000 in
theorem without_any (l : List Rt) (v : Value) (p : Pf) (w : World) (hl : HasRts w v l) (hlen : l.length ≤ 1000) :
    Calls Tryz.prog 53 #[v, .agg #[.bool p.six, .int .u64 (hiN p.n : Int), .int .u64 (loN p.n : Int), .int .i64 p.len]] w fun e w' => ∃ u, e = .returned u ∧ HasRts w' u (othersT l p) ∧ Below w.heap.size w w' := by
  obtain ⟨o, c, rfl, hc1, hc2⟩ := Lk.HasRow.slice hl
  rw [others_eqP]
  obtain ⟨X, hX⟩ : ∃ X, X = w.alloc (.cells #[.bool p.six, .int .u64 (hiN p.n : Int), .int .u64 (loN p.n : Int), .int .i64 p.len] 31) := ⟨_, rfl⟩
  have hB : Below w.heap.size w X := by rw [hX]; exact below_new (Below.refl _ _) _
  have r0 : RowAt X w.heap.size [.bool p.six, .int .u64 (hiN p.n : Int), .int .u64 (loN p.n : Int), .int .i64 p.len] 31 := by rw [hX]; exact RowAt.new _ _ _
  have HR : Hid (∀ wr : World, Below X.heap.size X wr → HasRts wr (.slice o l.length c) l) := fun wr hb => (hl.keep hB).keep hb
  have HNE : Hid (∀ (s : Rt) (W : World), (binOp .neq 31 (.agg #[.bool s.pf.six, .int .u64 (hiN s.pf.n : Int), .int .u64 (loN s.pf.n : Int), .int .i64 s.pf.len]) (.agg #[.bool p.six, .int .u64 (hiN p.n : Int), .int .u64 (loN p.n : Int), .int .i64 p.len])).run Tryz.prog W = .ok (.bool (!eqP s.pf p)) W) := fun s W => pf_neq s.pf p W
  obtain ⟨n, hn⟩ : ∃ n, n = l.length := ⟨_, rfl⟩
  have HN : Hid (n = l.length) := hn
  rw [← hn] at HR hc1 hlen ⊢
  have hni : (n : Int) ≤ 1000 := by omega
  have H0 : Hid (Own1 X X (.slice none 0 0) ((l.take 0).filter (fun s => !eqP s.pf p))) := ⟨World.ownsRow_nil _ _ _ _, Below.refl _ _⟩
  have HF : Hid (∀ k (h : k < l.length), (l.take (k + 1)).filter (fun s => !eqP s.pf p) = (l.take k).filter (fun s => !eqP s.pf p) ++ (if !eqP l[k].pf p then [l[k]] else [])) := fun k h => filter_snocR _ l k h
  have HE : Hid (∀ u W, Own1 X W u (l.filter (fun s => !eqP s.pf p)) → HasRts W u (l.filter (fun s => !eqP s.pf p))) := fun u W h => hasRow_own h.ou
  have HLe : Hid (∀ k, ((l.take k).filter (fun s => !eqP s.pf p)).length ≤ 1000) := fun k => Nat.le_trans (filter_leR _ l k) (by rw [← hn]; exact hlen)
  clear hl hn
  generalize hp0 : p.six = p0 at *
  generalize hp1 : (hiN p.n : Int) = p1 at *
  generalize hp2 : (loN p.n : Int) = p2 at *
  generalize hp3 : p.len = p3 at *
  clear hp0 hp1 hp2 hp3
  go_enter Tryz.func53, Tryz.ntmps53
  go_upto_region 2 with fail
  rw [← hX]
  clear hX
  go_wp2_with fail
  go_loopw [5, 10] (fun u q wr => ∃ k : Nat, k ≤ n ∧ q = .int .i64 k ∧ Hid (Own1 X wr u ((l.take k).filter (fun s => !eqP s.pf p)))) (fun _ q _ => n - (Go.RowKit.intOf q).toNat)
  case atStart => exact ⟨0, by omega, rfl, H0⟩
  case round =>
    obtain ⟨k, hk, rfl, HI⟩ := hrel
    have hI := HI.out
    by_cases hlt : k < n
    · have hkz : k < l.length := by rw [← HN.out]; exact hlt
      obtain ⟨g1, i1, rfl, hg1, ax⟩ := HasRts.cell (HR.out _ hI.bl) k hkz
      obtain ⟨a0, a1, a2, a3, a4, a5⟩ := six_at ax
      clear ax
      have HA := HF.out k hkz
      have hle := HLe.out k
      obtain ⟨x, hx⟩ : ∃ x : Rt, x = l[k] := ⟨_, rfl⟩
      rw [← hx] at HA a0 a1 a2 a3 a4 a5
      replace HA : Hid ((l.take (k + 1)).filter (fun s => !eqP s.pf p) = (l.take k).filter (fun s => !eqP s.pf p) ++ (if !eqP x.pf p then [x] else [])) := HA
      have hne := HNE.out x
      clear hx
      have hki : (k : Int) < (n : Int) := by omega
      have HLT : Hid (∀ W : World, HasRts (W.alloc (.cells #[.bool x.pf.six, .int .u64 (hiN x.pf.n : Int), .int .u64 (loN x.pf.n : Int), .int .i64 x.pf.len, .int .u8 (x.act.k : Int), .int .i64 x.act.i] 59)) (.slice (some ⟨W.heap.size, 0, none⟩) 1 1) [x]) := fun W => lit_rt W x
      generalize eqP x.pf p = E at hne HA
      generalize x.pf.six = s0 at *
      generalize (hiN x.pf.n : Int) = s1 at *
      generalize (loN x.pf.n : Int) = s2 at *
      generalize x.pf.len = s3 at *
      generalize (x.act.k : Int) = s4 at *
      generalize x.act.i = s5 at *
      obtain ⟨Y, hY⟩ : ∃ Y, Y = wr.alloc (.cells #[.bool s0, .int .u64 s1, .int .u64 s2, .int .i64 s3, .int .u8 s4, .int .i64 s5] 59) := ⟨_, rfl⟩
      have hbY : Below wr.heap.size wr Y := by rw [hY]; exact below_new (Below.refl _ _) _
      have rY : RowAt Y wr.heap.size [.bool s0, .int .u64 s1, .int .u64 s2, .int .i64 s3, .int .u8 s4, .int .i64 s5] 59 := by rw [hY]; exact RowAt.new _ _ _
      go_upto_region 5 with fail
      rw [← hY]
      clear hY a0 a1 a2 a3 a4 a5 hg1
      replace hI := hI.below hbY
      obtain ⟨gy, hgy⟩ : ∃ gy, gy = wr.heap.size := ⟨_, rfl⟩
      rw [← hgy] at rY ⊢
      clear hgy hbY
      obtain ⟨y0, y1, y2, y3, y4, y5, yf⟩ := six_of rY
      obtain ⟨q0, q1, q2, q3, qf⟩ := cells4 (RowAt.below r0 hI.bl)
      cases E
      · obtain ⟨v', w3, hrun, hO⟩ := (hI.below (below_new (Below.refl _ Y) (.cells #[.bool s0, .int .u64 s1, .int .u64 s2, .int .i64 s3, .int .u8 s4, .int .i64 s5] 59))).app (HLT.out Y) (by simp only [List.length_cons, List.length_nil]; omega)
        have HO : Hid (Own1 X w3 v' ((l.take (k + 1)).filter (fun s => !eqP s.pf p))) := by
          show Own1 _ _ _ _
          rw [HA.out]
          exact hO
        clear hO hI HA HI rY HLT
        go_wp2_with fail
        go_roundw
        case rel => exact ⟨k + 1, by omega, by go_num, HO⟩
        case measure => simp [Go.RowKit.intOf]; omega
      · have HO : Hid (Own1 X Y u5 ((l.take (k + 1)).filter (fun s => !eqP s.pf p))) := by
          show Own1 _ _ _ _
          rw [HA.out]
          simpa using hI
        clear hI HA HI rY HLT
        go_wp2_with fail
        go_roundw
        case rel => exact ⟨k + 1, by omega, by go_num, HO⟩
        case measure => simp [Go.RowKit.intOf]; omega
    · have hkf : decide ((k : Int) < (n : Int)) = false := decide_eq_false (by omega)
      rw [List.take_of_length_le (by rw [← HN.out]; omega)] at hI
      have hh := HE.out _ _ hI
      have hbl := below2 hB hI.bl
      clear HI hI
      go_wp2_with fail
      go_ret
      exact ⟨_, rfl, hh, hbl⟩
end Go.Proofs.YtpooiehhepimkaaGreat.Tr
namespace Go.Proofs.YtpooiehhepimkaaGreat.Tr
open Go.RowKit Go.Shelf
open Go.Proofs.YtpooiehhepimkaaGreat.Msg (Ac okA FitA eqP eqP_iff eqP_not pf_neq pf_eqb)
open Go.Proofs.YtpooiehhepimkaaGreat.Lk (HasRow append_row empty_own own_below hasRow_own)
open Go.Proofs.YtpooiehhepimkaaGreat.Addr (Pf okP hiN loN pfV RowAt below2 below_drew below_new bset RowAt.lt RowAt.cell RowAt.frozen RowAt.below RowAt.drew RowAt.new RowAt.alloc cells2 cells4)
attribute [-go_sem] Builtin.append_
theorem ahead_others (l : List Rt) (p : Pf) : (othersT l p).filter (fun s => decide (ordP s.pf p < 0)) = aheadT l p := by
  unfold othersT aheadT
  rw [List.filter_filter]
  congr 1
  funext s
  by_cases h : ordP s.pf p < 0
  · rw [decide_eq_true h, decide_eq_false (show ¬ ordP s.pf p = 0 by omega)]; rfl
  · rw [decide_eq_false h]; simp
theorem behind_others (l : List Rt) (p : Pf) : (othersT l p).filter (fun s => decide (ordP p s.pf < 0)) = behindT l p := by
  unfold othersT behindT
  rw [List.filter_filter]
  congr 1
  funext s
  have h1 := ordP_lt p s.pf
  have h2 := ordP_gt s.pf p
  by_cases h : ltP p s.pf
  · have := h2.2 h
    rw [decide_eq_true (h1.2 h), decide_eq_false (show ¬ ordP s.pf p = 0 by omega), decide_eq_true (h2.2 h)]; rfl
  · rw [decide_eq_false (fun c => h (h1.1 c)), decide_eq_false (fun c => h (h2.1 c))]; rfl
theorem ins_others (l : List Rt) (r : Rt) : insT l r = (othersT l r.pf).filter (fun s => decide (ordP s.pf r.pf < 0)) ++ [r] ++ (othersT l r.pf).filter (fun s => decide (ordP r.pf s.pf < 0)) := by
  unfold insT
  rw [ahead_others, behind_others, List.append_assoc]
set_option maxHeartbeats 16000000 in
set_option maxRecDepth 20000 in
theorem rput_any (l : List Rt) (v : Value) (r : Rt) (w : World) (hl : HasRts w v l) (hf : ∀ x ∈ l, FitR x) (hr : FitR r) :
    Calls Tryz.prog 26 #[v, .agg #[.bool r.pf.six, .int .u64 (hiN r.pf.n : Int), .int .u64 (loN r.pf.n : Int), .int .i64 r.pf.len, .int .u8 (r.act.k : Int), .int .i64 r.act.i]] w fun e w' => ∃ u, e = .returned (.tuple #[u, .int .i64 (putT l r).2]) ∧ HasRts w' u (putT l r).1 ∧ Below w.heap.size w w' := by
  obtain ⟨o, c, rfl, hc1, hc2⟩ := Lk.HasRow.slice hl
  have cc := fun W (hb : Below w.heap.size w W) => rcheck_any l _ W (hl.keep hb) hf
  have c1 := fun W => one_any r W hr
  have hck : checkT l = if okT l then 0 else 2 := rfl
  rw [hck] at cc
  have hPd : putT l r = if okT l && okR r then (if (othersT l r.pf).length = 256 then (l, 8) else (insT l r, 0)) else ([], 2) := rfl
  obtain ⟨X, hX⟩ : ∃ X, X = w.alloc (.cells #[.bool r.pf.six, .int .u64 (hiN r.pf.n : Int), .int .u64 (loN r.pf.n : Int), .int .i64 r.pf.len, .int .u8 (r.act.k : Int), .int .i64 r.act.i] 59) := ⟨_, rfl⟩
  have hB : Below w.heap.size w X := by rw [hX]; exact below_new (Below.refl _ _) _
  have r0 : RowAt X w.heap.size [.bool r.pf.six, .int .u64 (hiN r.pf.n : Int), .int .u64 (loN r.pf.n : Int), .int .i64 r.pf.len, .int .u8 (r.act.k : Int), .int .i64 r.act.i] 59 := by rw [hX]; exact RowAt.new _ _ _
  have HLR : Hid (∀ W : World, HasRts (W.alloc (.cells #[.bool r.pf.six, .int .u64 (hiN r.pf.n : Int), .int .u64 (loN r.pf.n : Int), .int .i64 r.pf.len, .int .u8 (r.act.k : Int), .int .i64 r.act.i] 59)) (.slice (some ⟨W.heap.size, 0, none⟩) 1 1) [r]) := fun W => lit_rt W r
  have HCL : Hid (∀ x, x ∈ othersT l r.pf → (∀ W, Calls Tryz.prog 54 #[.agg #[.bool x.pf.six, .int .u64 (hiN x.pf.n : Int), .int .u64 (loN x.pf.n : Int), .int .i64 x.pf.len], .agg #[.bool r.pf.six, .int .u64 (hiN r.pf.n : Int), .int .u64 (loN r.pf.n : Int), .int .i64 r.pf.len]] W fun e w' => e = .returned (.bool ((fun s => decide (ordP s.pf r.pf < 0)) x)) ∧ Below W.heap.size W w') ∧ (∀ W, Calls Tryz.prog 54 #[.agg #[.bool r.pf.six, .int .u64 (hiN r.pf.n : Int), .int .u64 (loN r.pf.n : Int), .int .i64 r.pf.len], .agg #[.bool x.pf.six, .int .u64 (hiN x.pf.n : Int), .int .u64 (loN x.pf.n : Int), .int .i64 x.pf.len]] W fun e w' => e = .returned (.bool ((fun s => decide (ordP r.pf s.pf < 0)) x)) ∧ Below W.heap.size W w')) := fun x hx => ⟨fun W => less_any x.pf r.pf W (hf x (List.mem_filter.1 hx).1).1 hr.1, fun W => less_any r.pf x.pf W hr.1 (hf x (List.mem_filter.1 hx).1).1⟩
  have HCN : Hid (l.length ≤ 1000 → ∀ W : World, Below w.heap.size w W → ∃ v' w3, (∀ ty, (Builtin.append_ #[22, 22] ty #[.slice (some ⟨W.heap.size, 0, none⟩) 0 0, .slice o l.length c]).run Tryz.prog (W.alloc (.cells #[] 59)) = .ok v' w3) ∧ HasRts w3 v' l ∧ Below W.heap.size W w3) := fun hle W hb => by
    have hk := (hl.keep hb).keep (below_new (Below.refl _ W) (.cells #[] 59))
    obtain ⟨v', w3, hrun, h1, h2⟩ := append_row info_rt Tryz.underlying22 rfl (by decide) (empty_own W 59 6) hk (one_routes l) (by omega) (by omega) (by simp)
    rw [Nat.zero_add, List.nil_append] at h1
    exact ⟨v', w3, hrun, hasRow_own h1, ((Below.refl _ W).alloc (Nat.le_refl _) _).grown h2 (by simp) (fun k e => by simp [Value.ownBlock] at e; omega)⟩
  have HW : Hid (l.length ≤ 1000 → ∀ W, Below w.heap.size w W → Calls Tryz.prog 53 #[.slice o l.length c, .agg #[.bool r.pf.six, .int .u64 (hiN r.pf.n : Int), .int .u64 (loN r.pf.n : Int), .int .i64 r.pf.len]] W fun e w' => ∃ u, e = .returned u ∧ HasRts w' u (othersT l r.pf) ∧ Below W.heap.size W w') := fun hle W hb => without_any l _ r.pf W (hl.keep hb) hle
  have HIN : Hid (insT l r = (othersT l r.pf).filter (fun s => decide (ordP s.pf r.pf < 0)) ++ [r] ++ (othersT l r.pf).filter (fun s => decide (ordP r.pf s.pf < 0))) := ins_others l r
  have HOL : Hid ((othersT l r.pf).length ≤ l.length) := List.length_filter_le _ _
  obtain ⟨P, hP⟩ : ∃ P, P = putT l r := ⟨_, rfl⟩
  rw [← hP] at hPd ⊢
  have HPD : Hid (P = if okT l && okR r then (if (othersT l r.pf).length = 256 then (l, 8) else (insT l r, 0)) else ([], 2)) := hPd
  have hlen256 : okT l = true → l.length ≤ 256 := fun h => ((okT_iff l).1 h).1
  clear hPd hP hck hl hf hr
  generalize othersT l r.pf = O at *
  generalize insT l r = IN at *
  generalize okT l = kt at *
  generalize okR r = kr at *
  generalize hN : l.length = n at *
  generalize r.pf.six = t0 at *
  generalize (hiN r.pf.n : Int) = t1 at *
  generalize (loN r.pf.n : Int) = t2 at *
  generalize r.pf.len = t3 at *
  generalize (r.act.k : Int) = t4 at *
  generalize r.act.i = t5 at *
  clear hN
  cases kt
  · have HV : Hid (P = ([], 2)) := HPD.out
    simp only [Bool.false_eq_true, if_false] at cc
    clear HPD HCL HCN HW HIN
    go_enter Tryz.func26, Tryz.ntmps26
    go_upto_region 1 with fail
    rw [← hX]
    clear hX
    go_wp2_with fail
    go_at_call 35; refine (cc _ hB).mono ?_; rintro e w1 ⟨rfl, hb1⟩
    go_wp2_with fail
    go_ret2
    exact ⟨_, by rw [HV.out]; rfl, by rw [HV.out]; exact Lk.hasRow_nil _ 6, below2 hB hb1⟩
  simp only [if_true] at cc
  replace hlen256 := hlen256 (by first | rfl | trivial)
  cases kr
  · have HV : Hid (P = ([], 2)) := HPD.out
    clear HPD HCL HCN HW HIN
    go_enter Tryz.func26, Tryz.ntmps26
    go_upto_region 1 with fail
    rw [← hX]
    clear hX
    go_wp2_with fail
    go_at_call 35; refine (cc _ hB).mono ?_; rintro e w1 ⟨rfl, hb1⟩
    obtain ⟨q0, q1, q2, q3, q4, q5, qf⟩ := six_of (RowAt.below r0 hb1)
    go_wp2_with fail
    go_at_call 52; refine (c1 _).mono ?_; rintro e w2 ⟨rfl, hb2⟩
    go_wp2_with fail
    go_ret2
    exact ⟨_, by rw [HV.out]; rfl, by rw [HV.out]; exact Lk.hasRow_nil _ 6, below2 (below2 hB hb1) hb2⟩
  have HPE : Hid (P = if O.length = 256 then (l, 8) else (IN, 0)) := HPD.out
  clear HPD
  have hni : (n : Int) ≤ 256 := by omega
  have cw := HW.out (by omega)
  have cn := HCN.out (by omega)
  clear HW HCN
  go_enter Tryz.func26, Tryz.ntmps26
  go_upto_region 1 with fail
  rw [← hX]
  clear hX
  go_wp2_with fail
  go_at_call 35; refine (cc _ hB).mono ?_; rintro e w1 ⟨rfl, hb1⟩
  replace r0 := RowAt.below r0 hb1
  replace hB := below2 hB hb1
  clear hb1 cc
  obtain ⟨q0, q1, q2, q3, q4, q5, qf⟩ := six_of r0
  go_wp2_with fail
  clear q0 q1 q2 q3 q4 q5 qf
  go_at_call 52; refine (c1 _).mono ?_; rintro e w2 ⟨rfl, hb2⟩
  replace r0 := RowAt.below r0 hb2
  replace hB := below2 hB hb2
  clear hb2 c1
  obtain ⟨q0, q1, q2, q3, q4, q5, qf⟩ := six_of r0
  go_wp2_with fail
  clear q0 q1 q2 q3 q4 q5 qf
  go_at_call 53; refine (cw _ hB).mono ?_; rintro e V ⟨u6, rfl, hO6, hb6⟩
  replace r0 := RowAt.below r0 hb6
  have hBV := below2 hB hb6
  clear hb6 cw hB
  obtain ⟨o6, m6, rfl, hm6⟩ := Lk.HasRow.slice hO6
  have HRO : Hid (∀ W, Below V.heap.size V W → HasRts W (.slice o6 O.length m6) O) := fun W hb => hO6.keep hb
  have HO6 : Hid (O.length ≤ 1000) := Nat.le_trans HOL.out (by omega)
  obtain ⟨n6, hn6⟩ : ∃ n6, n6 = O.length := ⟨_, rfl⟩
  have HN6 : Hid (n6 = O.length) := hn6
  have HPF : Hid (P = if n6 = 256 then (l, 8) else (IN, 0)) := by show _ = _; rw [HPE.out, hn6]
  have hn6i : (n6 : Int) ≤ 1000 := by have := HO6.out; omega
  rw [← hn6] at HRO ⊢
  clear hO6 hm6 hn6 HPE HOL
  by_cases h256 : n6 = 256
  · have HV : Hid (P = (l, 8)) := by show _ = _; rw [HPF.out, if_pos h256]
    obtain ⟨v', w4, hrun, hh, hb4⟩ := cn V hBV
    clear HPF HRO HCL HIN HN6 HLR
    subst h256
    go_wp2_with fail
    go_ret2
    exact ⟨_, by rw [HV.out]; rfl, by rw [HV.out]; exact hh, below2 hBV hb4⟩
  · have HV : Hid (P = (IN, 0)) := by show _ = _; rw [HPF.out, if_neg h256]
    have hq : ((n6 : Int) == 256) = false := beq_eq_false_iff_ne.2 (by omega)
    clear HPF cn h256
    have H0 : Hid (Own1 V V (.slice none 0 0) ((O.take 0).filter (fun s => decide (ordP s.pf r.pf < 0)))) := ⟨World.ownsRow_nil _ _ _ _, Below.refl _ _⟩
    go_wp2_with fail
    go_loopw [7, 32] (fun u q wr => ∃ k : Nat, k ≤ n6 ∧ q = .int .i64 k ∧ Hid (Own1 V wr u ((O.take k).filter (fun s => decide (ordP s.pf r.pf < 0))))) (fun _ q _ => n6 - (Go.RowKit.intOf q).toNat)
    case atStart => exact ⟨0, by omega, rfl, H0⟩
    case round =>
      obtain ⟨k, hk, rfl, HI⟩ := hrel
      have hI := HI.out
      by_cases hlt : k < n6
      · have hkz : k < O.length := by rw [← HN6.out]; exact hlt
        obtain ⟨g1, i1, rfl, hg1, ax⟩ := HasRts.cell (HRO.out _ hI.bl) k hkz
        obtain ⟨a0, a1, a2, a3, a4, a5⟩ := six_at ax
        clear ax
        have HA : Hid ((O.take (k + 1)).filter (fun s => decide (ordP s.pf r.pf < 0)) = (O.take k).filter (fun s => decide (ordP s.pf r.pf < 0)) ++ (if (fun s => decide (ordP s.pf r.pf < 0)) O[k] then [O[k]] else [])) := filter_snocR _ O k hkz
        have hle : ((O.take k).filter (fun s => decide (ordP s.pf r.pf < 0))).length ≤ 1000 := Nat.le_trans (filter_leR _ O k) HO6.out
        have cL := HCL.out O[k] (List.getElem_mem hkz)
        obtain ⟨x, hx⟩ : ∃ x : Rt, x = O[k] := ⟨_, rfl⟩
        rw [← hx] at HA cL a0 a1 a2 a3 a4 a5
        clear hx
        have hki : (k : Int) < (n6 : Int) := by omega
        have HLT : Hid (∀ W : World, HasRts (W.alloc (.cells #[.bool x.pf.six, .int .u64 (hiN x.pf.n : Int), .int .u64 (loN x.pf.n : Int), .int .i64 x.pf.len, .int .u8 (x.act.k : Int), .int .i64 x.act.i] 59)) (.slice (some ⟨W.heap.size, 0, none⟩) 1 1) [x]) := fun W => lit_rt W x
        replace HA : Hid (∀ E : Bool, E = (fun s => decide (ordP s.pf r.pf < 0)) x → (O.take (k + 1)).filter (fun s => decide (ordP s.pf r.pf < 0)) = (O.take k).filter (fun s => decide (ordP s.pf r.pf < 0)) ++ (if E then [x] else [])) := fun E e => by rw [e]; exact HA.out
        obtain ⟨E, hE⟩ : ∃ E, E = (fun s => decide (ordP s.pf r.pf < 0)) x := ⟨_, rfl⟩
        replace HA := HA.out E hE
        replace HA : Hid ((O.take (k + 1)).filter (fun s => decide (ordP s.pf r.pf < 0)) = (O.take k).filter (fun s => decide (ordP s.pf r.pf < 0)) ++ (if E then [x] else [])) := HA
        replace cL : ∀ W, Calls Tryz.prog 54 #[.agg #[.bool x.pf.six, .int .u64 (hiN x.pf.n : Int), .int .u64 (loN x.pf.n : Int), .int .i64 x.pf.len], .agg #[.bool t0, .int .u64 t1, .int .u64 t2, .int .i64 t3]] W fun e w' => e = .returned (.bool E) ∧ Below W.heap.size W w' := fun W => by rw [hE]; exact cL.1 W
        clear hE
        generalize x.pf.six = s0 at *
        generalize (hiN x.pf.n : Int) = s1 at *
        generalize (loN x.pf.n : Int) = s2 at *
        generalize x.pf.len = s3 at *
        generalize (x.act.k : Int) = s4 at *
        generalize x.act.i = s5 at *
        obtain ⟨Y, hY⟩ : ∃ Y, Y = wr.alloc (.cells #[.bool s0, .int .u64 s1, .int .u64 s2, .int .i64 s3, .int .u8 s4, .int .i64 s5] 59) := ⟨_, rfl⟩
        have hbY : Below wr.heap.size wr Y := by rw [hY]; exact below_new (Below.refl _ _) _
        have rY : RowAt Y wr.heap.size [.bool s0, .int .u64 s1, .int .u64 s2, .int .i64 s3, .int .u8 s4, .int .i64 s5] 59 := by rw [hY]; exact RowAt.new _ _ _
        go_upto_region 10 with fail
        rw [← hY]
        clear hY a0 a1 a2 a3 a4 a5 hg1
        replace hI := hI.below hbY
        obtain ⟨gy, hgy⟩ : ∃ gy, gy = wr.heap.size := ⟨_, rfl⟩
        rw [← hgy] at rY ⊢
        clear hgy hbY
        obtain ⟨y0, y1, y2, y3, y4, y5, yf⟩ := six_of rY
        obtain ⟨q0, q1, q2, q3, q4, q5, qf⟩ := six_of (RowAt.below r0 hI.bl)
        go_wp2_with fail
        clear y0 y1 y2 y3 y4 y5 yf q0 q1 q2 q3 q4 q5 qf
        go_at_call 54; refine (cL _).mono ?_; rintro e w4 ⟨rfl, hb4⟩
        replace hI := hI.below hb4
        replace rY := RowAt.below rY hb4
        clear hb4 cL
        obtain ⟨y0, y1, y2, y3, y4, y5, yf⟩ := six_of rY
        cases E
        · have HO : Hid (Own1 V w4 u7 ((O.take (k + 1)).filter (fun s => decide (ordP s.pf r.pf < 0)))) := by
            show Own1 _ _ _ _
            rw [HA.out]
            simpa using hI
          clear hI HA HI rY HLT
          go_wp2_with fail
          go_roundw
          case rel => exact ⟨k + 1, by omega, by go_num, HO⟩
          case measure => simp [Go.RowKit.intOf]; omega
        · obtain ⟨v', w5, hrun, hO⟩ := (hI.below (below_new (Below.refl _ w4) (.cells #[.bool s0, .int .u64 s1, .int .u64 s2, .int .i64 s3, .int .u8 s4, .int .i64 s5] 59))).app (HLT.out w4) (by simp only [List.length_cons, List.length_nil]; omega)
          have HO : Hid (Own1 V w5 v' ((O.take (k + 1)).filter (fun s => decide (ordP s.pf r.pf < 0)))) := by
            show Own1 _ _ _ _
            rw [HA.out]
            simpa [List.append_assoc] using hO
          clear hO hI HA HI rY HLT
          go_wp2_with fail
          go_roundw
          case rel => exact ⟨k + 1, by omega, by go_num, HO⟩
          case measure => simp [Go.RowKit.intOf]; omega
      · have hkf : decide ((k : Int) < (n6 : Int)) = false := decide_eq_false (by omega)
        rw [List.take_of_length_le (by rw [← HN6.out]; omega)] at hI
        have hAl : (O.filter (fun s => decide (ordP s.pf r.pf < 0))).length ≤ 1000 := Nat.le_trans (List.length_filter_le _ _) HO6.out
        obtain ⟨v', w5, hrun, hO⟩ := (hI.below (below_new (Below.refl _ wr) (.cells #[.bool t0, .int .u64 t1, .int .u64 t2, .int .i64 t3, .int .u8 t4, .int .i64 t5] 59))).app (HLR.out wr) (by simp only [List.length_cons, List.length_nil]; omega)
        obtain ⟨q0, q1, q2, q3, q4, q5, qf⟩ := six_of (RowAt.below r0 hI.bl)
        have H0 : Hid (Own1 V w5 v' (O.filter (fun s => decide (ordP s.pf r.pf < 0)) ++ [r] ++ (O.take 0).filter (fun s => decide (ordP r.pf s.pf < 0)))) := by
          show Own1 _ _ _ _
          simpa using hO
        clear HI hI hO
        go_wp2_with fail
        clear q0 q1 q2 q3 q4 q5 qf hrun
        go_loopw [7, 52] (fun u q wr => ∃ k : Nat, k ≤ n6 ∧ q = .int .i64 k ∧ Hid (Own1 V wr u (O.filter (fun s => decide (ordP s.pf r.pf < 0)) ++ [r] ++ (O.take k).filter (fun s => decide (ordP r.pf s.pf < 0))))) (fun _ q _ => n6 - (Go.RowKit.intOf q).toNat)
        case atStart => exact ⟨0, by omega, rfl, H0⟩
        case round =>
          obtain ⟨k, hk, rfl, HI⟩ := hrel
          have hI := HI.out
          by_cases hlt : k < n6
          · have hkz : k < O.length := by rw [← HN6.out]; exact hlt
            obtain ⟨g1, i1, rfl, hg1, ax⟩ := HasRts.cell (HRO.out _ hI.bl) k hkz
            obtain ⟨a0, a1, a2, a3, a4, a5⟩ := six_at ax
            clear ax
            have HA : Hid ((O.take (k + 1)).filter (fun s => decide (ordP r.pf s.pf < 0)) = (O.take k).filter (fun s => decide (ordP r.pf s.pf < 0)) ++ (if (fun s => decide (ordP r.pf s.pf < 0)) O[k] then [O[k]] else [])) := filter_snocR _ O k hkz
            have hle : ((O.take k).filter (fun s => decide (ordP r.pf s.pf < 0))).length ≤ 1000 := Nat.le_trans (filter_leR _ O k) HO6.out
            have cL := HCL.out O[k] (List.getElem_mem hkz)
            obtain ⟨x, hx⟩ : ∃ x : Rt, x = O[k] := ⟨_, rfl⟩
            rw [← hx] at HA cL a0 a1 a2 a3 a4 a5
            clear hx
            have hki : (k : Int) < (n6 : Int) := by omega
            have HLT : Hid (∀ W : World, HasRts (W.alloc (.cells #[.bool x.pf.six, .int .u64 (hiN x.pf.n : Int), .int .u64 (loN x.pf.n : Int), .int .i64 x.pf.len, .int .u8 (x.act.k : Int), .int .i64 x.act.i] 59)) (.slice (some ⟨W.heap.size, 0, none⟩) 1 1) [x]) := fun W => lit_rt W x
            replace HA : Hid (∀ E : Bool, E = (fun s => decide (ordP r.pf s.pf < 0)) x → (O.take (k + 1)).filter (fun s => decide (ordP r.pf s.pf < 0)) = (O.take k).filter (fun s => decide (ordP r.pf s.pf < 0)) ++ (if E then [x] else [])) := fun E e => by rw [e]; exact HA.out
            obtain ⟨E, hE⟩ : ∃ E, E = (fun s => decide (ordP r.pf s.pf < 0)) x := ⟨_, rfl⟩
            replace HA := HA.out E hE
            replace HA : Hid ((O.take (k + 1)).filter (fun s => decide (ordP r.pf s.pf < 0)) = (O.take k).filter (fun s => decide (ordP r.pf s.pf < 0)) ++ (if E then [x] else [])) := HA
            replace cL : ∀ W, Calls Tryz.prog 54 #[.agg #[.bool t0, .int .u64 t1, .int .u64 t2, .int .i64 t3], .agg #[.bool x.pf.six, .int .u64 (hiN x.pf.n : Int), .int .u64 (loN x.pf.n : Int), .int .i64 x.pf.len]] W fun e w' => e = .returned (.bool E) ∧ Below W.heap.size W w' := fun W => by rw [hE]; exact cL.2 W
            clear hE
            generalize x.pf.six = s0 at *
            generalize (hiN x.pf.n : Int) = s1 at *
            generalize (loN x.pf.n : Int) = s2 at *
            generalize x.pf.len = s3 at *
            generalize (x.act.k : Int) = s4 at *
            generalize x.act.i = s5 at *
            obtain ⟨Y, hY⟩ : ∃ Y, Y = wr.alloc (.cells #[.bool s0, .int .u64 s1, .int .u64 s2, .int .i64 s3, .int .u8 s4, .int .i64 s5] 59) := ⟨_, rfl⟩
            have hbY : Below wr.heap.size wr Y := by rw [hY]; exact below_new (Below.refl _ _) _
            have rY : RowAt Y wr.heap.size [.bool s0, .int .u64 s1, .int .u64 s2, .int .i64 s3, .int .u8 s4, .int .i64 s5] 59 := by rw [hY]; exact RowAt.new _ _ _
            go_upto_region 17 with fail
            rw [← hY]
            clear hY a0 a1 a2 a3 a4 a5 hg1
            replace hI := hI.below hbY
            obtain ⟨gy, hgy⟩ : ∃ gy, gy = wr.heap.size := ⟨_, rfl⟩
            rw [← hgy] at rY ⊢
            clear hgy hbY
            obtain ⟨y0, y1, y2, y3, y4, y5, yf⟩ := six_of rY
            obtain ⟨q0, q1, q2, q3, q4, q5, qf⟩ := six_of (RowAt.below r0 hI.bl)
            go_wp2_with fail
            clear y0 y1 y2 y3 y4 y5 yf q0 q1 q2 q3 q4 q5 qf
            go_at_call 54; refine (cL _).mono ?_; rintro e w4 ⟨rfl, hb4⟩
            replace hI := hI.below hb4
            replace rY := RowAt.below rY hb4
            clear hb4 cL
            obtain ⟨y0, y1, y2, y3, y4, y5, yf⟩ := six_of rY
            cases E
            · have HO : Hid (Own1 V w4 u7 (O.filter (fun s => decide (ordP s.pf r.pf < 0)) ++ [r] ++ (O.take (k + 1)).filter (fun s => decide (ordP r.pf s.pf < 0)))) := by
                show Own1 _ _ _ _
                rw [HA.out]
                simpa using hI
              clear hI HA HI rY HLT
              go_wp2_with fail
              go_roundw
              case rel => exact ⟨k + 1, by omega, by go_num, HO⟩
              case measure => simp [Go.RowKit.intOf]; omega
            · obtain ⟨v', w5, hrun, hO⟩ := (hI.below (below_new (Below.refl _ w4) (.cells #[.bool s0, .int .u64 s1, .int .u64 s2, .int .i64 s3, .int .u8 s4, .int .i64 s5] 59))).app (HLT.out w4) (by simp only [List.length_append, List.length_cons, List.length_nil]; omega)
              have HO : Hid (Own1 V w5 v' (O.filter (fun s => decide (ordP s.pf r.pf < 0)) ++ [r] ++ (O.take (k + 1)).filter (fun s => decide (ordP r.pf s.pf < 0)))) := by
                show Own1 _ _ _ _
                rw [HA.out]
                simpa [List.append_assoc] using hO
              clear hO hI HA HI rY HLT
              go_wp2_with fail
              go_roundw
              case rel => exact ⟨k + 1, by omega, by go_num, HO⟩
              case measure => simp [Go.RowKit.intOf]; omega
          · have hkf : decide ((k : Int) < (n6 : Int)) = false := decide_eq_false (by omega)
            rw [List.take_of_length_le (by rw [← HN6.out]; omega)] at hI
            have hh : HasRts wr u7 _ := hasRow_own hI.ou
            have hbl := below2 hBV hI.bl
            clear HI hI
            go_wp2_with fail
            go_ret2
            exact ⟨_, by rw [HV.out]; rfl, by rw [HV.out, HIN.out]; exact hh, hbl⟩
end Go.Proofs.YtpooiehhepimkaaGreat.Tr
namespace Go.Proofs.YtpooiehhepimkaaGreat.Tr
open Go.RowKit Go.Shelf
open Go.Proofs.YtpooiehhepimkaaGreat.Msg (Ac okA FitA eqP eqP_iff eqP_not pf_neq pf_eqb)
open Go.Proofs.YtpooiehhepimkaaGreat.Lk (HasRow hasRow_own)
open Go.Proofs.YtpooiehhepimkaaGreat.Addr (Pf okP hiN loN pfV RowAt below2 below_drew below_new bset RowAt.lt RowAt.cell RowAt.frozen RowAt.below RowAt.drew RowAt.new RowAt.alloc cells2 cells4)
def findO (l : List Rt) (p : Pf) : Rt × Int := match findT l p with | some s => (s, 0) | none => (zeroR, 3)
def findE (l : List Rt) (p : Pf) : Rt × Int := if okT l && okP p then findO l p else (zeroR, 2)
theorem findT_at {l : List Rt} {p : Pf} {k : Nat} (hk : k < l.length) (h : l[k].pf = p) (h2 : ∀ j (hj : j < l.length), j < k → l[j].pf ≠ p) : findT l p = some l[k] := by
  unfold findT
  rw [List.find?_eq_some_iff_getElem]
  refine ⟨by rw [decide_eq_true_eq, ordP_eq]; exact h, k, hk, rfl, fun j hj => ?_⟩
  have := h2 j (by omega) hj
  simp [ordP_eq]; exact this
theorem findT_no {l : List Rt} {p : Pf} (h : ∀ x ∈ l, x.pf ≠ p) : findT l p = none := by
  unfold findT
  rw [List.find?_eq_none]
  intro x hx
  simp [ordP_eq]; exact h x hx
theorem del_find (l : List Rt) (p : Pf) : delT l p = if (findE l p).2 = 2 then ([], 2) else (othersT l p, (findE l p).2) := by
  unfold delT findE findO
  cases hk : okT l && okP p with
  | false => rfl
  | true =>
    simp only [if_true]
    cases hf : findT l p with
    | none =>
      have hall : othersT l p = l := filt_all (fun x hx => by
        have := List.find?_eq_none.1 hf x hx
        simpa using this)
      rw [hall, if_pos rfl]
      rfl
    | some s =>
      have hm := List.mem_of_find?_eq_some hf
      have hs := List.find?_some hf
      have hne : ¬ (othersT l p).length = l.length := fun h => by
        have he : othersT l p = l := List.filter_sublist.eq_of_length h
        have hm2 : s ∈ othersT l p := by rw [he]; exact hm
        have := (List.mem_filter.1 hm2).2
        rw [hs] at this
        cases this
      rw [if_neg hne]
      rfl
set_option maxHeartbeats 8000000 in
set_option maxRecDepth 20000 in
theorem rfind_any (l : List Rt) (v : Value) (p : Pf) (w : World) (hl : HasRts w v l) (hf : ∀ x ∈ l, FitR x) (hp : FitP p) :
    Calls Tryz.prog 55 #[v, .agg #[.bool p.six, .int .u64 (hiN p.n : Int), .int .u64 (loN p.n : Int), .int .i64 p.len]] w fun e w' => e = .returned (.tuple #[rtA (findE l p).1, .int .i64 (findE l p).2]) ∧ Below w.heap.size w w' := by
  obtain ⟨o, c, rfl, hc1, hc2⟩ := Lk.HasRow.slice hl
  have cc := fun W (hb : Below w.heap.size w W) => rcheck_any l _ W (hl.keep hb) hf
  have c1 : ∀ W, Calls Tryz.prog 50 #[.agg #[.bool p.six, .int .u64 (hiN p.n : Int), .int .u64 (loN p.n : Int), .int .i64 p.len]] W fun e w' => e = .returned (.int .i64 (if okP p then 0 else 2)) ∧ Below W.heap.size W w' := fun W => Addr.rcheck_any p W hp.1 hp.2
  have hck : checkT l = if okT l then 0 else 2 := rfl
  rw [hck] at cc
  have HF : Hid (findE l p = if okT l && okP p then findO l p else (zeroR, 2)) := rfl
  have HL : Hid (∀ W, Below w.heap.size w W → HasRts W (.slice o l.length c) l) := fun W hb => hl.keep hb
  have HEQ : Hid (∀ (s : Rt) (W : World), (binOp .eql 31 (.agg #[.bool s.pf.six, .int .u64 (hiN s.pf.n : Int), .int .u64 (loN s.pf.n : Int), .int .i64 s.pf.len]) (.agg #[.bool p.six, .int .u64 (hiN p.n : Int), .int .u64 (loN p.n : Int), .int .i64 p.len])).run Tryz.prog W = .ok (.bool (eqP s.pf p)) W) := fun s W => pf_eqb s.pf p W
  have HZ : Hid (rtA zeroR = .agg #[.bool false, .int .u64 0, .int .u64 0, .int .i64 0, .int .u8 0, .int .i64 0]) := by show _ = _; unfold rtA zeroR; simp only [Msg.hi0, Msg.lo0]; rfl
  obtain ⟨X, hX⟩ : ∃ X, X = (w.alloc (.cells #[.bool p.six, .int .u64 (hiN p.n : Int), .int .u64 (loN p.n : Int), .int .i64 p.len] 31)).alloc (.cells #[.bool false, .int .u64 0, .int .u64 0, .int .i64 0, .int .u8 0, .int .i64 0] 59) := ⟨_, rfl⟩
  have hB : Below w.heap.size w X := by rw [hX]; exact below_new (below_new (Below.refl _ _) _) _
  have r0 : RowAt X w.heap.size [.bool p.six, .int .u64 (hiN p.n : Int), .int .u64 (loN p.n : Int), .int .i64 p.len] 31 := by rw [hX]; exact (RowAt.new _ _ _).alloc _
  have r1 : RowAt X (w.heap.size + 1) [.bool false, .int .u64 0, .int .u64 0, .int .i64 0, .int .u8 0, .int .i64 0] 59 := by rw [hX, ← World.size_alloc w (.cells #[.bool p.six, .int .u64 (hiN p.n : Int), .int .u64 (loN p.n : Int), .int .i64 p.len] 31)]; exact RowAt.new _ _ _
  have hlen : okT l = true → l.length ≤ 256 := fun h => ((okT_iff l).1 h).1
  generalize findE l p = F at HF ⊢
  generalize okT l = kt at *
  generalize okP p = kp at *
  obtain ⟨n, hn⟩ : ∃ n, n = l.length := ⟨_, rfl⟩
  have HN : Hid (n = l.length) := hn
  rw [← hn] at HL hlen cc ⊢
  generalize p.six = t0 at *
  generalize (hiN p.n : Int) = t1 at *
  generalize (loN p.n : Int) = t2 at *
  generalize p.len = t3 at *
  clear hl hf hp hn hck hc1
  cases kt
  · have HV : Hid (F = (zeroR, 2)) := HF.out
    simp only [Bool.false_eq_true, if_false] at cc
    clear HF HL HEQ
    go_enter Tryz.func55, Tryz.ntmps55
    go_upto_region 1 with fail
    rw [← hX]
    clear hX
    go_wp2_with fail
    go_at_call 35; refine (cc _ hB).mono ?_; rintro e w1 ⟨rfl, hb1⟩
    replace hB := below2 hB hb1
    replace r0 := RowAt.below r0 hb1
    replace r1 := RowAt.below r1 hb1
    clear hb1 cc
    obtain ⟨z0, z1, z2, z3, z4, z5, zf⟩ := six_of r1
    go_wp2_with fail
    (try simp only [Exit.inBlock, Exit.then])
    refine bodyPost_ret (v := .tuple #[.agg #[.bool false, .int .u64 0, .int .u64 0, .int .i64 0, .int .u8 0, .int .i64 0], .int .i64 2]) ?_ rfl ⟨by rw [HV.out, HZ.out], ?_⟩
    · rw [results_cell_tmp rfl]
      go_simp
    · exact set6_bl hB (by omega) _ _ _ _ _ _
  simp only [if_true] at cc
  replace hlen := hlen (by first | rfl | trivial)
  cases kp
  · have HV : Hid (F = (zeroR, 2)) := HF.out
    clear HF HL HEQ
    go_enter Tryz.func55, Tryz.ntmps55
    go_upto_region 1 with fail
    rw [← hX]
    clear hX
    go_wp2_with fail
    go_at_call 35; refine (cc _ hB).mono ?_; rintro e w1 ⟨rfl, hb1⟩
    replace hB := below2 hB hb1
    replace r0 := RowAt.below r0 hb1
    replace r1 := RowAt.below r1 hb1
    clear hb1 cc
    obtain ⟨q0, q1, q2, q3, qf⟩ := cells4 r0
    go_wp2_with fail
    clear q0 q1 q2 q3 qf
    go_at_call 50; refine (c1 _).mono ?_; rintro e w2 ⟨rfl, hb2⟩
    replace hB := below2 hB hb2
    replace r0 := RowAt.below r0 hb2
    replace r1 := RowAt.below r1 hb2
    clear hb2 c1
    obtain ⟨z0, z1, z2, z3, z4, z5, zf⟩ := six_of r1
    go_wp2_with fail
    (try simp only [Exit.inBlock, Exit.then])
    refine bodyPost_ret (v := .tuple #[.agg #[.bool false, .int .u64 0, .int .u64 0, .int .i64 0, .int .u8 0, .int .i64 0], .int .i64 2]) ?_ rfl ⟨by rw [HV.out, HZ.out], ?_⟩
    · rw [results_cell_tmp rfl]
      go_simp
    · exact set6_bl hB (by omega) _ _ _ _ _ _
  have HG : Hid (F = findO l p) := HF.out
  have hni : (n : Int) ≤ 256 := by omega
  clear HF
  go_enter Tryz.func55, Tryz.ntmps55
  go_upto_region 1 with fail
  rw [← hX]
  clear hX
  go_wp2_with fail
  go_at_call 35; refine (cc _ hB).mono ?_; rintro e w1 ⟨rfl, hb1⟩
  replace hB := below2 hB hb1
  replace r0 := RowAt.below r0 hb1
  replace r1 := RowAt.below r1 hb1
  clear hb1 cc
  obtain ⟨q0, q1, q2, q3, qf⟩ := cells4 r0
  go_wp2_with fail
  clear q0 q1 q2 q3 qf
  go_at_call 50; refine (c1 _).mono ?_; rintro e w2 ⟨rfl, hb2⟩
  replace hB := below2 hB hb2
  replace r0 := RowAt.below r0 hb2
  replace r1 := RowAt.below r1 hb2
  clear hb2 c1
  obtain ⟨V, hV⟩ : ∃ V, V = w2 := ⟨_, rfl⟩
  subst hV
  go_wp2_with fail
  go_loopw [19] (fun i wr => ∃ k : Nat, k ≤ n ∧ i = .int .i64 k ∧ Hid (Below V.heap.size V wr ∧ ∀ j (h : j < l.length), j < k → l[j].pf ≠ p)) (fun i _ => n - (Go.RowKit.intOf i).toNat)
  case atStart => exact ⟨0, by omega, rfl, Below.refl _ _, fun j h h' => by omega⟩
  case round =>
    obtain ⟨k, hk, rfl, HI⟩ := hrel
    have hbl := HI.out.1
    by_cases hlt : k < n
    · have hkz : k < l.length := by rw [← HN.out]; exact hlt
      obtain ⟨g1, i1, rfl, hgl, ax⟩ := HasRts.cell (HL.out _ (below2 hB hbl)) k hkz
      obtain ⟨a0, a1, a2, a3, a4, a5⟩ := six_at ax
      clear ax
      have hq := HEQ.out l[k]
      obtain ⟨q, hqd⟩ : ∃ q, q = eqP l[k].pf p := ⟨_, rfl⟩
      rw [← hqd] at hq
      have HK : Hid (q = eqP l[k].pf p) := hqd
      have HVV : Hid (rtA l[k] = .agg #[.bool l[k].pf.six, .int .u64 (hiN l[k].pf.n : Int), .int .u64 (loN l[k].pf.n : Int), .int .i64 l[k].pf.len, .int .u8 (l[k].act.k : Int), .int .i64 l[k].act.i]) := rfl
      clear hqd
      generalize l[k].pf.six = s0 at a0 hq HVV
      generalize (hiN l[k].pf.n : Int) = s1 at a1 hq HVV
      generalize (loN l[k].pf.n : Int) = s2 at a2 hq HVV
      generalize l[k].pf.len = s3 at a3 hq HVV
      generalize (l[k].act.k : Int) = s4 at a4 HVV
      generalize l[k].act.i = s5 at a5 HVV
      have hki : (k : Int) < (n : Int) := by omega
      obtain ⟨Y, hY⟩ : ∃ Y, Y = wr.alloc (.cells #[.bool s0, .int .u64 s1, .int .u64 s2, .int .i64 s3, .int .u8 s4, .int .i64 s5] 59) := ⟨_, rfl⟩
      have hbY : Below wr.heap.size wr Y := by rw [hY]; exact below_new (Below.refl _ _) _
      have rY : RowAt Y wr.heap.size [.bool s0, .int .u64 s1, .int .u64 s2, .int .i64 s3, .int .u8 s4, .int .i64 s5] 59 := by rw [hY]; exact RowAt.new _ _ _
      go_upto_region 6 with fail
      rw [← hY]
      clear hY a0 a1 a2 a3 a4 a5 hgl
      have hbn : Below V.heap.size V Y := below2 hbl hbY
      obtain ⟨y0, y1, y2, y3, y4, y5, yf⟩ := six_of rY
      obtain ⟨q0, q1, q2, q3, qf⟩ := cells4 (RowAt.below r0 hbn)
      obtain ⟨z0, z1, z2, z3, z4, z5, zf⟩ := six_of (RowAt.below r1 hbn)
      cases q
      · have hne : l[k].pf ≠ p := (eqP_not _ _).1 HK.out.symm
        go_wp2_with fail
        go_roundw
        case rel => exact ⟨k + 1, by omega, by go_num, hbn, fun j h h' => by
          rcases Nat.lt_or_ge j k with h9 | h9
          · exact HI.out.2 j h h9
          · have : j = k := by omega
            subst this; exact hne⟩
        case measure => simp [Go.RowKit.intOf]; omega
      · have HV : Hid (F = (l[k], 0)) := by
          show _ = _
          rw [HG.out]
          unfold findO
          rw [findT_at hkz ((eqP_iff _ _).1 HK.out.symm) HI.out.2]
        clear HG HI HK
        go_wp2_with fail
        (try simp only [Exit.inBlock, Exit.then])
        refine bodyPost_ret (v := .tuple #[.agg #[.bool s0, .int .u64 s1, .int .u64 s2, .int .i64 s3, .int .u8 s4, .int .i64 s5], .int .i64 0]) ?_ rfl ⟨by rw [HV.out]; show _ = Ending.returned (.tuple #[rtA l[k], .int .i64 0]); rw [HVV.out], ?_⟩
        · rw [results_cell_tmp rfl]
          go_simp
        · exact set6_bl (below2 hB hbn) (by omega) _ _ _ _ _ _
    · have HV : Hid (F = (zeroR, 3)) := by
        show _ = _
        rw [HG.out]
        unfold findO
        rw [findT_no (fun x hx => by
          obtain ⟨j, hj, rfl⟩ := List.getElem_of_mem hx
          exact HI.out.2 j hj (by have := HN.out; omega))]
      have hkf : decide ((k : Int) < (n : Int)) = false := decide_eq_false (by omega)
      clear HG HI
      obtain ⟨z0, z1, z2, z3, z4, z5, zf⟩ := six_of (RowAt.below r1 hbl)
      go_wp2_with fail
      (try simp only [Exit.inBlock, Exit.then])
      refine bodyPost_ret (v := .tuple #[.agg #[.bool false, .int .u64 0, .int .u64 0, .int .i64 0, .int .u8 0, .int .i64 0], .int .i64 3]) ?_ rfl ⟨by rw [HV.out, HZ.out], ?_⟩
      · rw [results_cell_tmp rfl]
        go_simp
      · exact set6_bl (below2 hB hbl) (by omega) _ _ _ _ _ _
set_option maxHeartbeats 4000000 in
set_option maxRecDepth 20000 in
theorem rdel_any (l : List Rt) (v : Value) (p : Pf) (w : World) (hl : HasRts w v l) (hf : ∀ x ∈ l, FitR x) (hp : FitP p) :
    Calls Tryz.prog 27 #[v, .agg #[.bool p.six, .int .u64 (hiN p.n : Int), .int .u64 (loN p.n : Int), .int .i64 p.len]] w fun e w' => ∃ u, e = .returned (.tuple #[u, .int .i64 (delT l p).2]) ∧ HasRts w' u (delT l p).1 ∧ Below w.heap.size w w' := by
  obtain ⟨o, c, rfl, hc1, hc2⟩ := Lk.HasRow.slice hl
  have cf := fun W (hb : Below w.heap.size w W) => rfind_any l _ p W (hl.keep hb) hf hp
  have cw := fun (hle : l.length ≤ 1000) W (hb : Below w.heap.size w W) => without_any l _ p W (hl.keep hb) hle
  have HD : Hid (delT l p = if (findE l p).2 = 2 then ([], 2) else (othersT l p, (findE l p).2)) := del_find l p
  have hle : ¬ (findE l p).2 = 2 → l.length ≤ 1000 := fun h => by
    unfold findE at h
    split at h
    · rename_i h1
      rw [Bool.and_eq_true] at h1
      have := ((okT_iff l).1 h1.1).1
      omega
    · exact absurd rfl h
  unfold rtA at cf
  generalize delT l p = D at HD ⊢
  generalize (findE l p).2 = y at *
  generalize (findE l p).1 = f at *
  generalize othersT l p = O at *
  generalize f.pf.six = f0 at *
  generalize (hiN f.pf.n : Int) = f1 at *
  generalize (loN f.pf.n : Int) = f2 at *
  generalize f.pf.len = f3 at *
  generalize (f.act.k : Int) = f4 at *
  generalize f.act.i = f5 at *
  generalize l.length = n at *
  generalize p.six = t0 at *
  generalize (hiN p.n : Int) = t1 at *
  generalize (loN p.n : Int) = t2 at *
  generalize p.len = t3 at *
  clear hl hf hp
  obtain ⟨X, hX⟩ : ∃ X, X = w.alloc (.cells #[.bool t0, .int .u64 t1, .int .u64 t2, .int .i64 t3] 31) := ⟨_, rfl⟩
  have hB : Below w.heap.size w X := by rw [hX]; exact below_new (Below.refl _ _) _
  have r0 : RowAt X w.heap.size [.bool t0, .int .u64 t1, .int .u64 t2, .int .i64 t3] 31 := by rw [hX]; exact RowAt.new _ _ _
  go_enter Tryz.func27, Tryz.ntmps27
  go_upto_region 1 with fail
  rw [← hX]
  clear hX
  obtain ⟨q0, q1, q2, q3, qf⟩ := cells4 r0
  go_wp2_with fail
  clear q0 q1 q2 q3 qf
  go_at_call 55; refine (cf _ hB).mono ?_; rintro e w1 ⟨rfl, hb1⟩
  replace hB := below2 hB hb1
  replace r0 := RowAt.below r0 hb1
  clear hb1 cf
  obtain ⟨Y, hY⟩ : ∃ Y, Y = w1.alloc (.cells #[.bool f0, .int .u64 f1, .int .u64 f2, .int .i64 f3, .int .u8 f4, .int .i64 f5] 59) := ⟨_, rfl⟩
  have hbY : Below w1.heap.size w1 Y := by rw [hY]; exact below_new (Below.refl _ _) _
  go_upto_region 2 with fail
  rw [← hY]
  clear hY
  replace hB := below2 hB hbY
  replace r0 := RowAt.below r0 hbY
  clear hbY
  by_cases h2 : y = 2
  · have HV : Hid (D = ([], 2)) := by show _ = _; rw [HD.out, if_pos h2]
    clear HD hle cw
    subst h2
    go_wp2_with fail
    go_ret2
    exact ⟨_, by rw [HV.out]; rfl, by rw [HV.out]; exact Lk.hasRow_nil _ 6, hB⟩
  · have HV : Hid (D = (O, y)) := by show _ = _; rw [HD.out, if_neg h2]
    have hq : (y == 2) = false := beq_eq_false_iff_ne.2 h2
    have cw2 := cw (hle h2)
    clear HD hle cw h2
    obtain ⟨q0, q1, q2, q3, qf⟩ := cells4 r0
    go_wp2_with fail
    go_at_call 53; refine (cw2 _ hB).mono ?_; rintro e w2 ⟨u, rfl, hh, hb2⟩
    go_wp2_with fail
    go_ret2
    exact ⟨_, by rw [HV.out]; rfl, by rw [HV.out]; exact hh, below2 hB hb2⟩
end Go.Proofs.YtpooiehhepimkaaGreat.Tr
namespace Go.Proofs.YtpooiehhepimkaaGreat.Fib
open Go.RowKit
open Go.Proofs.YtpooiehhepimkaaGreat.Addr (Pf hiN loN rightB RowAt below2 below_drew below_new RowAt.lt RowAt.cell RowAt.frozen RowAt.below RowAt.drew RowAt.new RowAt.alloc RowAt.set1 RowAt.far1 cells4 cells2 gset grefl bset gbelow gdrew RowAt.gkeep results_cell)
open Go.Proofs.YtpooiehhepimkaaGreat.Msg (Ev Ac okE FitE evV evC checkE FitA)
open Go.Proofs.YtpooiehhepimkaaGreat.Lk (Lk HasLks HasLks.keep FitL peerL okL)
open Go.Proofs.YtpooiehhepimkaaGreat.Tr (Rt HasRts HasRts.keep FitR longT rtA bestT okT)
set_option maxHeartbeats 4000000 in
set_option maxRecDepth 20000 in
theorem rcheck_any (R : Ro) (a b : Value) (w : World) (ha : HasRts w a R.rts) (hb : HasLks w b R.lks) (hf : ∀ x ∈ R.rts, FitR x) :
    Calls Tryz.prog 14 #[.agg #[.int .i64 R.id, .bool R.up, a, b]] w fun e w' => e = .returned (.int .i64 (checkRo R)) ∧ Below w.heap.size w w' := by
  obtain ⟨o2, m2, rfl, hm2⟩ := Lk.HasRow.slice ha
  obtain ⟨o3, m3, rfl, hm3⟩ := Lk.HasRow.slice hb
  have c1 := fun W (h : HasRts W (.slice o2 R.rts.length m2) R.rts) => Tr.rcheck_any R.rts _ W h hf
  have c2 := fun W (h : HasLks W (.slice o3 R.lks.length m3) R.lks) => Lk.rcheck_any R.lks _ W h
  have hT : okT R.rts = true → R.rts.length ≤ 256 := fun h => ((Tr.okT_iff _).1 h).1
  have hL : okL R.lks = true → R.lks.length ≤ 32 := fun h => Lk.okL_len2 h
  have e1 : Tr.checkT R.rts = if okT R.rts then 0 else 2 := rfl
  have e2 : Lk.checkL R.lks = if okL R.lks then 0 else 2 := rfl
  have e3 : checkRo R = if (decide (0 ≤ R.id) && decide (R.id ≤ 1048576)) && okT R.rts && okL R.lks && (R.up || decide (R.rts.length + R.lks.length = 0)) then 0 else 2 := rfl
  rw [e1] at c1
  rw [e2] at c2
  generalize checkRo R = C at e3 ⊢
  obtain ⟨id, up, rts, lks⟩ := R
  simp only at ha hb c1 c2 hT hL e3 hm2 hm3
  generalize okT rts = kt at c1 hT e3
  generalize okL lks = kl at c2 hL e3
  generalize rts.length = n2 at *
  generalize lks.length = n3 at *
  have HC : Hid (C = if (decide (0 ≤ id) && decide (id ≤ 1048576)) && kt && kl && (up || decide (n2 + n3 = 0)) then 0 else 2) := e3
  clear e1 e2 e3 hf
  obtain ⟨X, hX⟩ : ∃ X, X = w.alloc (.cells #[.int .i64 id, .bool up, .slice o2 n2 m2, .slice o3 n3 m3] 25) := ⟨_, rfl⟩
  have hB : Below w.heap.size w X := by rw [hX]; exact below_new (Below.refl _ _) _
  have r0 : RowAt X w.heap.size [.int .i64 id, .bool up, .slice o2 n2 m2, .slice o3 n3 m3] 25 := by rw [hX]; exact RowAt.new _ _ _
  replace ha := ha.keep hB
  replace hb := hb.keep hB
  show Calls Tryz.prog 14 #[.agg #[.int .i64 id, .bool up, .slice o2 n2 m2, .slice o3 n3 m3]] w _
  by_cases h1 : id < 0
  · have HV : Hid (C = 2) := by show _ = _; rw [HC.out, decide_eq_false (by omega)]; rfl
    have hq : decide (id < 0) = true := decide_eq_true h1
    clear HC h1
    go_enter Tryz.func14, Tryz.ntmps14
    go_upto_region 1 with fail
    rw [← hX]
    clear hX
    obtain ⟨p0, p1, p2, p3, pf0⟩ := cells4 r0
    go_wp2_with fail
    go_ret
    exact ⟨by rw [HV.out]; rfl, hB⟩
  have hq1 : decide (id < 0) = false := decide_eq_false h1
  by_cases h2 : 1048576 < id
  · have HV : Hid (C = 2) := by show _ = _; rw [HC.out, decide_eq_false (show ¬ id ≤ 1048576 by omega)]; simp
    have hq2 : decide (1048576 < id) = true := decide_eq_true h2
    clear HC h1 h2
    go_enter Tryz.func14, Tryz.ntmps14
    go_upto_region 1 with fail
    rw [← hX]
    clear hX
    obtain ⟨p0, p1, p2, p3, pf0⟩ := cells4 r0
    go_wp2_with fail
    go_ret
    exact ⟨by rw [HV.out]; rfl, hB⟩
  have hq2 : decide (1048576 < id) = false := decide_eq_false h2
  have HD : Hid (C = if kt && kl && (up || decide (n2 + n3 = 0)) then 0 else 2) := by show _ = _; rw [HC.out, decide_eq_true (show 0 ≤ id by omega), decide_eq_true (show id ≤ 1048576 by omega)]; rfl
  clear HC h1 h2
  go_enter Tryz.func14, Tryz.ntmps14
  go_upto_region 1 with fail
  rw [← hX]
  clear hX
  obtain ⟨p0, p1, p2, p3, pf0⟩ := cells4 r0
  go_wp2_with fail
  clear p0 p1 p2 p3 pf0
  go_at_call 35; refine (c1 _ ha).mono ?_; rintro e w1 ⟨rfl, hb1⟩
  replace hB := below2 hB hb1
  replace hb := hb.keep hb1
  replace r0 := RowAt.below r0 hb1
  clear hb1 c1 ha
  cases kt
  · have HV : Hid (C = 2) := HD.out
    clear HD
    go_wp2_with fail
    go_ret
    exact ⟨by rw [HV.out]; rfl, hB⟩
  obtain ⟨p0, p1, p2, p3, pf0⟩ := cells4 r0
  go_wp2_with fail
  clear p0 p1 p2 p3 pf0
  go_at_call 36; refine (c2 _ hb).mono ?_; rintro e w2 ⟨rfl, hb2⟩
  replace hB := below2 hB hb2
  replace r0 := RowAt.below r0 hb2
  clear hb2 c2 hb
  cases kl
  · have HV : Hid (C = 2) := HD.out
    clear HD
    go_wp2_with fail
    go_ret
    exact ⟨by rw [HV.out]; rfl, hB⟩
  replace hT := hT (by first | rfl | trivial)
  replace hL := hL (by first | rfl | trivial)
  have hw : IntKind.i64.wrap ((n2 : Int) + (n3 : Int)) = (n2 : Int) + (n3 : Int) := by rw [IntKind.wrap_i64]; omega
  obtain ⟨p0, p1, p2, p3, pf0⟩ := cells4 r0
  cases up
  · by_cases hs : n2 + n3 = 0
    · have HV : Hid (C = 0) := by show _ = _; rw [HD.out, decide_eq_true hs]; rfl
      have hsb : decide ((0 : Int) < (n2 : Int) + (n3 : Int)) = false := decide_eq_false (by omega)
      clear HD hs
      go_wp2_with fail
      go_ret
      exact ⟨by rw [HV.out]; rfl, hB⟩
    · have HV : Hid (C = 2) := by show _ = _; rw [HD.out, decide_eq_false hs]; rfl
      have hsb : decide ((0 : Int) < (n2 : Int) + (n3 : Int)) = true := decide_eq_true (by omega)
      clear HD hs
      go_wp2_with fail
      go_ret
      exact ⟨by rw [HV.out]; rfl, hB⟩
  · have HV : Hid (C = 0) := HD.out
    clear HD
    go_wp2_with fail
    go_ret
    exact ⟨by rw [HV.out]; rfl, hB⟩
theorem find_at {l : List Lk} {i : Int} {k : Nat} (hk : k < l.length) (h : l[k].iface = i) (h2 : ∀ j (hj : j < l.length), j < k → l[j].iface ≠ i) : Lk.findL l i = some l[k] := by
  unfold Lk.findL
  rw [List.find?_eq_some_iff_getElem]
  refine ⟨by simpa using h, k, hk, rfl, fun j hj => ?_⟩
  have := h2 j (by omega) hj
  simpa using this
end Go.Proofs.YtpooiehhepimkaaGreat.Fib
namespace Go.Proofs.YtpooiehhepimkaaGreat.Fib
open Go.RowKit Go.Shelf
open Go.Proofs.YtpooiehhepimkaaGreat.Addr (Pf hiN loN rightB RowAt below2 below_drew below_new RowAt.lt RowAt.cell RowAt.frozen RowAt.below RowAt.drew RowAt.new RowAt.alloc RowAt.set1 RowAt.far1 cells4 cells2 gset grefl bset gbelow gdrew RowAt.gkeep results_cell)
open Go.Proofs.YtpooiehhepimkaaGreat.Msg (Ev Ac okE FitE evV evC checkE FitA)
open Go.Proofs.YtpooiehhepimkaaGreat.Lk (Lk HasLks HasLks.keep FitL peerL okL)
open Go.Proofs.YtpooiehhepimkaaGreat.Tr (Rt HasRts HasRts.keep FitR FitP longT rtA okT)
attribute [-go_sem] Builtin.append_
theorem copy_row {e tS sz bytes : Nat} {z : Value} (hi : (Tryz.prog.info? e).map (fun i => (i.zero, i.size, i.bytes)) = some (some z, sz, bytes)) (hu : Tryz.prog.underlying tS = some (.slice e)) (hz : z.cells.size = sz) (hsz : 0 < sz) {W : World} {u : Value} {n : Nat} {cs : List Value} (h : Lk.HasRow W u sz n cs) (h1 : ∀ x ∈ cs, x.oneCell' = true) (hb : n * bytes ≤ 140737488355328) (hn : n ≤ 9223372036854775807) :
    ∃ o c w3, (∀ ty, (Builtin.append_ #[tS, tS] ty #[.slice (some ⟨W.heap.size, 0, none⟩) 0 0, u]).run Tryz.prog (W.alloc (.cells #[] e)) = .ok (.slice o n c) w3) ∧ Lk.HasRow w3 (.slice o n c) sz n cs ∧ Below W.heap.size W w3 := by
  have hk := Lk.HasRow.keep h (below_new (Below.refl _ W) (.cells #[] e))
  obtain ⟨v', w3, hrun, h2, h3⟩ := Lk.append_row hi hu hz hsz (Lk.empty_own W e sz) hk h1 (by rw [Nat.zero_add]; exact hb) (by omega) (by simp)
  rw [Nat.zero_add, List.nil_append] at h2
  have hh := Lk.hasRow_own h2
  obtain ⟨o, c, rfl, _⟩ := Lk.HasRow.slice hh
  exact ⟨o, c, w3, hrun, hh, ((Below.refl _ W).alloc (Nat.le_refl _) _).grown h3 (by simp) (fun k e => by simp [Value.ownBlock] at e; omega)⟩
set_option maxHeartbeats 4000000 in
set_option maxRecDepth 20000 in
theorem copy_any (R : Ro) (a b : Value) (w : World) (ha : HasRts w a R.rts) (hb : HasLks w b R.lks) (h1 : R.rts.length * 48 ≤ 140737488355328) (h2 : R.lks.length * 16 ≤ 140737488355328) :
    Calls Tryz.prog 5 #[.agg #[.int .i64 R.id, .bool R.up, a, b]] w fun e w' => ∃ o2 n2 m2 o3 n3 m3, e = .returned (.agg #[.int .i64 R.id, .bool R.up, .slice o2 n2 m2, .slice o3 n3 m3]) ∧ HasRts w' (.slice o2 n2 m2) R.rts ∧ HasLks w' (.slice o3 n3 m3) R.lks ∧ Below w.heap.size w w' := by
  obtain ⟨o2, m2, rfl, hm2⟩ := Lk.HasRow.slice ha
  obtain ⟨o3, m3, rfl, hm3⟩ := Lk.HasRow.slice hb
  have C1 : Hid (∀ W, HasRts W (.slice o2 R.rts.length m2) R.rts → ∃ o c w3, (∀ ty, (Builtin.append_ #[22, 22] ty #[.slice (some ⟨W.heap.size, 0, none⟩) 0 0, .slice o2 R.rts.length m2]).run Tryz.prog (W.alloc (.cells #[] 59)) = .ok (.slice o R.rts.length c) w3) ∧ HasRts w3 (.slice o R.rts.length c) R.rts ∧ Below W.heap.size W w3) := fun W h => copy_row Tr.info_rt Tryz.underlying22 rfl (by decide) h (Tr.one_routes _) h1 (by omega)
  have C2 : Hid (∀ W, HasLks W (.slice o3 R.lks.length m3) R.lks → ∃ o c w3, (∀ ty, (Builtin.append_ #[23, 23] ty #[.slice (some ⟨W.heap.size, 0, none⟩) 0 0, .slice o3 R.lks.length m3]).run Tryz.prog (W.alloc (.cells #[] 64)) = .ok (.slice o R.lks.length c) w3) ∧ HasLks w3 (.slice o R.lks.length c) R.lks ∧ Below W.heap.size W w3) := fun W h => copy_row Lk.info_lk Tryz.underlying23 rfl (by decide) h (Lk.one_links _) h2 (by omega)
  obtain ⟨id, up, rts, lks⟩ := R
  simp only at ha hb C1 C2 ⊢
  clear h1 h2 hm2 hm3
  generalize rts.length = n2 at *
  generalize lks.length = n3 at *
  obtain ⟨X, hX⟩ : ∃ X, X = (w.alloc (.cells #[.int .i64 id, .bool up, .slice o2 n2 m2, .slice o3 n3 m3] 25)).alloc (.cells #[.int .i64 0, .bool false, .slice none 0 0, .slice none 0 0] 25) := ⟨_, rfl⟩
  have hB : Below w.heap.size w X := by rw [hX]; exact below_new (below_new (Below.refl _ _) _) _
  have r0 : RowAt X w.heap.size [.int .i64 id, .bool up, .slice o2 n2 m2, .slice o3 n3 m3] 25 := by rw [hX]; exact (RowAt.new _ _ _).alloc _
  have r1 : RowAt X (w.heap.size + 1) [.int .i64 0, .bool false, .slice none 0 0, .slice none 0 0] 25 := by rw [hX, ← World.size_alloc w (.cells #[.int .i64 id, .bool up, .slice o2 n2 m2, .slice o3 n3 m3] 25)]; exact RowAt.new _ _ _
  replace ha := ha.keep hB
  replace hb := hb.keep hB
  obtain ⟨o4, c4, w3, hrun, hh4, hb3⟩ := C1.out X ha
  have R0 := RowAt.below r0 hb3
  have R1 := RowAt.below r1 hb3
  have hlt := r0.lt
  obtain ⟨Y, hY⟩ : ∃ Y, Y = w3.setCell ⟨w.heap.size, 2, none⟩ (.slice o4 n2 c4) := ⟨_, rfl⟩
  have g2 : w3.grownBy Y (some w.heap.size) := by rw [hY]; exact gset (grefl _ _)
  have y0 : RowAt Y w.heap.size [.int .i64 id, .bool up, .slice o4 n2 c4, .slice o3 n3 m3] 25 := by rw [hY]; exact R0.set1 2 _
  have y1 : RowAt Y (w.heap.size + 1) [.int .i64 0, .bool false, .slice none 0 0, .slice none 0 0] 25 := by rw [hY]; exact R1.far1 (by omega) _ _
  have hh5 : HasRts Y (.slice o4 n2 c4) rts := rts_apart hh4 R0 g2
  have hb5 : HasLks Y (.slice o3 n3 m3) lks := lks_apart (hb.keep hb3) R0 g2
  have hBY : Below w.heap.size w Y := by rw [hY]; exact bset (below2 hB hb3) (Nat.le_refl _)
  obtain ⟨o6, c6, w4, hrun2, hh6, hb6⟩ := C2.out Y hb5
  have S0 := RowAt.below y0 hb6
  have S1 := RowAt.below y1 hb6
  obtain ⟨V, hV⟩ : ∃ V, V = w4.setCell ⟨w.heap.size, 3, none⟩ (.slice o6 n3 c6) := ⟨_, rfl⟩
  have g3 : w4.grownBy V (some w.heap.size) := by rw [hV]; exact gset (grefl _ _)
  have v0 : RowAt V w.heap.size [.int .i64 id, .bool up, .slice o4 n2 c4, .slice o6 n3 c6] 25 := by rw [hV]; exact S0.set1 3 _
  have v1 : RowAt V (w.heap.size + 1) [.int .i64 0, .bool false, .slice none 0 0, .slice none 0 0] 25 := by rw [hV]; exact S1.far1 (by omega) _ _
  have HR : Hid (HasRts V (.slice o4 n2 c4) rts ∧ HasLks V (.slice o6 n3 c6) lks ∧ Below w.heap.size w V) := ⟨rts_apart (hh5.keep hb6) S0 g3, lks_apart hh6 S0 g3, by rw [hV]; exact bset (below2 hBY hb6) (Nat.le_refl _)⟩
  clear C1 C2 ha hb hh4 hh5 hb5 hh6 g2 g3 hBY hB
  obtain ⟨p0, p1, p2, p3, pf0⟩ := cells4 r0
  go_enter Tryz.func5, Tryz.ntmps5
  go_upto_region 1 with fail
  rw [← hX]
  clear hX
  have hXl : w.heap.size < X.heap.size := hlt
  have P0 : (X.alloc (.cells #[] 59)).cell? ⟨w.heap.size, 2, none⟩ = some (.slice o2 n2 m2) := (RowAt.below r0 (below_new (Below.refl _ X) _)).cell 2
  obtain ⟨q0, q1, q2, q3, qf0⟩ := cells4 R0
  go_upto_region 2 with fail
  rw [← hY]
  clear hY P0 p0 p1 p2 p3 pf0 q0 q1 q2 q3 qf0 hrun
  have P1 : (Y.alloc (.cells #[] 64)).cell? ⟨w.heap.size, 3, none⟩ = some (.slice o3 n3 m3) := (RowAt.below y0 (below_new (Below.refl _ Y) _)).cell 3
  obtain ⟨p0, p1, p2, p3, pf0⟩ := cells4 y0
  obtain ⟨q0, q1, q2, q3, qf0⟩ := cells4 S0
  go_upto_region 3 with fail
  rw [← hV]
  clear hV P1 p0 p1 p2 p3 pf0 q0 q1 q2 q3 qf0 hrun2
  obtain ⟨p0, p1, p2, p3, pf0⟩ := cells4 v0
  obtain ⟨q0, q1, q2, q3, qf0⟩ := cells4 v1
  go_wp2_with fail
  (try simp only [Exit.inBlock, Exit.then])
  refine bodyPost_ret (v := .agg #[.int .i64 id, .bool up, .slice o4 n2 c4, .slice o6 n3 c6]) ?_ rfl ⟨_, _, _, _, _, _, rfl, ?_, ?_, ?_⟩
  · rw [results_cell rfl]
    go_simp
  · exact rts_apart HR.out.1 v1 (set4_gr _ _ _ _ _ _)
  · exact lks_apart HR.out.2.1 v1 (set4_gr _ _ _ _ _ _)
  · exact set4_bl HR.out.2.2 (by omega) _ _ _ _
theorem rmake_any (i : Int) (w : World) : Calls Tryz.prog 9 #[.int .i64 i] w (RoIs (makeRo i).1 (makeRo i).2 w) := by
  have HA : Hid (makeRo i = if (decide (0 ≤ i) && decide (i ≤ 1048576)) then (⟨i, false, [], []⟩, 0) else (zeroRo, 1)) := rfl
  generalize makeRo i = A at HA ⊢
  have c25 := fun (W : World) => ro_nil W
  obtain ⟨X, hX⟩ : ∃ X, X = w.alloc (.cells #[.int .i64 0, .bool false, .slice none 0 0, .slice none 0 0] 25) := ⟨_, rfl⟩
  have hB : Below w.heap.size w X := by rw [hX]; exact below_new (Below.refl _ _) _
  have r0 : RowAt X w.heap.size [.int .i64 0, .bool false, .slice none 0 0, .slice none 0 0] 25 := by rw [hX]; exact RowAt.new _ _ _
  obtain ⟨q0, q1, q2, q3, qf⟩ := cells4 r0
  by_cases hk : 0 ≤ i ∧ i ≤ 1048576
  · have HV : Hid (A = (⟨i, false, [], []⟩, 0)) := by show _ = _; rw [HA.out, decide_eq_true hk.1, decide_eq_true hk.2]; rfl
    have e1 : decide (i < 0) = false := decide_eq_false (by omega)
    have e2 : decide (1048576 < i) = false := decide_eq_false (by omega)
    clear HA hk
    go_enter Tryz.func9, Tryz.ntmps9
    go_upto_region 1 with fail
    rw [← hX]
    clear hX
    go_wp2_with fail
    (try simp only [Exit.inBlock, Exit.then])
    refine bodyPost_ret (v := .tuple #[.agg #[.int .i64 i, .bool false, .slice none 0 0, .slice none 0 0], .int .i64 0]) ?_ rfl ⟨none, 0, 0, none, 0, 0, by rw [HV.out], by rw [HV.out]; exact (c25 _).1, by rw [HV.out]; exact (c25 _).2, ?_⟩
    · rw [results_cell_tmp rfl]
      go_simp
    · exact set4_bl hB (by omega) _ _ _ _
  · have HV : Hid (A = (zeroRo, 1)) := by
      show _ = _
      rw [HA.out]
      by_cases h0 : 0 ≤ i
      · rw [decide_eq_true h0, decide_eq_false (show ¬ i ≤ 1048576 from fun h => hk ⟨h0, h⟩)]; rfl
      · rw [decide_eq_false h0]; rfl
    clear HA
    by_cases h0 : i < 0
    · have e1 : decide (i < 0) = true := decide_eq_true h0
      clear hk h0
      go_enter Tryz.func9, Tryz.ntmps9
      go_upto_region 1 with fail
      rw [← hX]
      clear hX
      go_wp2_with fail
      (try simp only [Exit.inBlock, Exit.then])
      refine bodyPost_ret (v := .tuple #[.agg #[.int .i64 0, .bool false, .slice none 0 0, .slice none 0 0], .int .i64 1]) ?_ rfl ⟨none, 0, 0, none, 0, 0, by rw [HV.out]; rfl, by rw [HV.out]; exact (c25 _).1, by rw [HV.out]; exact (c25 _).2, ?_⟩
      · rw [results_cell_tmp rfl]
        go_simp
      · exact set4_bl hB (by omega) _ _ _ _
    · have e1 : decide (i < 0) = false := decide_eq_false h0
      have e2 : decide (1048576 < i) = true := decide_eq_true (by omega)
      clear hk h0
      go_enter Tryz.func9, Tryz.ntmps9
      go_upto_region 1 with fail
      rw [← hX]
      clear hX
      go_wp2_with fail
      (try simp only [Exit.inBlock, Exit.then])
      refine bodyPost_ret (v := .tuple #[.agg #[.int .i64 0, .bool false, .slice none 0 0, .slice none 0 0], .int .i64 1]) ?_ rfl ⟨none, 0, 0, none, 0, 0, by rw [HV.out]; rfl, by rw [HV.out]; exact (c25 _).1, by rw [HV.out]; exact (c25 _).2, ?_⟩
      · rw [results_cell_tmp rfl]
        go_simp
      · exact set4_bl hB (by omega) _ _ _ _
theorem rsize_any (R : Ro) (a b : Value) (w : World) (ha : HasRts w a R.rts) (hb : HasLks w b R.lks) (hf : FitRo R) :
    Calls Tryz.prog 11 #[.agg #[.int .i64 R.id, .bool R.up, a, b]] w fun e w' => e = .returned (.tuple #[.int .i64 (sizeRo R).1, .int .i64 (sizeRo R).2]) ∧ Below w.heap.size w w' := by
  obtain ⟨o2, m2, rfl, hm2⟩ := Lk.HasRow.slice ha
  obtain ⟨o3, m3, rfl, hm3⟩ := Lk.HasRow.slice hb
  have cC := fun W (h : HasRts W (.slice o2 R.rts.length m2) R.rts) (h' : HasLks W (.slice o3 R.lks.length m3) R.lks) => rcheck_any R _ _ W h h' hf.rts
  have hck : checkRo R = if okRo R then 0 else 2 := rfl
  rw [hck] at cC
  clear hck
  have hl : okRo R = true → R.rts.length ≤ 1000 ∧ R.lks.length ≤ 1000 := fun h => by have := okRo_parts h; omega
  have hA : sizeRo R = if okRo R then (((R.rts.length + R.lks.length : Nat) : Int), 0) else (0, 2) := rfl
  generalize sizeRo R = A at hA ⊢
  generalize okRo R = kr at hA cC hl
  obtain ⟨id, up, rts, lks⟩ := R
  simp only at ha hb cC hl hA
  generalize rts.length = n2 at *
  generalize lks.length = n3 at *
  have HA : Hid (A = if kr then ((n2 : Int) + (n3 : Int), 0) else (0, 2)) := by show _ = _; rw [hA, show ((n2 + n3 : Nat) : Int) = (n2 : Int) + (n3 : Int) by omega]
  clear hA hf
  obtain ⟨X, hX⟩ : ∃ X, X = w.alloc (.cells #[.int .i64 id, .bool up, .slice o2 n2 m2, .slice o3 n3 m3] 25) := ⟨_, rfl⟩
  have hB : Below w.heap.size w X := by rw [hX]; exact below_new (Below.refl _ _) _
  have r0 : RowAt X w.heap.size [.int .i64 id, .bool up, .slice o2 n2 m2, .slice o3 n3 m3] 25 := by rw [hX]; exact RowAt.new _ _ _
  replace ha := ha.keep hB
  replace hb := hb.keep hB
  show Calls Tryz.prog 11 #[.agg #[.int .i64 id, .bool up, .slice o2 n2 m2, .slice o3 n3 m3]] w _
  go_enter Tryz.func11, Tryz.ntmps11
  go_upto_region 1 with fail
  rw [← hX]
  clear hX
  obtain ⟨p0, p1, p2, p3, pf0⟩ := cells4 r0
  go_wp2_with fail
  clear p0 p1 p2 p3 pf0
  go_at_call 14; refine (cC _ ha hb).mono ?_; rintro x w1 ⟨rfl, hb1⟩
  replace hB := below2 hB hb1
  replace r0 := RowAt.below r0 hb1
  clear hb1 cC
  cases kr
  · have HV : Hid (A = (0, 2)) := HA.out
    clear HA hl
    go_wp2_with fail
    go_ret2
    exact ⟨by rw [HV.out]; rfl, hB⟩
  · have HV : Hid (A = ((n2 : Int) + (n3 : Int), 0)) := HA.out
    obtain ⟨hl1, hl2⟩ := hl rfl
    have hw : IntKind.i64.wrap ((n2 : Int) + (n3 : Int)) = (n2 : Int) + (n3 : Int) := by rw [IntKind.wrap_i64]; omega
    clear HA hl
    obtain ⟨p0, p1, p2, p3, pf0⟩ := cells4 r0
    go_wp2_with fail
    go_ret2
    exact ⟨by rw [HV.out]; rfl, hB⟩
end Go.Proofs.YtpooiehhepimkaaGreat.Fib
namespace Go.Proofs.YtpooiehhepimkaaGreat.Fib
open Go.RowKit Go.Shelf
open Go.Proofs.YtpooiehhepimkaaGreat.Addr (Pf hiN loN rightB RowAt below2 below_drew below_new RowAt.lt RowAt.cell RowAt.frozen RowAt.below RowAt.drew RowAt.new RowAt.alloc RowAt.set1 RowAt.far1 cells4 cells2 gset grefl bset gbelow gdrew RowAt.gkeep results_cell)
open Go.Proofs.YtpooiehhepimkaaGreat.Msg (Ev Ac okE FitE evV evC checkE FitA)
open Go.Proofs.YtpooiehhepimkaaGreat.Lk (Lk HasLks HasLks.keep FitL peerL okL)
open Go.Proofs.YtpooiehhepimkaaGreat.Tr (Rt HasRts HasRts.keep FitR FitP longT rtA okT)
set_option maxHeartbeats 32000000 in
set_option maxRecDepth 20000 in
theorem rapply_walk (id : Int) (up : Bool) (rts : List Rt) (lks : List Lk) (o2 o3 : Option Addr) (n2 n3 m2 m3 : Nat) (kind router seq time : Int) (f0 : Bool) (f1 f2 f3 a0 a1 iface peer : Int) (kr ke : Bool) (A : Ro × Int) (Tp : List Rt × Int) (Td : List Rt) (dw : Int) (Lp : List Lk × Int) (Ld : List Lk) (dv : Int) (w : World) (ha0 : HasRts w (.slice o2 n2 m2) rts) (hb0 : HasLks w (.slice o3 n3 m3) lks)
    (cC : ∀ W, HasRts W (.slice o2 n2 m2) rts → HasLks W (.slice o3 n3 m3) lks → Calls Tryz.prog 14 #[.agg #[.int .i64 id, .bool up, .slice o2 n2 m2, .slice o3 n3 m3]] W fun e w' => e = .returned (.int .i64 (if kr then 0 else 2)) ∧ Below W.heap.size W w')
    (cM : ∀ W, Calls Tryz.prog 25 #[.agg #[.int .u8 kind, .int .i64 router, .int .u64 seq, .int .i64 time, .bool f0, .int .u64 f1, .int .u64 f2, .int .i64 f3, .int .u8 a0, .int .i64 a1, .int .i64 iface, .int .i64 peer]] W fun e w' => e = .returned (.int .i64 (if ke then 0 else 2)) ∧ Below W.heap.size W w')
    (cY : kr = true → ∀ W, HasRts W (.slice o2 n2 m2) rts → HasLks W (.slice o3 n3 m3) lks → Calls Tryz.prog 5 #[.agg #[.int .i64 id, .bool up, .slice o2 n2 m2, .slice o3 n3 m3]] W fun e w' => ∃ o2 n2 m2 o3 n3 m3, e = .returned (.agg #[.int .i64 id, .bool up, .slice o2 n2 m2, .slice o3 n3 m3]) ∧ HasRts w' (.slice o2 n2 m2) rts ∧ HasLks w' (.slice o3 n3 m3) lks ∧ Below W.heap.size W w')
    (cP : ∀ W u, HasRts W u rts → Calls Tryz.prog 26 #[u, .agg #[.bool f0, .int .u64 f1, .int .u64 f2, .int .i64 f3, .int .u8 a0, .int .i64 a1]] W fun e w' => ∃ o n m, e = .returned (.tuple #[.slice o n m, .int .i64 Tp.2]) ∧ HasRts w' (.slice o n m) Tp.1 ∧ Below W.heap.size W w')
    (cD : ∀ W u, HasRts W u rts → Calls Tryz.prog 27 #[u, .agg #[.bool f0, .int .u64 f1, .int .u64 f2, .int .i64 f3]] W fun e w' => ∃ o n m, e = .returned (.tuple #[.slice o n m, .int .i64 dw]) ∧ HasRts w' (.slice o n m) Td ∧ Below W.heap.size W w')
    (cL : ∀ W u, HasLks W u lks → Calls Tryz.prog 28 #[u, .agg #[.int .i64 iface, .int .i64 peer]] W fun e w' => ∃ o n m, e = .returned (.tuple #[.slice o n m, .int .i64 Lp.2]) ∧ HasLks w' (.slice o n m) Lp.1 ∧ Below W.heap.size W w')
    (cE : ∀ W u, HasLks W u lks → Calls Tryz.prog 29 #[u, .int .i64 iface] W fun e w' => ∃ o n m, e = .returned (.tuple #[.slice o n m, .int .i64 dv]) ∧ HasLks w' (.slice o n m) Ld ∧ Below W.heap.size W w')
    (H0 : (kr = false ∨ ke = false) → Hid (A = (zeroRo, 2))) (H14 : kr = true → ke = true → router ≠ id → Hid (A = (⟨id, up, rts, lks⟩, 14))) (H10 : kr = true → ke = true → router = id → decide (kind = 1) = up → Hid (A = (⟨id, up, rts, lks⟩, 10)))
    (HK1 : kr = true → ke = true → router = id → ¬ decide (kind = 1) = up → kind = 1 → Hid (A = (⟨id, true, rts, lks⟩, 0)))
    (HK2 : kr = true → ke = true → router = id → ¬ decide (kind = 1) = up → kind = 2 → Hid (A = (⟨id, false, [], []⟩, 0)))
    (HK3 : kr = true → ke = true → router = id → ¬ decide (kind = 1) = up → kind = 3 → Hid (A = if Tp.2 = 0 then (⟨id, up, Tp.1, lks⟩, 0) else (⟨id, up, rts, lks⟩, Tp.2)))
    (HK4 : kr = true → ke = true → router = id → ¬ decide (kind = 1) = up → kind = 4 → Hid (A = (⟨id, up, Td, lks⟩, 0)))
    (HK5 : kr = true → ke = true → router = id → ¬ decide (kind = 1) = up → kind = 5 → Hid (A = if Lp.2 = 0 then (⟨id, up, rts, Lp.1⟩, 0) else (⟨id, up, rts, lks⟩, Lp.2)))
    (HK6 : kr = true → ke = true → router = id → ¬ decide (kind = 1) = up → kind = 6 → Hid (A = (⟨id, up, rts, Ld⟩, 0)))
    (hk6 : kr = true → ke = true → kind = 1 ∨ kind = 2 ∨ kind = 3 ∨ kind = 4 ∨ kind = 5 ∨ kind = 6) :
    Calls Tryz.prog 7 #[.agg #[.int .i64 id, .bool up, .slice o2 n2 m2, .slice o3 n3 m3], .agg #[.int .u8 kind, .int .i64 router, .int .u64 seq, .int .i64 time, .bool f0, .int .u64 f1, .int .u64 f2, .int .i64 f3, .int .u8 a0, .int .i64 a1, .int .i64 iface, .int .i64 peer]] w (RoIs A.1 A.2 w) := by
  have hB := Below.refl w.heap.size w
  have c25 := fun (W : World) => ro_nil W
  go_enter Tryz.func7, Tryz.ntmps7
  obtain ⟨Y1, hY⟩ : ∃ Y, Y = (((w.alloc (.cells #[.int .i64 id, .bool up, .slice o2 n2 m2, .slice o3 n3 m3] 25)).alloc (.cells #[.int .u8 kind, .int .i64 router, .int .u64 seq, .int .i64 time, .bool f0, .int .u64 f1, .int .u64 f2, .int .i64 f3, .int .u8 a0, .int .i64 a1, .int .i64 iface, .int .i64 peer] 36)).alloc (.cells #[.int .i64 0, .bool false, .slice none 0 0, .slice none 0 0] 25)) := ⟨_, rfl⟩
  have hbY : Below w.heap.size w Y1 := by rw [hY]; exact below_new (below_new (below_new (Below.refl _ _) _) _) _
  have hle : w.heap.size ≤ w.heap.size := hB.size
  obtain ⟨gr, hgr⟩ : ∃ g, g = w.heap.size := ⟨_, rfl⟩
  have rr : RowAt Y1 gr [.int .i64 id, .bool up, .slice o2 n2 m2, .slice o3 n3 m3] 25 := by
    have h := ((RowAt.new w [.int .i64 id, .bool up, .slice o2 n2 m2, .slice o3 n3 m3] 25).alloc (.cells #[.int .u8 kind, .int .i64 router, .int .u64 seq, .int .i64 time, .bool f0, .int .u64 f1, .int .u64 f2, .int .i64 f3, .int .u8 a0, .int .i64 a1, .int .i64 iface, .int .i64 peer] 36)).alloc (.cells #[.int .i64 0, .bool false, .slice none 0 0, .slice none 0 0] 25)
    rw [hgr, hY]; exact h
  have ler : w.heap.size ≤ gr := by omega
  obtain ⟨ge, hge⟩ : ∃ g, g = w.heap.size + 1 := ⟨_, rfl⟩
  have re : RowAt Y1 ge [.int .u8 kind, .int .i64 router, .int .u64 seq, .int .i64 time, .bool f0, .int .u64 f1, .int .u64 f2, .int .i64 f3, .int .u8 a0, .int .i64 a1, .int .i64 iface, .int .i64 peer] 36 := by
    have h := (RowAt.new (w.alloc (.cells #[.int .i64 id, .bool up, .slice o2 n2 m2, .slice o3 n3 m3] 25)) [.int .u8 kind, .int .i64 router, .int .u64 seq, .int .i64 time, .bool f0, .int .u64 f1, .int .u64 f2, .int .i64 f3, .int .u8 a0, .int .i64 a1, .int .i64 iface, .int .i64 peer] 36).alloc (.cells #[.int .i64 0, .bool false, .slice none 0 0, .slice none 0 0] 25)
    simp only [World.size_alloc] at h
    rw [hge, hY]; exact h
  have lee : w.heap.size ≤ ge := by omega
  have nere : gr ≠ ge := by omega
  obtain ⟨gz, hgz⟩ : ∃ g, g = w.heap.size + 1 + 1 := ⟨_, rfl⟩
  have rz : RowAt Y1 gz [.int .i64 0, .bool false, .slice none 0 0, .slice none 0 0] 25 := by
    have h := RowAt.new ((w.alloc (.cells #[.int .i64 id, .bool up, .slice o2 n2 m2, .slice o3 n3 m3] 25)).alloc (.cells #[.int .u8 kind, .int .i64 router, .int .u64 seq, .int .i64 time, .bool f0, .int .u64 f1, .int .u64 f2, .int .i64 f3, .int .u8 a0, .int .i64 a1, .int .i64 iface, .int .i64 peer] 36)) [.int .i64 0, .bool false, .slice none 0 0, .slice none 0 0] 25
    simp only [World.size_alloc] at h
    rw [hgz, hY]; exact h
  have lez : w.heap.size ≤ gz := by omega
  have nerz : gr ≠ gz := by omega
  have neez : ge ≠ gz := by omega
  replace ha0 := ha0.keep hbY
  replace hb0 := hb0.keep hbY
  replace hB := below2 hB hbY
  go_upto_region 1 with fail
  rw [← hY, ← hgz, ← hge, ← hgr]
  clear hY hbY hle hgr hge hgz
  obtain ⟨r0, r1, r2, r3, rf⟩ := cells4 rr
  go_wp2_with fail
  clear r0 r1 r2 r3 rf
  go_at_call 14; refine (cC _ ha0 hb0).mono ?_; rintro e w2 ⟨rfl, hb⟩
  replace rr := RowAt.below rr hb
  replace re := RowAt.below re hb
  replace rz := RowAt.below rz hb
  replace ha0 := ha0.keep hb
  replace hb0 := hb0.keep hb
  replace hB := below2 hB hb
  clear hb
  cases kr
  · have HV := H0 (.inl rfl)
    clear H0 H14 H10 HK1 HK2 HK3 HK4 HK5 HK6 hk6 cM cY cP cD cL cE
    obtain ⟨z0, z1, z2, z3, zf⟩ := cells4 rz
    go_wp2_with fail
    (try simp only [Exit.inBlock, Exit.then])
    refine bodyPost_ret (v := .tuple #[.agg #[.int .i64 0, .bool false, .slice none 0 0, .slice none 0 0], .int .i64 2]) ?_ rfl ⟨_, _, _, _, _, _, by first | (rw [HV.out]; done) | (rw [HV.out]; rfl), by rw [HV.out]; exact (c25 _).1, by rw [HV.out]; exact (c25 _).2, ?_⟩
    · rw [results_cell_tmp rfl]
      go_simp
    · exact set4_bl hB lez _ _ _ _
  obtain ⟨e0, e1, e2, e3, e4, e5, e6, e7, e8, e9, e10, e11, ef⟩ := cells12 re
  go_wp2_with fail
  clear e0 e1 e2 e3 e4 e5 e6 e7 e8 e9 e10 e11 ef
  go_at_call 25; refine (cM _).mono ?_; rintro e w3 ⟨rfl, hb⟩
  replace rr := RowAt.below rr hb
  replace re := RowAt.below re hb
  replace rz := RowAt.below rz hb
  replace ha0 := ha0.keep hb
  replace hb0 := hb0.keep hb
  replace hB := below2 hB hb
  clear hb
  cases ke
  · have HV := H0 (.inr rfl)
    clear H0 H14 H10 HK1 HK2 HK3 HK4 HK5 HK6 hk6 cY cP cD cL cE
    obtain ⟨z0, z1, z2, z3, zf⟩ := cells4 rz
    go_wp2_with fail
    (try simp only [Exit.inBlock, Exit.then])
    refine bodyPost_ret (v := .tuple #[.agg #[.int .i64 0, .bool false, .slice none 0 0, .slice none 0 0], .int .i64 2]) ?_ rfl ⟨_, _, _, _, _, _, by first | (rw [HV.out]; done) | (rw [HV.out]; rfl), by rw [HV.out]; exact (c25 _).1, by rw [HV.out]; exact (c25 _).2, ?_⟩
    · rw [results_cell_tmp rfl]
      go_simp
    · exact set4_bl hB lez _ _ _ _
  replace H14 := H14 (by first | rfl | trivial) (by first | rfl | trivial)
  replace H10 := H10 (by first | rfl | trivial) (by first | rfl | trivial)
  replace HK1 := HK1 (by first | rfl | trivial) (by first | rfl | trivial)
  replace HK2 := HK2 (by first | rfl | trivial) (by first | rfl | trivial)
  replace HK3 := HK3 (by first | rfl | trivial) (by first | rfl | trivial)
  replace HK4 := HK4 (by first | rfl | trivial) (by first | rfl | trivial)
  replace HK5 := HK5 (by first | rfl | trivial) (by first | rfl | trivial)
  replace HK6 := HK6 (by first | rfl | trivial) (by first | rfl | trivial)
  replace hk6 := hk6 (by first | rfl | trivial) (by first | rfl | trivial)
  replace cY := cY (by first | rfl | trivial)
  clear H0
  obtain ⟨r0, r1, r2, r3, rf⟩ := cells4 rr
  go_wp2_with fail
  clear r0 r1 r2 r3 rf
  go_at_call 5; refine (cY _ ha0 hb0).mono ?_; rintro e w4 ⟨oa1, na1, ma1, ob1, nb1, mb1, rfl, ha1, hb1, hb⟩
  replace rr := RowAt.below rr hb
  replace re := RowAt.below re hb
  replace rz := RowAt.below rz hb
  replace ha0 := ha0.keep hb
  replace hb0 := hb0.keep hb
  replace hB := below2 hB hb
  clear hb
  clear ha0 hb0
  obtain ⟨r0, r1, r2, r3, rf⟩ := cells4 rr
  obtain ⟨Y5, hY⟩ : ∃ Y, Y = ((((w4.setCell ⟨gr, 0, none⟩ (.int .i64 id)).setCell ⟨gr, 1, none⟩ (.bool up)).setCell ⟨gr, 2, none⟩ (.slice oa1 na1 ma1)).setCell ⟨gr, 3, none⟩ (.slice ob1 nb1 mb1)) := ⟨_, rfl⟩
  have hG : w4.grownBy Y5 (some gr) := by rw [hY]; exact set4_gr _ _ _ _ _ _
  replace hB : Below w.heap.size w Y5 := by rw [hY]; exact set4_bl hB ler _ _ _ _
  replace ha1 := rts_apart ha1 rr hG
  replace hb1 := lks_apart hb1 rr hG
  replace rr : RowAt Y5 gr [.int .i64 id, .bool up, .slice oa1 na1 ma1, .slice ob1 nb1 mb1] 25 := by rw [hY]; exact set4_row rr _ _ _ _
  replace re := RowAt.gkeep re hG (by intro h; injection h with h; omega)
  replace rz := RowAt.gkeep rz hG (by intro h; injection h with h; omega)
  go_upto_region 4 with fail
  clear r0 r1 r2 r3 rf
  rw [← hY]
  clear hY hG
  clear cY
  by_cases hid : router = id
  · replace H10 := H10 hid
    replace HK1 := HK1 hid
    replace HK2 := HK2 hid
    replace HK3 := HK3 hid
    replace HK4 := HK4 hid
    replace HK5 := HK5 hid
    replace HK6 := HK6 hid
    clear H14
    subst hid
    have hK1 : (kind == 1) = decide (kind = 1) := rfl
    obtain ⟨K, hK⟩ : ∃ K, K = decide (kind = 1) := ⟨_, rfl⟩
    by_cases hst : K = up
    · have HV := H10 (by rw [← hK]; exact hst)
      rw [← hK] at hK1
      have hq : (up == K) = true := by simp [hst]
      clear H10 HK1 HK2 HK3 HK4 HK5 HK6 hk6 cP cD cL cE hK hst
      obtain ⟨r0, r1, r2, r3, rf⟩ := cells4 rr
      obtain ⟨e0, e1, e2, e3, e4, e5, e6, e7, e8, e9, e10, e11, ef⟩ := cells12 re
      obtain ⟨z0, z1, z2, z3, zf⟩ := cells4 rz
      go_wp2_with fail
      (try simp only [Exit.inBlock, Exit.then])
      refine bodyPost_ret (v := .tuple #[.agg #[.int .i64 router, .bool up, .slice oa1 na1 ma1, .slice ob1 nb1 mb1], .int .i64 10]) ?_ rfl ⟨_, _, _, _, _, _, by first | (rw [HV.out]; done) | (rw [HV.out]; rfl), by rw [HV.out]; exact rts_apart ha1 rz (set4_gr _ _ _ _ _ _), by rw [HV.out]; exact lks_apart hb1 rz (set4_gr _ _ _ _ _ _), ?_⟩
      · rw [results_cell_tmp rfl]
        go_simp
      · exact set4_bl hB lez _ _ _ _
    have hst2 : ¬ decide (kind = 1) = up := by rw [← hK]; exact hst
    replace HK1 := HK1 hst2
    replace HK2 := HK2 hst2
    replace HK3 := HK3 hst2
    replace HK4 := HK4 hst2
    replace HK5 := HK5 hst2
    replace HK6 := HK6 hst2
    rw [← hK] at hK1
    have hq : (up == K) = false := beq_eq_false_iff_ne.2 (fun h => hst h.symm)
    clear H10 hst hst2
    rcases hk6 with rfl | rfl | rfl | rfl | rfl | rfl
    · have HV := HK1 rfl
      clear HK1 HK2 HK3 HK4 HK5 HK6 cP cD cL cE
      have hKv : K = true := hK
      clear hK1 hK
      subst hKv
      obtain ⟨e0, e1, e2, e3, e4, e5, e6, e7, e8, e9, e10, e11, ef⟩ := cells12 re
      obtain ⟨r0, r1, r2, r3, rf⟩ := cells4 rr
      obtain ⟨Y6, hY⟩ : ∃ Y, Y = Y5.setCell ⟨gr, 1, none⟩ (.bool true) := ⟨_, rfl⟩
      have hG : Y5.grownBy Y6 (some gr) := by rw [hY]; exact gset (grefl _ _)
      replace hB : Below w.heap.size w Y6 := by rw [hY]; exact bset hB ler
      replace ha1 := rts_apart ha1 rr hG
      replace hb1 := lks_apart hb1 rr hG
      replace rr : RowAt Y6 gr [.int .i64 router, .bool true, .slice oa1 na1 ma1, .slice ob1 nb1 mb1] 25 := by rw [hY]; exact RowAt.set1 rr 1 _
      replace re := RowAt.gkeep re hG (by intro h; injection h with h; omega)
      replace rz := RowAt.gkeep rz hG (by intro h; injection h with h; omega)
      go_upto_region 27 with fail
      clear e0 e1 e2 e3 e4 e5 e6 e7 e8 e9 e10 e11 ef r0 r1 r2 r3 rf
      rw [← hY]
      clear hY hG
      obtain ⟨r0, r1, r2, r3, rf⟩ := cells4 rr
      obtain ⟨z0, z1, z2, z3, zf⟩ := cells4 rz
      go_wp2_with fail
      (try simp only [Exit.inBlock, Exit.then])
      refine bodyPost_ret (v := .tuple #[.agg #[.int .i64 router, .bool true, .slice oa1 na1 ma1, .slice ob1 nb1 mb1], .int .i64 0]) ?_ rfl ⟨_, _, _, _, _, _, by first | (rw [HV.out]; done) | (rw [HV.out]; rfl), by rw [HV.out]; exact rts_apart ha1 rz (set4_gr _ _ _ _ _ _), by rw [HV.out]; exact lks_apart hb1 rz (set4_gr _ _ _ _ _ _), ?_⟩
      · rw [results_cell_tmp rfl]
        go_simp
      · exact set4_bl hB lez _ _ _ _
    · have HV := HK2 rfl
      clear HK1 HK2 HK3 HK4 HK5 HK6 cP cD cL cE
      have hKv : K = false := hK
      clear hK1 hK
      subst hKv
      obtain ⟨r0, r1, r2, r3, rf⟩ := cells4 rr
      obtain ⟨e0, e1, e2, e3, e4, e5, e6, e7, e8, e9, e10, e11, ef⟩ := cells12 re
      obtain ⟨z0, z1, z2, z3, zf⟩ := cells4 rz
      go_wp2_with fail
      (try simp only [Exit.inBlock, Exit.then])
      refine bodyPost_ret (v := .tuple #[.agg #[.int .i64 router, .bool false, .slice none 0 0, .slice none 0 0], .int .i64 0]) ?_ rfl ⟨_, _, _, _, _, _, by first | (rw [HV.out]; done) | (rw [HV.out]; rfl), by rw [HV.out]; exact (c25 _).1, by rw [HV.out]; exact (c25 _).2, ?_⟩
      · rw [results_cell_tmp rfl]
        go_simp
      · exact set4_bl hB lez _ _ _ _
    · have HV := HK3 rfl
      clear HK1 HK2 HK3 HK4 HK5 HK6 cD cL cE
      have hKv : K = false := hK
      clear hK1 hK
      subst hKv
      obtain ⟨r0, r1, r2, r3, rf⟩ := cells4 rr
      obtain ⟨e0, e1, e2, e3, e4, e5, e6, e7, e8, e9, e10, e11, ef⟩ := cells12 re
      go_wp2_with fail
      clear r0 r1 r2 r3 rf e0 e1 e2 e3 e4 e5 e6 e7 e8 e9 e10 e11 ef
      go_at_call 26; refine (cP _ _ ha1).mono ?_; rintro e w6 ⟨o6, n6, m6, rfl, ha6, hb⟩
      replace rr := RowAt.below rr hb
      replace re := RowAt.below re hb
      replace rz := RowAt.below rz hb
      replace ha1 := ha1.keep hb
      replace hb1 := hb1.keep hb
      replace hB := below2 hB hb
      clear hb
      clear cP
      by_cases hz : Tp.2 = 0
      · replace HV : Hid (A = (⟨router, up, Tp.1, lks⟩, 0)) := by show _ = _; rw [HV.out, if_pos hz]
        have hzb : (Tp.2 != 0) = false := by simpa using hz
        clear hz
        clear ha1
        obtain ⟨r0, r1, r2, r3, rf⟩ := cells4 rr
        obtain ⟨Y7, hY⟩ : ∃ Y, Y = w6.setCell ⟨gr, 2, none⟩ (.slice o6 n6 m6) := ⟨_, rfl⟩
        have hG : w6.grownBy Y7 (some gr) := by rw [hY]; exact gset (grefl _ _)
        replace hB : Below w.heap.size w Y7 := by rw [hY]; exact bset hB ler
        replace hb1 := lks_apart hb1 rr hG
        replace ha6 := rts_apart ha6 rr hG
        replace rr : RowAt Y7 gr [.int .i64 router, .bool up, .slice o6 n6 m6, .slice ob1 nb1 mb1] 25 := by rw [hY]; exact RowAt.set1 rr 2 _
        replace re := RowAt.gkeep re hG (by intro h; injection h with h; omega)
        replace rz := RowAt.gkeep rz hG (by intro h; injection h with h; omega)
        go_upto_region 27 with fail
        clear r0 r1 r2 r3 rf
        rw [← hY]
        clear hY hG
        obtain ⟨r0, r1, r2, r3, rf⟩ := cells4 rr
        obtain ⟨z0, z1, z2, z3, zf⟩ := cells4 rz
        go_wp2_with fail
        (try simp only [Exit.inBlock, Exit.then])
        refine bodyPost_ret (v := .tuple #[.agg #[.int .i64 router, .bool up, .slice o6 n6 m6, .slice ob1 nb1 mb1], .int .i64 0]) ?_ rfl ⟨_, _, _, _, _, _, by first | (rw [HV.out]; done) | (rw [HV.out]; rfl), by rw [HV.out]; exact rts_apart ha6 rz (set4_gr _ _ _ _ _ _), by rw [HV.out]; exact lks_apart hb1 rz (set4_gr _ _ _ _ _ _), ?_⟩
        · rw [results_cell_tmp rfl]
          go_simp
        · exact set4_bl hB lez _ _ _ _
      · replace HV : Hid (A = (⟨router, up, rts, lks⟩, Tp.2)) := by show _ = _; rw [HV.out, if_neg hz]
        have hzb : (Tp.2 != 0) = true := by simpa using hz
        clear hz
        obtain ⟨r0, r1, r2, r3, rf⟩ := cells4 rr
        obtain ⟨z0, z1, z2, z3, zf⟩ := cells4 rz
        go_wp2_with fail
        (try simp only [Exit.inBlock, Exit.then])
        refine bodyPost_ret (v := .tuple #[.agg #[.int .i64 router, .bool up, .slice oa1 na1 ma1, .slice ob1 nb1 mb1], .int .i64 Tp.2]) ?_ rfl ⟨_, _, _, _, _, _, by first | (rw [HV.out]; done) | (rw [HV.out]; rfl), by rw [HV.out]; exact rts_apart ha1 rz (set4_gr _ _ _ _ _ _), by rw [HV.out]; exact lks_apart hb1 rz (set4_gr _ _ _ _ _ _), ?_⟩
        · rw [results_cell_tmp rfl]
          go_simp
        · exact set4_bl hB lez _ _ _ _
    · have HV := HK4 rfl
      clear HK1 HK2 HK3 HK4 HK5 HK6 cP cL cE
      have hKv : K = false := hK
      clear hK1 hK
      subst hKv
      obtain ⟨r0, r1, r2, r3, rf⟩ := cells4 rr
      obtain ⟨e0, e1, e2, e3, e4, e5, e6, e7, e8, e9, e10, e11, ef⟩ := cells12 re
      go_wp2_with fail
      clear r0 r1 r2 r3 rf e0 e1 e2 e3 e4 e5 e6 e7 e8 e9 e10 e11 ef
      go_at_call 27; refine (cD _ _ ha1).mono ?_; rintro e w6 ⟨o6, n6, m6, rfl, ha6, hb⟩
      replace rr := RowAt.below rr hb
      replace re := RowAt.below re hb
      replace rz := RowAt.below rz hb
      replace ha1 := ha1.keep hb
      replace hb1 := hb1.keep hb
      replace hB := below2 hB hb
      clear hb
      clear cD
      clear ha1
      obtain ⟨r0, r1, r2, r3, rf⟩ := cells4 rr
      obtain ⟨Y7, hY⟩ : ∃ Y, Y = w6.setCell ⟨gr, 2, none⟩ (.slice o6 n6 m6) := ⟨_, rfl⟩
      have hG : w6.grownBy Y7 (some gr) := by rw [hY]; exact gset (grefl _ _)
      replace hB : Below w.heap.size w Y7 := by rw [hY]; exact bset hB ler
      replace hb1 := lks_apart hb1 rr hG
      replace ha6 := rts_apart ha6 rr hG
      replace rr : RowAt Y7 gr [.int .i64 router, .bool up, .slice o6 n6 m6, .slice ob1 nb1 mb1] 25 := by rw [hY]; exact RowAt.set1 rr 2 _
      replace re := RowAt.gkeep re hG (by intro h; injection h with h; omega)
      replace rz := RowAt.gkeep rz hG (by intro h; injection h with h; omega)
      go_upto_region 27 with fail
      clear r0 r1 r2 r3 rf
      rw [← hY]
      clear hY hG
      obtain ⟨r0, r1, r2, r3, rf⟩ := cells4 rr
      obtain ⟨z0, z1, z2, z3, zf⟩ := cells4 rz
      go_wp2_with fail
      (try simp only [Exit.inBlock, Exit.then])
      refine bodyPost_ret (v := .tuple #[.agg #[.int .i64 router, .bool up, .slice o6 n6 m6, .slice ob1 nb1 mb1], .int .i64 0]) ?_ rfl ⟨_, _, _, _, _, _, by first | (rw [HV.out]; done) | (rw [HV.out]; rfl), by rw [HV.out]; exact rts_apart ha6 rz (set4_gr _ _ _ _ _ _), by rw [HV.out]; exact lks_apart hb1 rz (set4_gr _ _ _ _ _ _), ?_⟩
      · rw [results_cell_tmp rfl]
        go_simp
      · exact set4_bl hB lez _ _ _ _
    · have HV := HK5 rfl
      clear HK1 HK2 HK3 HK4 HK5 HK6 cP cD cE
      have hKv : K = false := hK
      clear hK1 hK
      subst hKv
      obtain ⟨r0, r1, r2, r3, rf⟩ := cells4 rr
      obtain ⟨e0, e1, e2, e3, e4, e5, e6, e7, e8, e9, e10, e11, ef⟩ := cells12 re
      go_wp2_with fail
      clear r0 r1 r2 r3 rf e0 e1 e2 e3 e4 e5 e6 e7 e8 e9 e10 e11 ef
      go_at_call 28; refine (cL _ _ hb1).mono ?_; rintro e w6 ⟨o6, n6, m6, rfl, hb6, hb⟩
      replace rr := RowAt.below rr hb
      replace re := RowAt.below re hb
      replace rz := RowAt.below rz hb
      replace ha1 := ha1.keep hb
      replace hb1 := hb1.keep hb
      replace hB := below2 hB hb
      clear hb
      clear cL
      by_cases hz : Lp.2 = 0
      · replace HV : Hid (A = (⟨router, up, rts, Lp.1⟩, 0)) := by show _ = _; rw [HV.out, if_pos hz]
        have hzb : (Lp.2 != 0) = false := by simpa using hz
        clear hz
        clear hb1
        obtain ⟨r0, r1, r2, r3, rf⟩ := cells4 rr
        obtain ⟨Y7, hY⟩ : ∃ Y, Y = w6.setCell ⟨gr, 3, none⟩ (.slice o6 n6 m6) := ⟨_, rfl⟩
        have hG : w6.grownBy Y7 (some gr) := by rw [hY]; exact gset (grefl _ _)
        replace hB : Below w.heap.size w Y7 := by rw [hY]; exact bset hB ler
        replace ha1 := rts_apart ha1 rr hG
        replace hb6 := lks_apart hb6 rr hG
        replace rr : RowAt Y7 gr [.int .i64 router, .bool up, .slice oa1 na1 ma1, .slice o6 n6 m6] 25 := by rw [hY]; exact RowAt.set1 rr 3 _
        replace re := RowAt.gkeep re hG (by intro h; injection h with h; omega)
        replace rz := RowAt.gkeep rz hG (by intro h; injection h with h; omega)
        go_upto_region 27 with fail
        clear r0 r1 r2 r3 rf
        rw [← hY]
        clear hY hG
        obtain ⟨r0, r1, r2, r3, rf⟩ := cells4 rr
        obtain ⟨z0, z1, z2, z3, zf⟩ := cells4 rz
        go_wp2_with fail
        (try simp only [Exit.inBlock, Exit.then])
        refine bodyPost_ret (v := .tuple #[.agg #[.int .i64 router, .bool up, .slice oa1 na1 ma1, .slice o6 n6 m6], .int .i64 0]) ?_ rfl ⟨_, _, _, _, _, _, by first | (rw [HV.out]; done) | (rw [HV.out]; rfl), by rw [HV.out]; exact rts_apart ha1 rz (set4_gr _ _ _ _ _ _), by rw [HV.out]; exact lks_apart hb6 rz (set4_gr _ _ _ _ _ _), ?_⟩
        · rw [results_cell_tmp rfl]
          go_simp
        · exact set4_bl hB lez _ _ _ _
      · replace HV : Hid (A = (⟨router, up, rts, lks⟩, Lp.2)) := by show _ = _; rw [HV.out, if_neg hz]
        have hzb : (Lp.2 != 0) = true := by simpa using hz
        clear hz
        obtain ⟨r0, r1, r2, r3, rf⟩ := cells4 rr
        obtain ⟨z0, z1, z2, z3, zf⟩ := cells4 rz
        go_wp2_with fail
        (try simp only [Exit.inBlock, Exit.then])
        refine bodyPost_ret (v := .tuple #[.agg #[.int .i64 router, .bool up, .slice oa1 na1 ma1, .slice ob1 nb1 mb1], .int .i64 Lp.2]) ?_ rfl ⟨_, _, _, _, _, _, by first | (rw [HV.out]; done) | (rw [HV.out]; rfl), by rw [HV.out]; exact rts_apart ha1 rz (set4_gr _ _ _ _ _ _), by rw [HV.out]; exact lks_apart hb1 rz (set4_gr _ _ _ _ _ _), ?_⟩
        · rw [results_cell_tmp rfl]
          go_simp
        · exact set4_bl hB lez _ _ _ _
    · have HV := HK6 rfl
      clear HK1 HK2 HK3 HK4 HK5 HK6 cP cD cL
      have hKv : K = false := hK
      clear hK1 hK
      subst hKv
      obtain ⟨r0, r1, r2, r3, rf⟩ := cells4 rr
      obtain ⟨e0, e1, e2, e3, e4, e5, e6, e7, e8, e9, e10, e11, ef⟩ := cells12 re
      go_wp2_with fail
      clear r0 r1 r2 r3 rf e0 e1 e2 e3 e4 e5 e6 e7 e8 e9 e10 e11 ef
      go_at_call 29; refine (cE _ _ hb1).mono ?_; rintro e w6 ⟨o6, n6, m6, rfl, hb6, hb⟩
      replace rr := RowAt.below rr hb
      replace re := RowAt.below re hb
      replace rz := RowAt.below rz hb
      replace ha1 := ha1.keep hb
      replace hb1 := hb1.keep hb
      replace hB := below2 hB hb
      clear hb
      clear cE
      clear hb1
      obtain ⟨r0, r1, r2, r3, rf⟩ := cells4 rr
      obtain ⟨Y7, hY⟩ : ∃ Y, Y = w6.setCell ⟨gr, 3, none⟩ (.slice o6 n6 m6) := ⟨_, rfl⟩
      have hG : w6.grownBy Y7 (some gr) := by rw [hY]; exact gset (grefl _ _)
      replace hB : Below w.heap.size w Y7 := by rw [hY]; exact bset hB ler
      replace ha1 := rts_apart ha1 rr hG
      replace hb6 := lks_apart hb6 rr hG
      replace rr : RowAt Y7 gr [.int .i64 router, .bool up, .slice oa1 na1 ma1, .slice o6 n6 m6] 25 := by rw [hY]; exact RowAt.set1 rr 3 _
      replace re := RowAt.gkeep re hG (by intro h; injection h with h; omega)
      replace rz := RowAt.gkeep rz hG (by intro h; injection h with h; omega)
      go_upto_region 27 with fail
      clear r0 r1 r2 r3 rf
      rw [← hY]
      clear hY hG
      obtain ⟨r0, r1, r2, r3, rf⟩ := cells4 rr
      obtain ⟨z0, z1, z2, z3, zf⟩ := cells4 rz
      go_wp2_with fail
      (try simp only [Exit.inBlock, Exit.then])
      refine bodyPost_ret (v := .tuple #[.agg #[.int .i64 router, .bool up, .slice oa1 na1 ma1, .slice o6 n6 m6], .int .i64 0]) ?_ rfl ⟨_, _, _, _, _, _, by first | (rw [HV.out]; done) | (rw [HV.out]; rfl), by rw [HV.out]; exact rts_apart ha1 rz (set4_gr _ _ _ _ _ _), by rw [HV.out]; exact lks_apart hb6 rz (set4_gr _ _ _ _ _ _), ?_⟩
      · rw [results_cell_tmp rfl]
        go_simp
      · exact set4_bl hB lez _ _ _ _
  · have HV := H14 hid
    have hq : (router != id) = true := by simpa using hid
    clear H14 H10 HK1 HK2 HK3 HK4 HK5 HK6 hk6 cP cD cL cE hid
    obtain ⟨r0, r1, r2, r3, rf⟩ := cells4 rr
    obtain ⟨e0, e1, e2, e3, e4, e5, e6, e7, e8, e9, e10, e11, ef⟩ := cells12 re
    obtain ⟨z0, z1, z2, z3, zf⟩ := cells4 rz
    go_wp2_with fail
    (try simp only [Exit.inBlock, Exit.then])
    refine bodyPost_ret (v := .tuple #[.agg #[.int .i64 id, .bool up, .slice oa1 na1 ma1, .slice ob1 nb1 mb1], .int .i64 14]) ?_ rfl ⟨_, _, _, _, _, _, by first | (rw [HV.out]; done) | (rw [HV.out]; rfl), by rw [HV.out]; exact rts_apart ha1 rz (set4_gr _ _ _ _ _ _), by rw [HV.out]; exact lks_apart hb1 rz (set4_gr _ _ _ _ _ _), ?_⟩
    · rw [results_cell_tmp rfl]
      go_simp
    · exact set4_bl hB lez _ _ _ _
theorem rapply_any (R : Ro) (e : Ev) (a b : Value) (w : World) (ha : HasRts w a R.rts) (hb : HasLks w b R.lks) (hf : FitRo R) (he : FitE e) :
    Calls Tryz.prog 7 #[.agg #[.int .i64 R.id, .bool R.up, a, b], evV e] w (RoIs (applyRo R e).1 (applyRo R e).2 w) := by
  obtain ⟨o2, m2, rfl, _⟩ := Lk.HasRow.slice ha
  obtain ⟨o3, m3, rfl, _⟩ := Lk.HasRow.slice hb
  have hA : okRo R = true → okE e = true → applyRo R e = if misRo R e = 0 then takeRo R e else (R, misRo R e) := fun h1 h2 => by unfold applyRo; rw [h1, h2]; rfl
  have hM : e.router = R.id → ¬ decide ((e.kind : Int) = 1) = R.up → misRo R e = 0 := fun h1 h2 => by
    unfold misRo
    rw [if_pos h1, if_neg (fun h => h2 (by rw [← h]; exact decide_eq_decide.2 (by omega)))]
  have h3 : FitR ⟨e.pf, e.act⟩ := ⟨⟨he.len, he.n⟩, he.act⟩
  have h4 : FitP e.pf := ⟨he.len, he.n⟩
  have sl : ∀ (W : World) (u : Value) (l : List Rt), HasRts W u l → ∃ o n m, u = .slice o n m := fun W u l h => by obtain ⟨o, c, e, _⟩ := Lk.HasRow.slice h; exact ⟨_, _, _, e⟩
  have sm : ∀ (W : World) (u : Value) (l : List Lk), HasLks W u l → ∃ o n m, u = .slice o n m := fun W u l h => by obtain ⟨o, c, e, _⟩ := Lk.HasRow.slice h; exact ⟨_, _, _, e⟩
  refine rapply_walk R.id R.up R.rts R.lks o2 o3 _ _ m2 m3 e.kind e.router e.seq e.time e.pf.six _ _ e.pf.len e.act.k e.act.i e.iface e.peer (okRo R) (okE e) _ (Tr.putT R.rts ⟨e.pf, e.act⟩) (Tr.delT R.rts e.pf).1 (Tr.delT R.rts e.pf).2 (Lk.putL R.lks ⟨e.iface, e.peer⟩) (Lk.delL R.lks e.iface).1 (Lk.delL R.lks e.iface).2 w ha hb
    (fun W h h' => rcheck_any R _ _ W h h' hf.rts) (fun W => Msg.rcheckE_any e W he) (fun hk W h h' => copy_any R _ _ W h h' (by have := okRo_parts hk; omega) (by have := okRo_parts hk; omega)) ?_ ?_ ?_ ?_ ?_ ?_ ?_ ?_ ?_ ?_ ?_ ?_ ?_ ?_
  · intro W u h
    refine (Tr.rput_any R.rts u ⟨e.pf, e.act⟩ W h hf.rts h3).mono ?_
    rintro x w' ⟨v, rfl, hh, hb'⟩
    obtain ⟨o, n, m, rfl⟩ := sl _ _ _ hh
    exact ⟨o, n, m, rfl, hh, hb'⟩
  · intro W u h
    refine (Tr.rdel_any R.rts u e.pf W h hf.rts h4).mono ?_
    rintro x w' ⟨v, rfl, hh, hb'⟩
    obtain ⟨o, n, m, rfl⟩ := sl _ _ _ hh
    exact ⟨o, n, m, rfl, hh, hb'⟩
  · intro W u h
    refine (Lk.rput_any R.lks u ⟨e.iface, e.peer⟩ W h).mono ?_
    rintro x w' ⟨v, rfl, hh, hb'⟩
    obtain ⟨o, n, m, rfl⟩ := sm _ _ _ hh
    exact ⟨o, n, m, rfl, hh, hb'⟩
  · intro W u h
    refine (Lk.rdel_any R.lks u e.iface W h).mono ?_
    rintro x w' ⟨v, rfl, hh, hb'⟩
    obtain ⟨o, n, m, rfl⟩ := sm _ _ _ hh
    exact ⟨o, n, m, rfl, hh, hb'⟩
  · intro h
    show _ = _
    unfold applyRo
    rcases h with h | h <;> rw [h]
    · rfl
    · rw [Bool.and_false]; rfl
  · intro k1 k2 h
    show _ = _
    have : misRo R e = 14 := by unfold misRo; rw [if_neg h]
    rw [hA k1 k2, this]; rfl
  · intro k1 k2 h h'
    show _ = _
    have : misRo R e = 10 := by unfold misRo; rw [if_pos h, if_pos (by rw [← h']; exact decide_eq_decide.2 (by omega))]
    rw [hA k1 k2, this]; rfl
  · intro k1 k2 h h' hk
    show _ = _
    have hk : e.kind = 1 := by omega
    rw [hA k1 k2, if_pos (hM h h')]
    unfold takeRo
    rw [if_pos hk]
  · intro k1 k2 h h' hk
    show _ = _
    have hk : e.kind = 2 := by omega
    rw [hA k1 k2, if_pos (hM h h')]
    unfold takeRo
    rw [if_neg (by omega), if_pos hk]
  · intro k1 k2 h h' hk
    show _ = _
    have hk : e.kind = 3 := by omega
    have hr := apply_right k1 k2 (hM h h')
    rw [hA k1 k2, if_pos (hM h h')]
    have hT : takeRo R e = (⟨R.id, R.up, (Tr.putT R.rts ⟨e.pf, e.act⟩).1, R.lks⟩, (Tr.putT R.rts ⟨e.pf, e.act⟩).2) := by
      unfold takeRo
      rw [if_neg (by omega), if_neg (by omega), if_pos hk]
    rw [hT] at hr ⊢
    simp only at hr
    by_cases h0 : (Tr.putT R.rts ⟨e.pf, e.act⟩).2 = 0
    · rw [if_pos h0, h0]
    · rw [if_neg h0]
      rcases hr with hr | hr
      · exact absurd hr.1 h0
      · rw [hr.2]
  · intro k1 k2 h h' hk
    show _ = _
    have hk : e.kind = 4 := by omega
    rw [hA k1 k2, if_pos (hM h h')]
    unfold takeRo
    rw [if_neg (by omega), if_neg (by omega), if_neg (by omega), if_pos hk]
  · intro k1 k2 h h' hk
    show _ = _
    have hk : e.kind = 5 := by omega
    have hr := apply_right k1 k2 (hM h h')
    rw [hA k1 k2, if_pos (hM h h')]
    have hT : takeRo R e = (⟨R.id, R.up, R.rts, (Lk.putL R.lks ⟨e.iface, e.peer⟩).1⟩, (Lk.putL R.lks ⟨e.iface, e.peer⟩).2) := by
      unfold takeRo
      rw [if_neg (by omega), if_neg (by omega), if_neg (by omega), if_neg (by omega), if_pos hk]
    rw [hT] at hr ⊢
    simp only at hr
    by_cases h0 : (Lk.putL R.lks ⟨e.iface, e.peer⟩).2 = 0
    · rw [if_pos h0, h0]
    · rw [if_neg h0]
      rcases hr with hr | hr
      · exact absurd hr.1 h0
      · rw [hr.2]
  · intro k1 k2 h h' hk
    show _ = _
    have hk : e.kind = 6 := by omega
    rw [hA k1 k2, if_pos (hM h h')]
    unfold takeRo
    rw [if_neg (by omega), if_neg (by omega), if_neg (by omega), if_neg (by omega), if_neg (by omega), if_pos hk]
  · intro k1 k2
    have := (okE_parts k2).1
    omega
end Go.Proofs.YtpooiehhepimkaaGreat.Fib
