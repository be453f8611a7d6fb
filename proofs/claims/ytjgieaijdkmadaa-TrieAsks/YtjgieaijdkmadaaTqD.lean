/- trie.Put. -/
import Derived.Test.YtjgieaijdkmadaaTrCheck
import Derived.Test.YtjgieaijdkmadaaTqG
import Derived.Test.YtjgieaijdkmadaaTrInsM
import Derived.Test.YtjgieaijdkmadaaTqB
import Derived.Test.YtjgieaijdkmadaaAddrHalves
import Derived.Laws.ResultCell
import Derived.Test.YtjgieaijdkmadaaTqA
import Derived.Test.YtjgieaijdkmadaaTrPutM
import Derived.Test.YtjgieaijdkmadaaMsgPfEq
import Derived.Test.YtjgieaijdkmadaaTqC
import Derived.Deep.RegionHeld3
set_option linter.unusedVariables false
namespace Go.Proofs.Ytjgieaijdkmadaa.Tr
open Go.RowKit
open Go.Proofs.Ytjgieaijdkmadaa.Msg (Ac okA FitA)
open Go.Proofs.Ytjgieaijdkmadaa.Lk (HasRow)
open Go.Proofs.Ytjgieaijdkmadaa.Addr (Pf okP checkP cmpN hiN loN pfV adV RowAt below2 below_drew below_new bset RowAt.lt RowAt.cell RowAt.frozen RowAt.below RowAt.drew RowAt.new RowAt.alloc cells2 cells4 Bl bl_ne wp_region_bl bl_call bl_same)
theorem less_swap (p q : Pf) : decide (ordP p q < 0) = !decide (ordP q p ≤ 0) := by
  have h1 := ordP_lt p q
  have h2 := ordP_gt q p
  by_cases h : ltP p q
  · rw [decide_eq_true (h1.2 h), decide_eq_false (by have := h2.2 h; omega)]; rfl
  · rw [decide_eq_false (fun c => h (h1.1 c)), decide_eq_true (by rcases Int.lt_or_le 0 (ordP q p) with c | c; exact absurd (h2.1 c) h; exact c)]; rfl
set_option maxHeartbeats 2000000 in
theorem one_any (r : Rt) (w : World) (hf : FitR r) : Calls Try.prog 34 #[.agg #[.bool r.pf.six, .int .u64 (hiN r.pf.n : Int), .int .u64 (loN r.pf.n : Int), .int .i64 r.pf.len, .int .u8 (r.act.k : Int), .int .i64 r.act.i]] w fun e w' => e = .returned (.bool (okR r)) ∧ Below w.heap.size w w' := by
  have c1 : ∀ W, Calls Try.prog 38 #[.agg #[.bool r.pf.six, .int .u64 (hiN r.pf.n : Int), .int .u64 (loN r.pf.n : Int), .int .i64 r.pf.len]] W fun e w' => e = .returned (.int .i64 (if okP r.pf then 0 else 2)) ∧ Below W.heap.size W w' := fun W => Addr.rcheck_any r.pf W hf.1.1 hf.1.2
  have c2 : ∀ W, Calls Try.prog 63 #[.agg #[.int .u8 (r.act.k : Int), .int .i64 r.act.i]] W fun e w' => e = .returned (.bool (okA r.act)) ∧ Below W.heap.size W w' := fun W => Msg.acts_any r.act W hf.2
  have hR : okR r = (okP r.pf && okA r.act) := rfl
  rw [hR]
  generalize okP r.pf = kp at c1 ⊢
  generalize okA r.act = ka at c2 ⊢
  generalize r.pf.six = z0 at *
  generalize (hiN r.pf.n : Int) = z1 at *
  generalize (loN r.pf.n : Int) = z2 at *
  generalize r.pf.len = z3 at *
  generalize (r.act.k : Int) = z4 at *
  generalize r.act.i = z5 at *
  clear hf
  obtain ⟨X, hX⟩ : ∃ X, X = w.alloc (.cells #[.bool z0, .int .u64 z1, .int .u64 z2, .int .i64 z3, .int .u8 z4, .int .i64 z5] 32) := ⟨_, rfl⟩
  have hB : Below w.heap.size w X := by rw [hX]; exact below_new (Below.refl _ _) _
  have r0 : RowAt X w.heap.size [.bool z0, .int .u64 z1, .int .u64 z2, .int .i64 z3, .int .u8 z4, .int .i64 z5] 32 := by rw [hX]; exact RowAt.new _ _ _
  go_enter Try.func34, Try.ntmps34
  go_upto_region 1 with fail
  rw [← hX]
  clear hX
  have s0 := RowAt.cell r0 0
  have s1 := RowAt.cell r0 1
  have s2 := RowAt.cell r0 2
  have s3 := RowAt.cell r0 3
  simp only [List.getElem?_cons_succ, List.getElem?_cons_zero] at s0 s1 s2 s3
  go_wp2_with fail
  clear s0 s1 s2 s3
  go_at_call 38; refine (c1 _).mono ?_; rintro e w1 ⟨rfl, hb1⟩
  replace hB := below2 hB hb1
  replace r0 := RowAt.below r0 hb1
  clear hb1 c1
  cases kp
  · go_wp2_with fail
    go_ret
    exact ⟨rfl, hB⟩
  · have s4 := RowAt.cell r0 4
    have s5 := RowAt.cell r0 5
    simp only [List.getElem?_cons_succ, List.getElem?_cons_zero] at s4 s5
    go_wp2_with fail
    clear s4 s5
    go_at_call 63; refine (c2 _).mono ?_; rintro e w2 ⟨rfl, hb2⟩
    replace hB := below2 hB hb2
    go_wp2_with fail
    go_ret
    exact ⟨by cases ka <;> rfl, hB⟩
set_option maxHeartbeats 2000000 in
theorem less_any (p q : Pf) (w : World) (hp : FitP p) (hq : FitP q) : Calls Try.prog 36 #[.agg #[.bool p.six, .int .u64 (hiN p.n : Int), .int .u64 (loN p.n : Int), .int .i64 p.len], .agg #[.bool q.six, .int .u64 (hiN q.n : Int), .int .u64 (loN q.n : Int), .int .i64 q.len]] w fun e w' => e = .returned (.bool (decide (ordP p q < 0))) ∧ Below w.heap.size w w' := by
  have c1 : ∀ W, Calls Try.prog 64 #[.agg #[.int .u64 (hiN p.n : Int), .int .u64 (loN p.n : Int)], .agg #[.int .u64 (hiN q.n : Int), .int .u64 (loN q.n : Int)]] W fun e w' => e = .returned (.int .i64 (cmpN p.n q.n)) ∧ Below W.heap.size W w' := fun W => Addr.rcmp_any p.n q.n W hp.2 hq.2
  have HR : Hid (decide (ordP p q < 0) = if p.six = q.six then (decide (cmpN p.n q.n < 0) || (decide (cmpN p.n q.n = 0) && decide (p.len < q.len))) else q.six) := by
    show _ = _
    unfold ordP cmpN cmpI kindN
    cases p.six <;> cases q.six <;> simp <;> (repeat' split) <;> simp_all <;> omega
  generalize decide (ordP p q < 0) = D at HR ⊢
  generalize cmpN p.n q.n = C at c1 HR
  generalize p.six = ps at *
  generalize q.six = qs at *
  generalize (hiN p.n : Int) = p1 at *
  generalize (loN p.n : Int) = p2 at *
  generalize (hiN q.n : Int) = q1 at *
  generalize (loN q.n : Int) = q2 at *
  generalize p.len = pl at *
  generalize q.len = ql at *
  clear hp hq
  obtain ⟨X, hX⟩ : ∃ X, X = (w.alloc (.cells #[.bool ps, .int .u64 p1, .int .u64 p2, .int .i64 pl] 27)).alloc (.cells #[.bool qs, .int .u64 q1, .int .u64 q2, .int .i64 ql] 27) := ⟨_, rfl⟩
  have hB : Below w.heap.size w X := by rw [hX]; exact below_new (below_new (Below.refl _ _) _) _
  have r0 : RowAt X w.heap.size [.bool ps, .int .u64 p1, .int .u64 p2, .int .i64 pl] 27 := by rw [hX]; exact (RowAt.new _ _ _).alloc _
  have r1 : RowAt X (w.heap.size + 1) [.bool qs, .int .u64 q1, .int .u64 q2, .int .i64 ql] 27 := by rw [hX, ← World.size_alloc w (.cells #[.bool ps, .int .u64 p1, .int .u64 p2, .int .i64 pl] 27)]; exact RowAt.new _ _ _
  obtain ⟨a0, a1, a2, a3, af⟩ := cells4 r0
  obtain ⟨b0, b1, b2, b3, bf⟩ := cells4 r1
  by_cases hs : ps = qs
  · have HV : Hid (D = (decide (C < 0) || (decide (C = 0) && decide (pl < ql)))) := by show _ = _; rw [HR.out, if_pos hs]
    clear HR
    subst hs
    go_enter Try.func36, Try.ntmps36
    go_upto_region 1 with fail
    rw [← hX]
    clear hX
    go_wp2_with fail
    clear a0 a1 a2 a3 af b0 b1 b2 b3 bf
    go_at_call 64; refine (c1 _).mono ?_; rintro e w1 ⟨rfl, hb1⟩
    replace hB := below2 hB hb1
    obtain ⟨a0, a1, a2, a3, af⟩ := cells4 (RowAt.below r0 hb1)
    obtain ⟨b0, b1, b2, b3, bf⟩ := cells4 (RowAt.below r1 hb1)
    clear hb1 c1 r0 r1
    by_cases hC : C < 0
    · have HW : Hid (D = true) := by show _ = _; rw [HV.out, decide_eq_true hC]; rfl
      have hCb : decide (C < 0) = true := decide_eq_true hC
      clear HV hC
      go_wp2_with fail
      go_ret
      exact ⟨by rw [HW.out]; rfl, hB⟩
    · have hCb : decide (C < 0) = false := decide_eq_false hC
      by_cases hC0 : C = 0
      · have HW : Hid (D = decide (pl < ql)) := by show _ = _; rw [HV.out, decide_eq_false hC, decide_eq_true hC0]; simp
        have hCe : (C == 0) = true := by simpa using hC0
        clear HV hC hC0
        go_wp2_with fail
        go_ret
        exact ⟨by rw [HW.out]; rfl, hB⟩
      · have HW : Hid (D = false) := by show _ = _; rw [HV.out, decide_eq_false hC, decide_eq_false hC0]; simp
        have hCe : (C == 0) = false := by simpa using hC0
        clear HV hC hC0
        go_wp2_with fail
        go_ret
        exact ⟨by rw [HW.out]; rfl, hB⟩
  · have HV : Hid (D = qs) := by show _ = _; rw [HR.out, if_neg hs]
    clear HR
    cases ps <;> cases qs
    any_goals exact absurd rfl hs
    all_goals clear hs
    all_goals go_enter Try.func36, Try.ntmps36
    all_goals go_upto_region 1 with fail
    all_goals rw [← hX]
    all_goals clear hX
    all_goals go_wp2_with fail
    all_goals go_ret
    all_goals exact ⟨by rw [HV.out]; rfl, hB⟩
set_option maxHeartbeats 8000000 in
set_option maxRecDepth 20000 in
theorem rcheck_any (l : List Rt) (v : Value) (w : World) (h : HasRts w v l) (hfit : ∀ r ∈ l, FitR r) :
    Calls Try.prog 17 #[v] w fun e w' => e = .returned (.int .i64 (checkT l)) ∧ Below w.heap.size w w' := by
  obtain ⟨o, c, rfl, hc1, hc2⟩ := Lk.HasRow.slice h
  have HR : Hid (∀ wr : World, Below w.heap.size w wr → HasRts wr (.slice o l.length c) l) := fun wr hb => h.keep hb
  obtain ⟨n, hn⟩ : ∃ n, n = l.length := ⟨_, rfl⟩
  have HN : Hid (n = l.length) := hn
  rw [← hn] at HR hc1 ⊢
  have HC : Hid (checkT l = if (decide (n ≤ 256) && rise none l) then 0 else 2) := by show _ = _; unfold checkT okT; rw [← hn]
  generalize checkT l = R at HC ⊢
  clear h hn
  by_cases h256 : 256 < n
  · have HV : Hid (R = 2) := by show _ = _; rw [HC.out, decide_eq_false (by omega)]; rfl
    have q1 : decide ((256 : Int) < (n : Int)) = true := decide_eq_true (by omega)
    have q2 : decide (256 < n) = true := decide_eq_true h256
    clear HC HR
    go_enter Try.func17, Try.ntmps17
    go_wp2_with fail
    go_ret
    exact ⟨by first | (rw [HV.out]; rfl) | rfl, Below.refl _ _⟩
  · have HD : Hid (R = if rise none l then 0 else 2) := by show _ = _; rw [HC.out, decide_eq_true (by omega)]; rfl
    have hni : (n : Int) ≤ 256 := by omega
    have q1 : decide ((256 : Int) < (n : Int)) = false := decide_eq_false (by omega)
    have q2 : decide (256 < n) = false := decide_eq_false h256
    clear HC h256
    go_enter Try.func17, Try.ntmps17
    go_wp2_with fail
    go_loopw [10] (fun i wr => ∃ k : Nat, k ≤ n ∧ i = .int .i64 k ∧ Below w.heap.size w wr ∧ Hid (rise none l = rise (prevR l k) (l.drop k))) (fun i _ => n - (Go.RowKit.intOf i).toNat)
    case atStart => exact ⟨0, by omega, rfl, Below.refl _ _, (rfl : rise none l = _)⟩
    case round =>
      obtain ⟨k, hk, rfl, hB, HG⟩ := hrel
      have hh := HR.out _ hB
      by_cases hlt : k < n
      · have hkz : k < l.length := by rw [← HN.out]; exact hlt
        obtain ⟨g1, i1, rfl, hg1, ax⟩ := HasRts.cell hh k hkz
        obtain ⟨a0, a1, a2, a3, a4, a5⟩ := six_at ax
        clear ax
        have hfk := hfit l[k] (List.getElem_mem hkz)
        have cr := fun W : World => one_any l[k] W hfk
        have hki : (k : Int) < (n : Int) := by omega
        have HB1 : Hid (okR l[k] = false → R = 2) := fun h => round_bad hkz HD.out HG.out h
        have HB2 : Hid (okR l[k] = true → k = 0 → rise none l = rise (prevR l 1) (l.drop 1)) := fun h h0 => round_first hkz HG.out h h0
        have HB3 : Hid (okR l[k] = true → ∀ (j : Nat) (hj : j < l.length), k = j + 1 → (decide (ordP l[k].pf l[j].pf ≤ 0) = false → rise none l = rise (prevR l (k + 1)) (l.drop (k + 1))) ∧ (decide (ordP l[k].pf l[j].pf ≤ 0) = true → R = 2)) := fun h j hj h0 => round_next hkz HD.out HG.out h h0 hj
        have HCO : Hid (∀ (j : Nat) (hj : j < l.length) (W : World), Calls Try.prog 36 #[.agg #[.bool l[j].pf.six, .int .u64 (hiN l[j].pf.n : Int), .int .u64 (loN l[j].pf.n : Int), .int .i64 l[j].pf.len], .agg #[.bool l[k].pf.six, .int .u64 (hiN l[k].pf.n : Int), .int .u64 (loN l[k].pf.n : Int), .int .i64 l[k].pf.len]] W fun e w' => e = .returned (.bool (!decide (ordP l[k].pf l[j].pf ≤ 0))) ∧ Below W.heap.size W w') := fun j hj W => by
          have h := less_any l[j].pf l[k].pf W (hfit l[j] (List.getElem_mem hj)).1 hfk.1
          rw [less_swap] at h
          exact h
        clear HG hfk
        generalize okR l[k] = B1 at cr HB1 HB2 HB3
        obtain ⟨rk, hrk⟩ : ∃ rk, rk = l[k] := ⟨_, rfl⟩
        rw [← hrk] at a0 a1 a2 a3 a4 a5 cr HB3 HCO
        clear hrk
        have HPX : Hid (∀ p q, ordP rk.pf q = p → ordP rk.pf q = p) := fun _ _ h => h
        obtain ⟨rp, ra⟩ := rk
        obtain ⟨s0, sn, s3⟩ := rp
        obtain ⟨sk, s5⟩ := ra
        simp only at a0 a1 a2 a3 a4 a5 cr HCO HB3
        generalize (hiN sn : Int) = s1 at a1 cr HCO
        generalize (loN sn : Int) = s2 at a2 cr HCO
        generalize (sk : Int) = s4 at a4 cr
        clear HPX
        go_upto_region 6 with fail
        obtain ⟨X, hX⟩ : ∃ X, X = wr.alloc (.cells #[.bool s0, .int .u64 s1, .int .u64 s2, .int .i64 s3, .int .u8 s4, .int .i64 s5] 32) := ⟨_, rfl⟩
        have hbX : Below wr.heap.size wr X := by rw [hX]; exact below_new (Below.refl _ _) _
        have rx : RowAt X wr.heap.size [.bool s0, .int .u64 s1, .int .u64 s2, .int .i64 s3, .int .u8 s4, .int .i64 s5] 32 := by rw [hX]; exact RowAt.new _ _ _
        rw [← hX]
        have hBX := below2 hB hbX
        have hhX := hh.keep hbX
        clear hX
        obtain ⟨gs, hgs⟩ : ∃ g, g = wr.heap.size := ⟨_, rfl⟩
        rw [← hgs] at rx ⊢
        clear hgs a0 a1 a2 a3 a4 a5 hg1
        have m0 : ∀ p : Bl X, p.W.cell? ⟨gs, 0, none⟩ = some (.bool s0) := fun p => (rx.below p.h).cell 0
        have m1 : ∀ p : Bl X, p.W.cell? ⟨gs, 1, none⟩ = some (.int .u64 s1) := fun p => (rx.below p.h).cell 1
        have m2 : ∀ p : Bl X, p.W.cell? ⟨gs, 2, none⟩ = some (.int .u64 s2) := fun p => (rx.below p.h).cell 2
        have m3 : ∀ p : Bl X, p.W.cell? ⟨gs, 3, none⟩ = some (.int .i64 s3) := fun p => (rx.below p.h).cell 3
        have m4 : ∀ p : Bl X, p.W.cell? ⟨gs, 4, none⟩ = some (.int .u8 s4) := fun p => (rx.below p.h).cell 4
        have m5 : ∀ p : Bl X, p.W.cell? ⟨gs, 5, none⟩ = some (.int .i64 s5) := fun p => (rx.below p.h).cell 5
        haveI := bl_ne X
        cases B1
        · have HV : Hid (R = 2) := HB1.out rfl
          clear HB1 HB2 HB3 HD hh hhX
          refine wp_region_bl (by kernel_rfl) (by kernel_rfl) ?_
          repeat (go_big_quiet_step (first | (go_at_call 34; with_reducible exact bl_call (cr _))))
          refine wpQuiet_nil ?_
          intro wq hw'
          obtain ⟨⟨wz, hq⟩, hw2⟩ := hw'
          subst hw2
          have hW := below2 hBX hq
          go_wp2_with fail
          go_ret
          exact ⟨by first | (rw [HV.out]; rfl) | rfl, hW⟩
        · by_cases hk0 : k = 0
          · have HS1 : Hid (rise none l = rise (prevR l 1) (l.drop 1)) := HB2.out rfl hk0
            clear HB1 HB2 HB3 hh hhX
            have hz1 : decide ((0 : Int) < (k : Int)) = false := decide_eq_false (by omega)
            have hz2 : decide (0 < k) = false := decide_eq_false (by omega)
            have HK : Hid (k = 0) := hk0
            clear hk0
            refine wp_region_bl (by kernel_rfl) (by kernel_rfl) ?_
            repeat (go_big_quiet_step (first | (go_at_call 34; with_reducible exact bl_call (cr _))))
            refine wpQuiet_nil ?_
            intro wq hw'
            obtain ⟨⟨wz, hq⟩, hw2⟩ := hw'
            subst hw2
            have hW := below2 hBX hq
            go_wp2_with fail
            go_roundw
            case rel => exact ⟨k + 1, by omega, by go_num, hW, by rw [HK.out]; exact HS1⟩
            case measure => simp [Go.RowKit.intOf]; omega
          · obtain ⟨j, hj⟩ : ∃ j, k = j + 1 := ⟨k - 1, by omega⟩
            have hj2 : j < l.length := by omega
            obtain ⟨g2, i2, e12, hg2, bx⟩ := HasRts.cell hhX j hj2
            obtain ⟨b0, b1, b2, b3, _, _⟩ := six_at bx
            clear bx
            injection e12 with e12
            injection e12 with e1 e2
            subst e1 e2
            obtain ⟨HN1, HN2⟩ := HB3.out rfl j hj2 hj
            have co := HCO.out j hj2
            clear HCO HB1 HB2 HB3 hh hhX
            generalize ordP ⟨s0, sn, s3⟩ l[j].pf = OR at HN1 HN2 co
            have HN1 : Hid (decide (OR ≤ 0) = false → rise none l = rise (prevR l (k + 1)) (l.drop (k + 1))) := HN1
            have HN2 : Hid (decide (OR ≤ 0) = true → R = 2) := HN2
            generalize l[j].pf.six = t0 at co b0
            generalize (hiN l[j].pf.n : Int) = t1 at co b1
            generalize (loN l[j].pf.n : Int) = t2 at co b2
            generalize l[j].pf.len = t3 at co b3
            have u0 : ∀ p : Bl X, p.W.cell? ⟨g1, i1 + j * 6, none⟩ = some (.bool t0) := fun p => (p.h.cell (p := ⟨g1, i1 + j * 6, none⟩) hg2).trans b0
            have u1 : ∀ p : Bl X, p.W.cell? ⟨g1, i1 + j * 6 + 1, none⟩ = some (.int .u64 t1) := fun p => (p.h.cell (p := ⟨g1, i1 + j * 6 + 1, none⟩) hg2).trans b1
            have u2 : ∀ p : Bl X, p.W.cell? ⟨g1, i1 + j * 6 + 2, none⟩ = some (.int .u64 t2) := fun p => (p.h.cell (p := ⟨g1, i1 + j * 6 + 2, none⟩) hg2).trans b2
            have u3 : ∀ p : Bl X, p.W.cell? ⟨g1, i1 + j * 6 + 3, none⟩ = some (.int .i64 t3) := fun p => (p.h.cell (p := ⟨g1, i1 + j * 6 + 3, none⟩) hg2).trans b3
            clear b0 b1 b2 b3 hg2
            have e1 : (k : Int) - 1 = (j : Int) := by omega
            have e2 : IntKind.i64.wrap (j : Int) = (j : Int) := by rw [IntKind.wrap_i64]; omega
            have hkp : decide ((0 : Int) < (k : Int)) = true := decide_eq_true (by omega)
            have hkp' : decide (0 < k) = true := decide_eq_true (by omega)
            have hjn : (j : Int) < (n : Int) := by omega
            clear hj hk0
            cases B2 : decide (OR ≤ 0)
            · rw [B2] at co
              simp only [Bool.not_false] at co
              have HS1 : Hid (rise none l = rise (prevR l (k + 1)) (l.drop (k + 1))) := HN1.out B2
              clear HN1 HN2
              refine wp_region_bl (by kernel_rfl) (by kernel_rfl) ?_
              repeat (go_big_quiet_step (first | (go_at_call 34; with_reducible exact bl_call (cr _)) | (go_at_call 36; with_reducible exact bl_call (co _))))
              refine wpQuiet_nil ?_
              intro wq hw'
              obtain ⟨⟨wz, hq⟩, hw2⟩ := hw'
              subst hw2
              have hW := below2 hBX hq
              go_wp2_with fail
              go_roundw
              case rel => exact ⟨k + 1, by omega, by go_num, hW, HS1⟩
              case measure => simp [Go.RowKit.intOf]; omega
            · rw [B2] at co
              simp only [Bool.not_true] at co
              have HV : Hid (R = 2) := HN2.out B2
              clear HN1 HN2 HD
              refine wp_region_bl (by kernel_rfl) (by kernel_rfl) ?_
              repeat (go_big_quiet_step (first | (go_at_call 34; with_reducible exact bl_call (cr _)) | (go_at_call 36; with_reducible exact bl_call (co _))))
              refine wpQuiet_nil ?_
              intro wq hw'
              obtain ⟨⟨wz, hq⟩, hw2⟩ := hw'
              subst hw2
              have hW := below2 hBX hq
              go_wp2_with fail
              go_ret
              exact ⟨by first | (rw [HV.out]; rfl) | rfl, hW⟩
      · obtain rfl : k = n := by omega
        have HV : Hid (R = 0) := by
          show _ = _
          rw [HD.out, HG.out, List.drop_of_length_le (by rw [← HN.out]; exact Nat.le_refl _)]
          unfold prevR
          split <;> rfl
        clear hh HG HD
        go_wp2
        go_ret
        exact ⟨by first | (rw [HV.out]; rfl) | rfl, hB⟩
end Go.Proofs.Ytjgieaijdkmadaa.Tr
namespace Go.Proofs.Ytjgieaijdkmadaa.Tr
open Go.RowKit
open Go.Proofs.Ytjgieaijdkmadaa.Msg (Ac okA FitA)
open Go.Proofs.Ytjgieaijdkmadaa.Lk (HasRow)
open Go.Proofs.Ytjgieaijdkmadaa.Addr (Pf okP hasB cmpN hiN loN pfV adV RowAt below2 below_drew below_new bset gset grefl RowAt.gkeep RowAt.lt RowAt.cell RowAt.frozen RowAt.below RowAt.drew RowAt.new RowAt.alloc RowAt.set1 RowAt.far1 cells2 cells4)
def startR : Rt := ⟨⟨false, 0, -1⟩, ⟨0, 0⟩⟩
def stepR (six : Bool) (a : Nat) (b r : Rt) : Rt := if decide (b.pf.len < r.pf.len) && hasB r.pf six a then r else b
def bestF (six : Bool) (a : Nat) (l : List Rt) : Rt := l.foldl (stepR six a) startR
def bestT (l : List Rt) (six : Bool) (a : Nat) : Rt × Bool := if (bestF six a l).pf.len < 0 then (zeroR, false) else (bestF six a l, true)
theorem best_last {six : Bool} {a : Nat} : ∀ (l : List Rt), Up l → bestF six a l = (l.filter (hasR six a)).getLast?.getD startR := by
  intro l
  unfold bestF
  rw [← List.reverse_reverse l]
  generalize l.reverse = m
  induction m with
  | nil => intro _; rfl
  | cons r m ih =>
    intro hu
    rw [List.reverse_cons] at hu ⊢
    have hp := List.pairwise_append.1 hu
    have ih := ih hp.1
    rw [List.foldl_append, ih, List.filter_append]
    show stepR six a _ r = _
    unfold stepR
    cases hh : hasB r.pf six a with
    | false =>
      rw [Bool.and_false, List.filter_cons_of_neg (by unfold hasR; rw [hh]; simp)]
      simp
    | true =>
      rw [List.filter_cons_of_pos (by unfold hasR; exact hh), List.filter_nil]
      have hlt : ((m.reverse.filter (hasR six a)).getLast?.getD startR).pf.len < r.pf.len := by
        cases hL : (m.reverse.filter (hasR six a)).getLast? with
        | none =>
          have := (ok_parts (has_ok hh)).1
          show (-1 : Int) < _
          omega
        | some y =>
          have hy := List.mem_of_getLast? hL
          obtain ⟨h1, h2⟩ := List.mem_filter.1 hy
          exact (later_long (hp.2.2 y h1 r (by simp)) h2 hh).1
      rw [decide_eq_true hlt]
      simp
theorem best_long {l : List Rt} {six : Bool} {a : Nat} (hl : okT l = true) (ha : Addr.rightB six a = true) : bestT l six a = ((longT l six a).1, decide ((longT l six a).2 = 0)) := by
  have hu := ((okT_iff l).1 hl).2.2
  have hok := ((okT_iff l).1 hl).2.1
  unfold bestT longT
  rw [best_last l hu, hl, ha]
  simp only [Bool.and_self, if_true]
  unfold lastR codeR
  cases hL : (l.filter (hasR six a)).getLast? with
  | none =>
    have he := List.getLast?_eq_none_iff.1 hL
    rw [he]
    rfl
  | some y =>
    have hy := List.mem_of_getLast? hL
    obtain ⟨h1, h2⟩ := List.mem_filter.1 hy
    have h3 := (ok_parts (has_ok h2)).1
    have hne : (l.filter (hasR six a)).length ≠ 0 := fun e => by
      rw [List.length_eq_zero_iff] at e
      rw [e] at hy
      cases hy
    simp only [Option.getD_some]
    rw [if_neg (by omega), if_neg hne]
    rfl
theorem bestF_fit {l : List Rt} (hf : ∀ x ∈ l, FitR x) (six : Bool) (a : Nat) : FitR (bestF six a l) := by
  unfold bestF
  have h0 : FitR startR := ⟨⟨by decide, by decide⟩, by decide, by decide, by decide⟩
  generalize startR = s at h0
  induction l generalizing s with
  | nil => exact h0
  | cons r l ih =>
    refine ih (fun x hx => hf x (List.mem_cons_of_mem _ hx)) _ ?_
    unfold stepR
    split
    · exact hf r List.mem_cons_self
    · exact h0
theorem set6_row {W : World} {B : Nat} {c0 c1 c2 c3 c4 c5 : Value} {t : TypeId} (h : RowAt W B [c0, c1, c2, c3, c4, c5] t) (x0 x1 x2 x3 x4 x5 : Value) : RowAt ((((((W.setCell ⟨B, 0, none⟩ x0).setCell ⟨B, 1, none⟩ x1).setCell ⟨B, 2, none⟩ x2).setCell ⟨B, 3, none⟩ x3).setCell ⟨B, 4, none⟩ x4).setCell ⟨B, 5, none⟩ x5) B [x0, x1, x2, x3, x4, x5] t := (((((h.set1 0 x0).set1 1 x1).set1 2 x2).set1 3 x3).set1 4 x4).set1 5 x5
theorem set6_bl {b0 B : Nat} {w0 W : World} (h : Below b0 w0 W) (hb : b0 ≤ B) (x0 x1 x2 x3 x4 x5 : Value) : Below b0 w0 ((((((W.setCell ⟨B, 0, none⟩ x0).setCell ⟨B, 1, none⟩ x1).setCell ⟨B, 2, none⟩ x2).setCell ⟨B, 3, none⟩ x3).setCell ⟨B, 4, none⟩ x4).setCell ⟨B, 5, none⟩ x5) := bset (bset (bset (bset (bset (bset h hb) hb) hb) hb) hb) hb
theorem six_of {W : World} {B : Nat} {c0 c1 c2 c3 c4 c5 : Value} {t : TypeId} (h : RowAt W B [c0, c1, c2, c3, c4, c5] t) : W.cell? ⟨B, 0, none⟩ = some c0 ∧ W.cell? ⟨B, 1, none⟩ = some c1 ∧ W.cell? ⟨B, 2, none⟩ = some c2 ∧ W.cell? ⟨B, 3, none⟩ = some c3 ∧ W.cell? ⟨B, 4, none⟩ = some c4 ∧ W.cell? ⟨B, 5, none⟩ = some c5 ∧ ∀ k, W.frozen? ⟨B, k, none⟩ = false := ⟨h.cell 0, h.cell 1, h.cell 2, h.cell 3, h.cell 4, h.cell 5, h.frozen⟩
/-- the box of the best route, and what lies ahead of it -/
structure BestI (g : Nat) (V W : World) (r : Rt) : Prop where
  row : RowAt W g [.bool r.pf.six, .int .u64 (hiN r.pf.n : Int), .int .u64 (loN r.pf.n : Int), .int .i64 r.pf.len, .int .u8 (r.act.k : Int), .int .i64 r.act.i] 32
  bel : Below g V W
set_option maxHeartbeats 8000000 in
set_option maxRecDepth 20000 in
theorem best_any (l : List Rt) (v : Value) (six : Bool) (a : Nat) (w : World) (hl : HasRts w v l) (hf : ∀ x ∈ l, FitR x) (ha : a < 2 ^ 128) :
    Calls Try.prog 44 #[v, .bool six, .agg #[.int .u64 (hiN a : Int), .int .u64 (loN a : Int)]] w fun e w' => e = .returned (.tuple #[rtA (bestT l six a).1, .bool (bestT l six a).2]) ∧ Below w.heap.size w w' := by
  obtain ⟨o, c, rfl, hc1, hc2⟩ := Lk.HasRow.slice hl
  have HL : Hid (∀ W, Below w.heap.size w W → HasRts W (.slice o l.length c) l) := fun W hb => hl.keep hb
  have HHas : Hid (∀ (r : Rt), r ∈ l → ∀ W, Calls Try.prog 73 #[.agg #[.bool r.pf.six, .int .u64 (hiN r.pf.n : Int), .int .u64 (loN r.pf.n : Int), .int .i64 r.pf.len], .bool six, .agg #[.int .u64 (hiN a : Int), .int .u64 (loN a : Int)]] W fun e w' => e = .returned (.bool (hasB r.pf six a)) ∧ Below W.heap.size W w') := fun r hr W => Addr.rhas_any r.pf six a W (hf r hr).1.1 (hf r hr).1.2 ha
  have HT : Hid (bestT l six a = if (bestF six a l).pf.len < 0 then (zeroR, false) else (bestF six a l, true)) := rfl
  generalize bestT l six a = T at HT ⊢
  obtain ⟨n, hn⟩ : ∃ n, n = l.length := ⟨_, rfl⟩
  have HN : Hid (n = l.length) := hn
  rw [← hn] at HL hc1 ⊢
  have hni : (n : Int) ≤ 9223372036854775807 := by omega
  clear hl hf ha hn
  obtain ⟨ah, hah⟩ : ∃ x : Int, x = (hiN a : Int) := ⟨_, rfl⟩
  obtain ⟨al, hal⟩ : ∃ x : Int, x = (loN a : Int) := ⟨_, rfl⟩
  rw [← hah, ← hal] at HHas ⊢
  clear hah hal
  obtain ⟨X, hX⟩ : ∃ X, X = ((w.alloc (.cells #[.int .u64 ah, .int .u64 al] 25)).alloc (.cells #[.bool false, .int .u64 0, .int .u64 0, .int .i64 0, .int .u8 0, .int .i64 0] 32)).alloc (.cells #[.bool false, .int .u64 0, .int .u64 0, .int .i64 (-1), .int .u8 0, .int .i64 0] 32) := ⟨_, rfl⟩
  have hB : Below w.heap.size w X := by rw [hX]; exact below_new (below_new (below_new (Below.refl _ _) _) _) _
  have r0 : RowAt X w.heap.size [.int .u64 ah, .int .u64 al] 25 := by rw [hX]; exact ((RowAt.new _ _ _).alloc _).alloc _
  have r1 : RowAt X (w.heap.size + 1) [.bool false, .int .u64 0, .int .u64 0, .int .i64 0, .int .u8 0, .int .i64 0] 32 := by rw [hX, ← World.size_alloc w (.cells #[.int .u64 ah, .int .u64 al] 25)]; exact (RowAt.new _ _ _).alloc _
  have r2 : RowAt X (w.heap.size + 2) [.bool false, .int .u64 0, .int .u64 0, .int .i64 (-1), .int .u8 0, .int .i64 0] 32 := by rw [hX, show w.heap.size + 2 = ((w.alloc (.cells #[.int .u64 ah, .int .u64 al] 25)).alloc (.cells #[.bool false, .int .u64 0, .int .u64 0, .int .i64 0, .int .u8 0, .int .i64 0] 32)).heap.size by simp]; exact RowAt.new _ _ _
  have HI0 : Hid (BestI (w.heap.size + 2) X X (bestF six a (l.take 0))) := ⟨by
    show RowAt X _ [.bool false, .int .u64 ((hiN 0 : Nat) : Int), .int .u64 ((loN 0 : Nat) : Int), .int .i64 (-1), .int .u8 ((0 : Nat) : Int), .int .i64 0] _
    rw [Msg.hi0, Msg.lo0]
    exact r2, Below.refl _ _⟩
  obtain ⟨g, hg⟩ : ∃ g, g = w.heap.size + 2 := ⟨_, rfl⟩
  have hg0 : w.heap.size < g := by omega
  have hg1 : w.heap.size + 1 < g := by omega
  have hge : w.heap.size ≤ g := by omega
  rw [← hg] at HI0
  clear r2
  go_enter Try.func44, Try.ntmps44
  go_upto_region 2 with fail
  rw [← hX]
  rw [show w.heap.size + 1 + 1 = w.heap.size + 2 from rfl, ← hg]
  clear hX hg
  go_wp2_with fail
  go_loopw [15] (fun i wr => ∃ k : Nat, k ≤ n ∧ i = .int .i64 k ∧ Hid (BestI g X wr (bestF six a (l.take k)))) (fun i _ => n - (Go.RowKit.intOf i).toNat)
  case atStart => exact ⟨0, by omega, rfl, HI0⟩
  case round =>
    obtain ⟨k, hk, rfl, HI⟩ := hrel
    have hBr : Below w.heap.size w wr := hB.trans (HI.out.bel.mono hge)
    by_cases hlt : k < n
    · have hkz : k < l.length := by rw [← HN.out]; exact hlt
      obtain ⟨g1, i1, rfl, hg1', ax⟩ := HasRts.cell (HL.out _ hBr) k hkz
      obtain ⟨a0, a1, a2, a3, a4, a5⟩ := six_at ax
      clear ax
      have HS : Hid (bestF six a (l.take (k + 1)) = stepR six a (bestF six a (l.take k)) l[k]) := by
        show _ = _
        unfold bestF
        rw [List.take_succ_eq_append_getElem hkz, List.foldl_append]
        rfl
      have cH := HHas.out l[k] (List.getElem_mem hkz)
      obtain ⟨nb, hnb⟩ : ∃ nb, nb = bestF six a (l.take (k + 1)) := ⟨_, rfl⟩
      have HNB : Hid (bestF six a (l.take (k + 1)) = nb) := hnb.symm
      replace HS : Hid (nb = stepR six a (bestF six a (l.take k)) l[k]) := hnb.trans HS.out
      clear hnb
      have hrow := HI.out.row
      have hbel := HI.out.bel
      clear HI
      generalize bestF six a (l.take k) = b at HS hrow
      have HS2 : Hid (nb = if decide (b.pf.len < l[k].pf.len) && hasB l[k].pf six a then l[k] else b) := HS.out
      clear HS
      generalize hasB l[k].pf six a = hh at HS2 cH
      have HST : Hid (∀ W, RowAt W g [.bool l[k].pf.six, .int .u64 (hiN l[k].pf.n : Int), .int .u64 (loN l[k].pf.n : Int), .int .i64 l[k].pf.len, .int .u8 (l[k].act.k : Int), .int .i64 l[k].act.i] 32 → Below g X W → BestI g X W l[k]) := fun W a b => ⟨a, b⟩
      have HSB : Hid (∀ W, RowAt W g [.bool b.pf.six, .int .u64 (hiN b.pf.n : Int), .int .u64 (loN b.pf.n : Int), .int .i64 b.pf.len, .int .u8 (b.act.k : Int), .int .i64 b.act.i] 32 → Below g X W → BestI g X W b) := fun W a b => ⟨a, b⟩
      have HSL : Hid (∀ q : Bool, q = decide (b.pf.len < l[k].pf.len) → nb = if q && hh then l[k] else b) := fun q e => by rw [e]; exact HS2.out
      clear HS2
      generalize (hiN b.pf.n : Int) = b1 at hrow HSB
      generalize (loN b.pf.n : Int) = b2 at hrow HSB
      generalize b.pf.six = b0 at hrow HSB
      generalize b.act.i = b5 at hrow HSB
      generalize (b.act.k : Int) = b4 at hrow HSB
      generalize (hiN l[k].pf.n : Int) = s1 at a1 cH HST
      generalize (loN l[k].pf.n : Int) = s2 at a2 cH HST
      generalize l[k].pf.six = s0 at a0 cH HST
      generalize l[k].act.i = s5 at a5 HST
      generalize (l[k].act.k : Int) = s4 at a4 HST
      generalize b.pf.len = b3 at hrow HSB HSL
      generalize l[k].pf.len = s3 at a3 cH HST HSL
      have hki : (k : Int) < (n : Int) := by omega
      obtain ⟨Y, hY⟩ : ∃ Y, Y = wr.alloc (.cells #[.bool s0, .int .u64 s1, .int .u64 s2, .int .i64 s3, .int .u8 s4, .int .i64 s5] 32) := ⟨_, rfl⟩
      have hbY : Below wr.heap.size wr Y := by rw [hY]; exact below_new (Below.refl _ _) _
      have rY : RowAt Y wr.heap.size [.bool s0, .int .u64 s1, .int .u64 s2, .int .i64 s3, .int .u8 s4, .int .i64 s5] 32 := by rw [hY]; exact RowAt.new _ _ _
      have hgw : g < wr.heap.size := hrow.lt
      go_upto_region 5 with fail
      rw [← hY]
      clear hY a0 a1 a2 a3 a4 a5 hg1'
      obtain ⟨gy, hgy⟩ : ∃ gy, gy = wr.heap.size := ⟨_, rfl⟩
      have hne : gy ≠ g := by omega
      rw [← hgy] at rY ⊢
      clear hgy
      have rB := RowAt.below hrow hbY
      have hbG : Below g X Y := hbel.trans (hbY.mono (by omega))
      have rA : RowAt Y w.heap.size [.int .u64 ah, .int .u64 al] 25 := (hbG.block _ hg0).trans r0
      obtain ⟨y0, y1, y2, y3, y4, y5, yf⟩ := six_of rY
      obtain ⟨z0, z1, z2, z3, z4, z5, zf⟩ := six_of rB
      cases hq : decide (b3 < s3)
      · have HE : Hid (nb = b) := HSL.out false (by rw [hq])
        clear HSL
        go_wp2_with fail
        go_roundw
        case rel => exact ⟨k + 1, by omega, by go_num, by show BestI _ _ _ _; rw [HNB.out, HE.out]; exact HSB.out _ rB hbG⟩
        case measure => simp [Go.RowKit.intOf]; omega
      · have HE : Hid (nb = if hh then l[k] else b) := by have := HSL.out true (by rw [hq]); show _ = _; rw [this]; simp
        clear HSL
        obtain ⟨x0, x1, xf⟩ := cells2 rA
        go_wp2_with fail
        clear y0 y1 y2 y3 y4 y5 yf z0 z1 z2 z3 z4 z5 zf x0 x1 xf
        go_at_call 73; refine (cH _).mono ?_; rintro e w3 ⟨rfl, hb3⟩
        have hbG3 : Below g X w3 := hbG.trans (hb3.mono (by have := rB.lt; omega))
        replace rB := RowAt.below rB hb3
        replace rY := RowAt.below rY hb3
        obtain ⟨y0, y1, y2, y3, y4, y5, yf⟩ := six_of rY
        obtain ⟨z0, z1, z2, z3, z4, z5, zf⟩ := six_of rB
        cases hh
        · have HE2 : Hid (nb = b) := HE.out
          clear HE
          go_wp2_with fail
          go_roundw
          case rel => exact ⟨k + 1, by omega, by go_num, by show BestI _ _ _ _; rw [HNB.out, HE2.out]; exact HSB.out _ rB hbG3⟩
          case measure => simp [Go.RowKit.intOf]; omega
        · have HE2 : Hid (nb = l[k]) := HE.out
          clear HE
          go_wp2_with fail
          go_roundw
          case rel => exact ⟨k + 1, by omega, by go_num, by show BestI _ _ _ _; rw [HNB.out, HE2.out]; exact HST.out _ (set6_row rB _ _ _ _ _ _) (set6_bl hbG3 (Nat.le_refl _) _ _ _ _ _ _)⟩
          case measure => simp [Go.RowKit.intOf]; omega
    · have hkn : k = n := by omega
      have HE : Hid (bestF six a (l.take k) = bestF six a l) := by show _ = _; rw [List.take_of_length_le (by rw [← HN.out]; omega)]
      have hrow := HI.out.row
      have hbel := HI.out.bel
      rw [HE.out] at hrow
      clear HI HE hkn
      have hkf : decide ((k : Int) < (n : Int)) = false := decide_eq_false (by omega)
      have HT2 : Hid (∀ q : Bool, q = decide ((bestF six a l).pf.len < 0) → T = if q then (zeroR, false) else (bestF six a l, true)) := fun q e => by rw [e, HT.out]; by_cases h : (bestF six a l).pf.len < 0 <;> simp [h]
      have HV : Hid (rtA (bestF six a l) = rtA (bestF six a l)) := rfl
      have hV : rtA (bestF six a l) = .agg #[.bool (bestF six a l).pf.six, .int .u64 (hiN (bestF six a l).pf.n : Int), .int .u64 (loN (bestF six a l).pf.n : Int), .int .i64 (bestF six a l).pf.len, .int .u8 ((bestF six a l).act.k : Int), .int .i64 (bestF six a l).act.i] := rfl
      clear HT HV
      generalize bestF six a l = b at hrow HT2 hV
      have HV : Hid (rtA b = .agg #[.bool b.pf.six, .int .u64 (hiN b.pf.n : Int), .int .u64 (loN b.pf.n : Int), .int .i64 b.pf.len, .int .u8 (b.act.k : Int), .int .i64 b.act.i]) := hV
      clear hV
      generalize (hiN b.pf.n : Int) = b1 at hrow HV
      generalize (loN b.pf.n : Int) = b2 at hrow HV
      generalize b.pf.six = b0 at hrow HV
      generalize b.act.i = b5 at hrow HV
      generalize (b.act.k : Int) = b4 at hrow HV
      generalize b.pf.len = b3 at hrow HV HT2
      have rR : RowAt wr (w.heap.size + 1) [.bool false, .int .u64 0, .int .u64 0, .int .i64 0, .int .u8 0, .int .i64 0] 32 := (hbel.block _ hg1).trans r1
      obtain ⟨z0, z1, z2, z3, z4, z5, zf⟩ := six_of hrow
      obtain ⟨y0, y1, y2, y3, y4, y5, yf⟩ := six_of rR
      cases hq : decide (b3 < 0)
      · have HW : Hid (T = (b, true)) := HT2.out false (by rw [hq])
        clear HT2
        go_wp2_with fail
        (try simp only [Exit.inBlock, Exit.then])
        refine bodyPost_ret (v := .tuple #[.agg #[.bool b0, .int .u64 b1, .int .u64 b2, .int .i64 b3, .int .u8 b4, .int .i64 b5], .bool true]) ?_ rfl ⟨by rw [HW.out]; show _ = Ending.returned (.tuple #[rtA b, .bool true]); rw [HV.out], ?_⟩
        · rw [results_cell_tmp rfl]
          go_simp
        · exact set6_bl hBr (by omega) _ _ _ _ _ _
      · have HW : Hid (T = (zeroR, false)) := HT2.out true (by rw [hq])
        clear HT2
        go_wp2_with fail
        (try simp only [Exit.inBlock, Exit.then])
        refine bodyPost_ret (v := .tuple #[.agg #[.bool false, .int .u64 0, .int .u64 0, .int .i64 0, .int .u8 0, .int .i64 0], .bool false]) ?_ rfl ⟨by rw [HW.out]; show _ = Ending.returned (.tuple #[rtA zeroR, .bool false]); unfold rtA zeroR; simp only [Msg.hi0, Msg.lo0]; rfl, ?_⟩
        · rw [results_cell_tmp rfl]
          go_simp
        · exact set6_bl hBr (by omega) _ _ _ _ _ _
end Go.Proofs.Ytjgieaijdkmadaa.Tr
namespace Go.Proofs.Ytjgieaijdkmadaa.Tr
open Go.RowKit Go.Shelf
open Go.Proofs.Ytjgieaijdkmadaa.Msg (Ac okA FitA eqP eqP_iff eqP_not pf_neq pf_eqb)
open Go.Proofs.Ytjgieaijdkmadaa.Lk (HasRow append_row empty_own own_below hasRow_own)
open Go.Proofs.Ytjgieaijdkmadaa.Addr (Pf okP hiN loN pfV RowAt below2 below_drew below_new bset RowAt.lt RowAt.cell RowAt.frozen RowAt.below RowAt.drew RowAt.new RowAt.alloc cells2 cells4)
attribute [-go_sem] Builtin.append_
/-- a row of a call's own -/
structure Own1 (w W : World) (u : Value) (a : List Rt) : Prop where
  ou : W.ownsRow w.heap.size 32 6 u a.length (rtCs a)
  bl : Below w.heap.size w W
theorem Own1.below {w W W' : World} {u : Value} {a : List Rt} (h : Own1 w W u a) (hb : Below W.heap.size W W') : Own1 w W' u a := ⟨own_below h.ou hb, below2 h.bl hb⟩
theorem Own1.app {w W : World} {u x : Value} {a m : List Rt} (h : Own1 w W u a) (hx : HasRts W x m) (hb : a.length + m.length ≤ 1000000) :
    ∃ v' w3, (∀ ty, (Builtin.append_ #[22, 22] ty #[u, x]).run Try.prog W = .ok v' w3) ∧ Own1 w w3 v' (a ++ m) := by
  obtain ⟨v', w3, hrun, h1, h2⟩ := append_row info_rt Try.underlying22 rfl (by decide) h.ou hx (one_routes m) (by omega) (by omega) h.bl.size
  refine ⟨v', w3, hrun, by rw [← List.length_append, ← rtCs_app] at h1; exact h1, ?_⟩
  exact h.bl.grown h2 h.bl.size (fun k e => (h.ou.lt k e).1)
theorem lit_rt (W : World) (x : Rt) : HasRts (W.alloc (.cells #[.bool x.pf.six, .int .u64 (hiN x.pf.n : Int), .int .u64 (loN x.pf.n : Int), .int .i64 x.pf.len, .int .u8 (x.act.k : Int), .int .i64 x.act.i] 32)) (.slice (some ⟨W.heap.size, 0, none⟩) 1 1) [x] := by
  refine ⟨rfl, .inr ⟨⟨W.heap.size, 0, none⟩, 1, rfl, Nat.le_refl _, by decide, fun _ => ⟨rfl, by simp⟩, fun j hj => ?_⟩⟩
  rw [Lk.addr_add, Nat.zero_add]
  exact (RowAt.new W (rtC x) 32).cell j
theorem filter_snocR (p : Rt → Bool) (l : List Rt) (k : Nat) (h : k < l.length) : (l.take (k + 1)).filter p = (l.take k).filter p ++ (if p l[k] then [l[k]] else []) := by
  rw [List.take_succ_eq_append_getElem h, List.filter_append]
  congr 1
  cases hp : p l[k] <;> simp [hp]
theorem filter_leR (p : Rt → Bool) (l : List Rt) (k : Nat) : ((l.take k).filter p).length ≤ l.length := Nat.le_trans (List.length_filter_le _ _) (by rw [List.length_take]; omega)
theorem others_eqP (l : List Rt) (p : Pf) : othersT l p = l.filter (fun s => !eqP s.pf p) := by
  unfold othersT
  congr 1
  funext s
  congr 1
  rw [Bool.eq_iff_iff, decide_eq_true_eq, eqP_iff, ordP_eq]
set_option maxHeartbeats 8000000 in
set_option maxRecDepth 20000 in
theorem without_any (l : List Rt) (v : Value) (p : Pf) (w : World) (hl : HasRts w v l) (hlen : l.length ≤ 1000) :
    Calls Try.prog 35 #[v, .agg #[.bool p.six, .int .u64 (hiN p.n : Int), .int .u64 (loN p.n : Int), .int .i64 p.len]] w fun e w' => ∃ u, e = .returned u ∧ HasRts w' u (othersT l p) ∧ Below w.heap.size w w' := by
  obtain ⟨o, c, rfl, hc1, hc2⟩ := Lk.HasRow.slice hl
  rw [others_eqP]
  obtain ⟨X, hX⟩ : ∃ X, X = w.alloc (.cells #[.bool p.six, .int .u64 (hiN p.n : Int), .int .u64 (loN p.n : Int), .int .i64 p.len] 27) := ⟨_, rfl⟩
  have hB : Below w.heap.size w X := by rw [hX]; exact below_new (Below.refl _ _) _
  have r0 : RowAt X w.heap.size [.bool p.six, .int .u64 (hiN p.n : Int), .int .u64 (loN p.n : Int), .int .i64 p.len] 27 := by rw [hX]; exact RowAt.new _ _ _
  have HR : Hid (∀ wr : World, Below X.heap.size X wr → HasRts wr (.slice o l.length c) l) := fun wr hb => (hl.keep hB).keep hb
  have HNE : Hid (∀ (s : Rt) (W : World), (binOp .neq 27 (.agg #[.bool s.pf.six, .int .u64 (hiN s.pf.n : Int), .int .u64 (loN s.pf.n : Int), .int .i64 s.pf.len]) (.agg #[.bool p.six, .int .u64 (hiN p.n : Int), .int .u64 (loN p.n : Int), .int .i64 p.len])).run Try.prog W = .ok (.bool (!eqP s.pf p)) W) := fun s W => pf_neq s.pf p W
  obtain ⟨n, hn⟩ : ∃ n, n = l.length := ⟨_, rfl⟩
  have HN : Hid (n = l.length) := hn
  rw [← hn] at HR hc1 hlen ⊢
  have hni : (n : Int) ≤ 1000 := by omega
  have H0 : Hid (Own1 X X (.slice none 0 0) ((l.take 0).filter (fun s => !eqP s.pf p))) := ⟨World.ownsRow_nil _ _ _ _, Below.refl _ _⟩
  have HF : Hid (∀ k (h : k < l.length), (l.take (k + 1)).filter (fun s => !eqP s.pf p) = (l.take k).filter (fun s => !eqP s.pf p) ++ (if !eqP l[k].pf p then [l[k]] else [])) := fun k h => filter_snocR _ l k h
  have HE : Hid (∀ u W, Own1 X W u (l.filter (fun s => !eqP s.pf p)) → HasRts W u (l.filter (fun s => !eqP s.pf p))) := fun u W h => hasRow_own h.ou
  have HLe : Hid (∀ k, ((l.take k).filter (fun s => !eqP s.pf p)).length ≤ 1000) := fun k => Nat.le_trans (filter_leR _ l k) (by rw [← hn]; exact hlen)
  clear hl hn
  generalize hp0 : p.six = p0 at *
  generalize hp1 : (hiN p.n : Int) = p1 at *
  generalize hp2 : (loN p.n : Int) = p2 at *
  generalize hp3 : p.len = p3 at *
  clear hp0 hp1 hp2 hp3
  go_enter Try.func35, Try.ntmps35
  go_upto_region 2 with fail
  rw [← hX]
  clear hX
  go_wp2_with fail
  go_loopw [5, 10] (fun u q wr => ∃ k : Nat, k ≤ n ∧ q = .int .i64 k ∧ Hid (Own1 X wr u ((l.take k).filter (fun s => !eqP s.pf p)))) (fun _ q _ => n - (Go.RowKit.intOf q).toNat)
  case atStart => exact ⟨0, by omega, rfl, H0⟩
  case round =>
    obtain ⟨k, hk, rfl, HI⟩ := hrel
    have hI := HI.out
    by_cases hlt : k < n
    · have hkz : k < l.length := by rw [← HN.out]; exact hlt
      obtain ⟨g1, i1, rfl, hg1, ax⟩ := HasRts.cell (HR.out _ hI.bl) k hkz
      obtain ⟨a0, a1, a2, a3, a4, a5⟩ := six_at ax
      clear ax
      have HA := HF.out k hkz
      have hle := HLe.out k
      obtain ⟨x, hx⟩ : ∃ x : Rt, x = l[k] := ⟨_, rfl⟩
      rw [← hx] at HA a0 a1 a2 a3 a4 a5
      replace HA : Hid ((l.take (k + 1)).filter (fun s => !eqP s.pf p) = (l.take k).filter (fun s => !eqP s.pf p) ++ (if !eqP x.pf p then [x] else [])) := HA
      have hne := HNE.out x
      clear hx
      have hki : (k : Int) < (n : Int) := by omega
      have HLT : Hid (∀ W : World, HasRts (W.alloc (.cells #[.bool x.pf.six, .int .u64 (hiN x.pf.n : Int), .int .u64 (loN x.pf.n : Int), .int .i64 x.pf.len, .int .u8 (x.act.k : Int), .int .i64 x.act.i] 32)) (.slice (some ⟨W.heap.size, 0, none⟩) 1 1) [x]) := fun W => lit_rt W x
      generalize eqP x.pf p = E at hne HA
      generalize x.pf.six = s0 at *
      generalize (hiN x.pf.n : Int) = s1 at *
      generalize (loN x.pf.n : Int) = s2 at *
      generalize x.pf.len = s3 at *
      generalize (x.act.k : Int) = s4 at *
      generalize x.act.i = s5 at *
      obtain ⟨Y, hY⟩ : ∃ Y, Y = wr.alloc (.cells #[.bool s0, .int .u64 s1, .int .u64 s2, .int .i64 s3, .int .u8 s4, .int .i64 s5] 32) := ⟨_, rfl⟩
      have hbY : Below wr.heap.size wr Y := by rw [hY]; exact below_new (Below.refl _ _) _
      have rY : RowAt Y wr.heap.size [.bool s0, .int .u64 s1, .int .u64 s2, .int .i64 s3, .int .u8 s4, .int .i64 s5] 32 := by rw [hY]; exact RowAt.new _ _ _
      go_upto_region 5 with fail
      rw [← hY]
      clear hY a0 a1 a2 a3 a4 a5 hg1
      replace hI := hI.below hbY
      obtain ⟨gy, hgy⟩ : ∃ gy, gy = wr.heap.size := ⟨_, rfl⟩
      rw [← hgy] at rY ⊢
      clear hgy hbY
      obtain ⟨y0, y1, y2, y3, y4, y5, yf⟩ := six_of rY
      obtain ⟨q0, q1, q2, q3, qf⟩ := cells4 (RowAt.below r0 hI.bl)
      cases E
      · obtain ⟨v', w3, hrun, hO⟩ := (hI.below (below_new (Below.refl _ Y) (.cells #[.bool s0, .int .u64 s1, .int .u64 s2, .int .i64 s3, .int .u8 s4, .int .i64 s5] 32))).app (HLT.out Y) (by simp only [List.length_cons, List.length_nil]; omega)
        have HO : Hid (Own1 X w3 v' ((l.take (k + 1)).filter (fun s => !eqP s.pf p))) := by
          show Own1 _ _ _ _
          rw [HA.out]
          exact hO
        clear hO hI HA HI rY HLT
        go_wp2_with fail
        go_roundw
        case rel => exact ⟨k + 1, by omega, by go_num, HO⟩
        case measure => simp [Go.RowKit.intOf]; omega
      · have HO : Hid (Own1 X Y u5 ((l.take (k + 1)).filter (fun s => !eqP s.pf p))) := by
          show Own1 _ _ _ _
          rw [HA.out]
          simpa using hI
        clear hI HA HI rY HLT
        go_wp2_with fail
        go_roundw
        case rel => exact ⟨k + 1, by omega, by go_num, HO⟩
        case measure => simp [Go.RowKit.intOf]; omega
    · have hkf : decide ((k : Int) < (n : Int)) = false := decide_eq_false (by omega)
      rw [List.take_of_length_le (by rw [← HN.out]; omega)] at hI
      have hh := HE.out _ _ hI
      have hbl := below2 hB hI.bl
      clear HI hI
      go_wp2_with fail
      go_ret
      exact ⟨_, rfl, hh, hbl⟩
end Go.Proofs.Ytjgieaijdkmadaa.Tr
namespace Go.Proofs.Ytjgieaijdkmadaa.Tr
open Go.RowKit Go.Shelf
open Go.Proofs.Ytjgieaijdkmadaa.Msg (Ac okA FitA eqP eqP_iff eqP_not pf_neq pf_eqb)
open Go.Proofs.Ytjgieaijdkmadaa.Lk (HasRow append_row empty_own own_below hasRow_own)
open Go.Proofs.Ytjgieaijdkmadaa.Addr (Pf okP hiN loN pfV RowAt below2 below_drew below_new bset RowAt.lt RowAt.cell RowAt.frozen RowAt.below RowAt.drew RowAt.new RowAt.alloc cells2 cells4)
attribute [-go_sem] Builtin.append_
theorem ahead_others (l : List Rt) (p : Pf) : (othersT l p).filter (fun s => decide (ordP s.pf p < 0)) = aheadT l p := by
  unfold othersT aheadT
  rw [List.filter_filter]
  congr 1
  funext s
  by_cases h : ordP s.pf p < 0
  · rw [decide_eq_true h, decide_eq_false (show ¬ ordP s.pf p = 0 by omega)]; rfl
  · rw [decide_eq_false h]; simp
theorem behind_others (l : List Rt) (p : Pf) : (othersT l p).filter (fun s => decide (ordP p s.pf < 0)) = behindT l p := by
  unfold othersT behindT
  rw [List.filter_filter]
  congr 1
  funext s
  have h1 := ordP_lt p s.pf
  have h2 := ordP_gt s.pf p
  by_cases h : ltP p s.pf
  · have := h2.2 h
    rw [decide_eq_true (h1.2 h), decide_eq_false (show ¬ ordP s.pf p = 0 by omega), decide_eq_true (h2.2 h)]; rfl
  · rw [decide_eq_false (fun c => h (h1.1 c)), decide_eq_false (fun c => h (h2.1 c))]; rfl
theorem ins_others (l : List Rt) (r : Rt) : insT l r = (othersT l r.pf).filter (fun s => decide (ordP s.pf r.pf < 0)) ++ [r] ++ (othersT l r.pf).filter (fun s => decide (ordP r.pf s.pf < 0)) := by
  unfold insT
  rw [ahead_others, behind_others, List.append_assoc]
set_option maxHeartbeats 16000000 in
set_option maxRecDepth 20000 in
theorem rput_any (l : List Rt) (v : Value) (r : Rt) (w : World) (hl : HasRts w v l) (hf : ∀ x ∈ l, FitR x) (hr : FitR r) :
    Calls Try.prog 10 #[v, .agg #[.bool r.pf.six, .int .u64 (hiN r.pf.n : Int), .int .u64 (loN r.pf.n : Int), .int .i64 r.pf.len, .int .u8 (r.act.k : Int), .int .i64 r.act.i]] w fun e w' => ∃ u, e = .returned (.tuple #[u, .int .i64 (putT l r).2]) ∧ HasRts w' u (putT l r).1 ∧ Below w.heap.size w w' := by
  obtain ⟨o, c, rfl, hc1, hc2⟩ := Lk.HasRow.slice hl
  have cc := fun W (hb : Below w.heap.size w W) => rcheck_any l _ W (hl.keep hb) hf
  have c1 := fun W => one_any r W hr
  have hck : checkT l = if okT l then 0 else 2 := rfl
  rw [hck] at cc
  have hPd : putT l r = if okT l && okR r then (if (othersT l r.pf).length = 256 then (l, 8) else (insT l r, 0)) else ([], 2) := rfl
  obtain ⟨X, hX⟩ : ∃ X, X = w.alloc (.cells #[.bool r.pf.six, .int .u64 (hiN r.pf.n : Int), .int .u64 (loN r.pf.n : Int), .int .i64 r.pf.len, .int .u8 (r.act.k : Int), .int .i64 r.act.i] 32) := ⟨_, rfl⟩
  have hB : Below w.heap.size w X := by rw [hX]; exact below_new (Below.refl _ _) _
  have r0 : RowAt X w.heap.size [.bool r.pf.six, .int .u64 (hiN r.pf.n : Int), .int .u64 (loN r.pf.n : Int), .int .i64 r.pf.len, .int .u8 (r.act.k : Int), .int .i64 r.act.i] 32 := by rw [hX]; exact RowAt.new _ _ _
  have HLR : Hid (∀ W : World, HasRts (W.alloc (.cells #[.bool r.pf.six, .int .u64 (hiN r.pf.n : Int), .int .u64 (loN r.pf.n : Int), .int .i64 r.pf.len, .int .u8 (r.act.k : Int), .int .i64 r.act.i] 32)) (.slice (some ⟨W.heap.size, 0, none⟩) 1 1) [r]) := fun W => lit_rt W r
  have HCL : Hid (∀ x, x ∈ othersT l r.pf → (∀ W, Calls Try.prog 36 #[.agg #[.bool x.pf.six, .int .u64 (hiN x.pf.n : Int), .int .u64 (loN x.pf.n : Int), .int .i64 x.pf.len], .agg #[.bool r.pf.six, .int .u64 (hiN r.pf.n : Int), .int .u64 (loN r.pf.n : Int), .int .i64 r.pf.len]] W fun e w' => e = .returned (.bool ((fun s => decide (ordP s.pf r.pf < 0)) x)) ∧ Below W.heap.size W w') ∧ (∀ W, Calls Try.prog 36 #[.agg #[.bool r.pf.six, .int .u64 (hiN r.pf.n : Int), .int .u64 (loN r.pf.n : Int), .int .i64 r.pf.len], .agg #[.bool x.pf.six, .int .u64 (hiN x.pf.n : Int), .int .u64 (loN x.pf.n : Int), .int .i64 x.pf.len]] W fun e w' => e = .returned (.bool ((fun s => decide (ordP r.pf s.pf < 0)) x)) ∧ Below W.heap.size W w')) := fun x hx => ⟨fun W => less_any x.pf r.pf W (hf x (List.mem_filter.1 hx).1).1 hr.1, fun W => less_any r.pf x.pf W hr.1 (hf x (List.mem_filter.1 hx).1).1⟩
  have HCN : Hid (l.length ≤ 1000 → ∀ W : World, Below w.heap.size w W → ∃ v' w3, (∀ ty, (Builtin.append_ #[22, 22] ty #[.slice (some ⟨W.heap.size, 0, none⟩) 0 0, .slice o l.length c]).run Try.prog (W.alloc (.cells #[] 32)) = .ok v' w3) ∧ HasRts w3 v' l ∧ Below W.heap.size W w3) := fun hle W hb => by
    have hk := (hl.keep hb).keep (below_new (Below.refl _ W) (.cells #[] 32))
    obtain ⟨v', w3, hrun, h1, h2⟩ := append_row info_rt Try.underlying22 rfl (by decide) (empty_own W 32 6) hk (one_routes l) (by omega) (by omega) (by simp)
    rw [Nat.zero_add, List.nil_append] at h1
    exact ⟨v', w3, hrun, hasRow_own h1, ((Below.refl _ W).alloc (Nat.le_refl _) _).grown h2 (by simp) (fun k e => by simp [Value.ownBlock] at e; omega)⟩
  have HW : Hid (l.length ≤ 1000 → ∀ W, Below w.heap.size w W → Calls Try.prog 35 #[.slice o l.length c, .agg #[.bool r.pf.six, .int .u64 (hiN r.pf.n : Int), .int .u64 (loN r.pf.n : Int), .int .i64 r.pf.len]] W fun e w' => ∃ u, e = .returned u ∧ HasRts w' u (othersT l r.pf) ∧ Below W.heap.size W w') := fun hle W hb => without_any l _ r.pf W (hl.keep hb) hle
  have HIN : Hid (insT l r = (othersT l r.pf).filter (fun s => decide (ordP s.pf r.pf < 0)) ++ [r] ++ (othersT l r.pf).filter (fun s => decide (ordP r.pf s.pf < 0))) := ins_others l r
  have HOL : Hid ((othersT l r.pf).length ≤ l.length) := List.length_filter_le _ _
  obtain ⟨P, hP⟩ : ∃ P, P = putT l r := ⟨_, rfl⟩
  rw [← hP] at hPd ⊢
  have HPD : Hid (P = if okT l && okR r then (if (othersT l r.pf).length = 256 then (l, 8) else (insT l r, 0)) else ([], 2)) := hPd
  have hlen256 : okT l = true → l.length ≤ 256 := fun h => ((okT_iff l).1 h).1
  clear hPd hP hck hl hf hr
  generalize othersT l r.pf = O at *
  generalize insT l r = IN at *
  generalize okT l = kt at *
  generalize okR r = kr at *
  generalize hN : l.length = n at *
  generalize r.pf.six = t0 at *
  generalize (hiN r.pf.n : Int) = t1 at *
  generalize (loN r.pf.n : Int) = t2 at *
  generalize r.pf.len = t3 at *
  generalize (r.act.k : Int) = t4 at *
  generalize r.act.i = t5 at *
  clear hN
  cases kt
  · have HV : Hid (P = ([], 2)) := HPD.out
    simp only [Bool.false_eq_true, if_false] at cc
    clear HPD HCL HCN HW HIN
    go_enter Try.func10, Try.ntmps10
    go_upto_region 1 with fail
    rw [← hX]
    clear hX
    go_wp2_with fail
    go_at_call 17; refine (cc _ hB).mono ?_; rintro e w1 ⟨rfl, hb1⟩
    go_wp2_with fail
    go_ret2
    exact ⟨_, by rw [HV.out]; rfl, by rw [HV.out]; exact Lk.hasRow_nil _ 6, below2 hB hb1⟩
  simp only [if_true] at cc
  replace hlen256 := hlen256 (by first | rfl | trivial)
  cases kr
  · have HV : Hid (P = ([], 2)) := HPD.out
    clear HPD HCL HCN HW HIN
    go_enter Try.func10, Try.ntmps10
    go_upto_region 1 with fail
    rw [← hX]
    clear hX
    go_wp2_with fail
    go_at_call 17; refine (cc _ hB).mono ?_; rintro e w1 ⟨rfl, hb1⟩
    obtain ⟨q0, q1, q2, q3, q4, q5, qf⟩ := six_of (RowAt.below r0 hb1)
    go_wp2_with fail
    go_at_call 34; refine (c1 _).mono ?_; rintro e w2 ⟨rfl, hb2⟩
    go_wp2_with fail
    go_ret2
    exact ⟨_, by rw [HV.out]; rfl, by rw [HV.out]; exact Lk.hasRow_nil _ 6, below2 (below2 hB hb1) hb2⟩
  have HPE : Hid (P = if O.length = 256 then (l, 8) else (IN, 0)) := HPD.out
  clear HPD
  have hni : (n : Int) ≤ 256 := by omega
  have cw := HW.out (by omega)
  have cn := HCN.out (by omega)
  clear HW HCN
  go_enter Try.func10, Try.ntmps10
  go_upto_region 1 with fail
  rw [← hX]
  clear hX
  go_wp2_with fail
  go_at_call 17; refine (cc _ hB).mono ?_; rintro e w1 ⟨rfl, hb1⟩
  replace r0 := RowAt.below r0 hb1
  replace hB := below2 hB hb1
  clear hb1 cc
  obtain ⟨q0, q1, q2, q3, q4, q5, qf⟩ := six_of r0
  go_wp2_with fail
  clear q0 q1 q2 q3 q4 q5 qf
  go_at_call 34; refine (c1 _).mono ?_; rintro e w2 ⟨rfl, hb2⟩
  replace r0 := RowAt.below r0 hb2
  replace hB := below2 hB hb2
  clear hb2 c1
  obtain ⟨q0, q1, q2, q3, q4, q5, qf⟩ := six_of r0
  go_wp2_with fail
  clear q0 q1 q2 q3 q4 q5 qf
  go_at_call 35; refine (cw _ hB).mono ?_; rintro e V ⟨u6, rfl, hO6, hb6⟩
  replace r0 := RowAt.below r0 hb6
  have hBV := below2 hB hb6
  clear hb6 cw hB
  obtain ⟨o6, m6, rfl, hm6⟩ := Lk.HasRow.slice hO6
  have HRO : Hid (∀ W, Below V.heap.size V W → HasRts W (.slice o6 O.length m6) O) := fun W hb => hO6.keep hb
  have HO6 : Hid (O.length ≤ 1000) := Nat.le_trans HOL.out (by omega)
  obtain ⟨n6, hn6⟩ : ∃ n6, n6 = O.length := ⟨_, rfl⟩
  have HN6 : Hid (n6 = O.length) := hn6
  have HPF : Hid (P = if n6 = 256 then (l, 8) else (IN, 0)) := by show _ = _; rw [HPE.out, hn6]
  have hn6i : (n6 : Int) ≤ 1000 := by have := HO6.out; omega
  rw [← hn6] at HRO ⊢
  clear hO6 hm6 hn6 HPE HOL
  by_cases h256 : n6 = 256
  · have HV : Hid (P = (l, 8)) := by show _ = _; rw [HPF.out, if_pos h256]
    obtain ⟨v', w4, hrun, hh, hb4⟩ := cn V hBV
    clear HPF HRO HCL HIN HN6 HLR
    subst h256
    go_wp2_with fail
    go_ret2
    exact ⟨_, by rw [HV.out]; rfl, by rw [HV.out]; exact hh, below2 hBV hb4⟩
  · have HV : Hid (P = (IN, 0)) := by show _ = _; rw [HPF.out, if_neg h256]
    have hq : ((n6 : Int) == 256) = false := beq_eq_false_iff_ne.2 (by omega)
    clear HPF cn h256
    have H0 : Hid (Own1 V V (.slice none 0 0) ((O.take 0).filter (fun s => decide (ordP s.pf r.pf < 0)))) := ⟨World.ownsRow_nil _ _ _ _, Below.refl _ _⟩
    go_wp2_with fail
    go_loopw [7, 32] (fun u q wr => ∃ k : Nat, k ≤ n6 ∧ q = .int .i64 k ∧ Hid (Own1 V wr u ((O.take k).filter (fun s => decide (ordP s.pf r.pf < 0))))) (fun _ q _ => n6 - (Go.RowKit.intOf q).toNat)
    case atStart => exact ⟨0, by omega, rfl, H0⟩
    case round =>
      obtain ⟨k, hk, rfl, HI⟩ := hrel
      have hI := HI.out
      by_cases hlt : k < n6
      · have hkz : k < O.length := by rw [← HN6.out]; exact hlt
        obtain ⟨g1, i1, rfl, hg1, ax⟩ := HasRts.cell (HRO.out _ hI.bl) k hkz
        obtain ⟨a0, a1, a2, a3, a4, a5⟩ := six_at ax
        clear ax
        have HA : Hid ((O.take (k + 1)).filter (fun s => decide (ordP s.pf r.pf < 0)) = (O.take k).filter (fun s => decide (ordP s.pf r.pf < 0)) ++ (if (fun s => decide (ordP s.pf r.pf < 0)) O[k] then [O[k]] else [])) := filter_snocR _ O k hkz
        have hle : ((O.take k).filter (fun s => decide (ordP s.pf r.pf < 0))).length ≤ 1000 := Nat.le_trans (filter_leR _ O k) HO6.out
        have cL := HCL.out O[k] (List.getElem_mem hkz)
        obtain ⟨x, hx⟩ : ∃ x : Rt, x = O[k] := ⟨_, rfl⟩
        rw [← hx] at HA cL a0 a1 a2 a3 a4 a5
        clear hx
        have hki : (k : Int) < (n6 : Int) := by omega
        have HLT : Hid (∀ W : World, HasRts (W.alloc (.cells #[.bool x.pf.six, .int .u64 (hiN x.pf.n : Int), .int .u64 (loN x.pf.n : Int), .int .i64 x.pf.len, .int .u8 (x.act.k : Int), .int .i64 x.act.i] 32)) (.slice (some ⟨W.heap.size, 0, none⟩) 1 1) [x]) := fun W => lit_rt W x
        replace HA : Hid (∀ E : Bool, E = (fun s => decide (ordP s.pf r.pf < 0)) x → (O.take (k + 1)).filter (fun s => decide (ordP s.pf r.pf < 0)) = (O.take k).filter (fun s => decide (ordP s.pf r.pf < 0)) ++ (if E then [x] else [])) := fun E e => by rw [e]; exact HA.out
        obtain ⟨E, hE⟩ : ∃ E, E = (fun s => decide (ordP s.pf r.pf < 0)) x := ⟨_, rfl⟩
        replace HA := HA.out E hE
        replace HA : Hid ((O.take (k + 1)).filter (fun s => decide (ordP s.pf r.pf < 0)) = (O.take k).filter (fun s => decide (ordP s.pf r.pf < 0)) ++ (if E then [x] else [])) := HA
        replace cL : ∀ W, Calls Try.prog 36 #[.agg #[.bool x.pf.six, .int .u64 (hiN x.pf.n : Int), .int .u64 (loN x.pf.n : Int), .int .i64 x.pf.len], .agg #[.bool t0, .int .u64 t1, .int .u64 t2, .int .i64 t3]] W fun e w' => e = .returned (.bool E) ∧ Below W.heap.size W w' := fun W => by rw [hE]; exact cL.1 W
        clear hE
        generalize x.pf.six = s0 at *
        generalize (hiN x.pf.n : Int) = s1 at *
        generalize (loN x.pf.n : Int) = s2 at *
        generalize x.pf.len = s3 at *
        generalize (x.act.k : Int) = s4 at *
        generalize x.act.i = s5 at *
        obtain ⟨Y, hY⟩ : ∃ Y, Y = wr.alloc (.cells #[.bool s0, .int .u64 s1, .int .u64 s2, .int .i64 s3, .int .u8 s4, .int .i64 s5] 32) := ⟨_, rfl⟩
        have hbY : Below wr.heap.size wr Y := by rw [hY]; exact below_new (Below.refl _ _) _
        have rY : RowAt Y wr.heap.size [.bool s0, .int .u64 s1, .int .u64 s2, .int .i64 s3, .int .u8 s4, .int .i64 s5] 32 := by rw [hY]; exact RowAt.new _ _ _
        go_upto_region 10 with fail
        rw [← hY]
        clear hY a0 a1 a2 a3 a4 a5 hg1
        replace hI := hI.below hbY
        obtain ⟨gy, hgy⟩ : ∃ gy, gy = wr.heap.size := ⟨_, rfl⟩
        rw [← hgy] at rY ⊢
        clear hgy hbY
        obtain ⟨y0, y1, y2, y3, y4, y5, yf⟩ := six_of rY
        obtain ⟨q0, q1, q2, q3, q4, q5, qf⟩ := six_of (RowAt.below r0 hI.bl)
        go_wp2_with fail
        clear y0 y1 y2 y3 y4 y5 yf q0 q1 q2 q3 q4 q5 qf
        go_at_call 36; refine (cL _).mono ?_; rintro e w4 ⟨rfl, hb4⟩
        replace hI := hI.below hb4
        replace rY := RowAt.below rY hb4
        clear hb4 cL
        obtain ⟨y0, y1, y2, y3, y4, y5, yf⟩ := six_of rY
        cases E
        · have HO : Hid (Own1 V w4 u7 ((O.take (k + 1)).filter (fun s => decide (ordP s.pf r.pf < 0)))) := by
            show Own1 _ _ _ _
            rw [HA.out]
            simpa using hI
          clear hI HA HI rY HLT
          go_wp2_with fail
          go_roundw
          case rel => exact ⟨k + 1, by omega, by go_num, HO⟩
          case measure => simp [Go.RowKit.intOf]; omega
        · obtain ⟨v', w5, hrun, hO⟩ := (hI.below (below_new (Below.refl _ w4) (.cells #[.bool s0, .int .u64 s1, .int .u64 s2, .int .i64 s3, .int .u8 s4, .int .i64 s5] 32))).app (HLT.out w4) (by simp only [List.length_cons, List.length_nil]; omega)
          have HO : Hid (Own1 V w5 v' ((O.take (k + 1)).filter (fun s => decide (ordP s.pf r.pf < 0)))) := by
            show Own1 _ _ _ _
            rw [HA.out]
            simpa [List.append_assoc] using hO
          clear hO hI HA HI rY HLT
          go_wp2_with fail
          go_roundw
          case rel => exact ⟨k + 1, by omega, by go_num, HO⟩
          case measure => simp [Go.RowKit.intOf]; omega
      · have hkf : decide ((k : Int) < (n6 : Int)) = false := decide_eq_false (by omega)
        rw [List.take_of_length_le (by rw [← HN6.out]; omega)] at hI
        have hAl : (O.filter (fun s => decide (ordP s.pf r.pf < 0))).length ≤ 1000 := Nat.le_trans (List.length_filter_le _ _) HO6.out
        obtain ⟨v', w5, hrun, hO⟩ := (hI.below (below_new (Below.refl _ wr) (.cells #[.bool t0, .int .u64 t1, .int .u64 t2, .int .i64 t3, .int .u8 t4, .int .i64 t5] 32))).app (HLR.out wr) (by simp only [List.length_cons, List.length_nil]; omega)
        obtain ⟨q0, q1, q2, q3, q4, q5, qf⟩ := six_of (RowAt.below r0 hI.bl)
        have H0 : Hid (Own1 V w5 v' (O.filter (fun s => decide (ordP s.pf r.pf < 0)) ++ [r] ++ (O.take 0).filter (fun s => decide (ordP r.pf s.pf < 0)))) := by
          show Own1 _ _ _ _
          simpa using hO
        clear HI hI hO
        go_wp2_with fail
        clear q0 q1 q2 q3 q4 q5 qf hrun
        go_loopw [7, 52] (fun u q wr => ∃ k : Nat, k ≤ n6 ∧ q = .int .i64 k ∧ Hid (Own1 V wr u (O.filter (fun s => decide (ordP s.pf r.pf < 0)) ++ [r] ++ (O.take k).filter (fun s => decide (ordP r.pf s.pf < 0))))) (fun _ q _ => n6 - (Go.RowKit.intOf q).toNat)
        case atStart => exact ⟨0, by omega, rfl, H0⟩
        case round =>
          obtain ⟨k, hk, rfl, HI⟩ := hrel
          have hI := HI.out
          by_cases hlt : k < n6
          · have hkz : k < O.length := by rw [← HN6.out]; exact hlt
            obtain ⟨g1, i1, rfl, hg1, ax⟩ := HasRts.cell (HRO.out _ hI.bl) k hkz
            obtain ⟨a0, a1, a2, a3, a4, a5⟩ := six_at ax
            clear ax
            have HA : Hid ((O.take (k + 1)).filter (fun s => decide (ordP r.pf s.pf < 0)) = (O.take k).filter (fun s => decide (ordP r.pf s.pf < 0)) ++ (if (fun s => decide (ordP r.pf s.pf < 0)) O[k] then [O[k]] else [])) := filter_snocR _ O k hkz
            have hle : ((O.take k).filter (fun s => decide (ordP r.pf s.pf < 0))).length ≤ 1000 := Nat.le_trans (filter_leR _ O k) HO6.out
            have cL := HCL.out O[k] (List.getElem_mem hkz)
            obtain ⟨x, hx⟩ : ∃ x : Rt, x = O[k] := ⟨_, rfl⟩
            rw [← hx] at HA cL a0 a1 a2 a3 a4 a5
            clear hx
            have hki : (k : Int) < (n6 : Int) := by omega
            have HLT : Hid (∀ W : World, HasRts (W.alloc (.cells #[.bool x.pf.six, .int .u64 (hiN x.pf.n : Int), .int .u64 (loN x.pf.n : Int), .int .i64 x.pf.len, .int .u8 (x.act.k : Int), .int .i64 x.act.i] 32)) (.slice (some ⟨W.heap.size, 0, none⟩) 1 1) [x]) := fun W => lit_rt W x
            replace HA : Hid (∀ E : Bool, E = (fun s => decide (ordP r.pf s.pf < 0)) x → (O.take (k + 1)).filter (fun s => decide (ordP r.pf s.pf < 0)) = (O.take k).filter (fun s => decide (ordP r.pf s.pf < 0)) ++ (if E then [x] else [])) := fun E e => by rw [e]; exact HA.out
            obtain ⟨E, hE⟩ : ∃ E, E = (fun s => decide (ordP r.pf s.pf < 0)) x := ⟨_, rfl⟩
            replace HA := HA.out E hE
            replace HA : Hid ((O.take (k + 1)).filter (fun s => decide (ordP r.pf s.pf < 0)) = (O.take k).filter (fun s => decide (ordP r.pf s.pf < 0)) ++ (if E then [x] else [])) := HA
            replace cL : ∀ W, Calls Try.prog 36 #[.agg #[.bool t0, .int .u64 t1, .int .u64 t2, .int .i64 t3], .agg #[.bool x.pf.six, .int .u64 (hiN x.pf.n : Int), .int .u64 (loN x.pf.n : Int), .int .i64 x.pf.len]] W fun e w' => e = .returned (.bool E) ∧ Below W.heap.size W w' := fun W => by rw [hE]; exact cL.2 W
            clear hE
            generalize x.pf.six = s0 at *
            generalize (hiN x.pf.n : Int) = s1 at *
            generalize (loN x.pf.n : Int) = s2 at *
            generalize x.pf.len = s3 at *
            generalize (x.act.k : Int) = s4 at *
            generalize x.act.i = s5 at *
            obtain ⟨Y, hY⟩ : ∃ Y, Y = wr.alloc (.cells #[.bool s0, .int .u64 s1, .int .u64 s2, .int .i64 s3, .int .u8 s4, .int .i64 s5] 32) := ⟨_, rfl⟩
            have hbY : Below wr.heap.size wr Y := by rw [hY]; exact below_new (Below.refl _ _) _
            have rY : RowAt Y wr.heap.size [.bool s0, .int .u64 s1, .int .u64 s2, .int .i64 s3, .int .u8 s4, .int .i64 s5] 32 := by rw [hY]; exact RowAt.new _ _ _
            go_upto_region 17 with fail
            rw [← hY]
            clear hY a0 a1 a2 a3 a4 a5 hg1
            replace hI := hI.below hbY
            obtain ⟨gy, hgy⟩ : ∃ gy, gy = wr.heap.size := ⟨_, rfl⟩
            rw [← hgy] at rY ⊢
            clear hgy hbY
            obtain ⟨y0, y1, y2, y3, y4, y5, yf⟩ := six_of rY
            obtain ⟨q0, q1, q2, q3, q4, q5, qf⟩ := six_of (RowAt.below r0 hI.bl)
            go_wp2_with fail
            clear y0 y1 y2 y3 y4 y5 yf q0 q1 q2 q3 q4 q5 qf
            go_at_call 36; refine (cL _).mono ?_; rintro e w4 ⟨rfl, hb4⟩
            replace hI := hI.below hb4
            replace rY := RowAt.below rY hb4
            clear hb4 cL
            obtain ⟨y0, y1, y2, y3, y4, y5, yf⟩ := six_of rY
            cases E
            · have HO : Hid (Own1 V w4 u7 (O.filter (fun s => decide (ordP s.pf r.pf < 0)) ++ [r] ++ (O.take (k + 1)).filter (fun s => decide (ordP r.pf s.pf < 0)))) := by
                show Own1 _ _ _ _
                rw [HA.out]
                simpa using hI
              clear hI HA HI rY HLT
              go_wp2_with fail
              go_roundw
              case rel => exact ⟨k + 1, by omega, by go_num, HO⟩
              case measure => simp [Go.RowKit.intOf]; omega
            · obtain ⟨v', w5, hrun, hO⟩ := (hI.below (below_new (Below.refl _ w4) (.cells #[.bool s0, .int .u64 s1, .int .u64 s2, .int .i64 s3, .int .u8 s4, .int .i64 s5] 32))).app (HLT.out w4) (by simp only [List.length_append, List.length_cons, List.length_nil]; omega)
              have HO : Hid (Own1 V w5 v' (O.filter (fun s => decide (ordP s.pf r.pf < 0)) ++ [r] ++ (O.take (k + 1)).filter (fun s => decide (ordP r.pf s.pf < 0)))) := by
                show Own1 _ _ _ _
                rw [HA.out]
                simpa [List.append_assoc] using hO
              clear hO hI HA HI rY HLT
              go_wp2_with fail
              go_roundw
              case rel => exact ⟨k + 1, by omega, by go_num, HO⟩
              case measure => simp [Go.RowKit.intOf]; omega
          · have hkf : decide ((k : Int) < (n6 : Int)) = false := decide_eq_false (by omega)
            rw [List.take_of_length_le (by rw [← HN6.out]; omega)] at hI
            have hh : HasRts wr u7 _ := hasRow_own hI.ou
            have hbl := below2 hBV hI.bl
            clear HI hI
            go_wp2_with fail
            go_ret2
            exact ⟨_, by rw [HV.out]; rfl, by rw [HV.out, HIN.out]; exact hh, hbl⟩
end Go.Proofs.Ytjgieaijdkmadaa.Tr
namespace Go.Proofs.Ytjgieaijdkmadaa.Tr
open Go.RowKit Go.Shelf
open Go.Proofs.Ytjgieaijdkmadaa.Msg (Ac okA FitA eqP eqP_iff eqP_not pf_neq pf_eqb)
open Go.Proofs.Ytjgieaijdkmadaa.Lk (HasRow hasRow_own)
open Go.Proofs.Ytjgieaijdkmadaa.Addr (Pf okP hiN loN pfV RowAt below2 below_drew below_new bset RowAt.lt RowAt.cell RowAt.frozen RowAt.below RowAt.drew RowAt.new RowAt.alloc cells2 cells4)
def findO (l : List Rt) (p : Pf) : Rt × Int := match findT l p with | some s => (s, 0) | none => (zeroR, 3)
def findE (l : List Rt) (p : Pf) : Rt × Int := if okT l && okP p then findO l p else (zeroR, 2)
theorem findT_at {l : List Rt} {p : Pf} {k : Nat} (hk : k < l.length) (h : l[k].pf = p) (h2 : ∀ j (hj : j < l.length), j < k → l[j].pf ≠ p) : findT l p = some l[k] := by
  unfold findT
  rw [List.find?_eq_some_iff_getElem]
  refine ⟨by rw [decide_eq_true_eq, ordP_eq]; exact h, k, hk, rfl, fun j hj => ?_⟩
  have := h2 j (by omega) hj
  simp [ordP_eq]; exact this
theorem findT_no {l : List Rt} {p : Pf} (h : ∀ x ∈ l, x.pf ≠ p) : findT l p = none := by
  unfold findT
  rw [List.find?_eq_none]
  intro x hx
  simp [ordP_eq]; exact h x hx
theorem del_find (l : List Rt) (p : Pf) : delT l p = if (findE l p).2 = 2 then ([], 2) else (othersT l p, (findE l p).2) := by
  unfold delT findE findO
  cases hk : okT l && okP p with
  | false => rfl
  | true =>
    simp only [if_true]
    cases hf : findT l p with
    | none =>
      have hall : othersT l p = l := filt_all (fun x hx => by
        have := List.find?_eq_none.1 hf x hx
        simpa using this)
      rw [hall, if_pos rfl]
      rfl
    | some s =>
      have hm := List.mem_of_find?_eq_some hf
      have hs := List.find?_some hf
      have hne : ¬ (othersT l p).length = l.length := fun h => by
        have he : othersT l p = l := List.filter_sublist.eq_of_length h
        have hm2 : s ∈ othersT l p := by rw [he]; exact hm
        have := (List.mem_filter.1 hm2).2
        rw [hs] at this
        cases this
      rw [if_neg hne]
      rfl
set_option maxHeartbeats 8000000 in
set_option maxRecDepth 20000 in
theorem rfind_any (l : List Rt) (v : Value) (p : Pf) (w : World) (hl : HasRts w v l) (hf : ∀ x ∈ l, FitR x) (hp : FitP p) :
    Calls Try.prog 14 #[v, .agg #[.bool p.six, .int .u64 (hiN p.n : Int), .int .u64 (loN p.n : Int), .int .i64 p.len]] w fun e w' => e = .returned (.tuple #[rtA (findE l p).1, .int .i64 (findE l p).2]) ∧ Below w.heap.size w w' := by
  obtain ⟨o, c, rfl, hc1, hc2⟩ := Lk.HasRow.slice hl
  have cc := fun W (hb : Below w.heap.size w W) => rcheck_any l _ W (hl.keep hb) hf
  have c1 : ∀ W, Calls Try.prog 38 #[.agg #[.bool p.six, .int .u64 (hiN p.n : Int), .int .u64 (loN p.n : Int), .int .i64 p.len]] W fun e w' => e = .returned (.int .i64 (if okP p then 0 else 2)) ∧ Below W.heap.size W w' := fun W => Addr.rcheck_any p W hp.1 hp.2
  have hck : checkT l = if okT l then 0 else 2 := rfl
  rw [hck] at cc
  have HF : Hid (findE l p = if okT l && okP p then findO l p else (zeroR, 2)) := rfl
  have HL : Hid (∀ W, Below w.heap.size w W → HasRts W (.slice o l.length c) l) := fun W hb => hl.keep hb
  have HEQ : Hid (∀ (s : Rt) (W : World), (binOp .eql 27 (.agg #[.bool s.pf.six, .int .u64 (hiN s.pf.n : Int), .int .u64 (loN s.pf.n : Int), .int .i64 s.pf.len]) (.agg #[.bool p.six, .int .u64 (hiN p.n : Int), .int .u64 (loN p.n : Int), .int .i64 p.len])).run Try.prog W = .ok (.bool (eqP s.pf p)) W) := fun s W => pf_eqb s.pf p W
  have HZ : Hid (rtA zeroR = .agg #[.bool false, .int .u64 0, .int .u64 0, .int .i64 0, .int .u8 0, .int .i64 0]) := by show _ = _; unfold rtA zeroR; simp only [Msg.hi0, Msg.lo0]; rfl
  obtain ⟨X, hX⟩ : ∃ X, X = (w.alloc (.cells #[.bool p.six, .int .u64 (hiN p.n : Int), .int .u64 (loN p.n : Int), .int .i64 p.len] 27)).alloc (.cells #[.bool false, .int .u64 0, .int .u64 0, .int .i64 0, .int .u8 0, .int .i64 0] 32) := ⟨_, rfl⟩
  have hB : Below w.heap.size w X := by rw [hX]; exact below_new (below_new (Below.refl _ _) _) _
  have r0 : RowAt X w.heap.size [.bool p.six, .int .u64 (hiN p.n : Int), .int .u64 (loN p.n : Int), .int .i64 p.len] 27 := by rw [hX]; exact (RowAt.new _ _ _).alloc _
  have r1 : RowAt X (w.heap.size + 1) [.bool false, .int .u64 0, .int .u64 0, .int .i64 0, .int .u8 0, .int .i64 0] 32 := by rw [hX, ← World.size_alloc w (.cells #[.bool p.six, .int .u64 (hiN p.n : Int), .int .u64 (loN p.n : Int), .int .i64 p.len] 27)]; exact RowAt.new _ _ _
  have hlen : okT l = true → l.length ≤ 256 := fun h => ((okT_iff l).1 h).1
  generalize findE l p = F at HF ⊢
  generalize okT l = kt at *
  generalize okP p = kp at *
  obtain ⟨n, hn⟩ : ∃ n, n = l.length := ⟨_, rfl⟩
  have HN : Hid (n = l.length) := hn
  rw [← hn] at HL hlen cc ⊢
  generalize p.six = t0 at *
  generalize (hiN p.n : Int) = t1 at *
  generalize (loN p.n : Int) = t2 at *
  generalize p.len = t3 at *
  clear hl hf hp hn hck hc1
  cases kt
  · have HV : Hid (F = (zeroR, 2)) := HF.out
    simp only [Bool.false_eq_true, if_false] at cc
    clear HF HL HEQ
    go_enter Try.func14, Try.ntmps14
    go_upto_region 1 with fail
    rw [← hX]
    clear hX
    go_wp2_with fail
    go_at_call 17; refine (cc _ hB).mono ?_; rintro e w1 ⟨rfl, hb1⟩
    replace hB := below2 hB hb1
    replace r0 := RowAt.below r0 hb1
    replace r1 := RowAt.below r1 hb1
    clear hb1 cc
    obtain ⟨z0, z1, z2, z3, z4, z5, zf⟩ := six_of r1
    go_wp2_with fail
    (try simp only [Exit.inBlock, Exit.then])
    refine bodyPost_ret (v := .tuple #[.agg #[.bool false, .int .u64 0, .int .u64 0, .int .i64 0, .int .u8 0, .int .i64 0], .int .i64 2]) ?_ rfl ⟨by rw [HV.out, HZ.out], ?_⟩
    · rw [results_cell_tmp rfl]
      go_simp
    · exact set6_bl hB (by omega) _ _ _ _ _ _
  simp only [if_true] at cc
  replace hlen := hlen (by first | rfl | trivial)
  cases kp
  · have HV : Hid (F = (zeroR, 2)) := HF.out
    clear HF HL HEQ
    go_enter Try.func14, Try.ntmps14
    go_upto_region 1 with fail
    rw [← hX]
    clear hX
    go_wp2_with fail
    go_at_call 17; refine (cc _ hB).mono ?_; rintro e w1 ⟨rfl, hb1⟩
    replace hB := below2 hB hb1
    replace r0 := RowAt.below r0 hb1
    replace r1 := RowAt.below r1 hb1
    clear hb1 cc
    obtain ⟨q0, q1, q2, q3, qf⟩ := cells4 r0
    go_wp2_with fail
    clear q0 q1 q2 q3 qf
    go_at_call 38; refine (c1 _).mono ?_; rintro e w2 ⟨rfl, hb2⟩
    replace hB := below2 hB hb2
    replace r0 := RowAt.below r0 hb2
    replace r1 := RowAt.below r1 hb2
    clear hb2 c1
    obtain ⟨z0, z1, z2, z3, z4, z5, zf⟩ := six_of r1
    go_wp2_with fail
    (try simp only [Exit.inBlock, Exit.then])
    refine bodyPost_ret (v := .tuple #[.agg #[.bool false, .int .u64 0, .int .u64 0, .int .i64 0, .int .u8 0, .int .i64 0], .int .i64 2]) ?_ rfl ⟨by rw [HV.out, HZ.out], ?_⟩
    · rw [results_cell_tmp rfl]
      go_simp
    · exact set6_bl hB (by omega) _ _ _ _ _ _
  have HG : Hid (F = findO l p) := HF.out
  have hni : (n : Int) ≤ 256 := by omega
  clear HF
  go_enter Try.func14, Try.ntmps14
  go_upto_region 1 with fail
  rw [← hX]
  clear hX
  go_wp2_with fail
  go_at_call 17; refine (cc _ hB).mono ?_; rintro e w1 ⟨rfl, hb1⟩
  replace hB := below2 hB hb1
  replace r0 := RowAt.below r0 hb1
  replace r1 := RowAt.below r1 hb1
  clear hb1 cc
  obtain ⟨q0, q1, q2, q3, qf⟩ := cells4 r0
  go_wp2_with fail
  clear q0 q1 q2 q3 qf
  go_at_call 38; refine (c1 _).mono ?_; rintro e w2 ⟨rfl, hb2⟩
  replace hB := below2 hB hb2
  replace r0 := RowAt.below r0 hb2
  replace r1 := RowAt.below r1 hb2
  clear hb2 c1
  obtain ⟨V, hV⟩ : ∃ V, V = w2 := ⟨_, rfl⟩
  subst hV
  go_wp2_with fail
  go_loopw [19] (fun i wr => ∃ k : Nat, k ≤ n ∧ i = .int .i64 k ∧ Hid (Below V.heap.size V wr ∧ ∀ j (h : j < l.length), j < k → l[j].pf ≠ p)) (fun i _ => n - (Go.RowKit.intOf i).toNat)
  case atStart => exact ⟨0, by omega, rfl, Below.refl _ _, fun j h h' => by omega⟩
  case round =>
    obtain ⟨k, hk, rfl, HI⟩ := hrel
    have hbl := HI.out.1
    by_cases hlt : k < n
    · have hkz : k < l.length := by rw [← HN.out]; exact hlt
      obtain ⟨g1, i1, rfl, hgl, ax⟩ := HasRts.cell (HL.out _ (below2 hB hbl)) k hkz
      obtain ⟨a0, a1, a2, a3, a4, a5⟩ := six_at ax
      clear ax
      have hq := HEQ.out l[k]
      obtain ⟨q, hqd⟩ : ∃ q, q = eqP l[k].pf p := ⟨_, rfl⟩
      rw [← hqd] at hq
      have HK : Hid (q = eqP l[k].pf p) := hqd
      have HVV : Hid (rtA l[k] = .agg #[.bool l[k].pf.six, .int .u64 (hiN l[k].pf.n : Int), .int .u64 (loN l[k].pf.n : Int), .int .i64 l[k].pf.len, .int .u8 (l[k].act.k : Int), .int .i64 l[k].act.i]) := rfl
      clear hqd
      generalize l[k].pf.six = s0 at a0 hq HVV
      generalize (hiN l[k].pf.n : Int) = s1 at a1 hq HVV
      generalize (loN l[k].pf.n : Int) = s2 at a2 hq HVV
      generalize l[k].pf.len = s3 at a3 hq HVV
      generalize (l[k].act.k : Int) = s4 at a4 HVV
      generalize l[k].act.i = s5 at a5 HVV
      have hki : (k : Int) < (n : Int) := by omega
      obtain ⟨Y, hY⟩ : ∃ Y, Y = wr.alloc (.cells #[.bool s0, .int .u64 s1, .int .u64 s2, .int .i64 s3, .int .u8 s4, .int .i64 s5] 32) := ⟨_, rfl⟩
      have hbY : Below wr.heap.size wr Y := by rw [hY]; exact below_new (Below.refl _ _) _
      have rY : RowAt Y wr.heap.size [.bool s0, .int .u64 s1, .int .u64 s2, .int .i64 s3, .int .u8 s4, .int .i64 s5] 32 := by rw [hY]; exact RowAt.new _ _ _
      go_upto_region 6 with fail
      rw [← hY]
      clear hY a0 a1 a2 a3 a4 a5 hgl
      have hbn : Below V.heap.size V Y := below2 hbl hbY
      obtain ⟨y0, y1, y2, y3, y4, y5, yf⟩ := six_of rY
      obtain ⟨q0, q1, q2, q3, qf⟩ := cells4 (RowAt.below r0 hbn)
      obtain ⟨z0, z1, z2, z3, z4, z5, zf⟩ := six_of (RowAt.below r1 hbn)
      cases q
      · have hne : l[k].pf ≠ p := (eqP_not _ _).1 HK.out.symm
        go_wp2_with fail
        go_roundw
        case rel => exact ⟨k + 1, by omega, by go_num, hbn, fun j h h' => by
          rcases Nat.lt_or_ge j k with h9 | h9
          · exact HI.out.2 j h h9
          · have : j = k := by omega
            subst this; exact hne⟩
        case measure => simp [Go.RowKit.intOf]; omega
      · have HV : Hid (F = (l[k], 0)) := by
          show _ = _
          rw [HG.out]
          unfold findO
          rw [findT_at hkz ((eqP_iff _ _).1 HK.out.symm) HI.out.2]
        clear HG HI HK
        go_wp2_with fail
        (try simp only [Exit.inBlock, Exit.then])
        refine bodyPost_ret (v := .tuple #[.agg #[.bool s0, .int .u64 s1, .int .u64 s2, .int .i64 s3, .int .u8 s4, .int .i64 s5], .int .i64 0]) ?_ rfl ⟨by rw [HV.out]; show _ = Ending.returned (.tuple #[rtA l[k], .int .i64 0]); rw [HVV.out], ?_⟩
        · rw [results_cell_tmp rfl]
          go_simp
        · exact set6_bl (below2 hB hbn) (by omega) _ _ _ _ _ _
    · have HV : Hid (F = (zeroR, 3)) := by
        show _ = _
        rw [HG.out]
        unfold findO
        rw [findT_no (fun x hx => by
          obtain ⟨j, hj, rfl⟩ := List.getElem_of_mem hx
          exact HI.out.2 j hj (by have := HN.out; omega))]
      have hkf : decide ((k : Int) < (n : Int)) = false := decide_eq_false (by omega)
      clear HG HI
      obtain ⟨z0, z1, z2, z3, z4, z5, zf⟩ := six_of (RowAt.below r1 hbl)
      go_wp2_with fail
      (try simp only [Exit.inBlock, Exit.then])
      refine bodyPost_ret (v := .tuple #[.agg #[.bool false, .int .u64 0, .int .u64 0, .int .i64 0, .int .u8 0, .int .i64 0], .int .i64 3]) ?_ rfl ⟨by rw [HV.out, HZ.out], ?_⟩
      · rw [results_cell_tmp rfl]
        go_simp
      · exact set6_bl (below2 hB hbl) (by omega) _ _ _ _ _ _
set_option maxHeartbeats 4000000 in
set_option maxRecDepth 20000 in
theorem rdel_any (l : List Rt) (v : Value) (p : Pf) (w : World) (hl : HasRts w v l) (hf : ∀ x ∈ l, FitR x) (hp : FitP p) :
    Calls Try.prog 12 #[v, .agg #[.bool p.six, .int .u64 (hiN p.n : Int), .int .u64 (loN p.n : Int), .int .i64 p.len]] w fun e w' => ∃ u, e = .returned (.tuple #[u, .int .i64 (delT l p).2]) ∧ HasRts w' u (delT l p).1 ∧ Below w.heap.size w w' := by
  obtain ⟨o, c, rfl, hc1, hc2⟩ := Lk.HasRow.slice hl
  have cf := fun W (hb : Below w.heap.size w W) => rfind_any l _ p W (hl.keep hb) hf hp
  have cw := fun (hle : l.length ≤ 1000) W (hb : Below w.heap.size w W) => without_any l _ p W (hl.keep hb) hle
  have HD : Hid (delT l p = if (findE l p).2 = 2 then ([], 2) else (othersT l p, (findE l p).2)) := del_find l p
  have hle : ¬ (findE l p).2 = 2 → l.length ≤ 1000 := fun h => by
    unfold findE at h
    split at h
    · rename_i h1
      rw [Bool.and_eq_true] at h1
      have := ((okT_iff l).1 h1.1).1
      omega
    · exact absurd rfl h
  unfold rtA at cf
  generalize delT l p = D at HD ⊢
  generalize (findE l p).2 = y at *
  generalize (findE l p).1 = f at *
  generalize othersT l p = O at *
  generalize f.pf.six = f0 at *
  generalize (hiN f.pf.n : Int) = f1 at *
  generalize (loN f.pf.n : Int) = f2 at *
  generalize f.pf.len = f3 at *
  generalize (f.act.k : Int) = f4 at *
  generalize f.act.i = f5 at *
  generalize l.length = n at *
  generalize p.six = t0 at *
  generalize (hiN p.n : Int) = t1 at *
  generalize (loN p.n : Int) = t2 at *
  generalize p.len = t3 at *
  clear hl hf hp
  obtain ⟨X, hX⟩ : ∃ X, X = w.alloc (.cells #[.bool t0, .int .u64 t1, .int .u64 t2, .int .i64 t3] 27) := ⟨_, rfl⟩
  have hB : Below w.heap.size w X := by rw [hX]; exact below_new (Below.refl _ _) _
  have r0 : RowAt X w.heap.size [.bool t0, .int .u64 t1, .int .u64 t2, .int .i64 t3] 27 := by rw [hX]; exact RowAt.new _ _ _
  go_enter Try.func12, Try.ntmps12
  go_upto_region 1 with fail
  rw [← hX]
  clear hX
  obtain ⟨q0, q1, q2, q3, qf⟩ := cells4 r0
  go_wp2_with fail
  clear q0 q1 q2 q3 qf
  go_at_call 14; refine (cf _ hB).mono ?_; rintro e w1 ⟨rfl, hb1⟩
  replace hB := below2 hB hb1
  replace r0 := RowAt.below r0 hb1
  clear hb1 cf
  obtain ⟨Y, hY⟩ : ∃ Y, Y = w1.alloc (.cells #[.bool f0, .int .u64 f1, .int .u64 f2, .int .i64 f3, .int .u8 f4, .int .i64 f5] 32) := ⟨_, rfl⟩
  have hbY : Below w1.heap.size w1 Y := by rw [hY]; exact below_new (Below.refl _ _) _
  go_upto_region 2 with fail
  rw [← hY]
  clear hY
  replace hB := below2 hB hbY
  replace r0 := RowAt.below r0 hbY
  clear hbY
  by_cases h2 : y = 2
  · have HV : Hid (D = ([], 2)) := by show _ = _; rw [HD.out, if_pos h2]
    clear HD hle cw
    subst h2
    go_wp2_with fail
    go_ret2
    exact ⟨_, by rw [HV.out]; rfl, by rw [HV.out]; exact Lk.hasRow_nil _ 6, hB⟩
  · have HV : Hid (D = (O, y)) := by show _ = _; rw [HD.out, if_neg h2]
    have hq : (y == 2) = false := beq_eq_false_iff_ne.2 h2
    have cw2 := cw (hle h2)
    clear HD hle cw h2
    obtain ⟨q0, q1, q2, q3, qf⟩ := cells4 r0
    go_wp2_with fail
    go_at_call 35; refine (cw2 _ hB).mono ?_; rintro e w2 ⟨u, rfl, hh, hb2⟩
    go_wp2_with fail
    go_ret2
    exact ⟨_, by rw [HV.out]; rfl, by rw [HV.out]; exact hh, below2 hB hb2⟩
end Go.Proofs.Ytjgieaijdkmadaa.Tr
namespace Go.Proofs.Ytjgieaijdkmadaa.Tr
open Go.RowKit
open Go.Proofs.Ytjgieaijdkmadaa.Lk (HasRow)
open Go.Proofs.Ytjgieaijdkmadaa.Addr (Pf okP checkP hiN loN pfV RowAt below2 below_drew below_new bset RowAt.lt RowAt.cell RowAt.frozen RowAt.below RowAt.drew RowAt.new RowAt.alloc cells4)
attribute [-go_sem] Builtin.append_
/-- the row of two parts -/
theorem two_rows {W : World} {la lc : List Rt} {oa oc : Option Addr} {na nc ca cc : Nat} (ea : na = la.length) (ec : nc = lc.length) (ha : HasRts W (.slice oa na ca) la) (hc : HasRts W (.slice oc nc cc) lc) (h1 : na ≤ 1000) (h2 : nc ≤ 1000) :
    Calls Try.prog 32 #[.slice (some ⟨W.heap.size, 0, none⟩) 2 2] (W.alloc (.cells #[.slice oa na ca, .slice oc nc cc] 22)) fun e w' => ∃ v, e = .returned v ∧ HasRts w' v (la ++ lc) ∧ Below W.heap.size W w' := by
  obtain ⟨Z, hZ⟩ : ∃ Z, Z = W.alloc (.cells #[.slice oa na ca, .slice oc nc cc] 22) := ⟨_, rfl⟩
  have hbZ : Below W.heap.size W Z := by rw [hZ]; exact below_new (Below.refl _ _) _
  have rZ : RowAt Z W.heap.size [.slice oa na ca, .slice oc nc cc] 22 := by rw [hZ]; exact RowAt.new _ _ _
  rw [← hZ]
  clear hZ
  refine (concat2_any W.heap.size la lc oa oc na nc ca cc Z rZ.lt (rZ.cell 0) (rZ.cell 1) ea ec (ha.keep hbZ) (hc.keep hbZ) h1 h2).mono ?_
  rintro e w' ⟨v, rfl, ho, hb⟩
  exact ⟨v, rfl, hasRow_own ho, below2 hbZ hb⟩
set_option maxHeartbeats 8000000 in
set_option maxRecDepth 20000 in
theorem del_any (l : List Rt) (v : Value) (p : Pf) (w : World) (hl : HasRts w v l) (hf : ∀ x ∈ l, FitR x) (hp : FitP p) :
    Calls Try.prog 11 #[v, .agg #[.bool p.six, .int .u64 (hiN p.n : Int), .int .u64 (loN p.n : Int), .int .i64 p.len]] w fun e w' => ∃ u, e = .returned (.tuple #[u, .int .i64 (delT l p).2]) ∧ HasRts w' u (delT l p).1 ∧ Below w.heap.size w w' := by
  obtain ⟨o, c, rfl, hc1, hc2⟩ := Lk.HasRow.slice hl
  have cc := fun W (hb : Below w.heap.size w W) => check_any l _ W (hl.keep hb) hf
  have c1 : ∀ W, Calls Try.prog 37 #[.agg #[.bool p.six, .int .u64 (hiN p.n : Int), .int .u64 (loN p.n : Int), .int .i64 p.len]] W fun e w' => e = .returned (.int .i64 (if okP p then 0 else 2)) ∧ Below W.heap.size W w' := fun W => Addr.check_any p W hp.1 hp.2
  have hck : checkT l = if okT l then 0 else 2 := rfl
  rw [hck] at cc
  have hPd : delT l p = if okT l && okP p then (othersT l p, if (othersT l p).length = l.length then 3 else 0) else ([], 2) := rfl
  obtain ⟨X, hX⟩ : ∃ X, X = w.alloc (.cells #[.bool p.six, .int .u64 (hiN p.n : Int), .int .u64 (loN p.n : Int), .int .i64 p.len] 27) := ⟨_, rfl⟩
  have hB : Below w.heap.size w X := by rw [hX]; exact below_new (Below.refl _ _) _
  have r0 : RowAt X w.heap.size [.bool p.six, .int .u64 (hiN p.n : Int), .int .u64 (loN p.n : Int), .int .i64 p.len] 27 := by rw [hX]; exact RowAt.new _ _ _
  cases hok : okT l
  · rw [hok] at cc hPd
    simp only [Bool.false_eq_true, if_false, Bool.false_and] at cc hPd
    rw [hPd]
    clear hPd
    go_enter Try.func11, Try.ntmps11
    go_upto_region 1 with fail
    rw [← hX]
    clear hX
    go_wp2_with fail
    go_at_call 16; refine (cc _ hB).mono ?_; rintro e w1 ⟨rfl, hb1⟩
    go_wp2_with fail
    go_ret2
    exact ⟨_, rfl, Lk.hasRow_nil _ 6, below2 hB hb1⟩
  rw [hok] at cc hPd
  simp only [if_true, Bool.true_and] at cc hPd
  cases hox : okP p
  · rw [hox] at c1 hPd
    simp only [Bool.false_eq_true, if_false] at c1 hPd
    rw [hPd]
    clear hPd
    go_enter Try.func11, Try.ntmps11
    go_upto_region 1 with fail
    rw [← hX]
    clear hX
    go_wp2_with fail
    go_at_call 16; refine (cc _ hB).mono ?_; rintro e w1 ⟨rfl, hb1⟩
    replace r0 := RowAt.below r0 hb1
    obtain ⟨y0, y1, y2, y3, yf⟩ := cells4 r0
    go_wp2_with fail
    go_at_call 37; refine (c1 _).mono ?_; rintro e w2 ⟨rfl, hb2⟩
    go_wp2_with fail
    go_ret2
    exact ⟨_, rfl, Lk.hasRow_nil _ 6, below2 (below2 hB hb1) hb2⟩
  rw [hox] at c1 hPd
  simp only [if_true] at c1 hPd
  have hlen : l.length ≤ 256 := ((okT_iff l).1 hok).1
  have hup : Up l := ((okT_iff l).1 hok).2.2
  have cp := fun W (hb : Below w.heap.size w W) => place_any l _ p W (hl.keep hb) hup hf hp hlen
  have ck := fun W (hb : Below w.heap.size w W) => clone_any l _ W (hl.keep hb) (by omega)
  rw [hPd]
  obtain ⟨PL, hPL⟩ : ∃ PL, PL = ((othersT l p, if (othersT l p).length = l.length then 3 else 0) : List Rt × Int) := ⟨_, rfl⟩
  rw [← hPL]
  have HP : Hid (PL = ((othersT l p, if (othersT l p).length = l.length then 3 else 0) : List Rt × Int)) := hPL
  clear hPL hPd hck
  have HL : Hid (∀ W, Below w.heap.size w W → HasRts W (.slice o l.length c) l) := fun W hb => hl.keep hb
  obtain ⟨n, hn⟩ : ∃ n, n = l.length := ⟨_, rfl⟩
  have HN : Hid (n = l.length) := hn
  have H3 : Hid (∀ (W : World) (la lc : List Rt) (oa oc : Option Addr) (na nc ca cc : Nat), na = la.length → nc = lc.length → HasRts W (.slice oa na ca) la → HasRts W (.slice oc nc cc) lc → na ≤ 1000 → nc ≤ 1000 → Calls Try.prog 32 #[.slice (some ⟨W.heap.size, 0, none⟩) 2 2] (W.alloc (.cells #[.slice oa na ca, .slice oc nc cc] 22)) fun e w' => ∃ v, e = .returned v ∧ HasRts w' v (la ++ lc) ∧ Below W.heap.size W w') := fun W la lc oa oc na nc ca cc a b c d e f => two_rows a b c d e f
  have HPA : Hid (∀ k, Pos l p k → isAt l p k = true → ∃ h : k < l.length, l[k].pf = p ∧ l.take k = aheadT l p ∧ l.drop (k + 1) = behindT l p ∧ othersT l p = l.take k ++ l.drop (k + 1)) := fun k a b => parts_at hup a b
  have HPO : Hid (∀ k, Pos l p k → isAt l p k = false → l.take k = aheadT l p ∧ l.drop k = behindT l p ∧ othersT l p = l) := fun k a b => parts_off hup a b
  rw [← hn] at hc1 hlen cc cp ck ⊢
  have HL2 : Hid (∀ W, Below w.heap.size w W → HasRts W (.slice o n c) l) := by rw [hn]; exact HL
  have hni : (n : Int) ≤ 256 := by omega
  clear hl hf hn HL hup
  go_enter Try.func11, Try.ntmps11
  go_upto_region 1 with fail
  rw [← hX]
  clear hX
  go_wp2_with fail
  go_at_call 16; refine (cc _ hB).mono ?_; rintro e w1 ⟨rfl, hb1⟩
  replace r0 := RowAt.below r0 hb1
  replace hB := below2 hB hb1
  obtain ⟨y0, y1, y2, y3, yf⟩ := cells4 r0
  clear hb1 cc
  go_wp2_with fail
  clear y0 y1 y2 y3 yf
  go_at_call 37; refine (c1 _).mono ?_; rintro e w2 ⟨rfl, hb2⟩
  replace r0 := RowAt.below r0 hb2
  replace hB := below2 hB hb2
  obtain ⟨y0, y1, y2, y3, yf⟩ := cells4 r0
  clear hb2 c1
  go_wp2_with fail
  clear y0 y1 y2 y3 yf
  go_at_call 31; refine (cp _ hB).mono ?_; rintro e w3 ⟨k, hk, rfl, hb3⟩
  replace hB := below2 hB hb3
  clear hb3 cp r0
  have hkn : k ≤ n := by rw [HN.out]; exact hk.1
  have hki : (k : Int) ≤ (n : Int) := by omega
  cases hat : isAt l p k
  · obtain ⟨q1, q2, q3⟩ := HPO.out k hk hat
    have HPV : Hid (PL = (l, 3)) := by show _ = _; rw [HP.out, q3, if_pos rfl]
    clear HP HPA HPO q1 q2 q3 H3
    go_wp2_with fail
    go_at_call 33; refine (ck _ hB).mono ?_; rintro e w4 ⟨u4, rfl, ho4, hb4⟩
    have hh : HasRts w4 u4 l := by have h := hasRow_own ho4; rw [HN.out] at h; exact h
    go_wp2_with fail
    go_ret2
    exact ⟨_, by rw [HPV.out]; rfl, by rw [HPV.out]; exact hh, below2 hB hb4⟩
  · obtain ⟨hkl, q0, q1, q2, q3⟩ := HPA.out k hk hat
    have hkn2 : k + 1 ≤ n := by rw [HN.out]; exact hkl
    have HPV : Hid (PL = (l.take k ++ l.drop (k + 1), 0)) := by
      show _ = _
      rw [HP.out, q3, if_neg (by rw [List.length_append, List.length_take, List.length_drop]; omega)]
    have hlw := HL2.out _ hB
    clear HP HPA HPO ck q0 q1 q2 q3
    obtain ⟨b, i, rfl⟩ : ∃ b i, o = some ⟨b, i, none⟩ := by
      obtain ⟨_, b, i, e, _⟩ := Lk.HasRow.at hlw (by rw [← HN.out]; omega)
      exact ⟨b, i, e⟩
    have hta := hlw.take k (by rw [← HN.out]; exact hkn)
    have hkc : (k : Int) ≤ (c : Int) := by omega
    have hk1n : (k : Int) + 1 ≤ (n : Int) := by omega
    have hk1c : (k : Int) + 1 ≤ (c : Int) := by omega
    have hk10 : (0 : Int) ≤ (k : Int) + 1 := by omega
    have hw1 : IntKind.i64.wrap ((k : Int) + 1) = (k : Int) + 1 := by rw [IntKind.wrap_i64]; omega
    have htn : ((k : Int) + 1).toNat = k + 1 := by omega
    by_cases hck : c = k + 1
    · have hnk : n = k + 1 := by omega
      have hbe : l.drop (k + 1) = [] := List.drop_of_length_le (by rw [← HN.out]; omega)
      have hle : ∀ a' c', c' ≤ 9223372036854775807 → HasRts w3 (.slice (some a') 0 c') (l.drop (k + 1)) := fun a' c' h => by rw [hbe]; exact has_empty _ _ _ h
      subst hck hnk
      have hkk : (k : Int) ≤ (k : Int) + 1 := by omega
      have h3 := fun a' => H3.out w3.drew _ _ (some ⟨b, i, none⟩) (some a') k 0 (k + 1) 0 (by rw [List.length_take]; have := HN.out; omega) (by rw [hbe]; rfl) hta (hle a' 0 (by omega)) (by omega) (by omega)
      clear hta hle hlw hbe
      have hbA : Below w3.heap.size w3 w3 := Below.refl _ _
      have hd0 : ¬ False := id
      clear HL2 H3
      go_wp2_with fail
      go_region_held3 (fun _ => True)
        (first | trivial)
        (first
          | (go_at_call 32; refine (h3 _).mono ?_; rintro e w4 ⟨u4, rfl, hh4, hb4⟩
             have hbN : Below w3.heap.size w3 w4 := below2 (below_drew hbA) hb4
             clear hbA
             have hbA := hbN
             clear hbN))
      all_goals go_wp2_with fail
      all_goals go_ret2
      all_goals exact ⟨_, by rw [HPV.out]; rfl, by rw [HPV.out]; exact hh4, below2 hB hbA⟩
    · have hdr := hlw.drop (k + 1) (by rw [← HN.out]; exact hkn2)
      rw [← HN.out] at hdr
      have h3 := H3.out w3.drew _ _ _ _ k (n - (k + 1)) c (c - (k + 1)) (by rw [List.length_take]; have := HN.out; omega) (by rw [List.length_drop, ← HN.out]) hta hdr (by omega) (by omega)
      clear hta hdr hlw
      have hbA : Below w3.heap.size w3 w3 := Below.refl _ _
      have hd0 : ¬ False := id
      clear HL2 H3
      go_wp2_with fail
      go_region_held3 (fun _ => True)
        (first | trivial)
        (first
          | (go_at_call 32; refine (h3 : Calls _ _ _ _ _).mono ?_; rintro e w4 ⟨u4, rfl, hh4, hb4⟩
             have hbN : Below w3.heap.size w3 w4 := below2 (below_drew hbA) hb4
             clear hbA
             have hbA := hbN
             clear hbN))
      all_goals go_wp2_with fail
      all_goals go_ret2
      all_goals exact ⟨_, by rw [HPV.out]; rfl, by rw [HPV.out]; exact hh4, below2 hB hbA⟩
end Go.Proofs.Ytjgieaijdkmadaa.Tr
namespace Go.Proofs.Ytjgieaijdkmadaa.Tr
open Go.RowKit
open Go.Proofs.Ytjgieaijdkmadaa.Addr (Pf okP hiN loN RowAt below2 below_drew below_new bset RowAt.lt RowAt.cell RowAt.frozen RowAt.below RowAt.drew RowAt.new RowAt.alloc cells4)
set_option maxHeartbeats 2000000 in
set_option maxRecDepth 20000 in
theorem find_bad1 (o : Option Addr) (n c : Nat) (six : Bool) (p1 p2 len : Int) (k : Nat) (w : World)
    (cc : ∀ W, Below w.heap.size w W → Calls Try.prog 16 #[.slice o n c] W fun e w' => e = .returned (.int .i64 2) ∧ Below W.heap.size W w')
    : Calls Try.prog 13 #[.slice o n c, .agg #[.bool six, .int .u64 p1, .int .u64 p2, .int .i64 len]] w fun e w' => e = .returned (.tuple #[.agg #[.bool false, .int .u64 0, .int .u64 0, .int .i64 0, .int .u8 0, .int .i64 0], .int .i64 2]) ∧ Below w.heap.size w w' := by
  obtain ⟨X, hX⟩ : ∃ X, X = (w.alloc (.cells #[.bool six, .int .u64 p1, .int .u64 p2, .int .i64 len] 27)).alloc (.cells #[.bool false, .int .u64 0, .int .u64 0, .int .i64 0, .int .u8 0, .int .i64 0] 32) := ⟨_, rfl⟩
  have hB : Below w.heap.size w X := by rw [hX]; exact below_new (below_new (Below.refl _ _) _) _
  obtain ⟨g0, hg0⟩ : ∃ g, g = w.heap.size := ⟨_, rfl⟩
  obtain ⟨g1, hg1⟩ : ∃ g, g = w.heap.size + 1 := ⟨_, rfl⟩
  have r0 : RowAt X g0 [.bool six, .int .u64 p1, .int .u64 p2, .int .i64 len] 27 := by
    rw [hX, hg0]; exact (RowAt.new w [.bool six, .int .u64 p1, .int .u64 p2, .int .i64 len] 27).alloc (.cells #[.bool false, .int .u64 0, .int .u64 0, .int .i64 0, .int .u8 0, .int .i64 0] 32)
  have r1 : RowAt X g1 [.bool false, .int .u64 0, .int .u64 0, .int .i64 0, .int .u8 0, .int .i64 0] 32 := by
    have h := RowAt.new (w.alloc (.cells #[.bool six, .int .u64 p1, .int .u64 p2, .int .i64 len] 27)) [.bool false, .int .u64 0, .int .u64 0, .int .i64 0, .int .u8 0, .int .i64 0] 32
    rw [World.size_alloc] at h
    rw [hX, hg1]; exact h
  have hgw : w.heap.size ≤ g1 := by omega
  have hne : g0 ≠ g1 := by omega
  go_enter Try.func13, Try.ntmps13
  go_upto_region 1 with fail
  rw [← hX, ← hg1, ← hg0]
  clear hX hg0 hg1
  go_wp2_with fail
  go_at_call 16; refine (cc _ hB).mono ?_; rintro e w1 ⟨rfl, hb⟩
  replace r0 := RowAt.below r0 hb
  replace r1 := RowAt.below r1 hb
  replace hB := below2 hB hb
  clear hb cc
  obtain ⟨q0, q1, q2, q3, q4, q5, qf⟩ := six_of r1
  have ql := RowAt.lt r1
  have HW : Hid (Below w.heap.size w w1) := hB
  clear r0 r1 hB
  go_wp2_with fail
  (try simp only [Exit.inBlock, Exit.then])
  refine bodyPost_ret (v := .tuple #[.agg #[.bool false, .int .u64 0, .int .u64 0, .int .i64 0, .int .u8 0, .int .i64 0], .int .i64 2]) ?_ rfl ⟨rfl, bset (bset (bset (bset (bset (bset HW.out (by omega)) (by omega)) (by omega)) (by omega)) (by omega)) (by omega)⟩
  rw [results_cell_tmp1 rfl]
  go_simp
set_option maxHeartbeats 2000000 in
set_option maxRecDepth 20000 in
theorem find_bad2 (o : Option Addr) (n c : Nat) (six : Bool) (p1 p2 len : Int) (k : Nat) (w : World)
    (cc : ∀ W, Below w.heap.size w W → Calls Try.prog 16 #[.slice o n c] W fun e w' => e = .returned (.int .i64 0) ∧ Below W.heap.size W w')
    (c1 : ∀ W, Calls Try.prog 37 #[.agg #[.bool six, .int .u64 p1, .int .u64 p2, .int .i64 len]] W fun e w' => e = .returned (.int .i64 2) ∧ Below W.heap.size W w')
    : Calls Try.prog 13 #[.slice o n c, .agg #[.bool six, .int .u64 p1, .int .u64 p2, .int .i64 len]] w fun e w' => e = .returned (.tuple #[.agg #[.bool false, .int .u64 0, .int .u64 0, .int .i64 0, .int .u8 0, .int .i64 0], .int .i64 2]) ∧ Below w.heap.size w w' := by
  obtain ⟨X, hX⟩ : ∃ X, X = (w.alloc (.cells #[.bool six, .int .u64 p1, .int .u64 p2, .int .i64 len] 27)).alloc (.cells #[.bool false, .int .u64 0, .int .u64 0, .int .i64 0, .int .u8 0, .int .i64 0] 32) := ⟨_, rfl⟩
  have hB : Below w.heap.size w X := by rw [hX]; exact below_new (below_new (Below.refl _ _) _) _
  obtain ⟨g0, hg0⟩ : ∃ g, g = w.heap.size := ⟨_, rfl⟩
  obtain ⟨g1, hg1⟩ : ∃ g, g = w.heap.size + 1 := ⟨_, rfl⟩
  have r0 : RowAt X g0 [.bool six, .int .u64 p1, .int .u64 p2, .int .i64 len] 27 := by
    rw [hX, hg0]; exact (RowAt.new w [.bool six, .int .u64 p1, .int .u64 p2, .int .i64 len] 27).alloc (.cells #[.bool false, .int .u64 0, .int .u64 0, .int .i64 0, .int .u8 0, .int .i64 0] 32)
  have r1 : RowAt X g1 [.bool false, .int .u64 0, .int .u64 0, .int .i64 0, .int .u8 0, .int .i64 0] 32 := by
    have h := RowAt.new (w.alloc (.cells #[.bool six, .int .u64 p1, .int .u64 p2, .int .i64 len] 27)) [.bool false, .int .u64 0, .int .u64 0, .int .i64 0, .int .u8 0, .int .i64 0] 32
    rw [World.size_alloc] at h
    rw [hX, hg1]; exact h
  have hgw : w.heap.size ≤ g1 := by omega
  have hne : g0 ≠ g1 := by omega
  go_enter Try.func13, Try.ntmps13
  go_upto_region 1 with fail
  rw [← hX, ← hg1, ← hg0]
  clear hX hg0 hg1
  go_wp2_with fail
  go_at_call 16; refine (cc _ hB).mono ?_; rintro e w1 ⟨rfl, hb⟩
  replace r0 := RowAt.below r0 hb
  replace r1 := RowAt.below r1 hb
  replace hB := below2 hB hb
  clear hb cc
  obtain ⟨y0, y1, y2, y3, yf⟩ := cells4 r0
  go_wp2_with fail
  clear y0 y1 y2 y3 yf
  go_at_call 37; refine (c1 _).mono ?_; rintro e w2 ⟨rfl, hb⟩
  replace r0 := RowAt.below r0 hb
  replace r1 := RowAt.below r1 hb
  replace hB := below2 hB hb
  clear hb c1
  obtain ⟨q0, q1, q2, q3, q4, q5, qf⟩ := six_of r1
  have ql := RowAt.lt r1
  have HW : Hid (Below w.heap.size w w2) := hB
  clear r0 r1 hB
  go_wp2_with fail
  (try simp only [Exit.inBlock, Exit.then])
  refine bodyPost_ret (v := .tuple #[.agg #[.bool false, .int .u64 0, .int .u64 0, .int .i64 0, .int .u8 0, .int .i64 0], .int .i64 2]) ?_ rfl ⟨rfl, bset (bset (bset (bset (bset (bset HW.out (by omega)) (by omega)) (by omega)) (by omega)) (by omega)) (by omega)⟩
  rw [results_cell_tmp1 rfl]
  go_simp
set_option maxHeartbeats 2000000 in
set_option maxRecDepth 20000 in
theorem find_none (o : Option Addr) (n c : Nat) (six : Bool) (p1 p2 len : Int) (k : Nat) (w : World)
    (cc : ∀ W, Below w.heap.size w W → Calls Try.prog 16 #[.slice o n c] W fun e w' => e = .returned (.int .i64 0) ∧ Below W.heap.size W w')
    (c1 : ∀ W, Calls Try.prog 37 #[.agg #[.bool six, .int .u64 p1, .int .u64 p2, .int .i64 len]] W fun e w' => e = .returned (.int .i64 0) ∧ Below W.heap.size W w')
    (cp : ∀ W, Below w.heap.size w W → Calls Try.prog 31 #[.slice o n c, .agg #[.bool six, .int .u64 p1, .int .u64 p2, .int .i64 len]] W fun e w' => ∃ k : Nat, e = .returned (.tuple #[.int .i64 (k : Int), .bool false]) ∧ Below W.heap.size W w')
    : Calls Try.prog 13 #[.slice o n c, .agg #[.bool six, .int .u64 p1, .int .u64 p2, .int .i64 len]] w fun e w' => e = .returned (.tuple #[.agg #[.bool false, .int .u64 0, .int .u64 0, .int .i64 0, .int .u8 0, .int .i64 0], .int .i64 3]) ∧ Below w.heap.size w w' := by
  obtain ⟨X, hX⟩ : ∃ X, X = (w.alloc (.cells #[.bool six, .int .u64 p1, .int .u64 p2, .int .i64 len] 27)).alloc (.cells #[.bool false, .int .u64 0, .int .u64 0, .int .i64 0, .int .u8 0, .int .i64 0] 32) := ⟨_, rfl⟩
  have hB : Below w.heap.size w X := by rw [hX]; exact below_new (below_new (Below.refl _ _) _) _
  obtain ⟨g0, hg0⟩ : ∃ g, g = w.heap.size := ⟨_, rfl⟩
  obtain ⟨g1, hg1⟩ : ∃ g, g = w.heap.size + 1 := ⟨_, rfl⟩
  have r0 : RowAt X g0 [.bool six, .int .u64 p1, .int .u64 p2, .int .i64 len] 27 := by
    rw [hX, hg0]; exact (RowAt.new w [.bool six, .int .u64 p1, .int .u64 p2, .int .i64 len] 27).alloc (.cells #[.bool false, .int .u64 0, .int .u64 0, .int .i64 0, .int .u8 0, .int .i64 0] 32)
  have r1 : RowAt X g1 [.bool false, .int .u64 0, .int .u64 0, .int .i64 0, .int .u8 0, .int .i64 0] 32 := by
    have h := RowAt.new (w.alloc (.cells #[.bool six, .int .u64 p1, .int .u64 p2, .int .i64 len] 27)) [.bool false, .int .u64 0, .int .u64 0, .int .i64 0, .int .u8 0, .int .i64 0] 32
    rw [World.size_alloc] at h
    rw [hX, hg1]; exact h
  have hgw : w.heap.size ≤ g1 := by omega
  have hne : g0 ≠ g1 := by omega
  go_enter Try.func13, Try.ntmps13
  go_upto_region 1 with fail
  rw [← hX, ← hg1, ← hg0]
  clear hX hg0 hg1
  go_wp2_with fail
  go_at_call 16; refine (cc _ hB).mono ?_; rintro e w1 ⟨rfl, hb⟩
  replace r0 := RowAt.below r0 hb
  replace r1 := RowAt.below r1 hb
  replace hB := below2 hB hb
  clear hb cc
  obtain ⟨y0, y1, y2, y3, yf⟩ := cells4 r0
  go_wp2_with fail
  clear y0 y1 y2 y3 yf
  go_at_call 37; refine (c1 _).mono ?_; rintro e w2 ⟨rfl, hb⟩
  replace r0 := RowAt.below r0 hb
  replace r1 := RowAt.below r1 hb
  replace hB := below2 hB hb
  clear hb c1
  obtain ⟨y0, y1, y2, y3, yf⟩ := cells4 r0
  go_wp2_with fail
  clear y0 y1 y2 y3 yf
  go_at_call 31; refine (cp _ hB).mono ?_; rintro e w3 ⟨k2, rfl, hb⟩
  replace r0 := RowAt.below r0 hb
  replace r1 := RowAt.below r1 hb
  replace hB := below2 hB hb
  clear cp
  obtain ⟨q0, q1, q2, q3, q4, q5, qf⟩ := six_of r1
  have ql := RowAt.lt r1
  have HW : Hid (Below w.heap.size w w3) := hB
  clear r0 r1 hB
  go_wp2_with fail
  (try simp only [Exit.inBlock, Exit.then])
  refine bodyPost_ret (v := .tuple #[.agg #[.bool false, .int .u64 0, .int .u64 0, .int .i64 0, .int .u8 0, .int .i64 0], .int .i64 3]) ?_ rfl ⟨rfl, bset (bset (bset (bset (bset (bset HW.out (by omega)) (by omega)) (by omega)) (by omega)) (by omega)) (by omega)⟩
  rw [results_cell_tmp1 rfl]
  go_simp
set_option maxHeartbeats 2000000 in
set_option maxRecDepth 20000 in
theorem find_is (o : Option Addr) (n c : Nat) (six : Bool) (p1 p2 len : Int) (k : Nat) (w : World) (s0 : Bool) (s1 s2 s3 s4 s5 : Int) (hkn : (k : Int) < (n : Int)) (hkn2 : k < n)
    (HC : Hid (∀ W : World, Below w.heap.size w W → ∃ b i, o = some ⟨b, i, none⟩ ∧ W.cell? ⟨b, i + k * 6, none⟩ = some (.bool s0) ∧ W.cell? ⟨b, i + k * 6 + 1, none⟩ = some (.int .u64 s1) ∧ W.cell? ⟨b, i + k * 6 + 2, none⟩ = some (.int .u64 s2) ∧ W.cell? ⟨b, i + k * 6 + 3, none⟩ = some (.int .i64 s3) ∧ W.cell? ⟨b, i + k * 6 + 4, none⟩ = some (.int .u8 s4) ∧ W.cell? ⟨b, i + k * 6 + 5, none⟩ = some (.int .i64 s5)))
    (cc : ∀ W, Below w.heap.size w W → Calls Try.prog 16 #[.slice o n c] W fun e w' => e = .returned (.int .i64 0) ∧ Below W.heap.size W w')
    (c1 : ∀ W, Calls Try.prog 37 #[.agg #[.bool six, .int .u64 p1, .int .u64 p2, .int .i64 len]] W fun e w' => e = .returned (.int .i64 0) ∧ Below W.heap.size W w')
    (cp : ∀ W, Below w.heap.size w W → Calls Try.prog 31 #[.slice o n c, .agg #[.bool six, .int .u64 p1, .int .u64 p2, .int .i64 len]] W fun e w' => e = .returned (.tuple #[.int .i64 (k : Int), .bool true]) ∧ Below W.heap.size W w')
    : Calls Try.prog 13 #[.slice o n c, .agg #[.bool six, .int .u64 p1, .int .u64 p2, .int .i64 len]] w fun e w' => e = .returned (.tuple #[.agg #[.bool s0, .int .u64 s1, .int .u64 s2, .int .i64 s3, .int .u8 s4, .int .i64 s5], .int .i64 0]) ∧ Below w.heap.size w w' := by
  obtain ⟨X, hX⟩ : ∃ X, X = (w.alloc (.cells #[.bool six, .int .u64 p1, .int .u64 p2, .int .i64 len] 27)).alloc (.cells #[.bool false, .int .u64 0, .int .u64 0, .int .i64 0, .int .u8 0, .int .i64 0] 32) := ⟨_, rfl⟩
  have hB : Below w.heap.size w X := by rw [hX]; exact below_new (below_new (Below.refl _ _) _) _
  obtain ⟨g0, hg0⟩ : ∃ g, g = w.heap.size := ⟨_, rfl⟩
  obtain ⟨g1, hg1⟩ : ∃ g, g = w.heap.size + 1 := ⟨_, rfl⟩
  have r0 : RowAt X g0 [.bool six, .int .u64 p1, .int .u64 p2, .int .i64 len] 27 := by
    rw [hX, hg0]; exact (RowAt.new w [.bool six, .int .u64 p1, .int .u64 p2, .int .i64 len] 27).alloc (.cells #[.bool false, .int .u64 0, .int .u64 0, .int .i64 0, .int .u8 0, .int .i64 0] 32)
  have r1 : RowAt X g1 [.bool false, .int .u64 0, .int .u64 0, .int .i64 0, .int .u8 0, .int .i64 0] 32 := by
    have h := RowAt.new (w.alloc (.cells #[.bool six, .int .u64 p1, .int .u64 p2, .int .i64 len] 27)) [.bool false, .int .u64 0, .int .u64 0, .int .i64 0, .int .u8 0, .int .i64 0] 32
    rw [World.size_alloc] at h
    rw [hX, hg1]; exact h
  have hgw : w.heap.size ≤ g1 := by omega
  have hne : g0 ≠ g1 := by omega
  go_enter Try.func13, Try.ntmps13
  go_upto_region 1 with fail
  rw [← hX, ← hg1, ← hg0]
  clear hX hg0 hg1
  go_wp2_with fail
  go_at_call 16; refine (cc _ hB).mono ?_; rintro e w1 ⟨rfl, hb⟩
  replace r0 := RowAt.below r0 hb
  replace r1 := RowAt.below r1 hb
  replace hB := below2 hB hb
  clear hb cc
  obtain ⟨y0, y1, y2, y3, yf⟩ := cells4 r0
  go_wp2_with fail
  clear y0 y1 y2 y3 yf
  go_at_call 37; refine (c1 _).mono ?_; rintro e w2 ⟨rfl, hb⟩
  replace r0 := RowAt.below r0 hb
  replace r1 := RowAt.below r1 hb
  replace hB := below2 hB hb
  clear hb c1
  obtain ⟨y0, y1, y2, y3, yf⟩ := cells4 r0
  go_wp2_with fail
  clear y0 y1 y2 y3 yf
  go_at_call 31; refine (cp _ hB).mono ?_; rintro e w3 ⟨rfl, hb⟩
  replace r0 := RowAt.below r0 hb
  replace r1 := RowAt.below r1 hb
  replace hB := below2 hB hb
  clear cp
  obtain ⟨b, i, rfl, a0, a1, a2, a3, a4, a5⟩ := HC.out _ hB
  obtain ⟨q0, q1, q2, q3, q4, q5, qf⟩ := six_of r1
  have ql := RowAt.lt r1
  have HW : Hid (Below w.heap.size w w3) := hB
  clear r0 r1 hB
  go_wp2_with fail
  (try simp only [Exit.inBlock, Exit.then])
  refine bodyPost_ret (v := .tuple #[.agg #[.bool s0, .int .u64 s1, .int .u64 s2, .int .i64 s3, .int .u8 s4, .int .i64 s5], .int .i64 0]) ?_ rfl ⟨rfl, bset (bset (bset (bset (bset (bset HW.out (by omega)) (by omega)) (by omega)) (by omega)) (by omega)) (by omega)⟩
  rw [results_cell_tmp1 rfl]
  go_simp
theorem find_at {l : List Rt} {p : Pf} {k : Nat} (hu : Up l) (hk : k < l.length) (he : l[k].pf = p) : findT l p = some l[k] := findT_at hk he (fun j hj hjk e => by
  have := List.pairwise_iff_getElem.1 hu j k hj hk hjk
  rw [e, he] at this
  exact ltP_irr _ this)
theorem find_off {l : List Rt} {p : Pf} (h : othersT l p = l) : findT l p = none := by
  unfold findT
  rw [List.find?_eq_none]
  intro x hx
  have := List.filter_eq_self.1 h x hx
  simpa using this
/-- trie.Find -/
theorem find_any (l : List Rt) (v : Value) (p : Pf) (w : World) (hl : HasRts w v l) (hf : ∀ x ∈ l, FitR x) (hp : FitP p) :
    Calls Try.prog 13 #[v, .agg #[.bool p.six, .int .u64 (hiN p.n : Int), .int .u64 (loN p.n : Int), .int .i64 p.len]] w fun e w' => e = .returned (.tuple #[rtA (findE l p).1, .int .i64 (findE l p).2]) ∧ Below w.heap.size w w' := by
  obtain ⟨o, c, rfl, hc1, hc2⟩ := Lk.HasRow.slice hl
  have cc := fun W (hb : Below w.heap.size w W) => check_any l _ W (hl.keep hb) hf
  have c1 : ∀ W, Calls Try.prog 37 #[.agg #[.bool p.six, .int .u64 (hiN p.n : Int), .int .u64 (loN p.n : Int), .int .i64 p.len]] W fun e w' => e = .returned (.int .i64 (if okP p then 0 else 2)) ∧ Below W.heap.size W w' := fun W => Go.Proofs.Ytjgieaijdkmadaa.Addr.check_any p W hp.1 hp.2
  have hck : checkT l = if okT l then 0 else 2 := rfl
  rw [hck] at cc
  cases hok : okT l with
  | false =>
    rw [hok] at cc
    have e : findE l p = (zeroR, 2) := by unfold findE; rw [hok]; rfl
    rw [e]
    exact find_bad1 o _ c p.six _ _ p.len 0 w cc
  | true =>
    rw [hok] at cc
    cases hox : okP p with
    | false =>
      rw [hox] at c1
      have e : findE l p = (zeroR, 2) := by unfold findE; rw [hok, hox]; rfl
      rw [e]
      exact find_bad2 o _ c p.six _ _ p.len 0 w cc c1
    | true =>
      rw [hox] at c1
      have e : findE l p = findO l p := by unfold findE; rw [hok, hox]; rfl
      rw [e]
      obtain ⟨h1, h2, h3⟩ := (okT_iff l).1 hok
      have cp := fun W (hb : Below w.heap.size w W) => place_any l _ p W (hl.keep hb) h3 hf hp h1
      by_cases hex : ∃ k, ∃ h : k < l.length, l[k].pf = p
      · obtain ⟨k, hk, he⟩ := hex
        have e2 : findO l p = (l[k], 0) := by unfold findO; rw [find_at h3 hk he]
        rw [e2]
        have key : ∀ k', Pos l p k' → k' = k := fun k' h => by
          rcases Nat.lt_trichotomy k' k with g | g | g
          · have := h.2.2 k hk (by omega)
            have a := List.pairwise_iff_getElem.1 h3 k' k (by omega) hk g
            rw [he] at a
            exact absurd a (h.2.2 k' (by omega) (Nat.le_refl _))
          · exact g
          · have := h.2.1 k hk g
            rw [he] at this
            exact absurd this (ltP_irr _)
        have hat : isAt l p k = true := by
          unfold isAt
          rw [List.getElem?_eq_getElem hk]
          simp only [decide_eq_true_eq]
          exact (ordP_eq _ _).2 he
        exact find_is o _ c p.six _ _ p.len k w l[k].pf.six _ _ l[k].pf.len _ l[k].act.i (by omega) hk
          (fun W hb => by
            obtain ⟨b, i, e1, _, ax⟩ := HasRts.cell (hl.keep hb) k hk
            exact ⟨b, i, e1, six_at ax⟩) cc c1
          (fun W hb => (cp W hb).mono (fun e w' h => by
            obtain ⟨k', hp', rfl, hb'⟩ := h
            have := key k' hp'
            subst this
            rw [hat]
            exact ⟨rfl, hb'⟩))
      · have hoth : othersT l p = l := List.filter_eq_self.2 (fun x hx => by
          obtain ⟨j, hj, rfl⟩ := List.getElem_of_mem hx
          have : ¬ ordP l[j].pf p = 0 := fun h => hex ⟨j, hj, (ordP_eq _ _).1 h⟩
          simpa using this)
        have e2 : findO l p = (zeroR, 3) := by unfold findO; rw [find_off hoth]
        rw [e2]
        have hat : ∀ k, isAt l p k = false := fun k => by
          unfold isAt
          cases hk : l[k]? with
          | none => rfl
          | some x =>
            obtain ⟨hkl, rfl⟩ := List.getElem?_eq_some_iff.1 hk
            simp only [decide_eq_false_iff_not]
            exact fun h => hex ⟨k, hkl, (ordP_eq _ _).1 h⟩
        exact find_none o _ c p.six _ _ p.len 0 w cc c1
          (fun W hb => (cp W hb).mono (fun e w' h => by
            obtain ⟨k', hp', rfl, hb'⟩ := h
            rw [hat]
            exact ⟨k', rfl, hb'⟩))
end Go.Proofs.Ytjgieaijdkmadaa.Tr
namespace Go.Proofs.Ytjgieaijdkmadaa.Tr
open Go.RowKit
open Go.Proofs.Ytjgieaijdkmadaa.Lk (HasRow)
open Go.Proofs.Ytjgieaijdkmadaa.Addr (Pf okP hiN loN pfV RowAt below2 below_drew below_new bset RowAt.lt RowAt.cell RowAt.frozen RowAt.below RowAt.drew RowAt.new RowAt.alloc)
attribute [-go_sem] Builtin.append_
/-- one route in a row of its own, and the row of the three parts -/
theorem three_rows {W : World} {la lc : List Rt} {r : Rt} {oa oc : Option Addr} {na nc ca cc : Nat} (ea : na = la.length) (ec : nc = lc.length) (ha : HasRts W (.slice oa na ca) la) (hc : HasRts W (.slice oc nc cc) lc) (h1 : na ≤ 1000) (h2 : nc ≤ 1000) :
    Calls Try.prog 32 #[.slice (some ⟨W.heap.size + 1, 0, none⟩) 3 3] ((W.alloc (.cells #[.bool r.pf.six, .int .u64 (hiN r.pf.n : Int), .int .u64 (loN r.pf.n : Int), .int .i64 r.pf.len, .int .u8 (r.act.k : Int), .int .i64 r.act.i] 32)).alloc (.cells #[.slice oa na ca, .slice (some ⟨W.heap.size, 0, none⟩) 1 1, .slice oc nc cc] 22)) fun e w' => ∃ v, e = .returned v ∧ HasRts w' v (la ++ ([r] ++ lc)) ∧ Below W.heap.size W w' := by
  obtain ⟨Y, hY⟩ : ∃ Y, Y = W.alloc (.cells #[.bool r.pf.six, .int .u64 (hiN r.pf.n : Int), .int .u64 (loN r.pf.n : Int), .int .i64 r.pf.len, .int .u8 (r.act.k : Int), .int .i64 r.act.i] 32) := ⟨_, rfl⟩
  have hbY : Below W.heap.size W Y := by rw [hY]; exact below_new (Below.refl _ _) _
  have hsY : Y.heap.size = W.heap.size + 1 := by rw [hY]; simp
  have rY : RowAt Y W.heap.size (rtC r) 32 := by rw [hY]; exact RowAt.new _ _ _
  rw [← hY]
  clear hY
  obtain ⟨Z, hZ⟩ : ∃ Z, Z = Y.alloc (.cells #[.slice oa na ca, .slice (some ⟨W.heap.size, 0, none⟩) 1 1, .slice oc nc cc] 22) := ⟨_, rfl⟩
  have hbZ : Below Y.heap.size Y Z := by rw [hZ]; exact below_new (Below.refl _ _) _
  have rZ : RowAt Z Y.heap.size [.slice oa na ca, .slice (some ⟨W.heap.size, 0, none⟩) 1 1, .slice oc nc cc] 22 := by rw [hZ]; exact RowAt.new _ _ _
  rw [← hZ, ← hsY]
  clear hZ
  have hB := below2 hbY hbZ
  have rr : HasRts Z (.slice (some ⟨W.heap.size, 0, none⟩) 1 1) [r] := by
    have rY2 := rY.below hbZ
    refine ⟨rfl, .inr ⟨_, 1, rfl, Nat.le_refl _, by omega, fun _ => ⟨rfl, rY2.lt⟩, fun j _ => ?_⟩⟩
    rw [Lk.addr_add, Nat.zero_add, rY2.cell]
    simp [rtCs]
  refine (concat_any Y.heap.size la [r] lc oa (some ⟨W.heap.size, 0, none⟩) oc na 1 nc ca 1 cc Z rZ.lt (rZ.cell 0) (rZ.cell 1) (rZ.cell 2) ea rfl ec (ha.keep hB) rr (hc.keep hB) h1 (by omega) h2).mono ?_
  rintro e w' ⟨v, rfl, ho, hb⟩
  exact ⟨v, rfl, hasRow_own ho, below2 hB hb⟩
set_option maxHeartbeats 8000000 in
set_option maxRecDepth 20000 in
theorem put_any (l : List Rt) (v : Value) (r : Rt) (w : World) (hl : HasRts w v l) (hf : ∀ x ∈ l, FitR x) (hr : FitR r) :
    Calls Try.prog 9 #[v, .agg #[.bool r.pf.six, .int .u64 (hiN r.pf.n : Int), .int .u64 (loN r.pf.n : Int), .int .i64 r.pf.len, .int .u8 (r.act.k : Int), .int .i64 r.act.i]] w fun e w' => ∃ u, e = .returned (.tuple #[u, .int .i64 (putT l r).2]) ∧ HasRts w' u (putT l r).1 ∧ Below w.heap.size w w' := by
  obtain ⟨o, c, rfl, hc1, hc2⟩ := Lk.HasRow.slice hl
  have cc := fun W (hb : Below w.heap.size w W) => check_any l _ W (hl.keep hb) hf
  have c1 := fun W => right_any r W hr
  have hck : checkT l = if okT l then 0 else 2 := rfl
  rw [hck] at cc
  have hPd : putT l r = if okT l && okR r then (if (othersT l r.pf).length = 256 then (l, 8) else (insT l r, 0)) else ([], 2) := rfl
  obtain ⟨X, hX⟩ : ∃ X, X = w.alloc (.cells #[.bool r.pf.six, .int .u64 (hiN r.pf.n : Int), .int .u64 (loN r.pf.n : Int), .int .i64 r.pf.len, .int .u8 (r.act.k : Int), .int .i64 r.act.i] 32) := ⟨_, rfl⟩
  have hB : Below w.heap.size w X := by rw [hX]; exact below_new (Below.refl _ _) _
  have r0 : RowAt X w.heap.size [.bool r.pf.six, .int .u64 (hiN r.pf.n : Int), .int .u64 (loN r.pf.n : Int), .int .i64 r.pf.len, .int .u8 (r.act.k : Int), .int .i64 r.act.i] 32 := by rw [hX]; exact RowAt.new _ _ _
  cases hok : okT l
  · rw [hok] at cc hPd
    simp only [Bool.false_eq_true, if_false, Bool.false_and] at cc hPd
    rw [hPd]
    clear hPd
    go_enter Try.func9, Try.ntmps9
    go_upto_region 1 with fail
    rw [← hX]
    clear hX
    go_wp2_with fail
    go_at_call 16; refine (cc _ hB).mono ?_; rintro e w1 ⟨rfl, hb1⟩
    go_wp2_with fail
    go_ret2
    exact ⟨_, rfl, Lk.hasRow_nil _ 6, below2 hB hb1⟩
  rw [hok] at cc hPd
  simp only [if_true, Bool.true_and] at cc hPd
  have cells : ∀ {W : World}, RowAt W w.heap.size [.bool r.pf.six, .int .u64 (hiN r.pf.n : Int), .int .u64 (loN r.pf.n : Int), .int .i64 r.pf.len, .int .u8 (r.act.k : Int), .int .i64 r.act.i] 32 → W.cell? ⟨w.heap.size, 0, none⟩ = some (.bool r.pf.six) ∧ W.cell? ⟨w.heap.size, 1, none⟩ = some (.int .u64 (hiN r.pf.n : Int)) ∧ W.cell? ⟨w.heap.size, 2, none⟩ = some (.int .u64 (loN r.pf.n : Int)) ∧ W.cell? ⟨w.heap.size, 3, none⟩ = some (.int .i64 r.pf.len) ∧ W.cell? ⟨w.heap.size, 4, none⟩ = some (.int .u8 (r.act.k : Int)) ∧ W.cell? ⟨w.heap.size, 5, none⟩ = some (.int .i64 r.act.i) := fun h => ⟨h.cell 0, h.cell 1, h.cell 2, h.cell 3, h.cell 4, h.cell 5⟩
  have HCL : Hid (∀ {W : World}, RowAt W w.heap.size [.bool r.pf.six, .int .u64 (hiN r.pf.n : Int), .int .u64 (loN r.pf.n : Int), .int .i64 r.pf.len, .int .u8 (r.act.k : Int), .int .i64 r.act.i] 32 → W.cell? ⟨w.heap.size, 0, none⟩ = some (.bool r.pf.six) ∧ W.cell? ⟨w.heap.size, 1, none⟩ = some (.int .u64 (hiN r.pf.n : Int)) ∧ W.cell? ⟨w.heap.size, 2, none⟩ = some (.int .u64 (loN r.pf.n : Int)) ∧ W.cell? ⟨w.heap.size, 3, none⟩ = some (.int .i64 r.pf.len) ∧ W.cell? ⟨w.heap.size, 4, none⟩ = some (.int .u8 (r.act.k : Int)) ∧ W.cell? ⟨w.heap.size, 5, none⟩ = some (.int .i64 r.act.i)) := cells
  clear cells
  cases hox : okR r
  · rw [hox] at c1 hPd
    simp only [Bool.false_eq_true, if_false] at hPd
    rw [hPd]
    clear hPd
    go_enter Try.func9, Try.ntmps9
    go_upto_region 1 with fail
    rw [← hX]
    clear hX
    go_wp2_with fail
    go_at_call 16; refine (cc _ hB).mono ?_; rintro e w1 ⟨rfl, hb1⟩
    replace r0 := RowAt.below r0 hb1
    obtain ⟨y0, y1, y2, y3, y4, y5⟩ := HCL.out r0
    go_wp2_with fail
    go_at_call 30; refine (c1 _).mono ?_; rintro e w2 ⟨rfl, hb2⟩
    go_wp2_with fail
    go_ret2
    exact ⟨_, rfl, Lk.hasRow_nil _ 6, below2 (below2 hB hb1) hb2⟩
  rw [hox] at c1 hPd
  simp only [if_true] at hPd
  have hlen : l.length ≤ 256 := ((okT_iff l).1 hok).1
  have hup : Up l := ((okT_iff l).1 hok).2.2
  have cp := fun W (hb : Below w.heap.size w W) => place_any l _ r.pf W (hl.keep hb) hup hf hr.1 hlen
  have ck := fun W (hb : Below w.heap.size w W) => clone_any l _ W (hl.keep hb) (by omega)
  rw [hPd]
  obtain ⟨PL, hPL⟩ : ∃ PL, PL = (if (othersT l r.pf).length = 256 then (l, 8) else (insT l r, 0) : List Rt × Int) := ⟨_, rfl⟩
  rw [← hPL]
  have HP : Hid (PL = (if (othersT l r.pf).length = 256 then (l, 8) else (insT l r, 0) : List Rt × Int)) := hPL
  clear hPL hPd hck
  have HL : Hid (∀ W, Below w.heap.size w W → HasRts W (.slice o l.length c) l) := fun W hb => hl.keep hb
  obtain ⟨n, hn⟩ : ∃ n, n = l.length := ⟨_, rfl⟩
  have HN : Hid (n = l.length) := hn
  have H3 : Hid (∀ (W : World) (la lc : List Rt) (oa oc : Option Addr) (na nc ca cc : Nat), na = la.length → nc = lc.length → HasRts W (.slice oa na ca) la → HasRts W (.slice oc nc cc) lc → na ≤ 1000 → nc ≤ 1000 → Calls Try.prog 32 #[.slice (some ⟨W.heap.size + 1, 0, none⟩) 3 3] ((W.alloc (.cells #[.bool r.pf.six, .int .u64 (hiN r.pf.n : Int), .int .u64 (loN r.pf.n : Int), .int .i64 r.pf.len, .int .u8 (r.act.k : Int), .int .i64 r.act.i] 32)).alloc (.cells #[.slice oa na ca, .slice (some ⟨W.heap.size, 0, none⟩) 1 1, .slice oc nc cc] 22)) fun e w' => ∃ v, e = .returned v ∧ HasRts w' v (la ++ ([r] ++ lc)) ∧ Below W.heap.size W w') := fun W la lc oa oc na nc ca cc a b d e f g => three_rows a b d e f g
  have HI : Hid (insT l r = aheadT l r.pf ++ ([r] ++ behindT l r.pf)) := rfl
  have HPA : Hid (∀ k, Pos l r.pf k → isAt l r.pf k = true → ∃ h : k < l.length, l[k].pf = r.pf ∧ l.take k = aheadT l r.pf ∧ l.drop (k + 1) = behindT l r.pf ∧ othersT l r.pf = l.take k ++ l.drop (k + 1)) := fun k a b => parts_at hup a b
  have HPO : Hid (∀ k, Pos l r.pf k → isAt l r.pf k = false → l.take k = aheadT l r.pf ∧ l.drop k = behindT l r.pf ∧ othersT l r.pf = l) := fun k a b => parts_off hup a b
  rw [← hn] at hc1 hlen cc cp ck ⊢
  have HL2 : Hid (∀ W, Below w.heap.size w W → HasRts W (.slice o n c) l) := by rw [hn]; exact HL
  have hni : (n : Int) ≤ 256 := by omega
  clear hl hf hr hn HL hup
  generalize r.pf.six = s0 at *
  generalize (hiN r.pf.n : Int) = s1 at *
  generalize (loN r.pf.n : Int) = s2 at *
  generalize r.pf.len = s3 at *
  generalize (r.act.k : Int) = s4 at *
  generalize r.act.i = s5 at *
  go_enter Try.func9, Try.ntmps9
  go_upto_region 1 with fail
  rw [← hX]
  clear hX
  go_wp2_with fail
  go_at_call 16; refine (cc _ hB).mono ?_; rintro e w1 ⟨rfl, hb1⟩
  replace r0 := RowAt.below r0 hb1
  replace hB := below2 hB hb1
  obtain ⟨y0, y1, y2, y3, y4, y5⟩ := HCL.out r0
  clear hb1 cc
  go_wp2_with fail
  clear y0 y1 y2 y3 y4 y5
  go_at_call 30; refine (c1 _).mono ?_; rintro e w2 ⟨rfl, hb2⟩
  replace r0 := RowAt.below r0 hb2
  replace hB := below2 hB hb2
  obtain ⟨y0, y1, y2, y3, y4, y5⟩ := HCL.out r0
  clear hb2 c1
  go_wp2_with fail
  clear y0 y1 y2 y3 y4 y5
  go_at_call 31; refine (cp _ hB).mono ?_; rintro e w3 ⟨k, hk, rfl, hb3⟩
  replace r0 := RowAt.below r0 hb3
  replace hB := below2 hB hb3
  clear hb3 cp
  obtain ⟨y0, y1, y2, y3, y4, y5⟩ := HCL.out r0
  have hkn : k ≤ n := by rw [HN.out]; exact hk.1
  have hki : (k : Int) ≤ (n : Int) := by omega
  cases hat : isAt l r.pf k
  · obtain ⟨q1, q2, q3⟩ := HPO.out k hk hat
    by_cases h256 : n = 256
    · have HPV : Hid (PL = (l, 8)) := by show _ = _; rw [HP.out, q3, ← HN.out, if_pos h256]
      clear HP HPA HPO q1 q2 q3 H3
      subst h256
      go_wp2_with fail
      clear y0 y1 y2 y3 y4 y5
      go_at_call 33; refine (ck _ hB).mono ?_; rintro e w4 ⟨u4, rfl, ho4, hb4⟩
      have hh : HasRts w4 u4 l := by have h := hasRow_own ho4; rw [HN.out] at h; exact h
      go_wp2_with fail
      go_ret2
      exact ⟨_, by rw [HPV.out]; rfl, by rw [HPV.out]; exact hh, below2 hB hb4⟩
    · have h256b : ((n : Int) == 256) = false := beq_eq_false_iff_ne.2 (by omega)
      have HPV : Hid (PL = (aheadT l r.pf ++ ([r] ++ behindT l r.pf), 0)) := by show _ = _; rw [HP.out, q3, ← HN.out, if_neg h256, HI.out]
      have hlw := HL2.out _ hB
      clear HP HPA HPO h256 ck
      have hta := hlw.take k (by rw [← HN.out]; exact hkn)
      rw [q1] at hta
      by_cases hck : c = k
      · have hnk : n = k := by omega
        have hbe : behindT l r.pf = [] := by rw [← q2]; exact List.drop_of_length_le (by rw [← HN.out]; omega)
        subst hck hnk
        have hle : HasRts w3 (.slice o 0 0) (behindT l r.pf) := by
          rw [hbe]
          cases o with
          | none => exact Lk.hasRow_nil _ 6
          | some a => exact has_empty _ _ _ (by omega)
        have h3 := H3.out w3.drew _ _ o o n 0 n 0 (by rw [← q1, List.length_take]; have := HN.out; omega) (by rw [hbe]; rfl) hta hle (by omega) (by omega)
        clear hta hle hlw q1 q2 q3 hbe
        have HSK : Hid (∀ W : World, Below w3.heap.size w3 W → W.cell? ⟨w.heap.size, 0, none⟩ = some (.bool s0) ∧ W.cell? ⟨w.heap.size, 1, none⟩ = some (.int .u64 s1) ∧ W.cell? ⟨w.heap.size, 2, none⟩ = some (.int .u64 s2) ∧ W.cell? ⟨w.heap.size, 3, none⟩ = some (.int .i64 s3) ∧ W.cell? ⟨w.heap.size, 4, none⟩ = some (.int .u8 s4) ∧ W.cell? ⟨w.heap.size, 5, none⟩ = some (.int .i64 s5)) := fun W hb => HCL.out (RowAt.below r0 hb)
        have hbA : Below w3.heap.size w3 w3 := Below.refl _ _
        have hd0 : ¬ False := id
        clear HL2 H3
        go_wp2_with fail
        clear y0 y1 y2 y3 y4 y5 r0
        go_region_held3 (fun W => W.cell? ⟨w.heap.size, 0, none⟩ = some (.bool s0) ∧ W.cell? ⟨w.heap.size, 1, none⟩ = some (.int .u64 s1) ∧ W.cell? ⟨w.heap.size, 2, none⟩ = some (.int .u64 s2) ∧ W.cell? ⟨w.heap.size, 3, none⟩ = some (.int .i64 s3) ∧ W.cell? ⟨w.heap.size, 4, none⟩ = some (.int .u8 s4) ∧ W.cell? ⟨w.heap.size, 5, none⟩ = some (.int .i64 s5))
          (first
            | (refine HSK.out _ ?_
               repeat' (first | with_reducible exact hbA | with_reducible apply below_drew | with_reducible apply below_new)))
          (first
            | (go_at_call 32; refine (h3 : Calls _ _ _ _ _).mono ?_; rintro e w4 ⟨u4, rfl, hh4, hb4⟩
               have hbN : Below w3.heap.size w3 w4 := below2 (below_drew hbA) hb4
               clear hbA
               have hbA := hbN
               clear hbN))
        all_goals go_wp2_with fail
        all_goals go_ret2
        all_goals exact ⟨_, by rw [HPV.out]; rfl, by rw [HPV.out]; exact hh4, below2 hB hbA⟩
      · by_cases hn0 : n = 0
        · have hk0 : k = 0 := by omega
          have hbe : behindT l r.pf = [] := by rw [← q2]; exact List.drop_of_length_le (by rw [← HN.out]; omega)
          obtain ⟨a, rfl⟩ : ∃ a, o = some a := by
            cases o with
            | some a => exact ⟨a, rfl⟩
            | none =>
              exfalso
              rcases hlw.2 with ⟨e, _⟩ | ⟨a, cap, e, _⟩
              · injection e with _ _ e
                omega
              · cases e
          subst hn0 hk0
          have hle : ∀ a', HasRts w3 (.slice (some a') 0 c) (behindT l r.pf) := fun a' => by rw [hbe]; exact has_empty _ _ _ hc2
          have h3 := fun a' => H3.out w3.drew _ _ (some a) (some a') 0 0 c c (by rw [← q1, List.length_take]; have := HN.out; omega) (by rw [hbe]; rfl) hta (hle a') (by omega) (by omega)
          clear hta hle hlw q1 q2 q3 hbe
          have HSK : Hid (∀ W : World, Below w3.heap.size w3 W → W.cell? ⟨w.heap.size, 0, none⟩ = some (.bool s0) ∧ W.cell? ⟨w.heap.size, 1, none⟩ = some (.int .u64 s1) ∧ W.cell? ⟨w.heap.size, 2, none⟩ = some (.int .u64 s2) ∧ W.cell? ⟨w.heap.size, 3, none⟩ = some (.int .i64 s3) ∧ W.cell? ⟨w.heap.size, 4, none⟩ = some (.int .u8 s4) ∧ W.cell? ⟨w.heap.size, 5, none⟩ = some (.int .i64 s5)) := fun W hb => HCL.out (RowAt.below r0 hb)
          have hbA : Below w3.heap.size w3 w3 := Below.refl _ _
          have hd0 : ¬ False := id
          clear HL2 H3
          go_wp2_with fail
          clear y0 y1 y2 y3 y4 y5 r0
          go_region_held3 (fun W => W.cell? ⟨w.heap.size, 0, none⟩ = some (.bool s0) ∧ W.cell? ⟨w.heap.size, 1, none⟩ = some (.int .u64 s1) ∧ W.cell? ⟨w.heap.size, 2, none⟩ = some (.int .u64 s2) ∧ W.cell? ⟨w.heap.size, 3, none⟩ = some (.int .i64 s3) ∧ W.cell? ⟨w.heap.size, 4, none⟩ = some (.int .u8 s4) ∧ W.cell? ⟨w.heap.size, 5, none⟩ = some (.int .i64 s5))
            (first
              | (refine HSK.out _ ?_
                 repeat' (first | with_reducible exact hbA | with_reducible apply below_drew | with_reducible apply below_new)))
            (first
              | (go_at_call 32; refine (h3 _).mono ?_; rintro e w4 ⟨u4, rfl, hh4, hb4⟩
                 have hbN : Below w3.heap.size w3 w4 := below2 (below_drew hbA) hb4
                 clear hbA
                 have hbA := hbN
                 clear hbN))
          all_goals go_wp2_with fail
          all_goals go_ret2
          all_goals exact ⟨_, by rw [HPV.out]; rfl, by rw [HPV.out]; exact hh4, below2 hB hbA⟩
        obtain ⟨b, i, rfl⟩ : ∃ b i, o = some ⟨b, i, none⟩ := by
          obtain ⟨_, b, i, e, _⟩ := Lk.HasRow.at hlw (by rw [← HN.out]; omega)
          exact ⟨b, i, e⟩
        have hkc : (k : Int) ≤ (c : Int) := by omega
        have hdr := hlw.drop k (by rw [← HN.out]; exact hkn)
        rw [q2, ← HN.out] at hdr
        have h3 := H3.out w3.drew _ _ _ _ k (n - k) c (c - k) (by rw [← q1, List.length_take]; have := HN.out; omega) (by rw [← q2, List.length_drop, ← HN.out]) hta hdr (by omega) (by omega)
        clear hta hdr hlw q1 q2 q3
        have HSK : Hid (∀ W : World, Below w3.heap.size w3 W → W.cell? ⟨w.heap.size, 0, none⟩ = some (.bool s0) ∧ W.cell? ⟨w.heap.size, 1, none⟩ = some (.int .u64 s1) ∧ W.cell? ⟨w.heap.size, 2, none⟩ = some (.int .u64 s2) ∧ W.cell? ⟨w.heap.size, 3, none⟩ = some (.int .i64 s3) ∧ W.cell? ⟨w.heap.size, 4, none⟩ = some (.int .u8 s4) ∧ W.cell? ⟨w.heap.size, 5, none⟩ = some (.int .i64 s5)) := fun W hb => HCL.out (RowAt.below r0 hb)
        have hbA : Below w3.heap.size w3 w3 := Below.refl _ _
        have hd0 : ¬ False := id
        clear HL2 H3
        go_wp2_with fail
        clear y0 y1 y2 y3 y4 y5 r0
        go_region_held3 (fun W => W.cell? ⟨w.heap.size, 0, none⟩ = some (.bool s0) ∧ W.cell? ⟨w.heap.size, 1, none⟩ = some (.int .u64 s1) ∧ W.cell? ⟨w.heap.size, 2, none⟩ = some (.int .u64 s2) ∧ W.cell? ⟨w.heap.size, 3, none⟩ = some (.int .i64 s3) ∧ W.cell? ⟨w.heap.size, 4, none⟩ = some (.int .u8 s4) ∧ W.cell? ⟨w.heap.size, 5, none⟩ = some (.int .i64 s5))
          (first
            | (refine HSK.out _ ?_
               repeat' (first | with_reducible exact hbA | with_reducible apply below_drew | with_reducible apply below_new)))
          (first
            | (go_at_call 32; refine (h3 : Calls _ _ _ _ _).mono ?_; rintro e w4 ⟨u4, rfl, hh4, hb4⟩
               have hbN : Below w3.heap.size w3 w4 := below2 (below_drew hbA) hb4
               clear hbA
               have hbA := hbN
               clear hbN))
        all_goals go_wp2_with fail
        all_goals go_ret2
        all_goals exact ⟨_, by rw [HPV.out]; rfl, by rw [HPV.out]; exact hh4, below2 hB hbA⟩
  · obtain ⟨hkl, q0, q1, q2, q3⟩ := HPA.out k hk hat
    have hkn2 : k < n := by rw [HN.out]; exact hkl
    have ho : (othersT l r.pf).length ≠ 256 := by rw [q3, List.length_append, List.length_take, List.length_drop, ← HN.out]; omega
    have HPV : Hid (PL = (aheadT l r.pf ++ ([r] ++ behindT l r.pf), 0)) := by show _ = _; rw [HP.out, if_neg ho, HI.out]
    have hlw := HL2.out _ hB
    clear HP HPA HPO ck ho q0 q3
    obtain ⟨b, i, rfl⟩ : ∃ b i, o = some ⟨b, i, none⟩ := by
      obtain ⟨_, b, i, e, _⟩ := Lk.HasRow.at hlw (by rw [← HN.out]; omega)
      exact ⟨b, i, e⟩
    have hta := hlw.take k (by rw [← HN.out]; exact hkn)
    rw [q1] at hta
    have hkc : (k : Int) ≤ (c : Int) := by omega
    have hk1n : (k : Int) + 1 ≤ (n : Int) := by omega
    have hk1c : (k : Int) + 1 ≤ (c : Int) := by omega
    have hk10 : (0 : Int) ≤ (k : Int) + 1 := by omega
    have hw1 : IntKind.i64.wrap ((k : Int) + 1) = (k : Int) + 1 := by rw [IntKind.wrap_i64]; omega
    have htn : ((k : Int) + 1).toNat = k + 1 := by omega
    by_cases hck : c = k + 1
    · have hnk : n = k + 1 := by omega
      have hbe : behindT l r.pf = [] := by rw [← q2]; exact List.drop_of_length_le (by rw [← HN.out]; omega)
      have hle : ∀ a' c', c' ≤ 9223372036854775807 → HasRts w3 (.slice (some a') 0 c') (behindT l r.pf) := fun a' c' h => by rw [hbe]; exact has_empty _ _ _ h
      subst hck hnk
      have hkk : (k : Int) ≤ (k : Int) + 1 := by omega
      have h3 := fun a' => H3.out w3.drew _ _ (some ⟨b, i, none⟩) (some a') k 0 (k + 1) 0 (by rw [← q1, List.length_take]; have := HN.out; omega) (by rw [hbe]; rfl) hta (hle a' 0 (by omega)) (by omega) (by omega)
      clear hta hle hlw q1 q2 hbe
      have HSK : Hid (∀ W : World, Below w3.heap.size w3 W → W.cell? ⟨w.heap.size, 0, none⟩ = some (.bool s0) ∧ W.cell? ⟨w.heap.size, 1, none⟩ = some (.int .u64 s1) ∧ W.cell? ⟨w.heap.size, 2, none⟩ = some (.int .u64 s2) ∧ W.cell? ⟨w.heap.size, 3, none⟩ = some (.int .i64 s3) ∧ W.cell? ⟨w.heap.size, 4, none⟩ = some (.int .u8 s4) ∧ W.cell? ⟨w.heap.size, 5, none⟩ = some (.int .i64 s5)) := fun W hb => HCL.out (RowAt.below r0 hb)
      have hbA : Below w3.heap.size w3 w3 := Below.refl _ _
      have hd0 : ¬ False := id
      clear HL2 H3
      go_wp2_with fail
      clear y0 y1 y2 y3 y4 y5 r0
      go_region_held3 (fun W => W.cell? ⟨w.heap.size, 0, none⟩ = some (.bool s0) ∧ W.cell? ⟨w.heap.size, 1, none⟩ = some (.int .u64 s1) ∧ W.cell? ⟨w.heap.size, 2, none⟩ = some (.int .u64 s2) ∧ W.cell? ⟨w.heap.size, 3, none⟩ = some (.int .i64 s3) ∧ W.cell? ⟨w.heap.size, 4, none⟩ = some (.int .u8 s4) ∧ W.cell? ⟨w.heap.size, 5, none⟩ = some (.int .i64 s5))
        (first
          | (refine HSK.out _ ?_
             repeat' (first | with_reducible exact hbA | with_reducible apply below_drew | with_reducible apply below_new)))
        (first
          | (go_at_call 32; refine (h3 _).mono ?_; rintro e w4 ⟨u4, rfl, hh4, hb4⟩
             have hbN : Below w3.heap.size w3 w4 := below2 (below_drew hbA) hb4
             clear hbA
             have hbA := hbN
             clear hbN))
      all_goals go_wp2_with fail
      all_goals go_ret2
      all_goals exact ⟨_, by rw [HPV.out]; rfl, by rw [HPV.out]; exact hh4, below2 hB hbA⟩
    · have hdr := hlw.drop (k + 1) (by rw [← HN.out]; exact hkn2)
      rw [q2, ← HN.out] at hdr
      have h3 := H3.out w3.drew _ _ _ _ k (n - (k + 1)) c (c - (k + 1)) (by rw [← q1, List.length_take]; have := HN.out; omega) (by rw [← q2, List.length_drop, ← HN.out]) hta hdr (by omega) (by omega)
      clear hta hdr hlw q1 q2
      have HSK : Hid (∀ W : World, Below w3.heap.size w3 W → W.cell? ⟨w.heap.size, 0, none⟩ = some (.bool s0) ∧ W.cell? ⟨w.heap.size, 1, none⟩ = some (.int .u64 s1) ∧ W.cell? ⟨w.heap.size, 2, none⟩ = some (.int .u64 s2) ∧ W.cell? ⟨w.heap.size, 3, none⟩ = some (.int .i64 s3) ∧ W.cell? ⟨w.heap.size, 4, none⟩ = some (.int .u8 s4) ∧ W.cell? ⟨w.heap.size, 5, none⟩ = some (.int .i64 s5)) := fun W hb => HCL.out (RowAt.below r0 hb)
      have hbA : Below w3.heap.size w3 w3 := Below.refl _ _
      have hd0 : ¬ False := id
      clear HL2 H3
      go_wp2_with fail
      clear y0 y1 y2 y3 y4 y5 r0
      go_region_held3 (fun W => W.cell? ⟨w.heap.size, 0, none⟩ = some (.bool s0) ∧ W.cell? ⟨w.heap.size, 1, none⟩ = some (.int .u64 s1) ∧ W.cell? ⟨w.heap.size, 2, none⟩ = some (.int .u64 s2) ∧ W.cell? ⟨w.heap.size, 3, none⟩ = some (.int .i64 s3) ∧ W.cell? ⟨w.heap.size, 4, none⟩ = some (.int .u8 s4) ∧ W.cell? ⟨w.heap.size, 5, none⟩ = some (.int .i64 s5))
        (first
          | (refine HSK.out _ ?_
             repeat' (first | with_reducible exact hbA | with_reducible apply below_drew | with_reducible apply below_new)))
        (first
          | (go_at_call 32; refine (h3 : Calls _ _ _ _ _).mono ?_; rintro e w4 ⟨u4, rfl, hh4, hb4⟩
             have hbN : Below w3.heap.size w3 w4 := below2 (below_drew hbA) hb4
             clear hbA
             have hbA := hbN
             clear hbN))
      all_goals go_wp2_with fail
      all_goals go_ret2
      all_goals exact ⟨_, by rw [HPV.out]; rfl, by rw [HPV.out]; exact hh4, below2 hB hbA⟩
end Go.Proofs.Ytjgieaijdkmadaa.Tr

