/- The document's answer of routers: Check, Does, Hop. -/
import Derived.Test.YtpooiehhepimkaaMsgChk
import Derived.Test.YtpooiehhepimkaaTrCheck
import Derived.Test.YtpooiehhepimkaaAddrRF
import Derived.Test.YtpooiehhepimkaaTrFY
import Derived.Test.YtpooiehhepimkaaTrFZ
import Derived.Test.YtpooiehhepimkaaAddrHalves
import Derived.Laws.ResultCell
import Derived.Test.YtpooiehhepimkaaFibZ
import Derived.Test.YtpooiehhepimkaaFibLZ
import Derived.Test.YtpooiehhepimkaaLkFZ
set_option linter.unusedVariables false
namespace Go.Proofs.Ytpooiehhepimkaa.Msg
open Go.RowKit
open Go.Proofs.Ytpooiehhepimkaa.Addr (Pf okP checkP wideN firstN kP hiN loN adV pfV RowAt below2 below_drew below_new bset RowAt.lt RowAt.cell RowAt.frozen RowAt.below RowAt.drew RowAt.new RowAt.alloc gdrew gset gbelow galloc grefl cells2 cells4 results_cell)

set_option maxHeartbeats 2000000 in
theorem acts_any (a : Ac) (w : World) (hf : FitA a) : Calls Try.prog 84 #[acV a] w fun e w' => e = .returned (.bool (okA a)) ∧ Below w.heap.size w w' := by
  have hk : okA a = if (a.k : Int) = 1 then (decide (0 ≤ a.i) && decide (a.i ≤ 65536)) else ((decide ((a.k : Int) = 2) || decide ((a.k : Int) = 3)) && decide (a.i = 0)) := by
    rw [Bool.eq_iff_iff]
    unfold okA
    split <;> simp only [Bool.and_eq_true, Bool.or_eq_true, decide_eq_true_eq] <;> omega
  rw [hk]
  unfold acV
  clear hk hf
  generalize (a.k : Int) = k
  generalize a.i = i
  by_cases h1 : k = 1
  · subst h1
    rw [if_pos rfl]
    cases h2 : decide (0 ≤ i)
    all_goals
      go_enter Try.func84, Try.ntmps84
      go_upto_region 1 with fail
      obtain ⟨Y1, hY⟩ : ∃ Y1, Y1 = w.alloc (.cells #[.int .u8 1, .int .i64 i] 42) := ⟨_, rfl⟩
      have hbY : Below w.heap.size w Y1 := by rw [hY]; exact below_new (Below.refl _ _) _
      have ra : RowAt Y1 w.heap.size [.int .u8 1, .int .i64 i] 42 := by rw [hY]; exact RowAt.new _ _ _
      rw [← hY]
      clear hY
      obtain ⟨u0, u1, uf⟩ := cells2 ra
      go_wp2_with fail
      go_ret
      exact ⟨by simp_all, hbY⟩
  · have h1' : (k == 1) = false := beq_eq_false_iff_ne.2 h1
    rw [if_neg h1]
    by_cases h2 : k = 2
    · subst h2
      cases h3 : decide (i = 0)
      all_goals
        go_enter Try.func84, Try.ntmps84
        go_upto_region 1 with fail
        obtain ⟨Y1, hY⟩ : ∃ Y1, Y1 = w.alloc (.cells #[.int .u8 2, .int .i64 i] 42) := ⟨_, rfl⟩
        have hbY : Below w.heap.size w Y1 := by rw [hY]; exact below_new (Below.refl _ _) _
        have ra : RowAt Y1 w.heap.size [.int .u8 2, .int .i64 i] 42 := by rw [hY]; exact RowAt.new _ _ _
        rw [← hY]
        clear hY
        obtain ⟨u0, u1, uf⟩ := cells2 ra
        go_wp2_with fail
        go_ret
        exact ⟨by simp_all, hbY⟩
    · have h2' : (k == 2) = false := beq_eq_false_iff_ne.2 h2
      by_cases h3 : k = 3
      · subst h3
        cases h4 : decide (i = 0)
        all_goals
          go_enter Try.func84, Try.ntmps84
          go_upto_region 1 with fail
          obtain ⟨Y1, hY⟩ : ∃ Y1, Y1 = w.alloc (.cells #[.int .u8 3, .int .i64 i] 42) := ⟨_, rfl⟩
          have hbY : Below w.heap.size w Y1 := by rw [hY]; exact below_new (Below.refl _ _) _
          have ra : RowAt Y1 w.heap.size [.int .u8 3, .int .i64 i] 42 := by rw [hY]; exact RowAt.new _ _ _
          rw [← hY]
          clear hY
          obtain ⟨u0, u1, uf⟩ := cells2 ra
          go_wp2_with fail
          go_ret
          exact ⟨by simp_all, hbY⟩
      · have h3' : (k == 3) = false := beq_eq_false_iff_ne.2 h3
        go_enter Try.func84, Try.ntmps84
        go_upto_region 1 with fail
        obtain ⟨Y1, hY⟩ : ∃ Y1, Y1 = w.alloc (.cells #[.int .u8 k, .int .i64 i] 42) := ⟨_, rfl⟩
        have hbY : Below w.heap.size w Y1 := by rw [hY]; exact below_new (Below.refl _ _) _
        have ra : RowAt Y1 w.heap.size [.int .u8 k, .int .i64 i] 42 := by rw [hY]; exact RowAt.new _ _ _
        rw [← hY]
        clear hY
        obtain ⟨u0, u1, uf⟩ := cells2 ra
        go_wp2_with fail
        go_ret
        exact ⟨by simp_all, hbY⟩
end Go.Proofs.Ytpooiehhepimkaa.Msg
namespace Go.Proofs.Ytpooiehhepimkaa.Tr
open Go.RowKit
open Go.Proofs.Ytpooiehhepimkaa.Msg (Ac okA FitA)
open Go.Proofs.Ytpooiehhepimkaa.Lk (HasRow)
open Go.Proofs.Ytpooiehhepimkaa.Addr (Pf okP checkP cmpN hiN loN pfV adV RowAt below2 below_drew below_new bset RowAt.lt RowAt.cell RowAt.frozen RowAt.below RowAt.drew RowAt.new RowAt.alloc cells2 cells4 Bl bl_ne wp_region_bl bl_call bl_same)
theorem less_swap (p q : Pf) : decide (ordP p q < 0) = !decide (ordP q p ≤ 0) := by
  have h1 := ordP_lt p q
  have h2 := ordP_gt q p
  by_cases h : ltP p q
  · rw [decide_eq_true (h1.2 h), decide_eq_false (by have := h2.2 h; omega)]; rfl
  · rw [decide_eq_false (fun c => h (h1.1 c)), decide_eq_true (by rcases Int.lt_or_le 0 (ordP q p) with c | c; exact absurd (h2.1 c) h; exact c)]; rfl
set_option maxHeartbeats 2000000 in
theorem one_any (r : Rt) (w : World) (hf : FitR r) : Calls Try.prog 60 #[.agg #[.bool r.pf.six, .int .u64 (hiN r.pf.n : Int), .int .u64 (loN r.pf.n : Int), .int .i64 r.pf.len, .int .u8 (r.act.k : Int), .int .i64 r.act.i]] w fun e w' => e = .returned (.bool (okR r)) ∧ Below w.heap.size w w' := by
  have c1 : ∀ W, Calls Try.prog 83 #[.agg #[.bool r.pf.six, .int .u64 (hiN r.pf.n : Int), .int .u64 (loN r.pf.n : Int), .int .i64 r.pf.len]] W fun e w' => e = .returned (.int .i64 (if okP r.pf then 0 else 2)) ∧ Below W.heap.size W w' := fun W => Addr.rcheck_any r.pf W hf.1.1 hf.1.2
  have c2 : ∀ W, Calls Try.prog 84 #[.agg #[.int .u8 (r.act.k : Int), .int .i64 r.act.i]] W fun e w' => e = .returned (.bool (okA r.act)) ∧ Below W.heap.size W w' := fun W => Msg.acts_any r.act W hf.2
  have hR : okR r = (okP r.pf && okA r.act) := rfl
  rw [hR]
  generalize okP r.pf = kp at c1 ⊢
  generalize okA r.act = ka at c2 ⊢
  generalize r.pf.six = z0 at *
  generalize (hiN r.pf.n : Int) = z1 at *
  generalize (loN r.pf.n : Int) = z2 at *
  generalize r.pf.len = z3 at *
  generalize (r.act.k : Int) = z4 at *
  generalize r.act.i = z5 at *
  clear hf
  obtain ⟨X, hX⟩ : ∃ X, X = w.alloc (.cells #[.bool z0, .int .u64 z1, .int .u64 z2, .int .i64 z3, .int .u8 z4, .int .i64 z5] 55) := ⟨_, rfl⟩
  have hB : Below w.heap.size w X := by rw [hX]; exact below_new (Below.refl _ _) _
  have r0 : RowAt X w.heap.size [.bool z0, .int .u64 z1, .int .u64 z2, .int .i64 z3, .int .u8 z4, .int .i64 z5] 55 := by rw [hX]; exact RowAt.new _ _ _
  go_enter Try.func60, Try.ntmps60
  go_upto_region 1 with fail
  rw [← hX]
  clear hX
  have s0 := RowAt.cell r0 0
  have s1 := RowAt.cell r0 1
  have s2 := RowAt.cell r0 2
  have s3 := RowAt.cell r0 3
  simp only [List.getElem?_cons_succ, List.getElem?_cons_zero] at s0 s1 s2 s3
  go_wp2_with fail
  clear s0 s1 s2 s3
  go_at_call 83; refine (c1 _).mono ?_; rintro e w1 ⟨rfl, hb1⟩
  replace hB := below2 hB hb1
  replace r0 := RowAt.below r0 hb1
  clear hb1 c1
  cases kp
  · go_wp2_with fail
    go_ret
    exact ⟨rfl, hB⟩
  · have s4 := RowAt.cell r0 4
    have s5 := RowAt.cell r0 5
    simp only [List.getElem?_cons_succ, List.getElem?_cons_zero] at s4 s5
    go_wp2_with fail
    clear s4 s5
    go_at_call 84; refine (c2 _).mono ?_; rintro e w2 ⟨rfl, hb2⟩
    replace hB := below2 hB hb2
    go_wp2_with fail
    go_ret
    exact ⟨by cases ka <;> rfl, hB⟩
set_option maxHeartbeats 2000000 in
theorem less_any (p q : Pf) (w : World) (hp : FitP p) (hq : FitP q) : Calls Try.prog 61 #[.agg #[.bool p.six, .int .u64 (hiN p.n : Int), .int .u64 (loN p.n : Int), .int .i64 p.len], .agg #[.bool q.six, .int .u64 (hiN q.n : Int), .int .u64 (loN q.n : Int), .int .i64 q.len]] w fun e w' => e = .returned (.bool (decide (ordP p q < 0))) ∧ Below w.heap.size w w' := by
  have c1 : ∀ W, Calls Try.prog 85 #[.agg #[.int .u64 (hiN p.n : Int), .int .u64 (loN p.n : Int)], .agg #[.int .u64 (hiN q.n : Int), .int .u64 (loN q.n : Int)]] W fun e w' => e = .returned (.int .i64 (cmpN p.n q.n)) ∧ Below W.heap.size W w' := fun W => Addr.rcmp_any p.n q.n W hp.2 hq.2
  have HR : Hid (decide (ordP p q < 0) = if p.six = q.six then (decide (cmpN p.n q.n < 0) || (decide (cmpN p.n q.n = 0) && decide (p.len < q.len))) else q.six) := by
    show _ = _
    unfold ordP cmpN cmpI kindN
    cases p.six <;> cases q.six <;> simp <;> (repeat' split) <;> simp_all <;> omega
  generalize decide (ordP p q < 0) = D at HR ⊢
  generalize cmpN p.n q.n = C at c1 HR
  generalize p.six = ps at *
  generalize q.six = qs at *
  generalize (hiN p.n : Int) = p1 at *
  generalize (loN p.n : Int) = p2 at *
  generalize (hiN q.n : Int) = q1 at *
  generalize (loN q.n : Int) = q2 at *
  generalize p.len = pl at *
  generalize q.len = ql at *
  clear hp hq
  obtain ⟨X, hX⟩ : ∃ X, X = (w.alloc (.cells #[.bool ps, .int .u64 p1, .int .u64 p2, .int .i64 pl] 39)).alloc (.cells #[.bool qs, .int .u64 q1, .int .u64 q2, .int .i64 ql] 39) := ⟨_, rfl⟩
  have hB : Below w.heap.size w X := by rw [hX]; exact below_new (below_new (Below.refl _ _) _) _
  have r0 : RowAt X w.heap.size [.bool ps, .int .u64 p1, .int .u64 p2, .int .i64 pl] 39 := by rw [hX]; exact (RowAt.new _ _ _).alloc _
  have r1 : RowAt X (w.heap.size + 1) [.bool qs, .int .u64 q1, .int .u64 q2, .int .i64 ql] 39 := by rw [hX, ← World.size_alloc w (.cells #[.bool ps, .int .u64 p1, .int .u64 p2, .int .i64 pl] 39)]; exact RowAt.new _ _ _
  obtain ⟨a0, a1, a2, a3, af⟩ := cells4 r0
  obtain ⟨b0, b1, b2, b3, bf⟩ := cells4 r1
  by_cases hs : ps = qs
  · have HV : Hid (D = (decide (C < 0) || (decide (C = 0) && decide (pl < ql)))) := by show _ = _; rw [HR.out, if_pos hs]
    clear HR
    subst hs
    go_enter Try.func61, Try.ntmps61
    go_upto_region 1 with fail
    rw [← hX]
    clear hX
    go_wp2_with fail
    clear a0 a1 a2 a3 af b0 b1 b2 b3 bf
    go_at_call 85; refine (c1 _).mono ?_; rintro e w1 ⟨rfl, hb1⟩
    replace hB := below2 hB hb1
    obtain ⟨a0, a1, a2, a3, af⟩ := cells4 (RowAt.below r0 hb1)
    obtain ⟨b0, b1, b2, b3, bf⟩ := cells4 (RowAt.below r1 hb1)
    clear hb1 c1 r0 r1
    by_cases hC : C < 0
    · have HW : Hid (D = true) := by show _ = _; rw [HV.out, decide_eq_true hC]; rfl
      have hCb : decide (C < 0) = true := decide_eq_true hC
      clear HV hC
      go_wp2_with fail
      go_ret
      exact ⟨by rw [HW.out]; rfl, hB⟩
    · have hCb : decide (C < 0) = false := decide_eq_false hC
      by_cases hC0 : C = 0
      · have HW : Hid (D = decide (pl < ql)) := by show _ = _; rw [HV.out, decide_eq_false hC, decide_eq_true hC0]; simp
        have hCe : (C == 0) = true := by simpa using hC0
        clear HV hC hC0
        go_wp2_with fail
        go_ret
        exact ⟨by rw [HW.out]; rfl, hB⟩
      · have HW : Hid (D = false) := by show _ = _; rw [HV.out, decide_eq_false hC, decide_eq_false hC0]; simp
        have hCe : (C == 0) = false := by simpa using hC0
        clear HV hC hC0
        go_wp2_with fail
        go_ret
        exact ⟨by rw [HW.out]; rfl, hB⟩
  · have HV : Hid (D = qs) := by show _ = _; rw [HR.out, if_neg hs]
    clear HR
    cases ps <;> cases qs
    any_goals exact absurd rfl hs
    all_goals clear hs
    all_goals go_enter Try.func61, Try.ntmps61
    all_goals go_upto_region 1 with fail
    all_goals rw [← hX]
    all_goals clear hX
    all_goals go_wp2_with fail
    all_goals go_ret
    all_goals exact ⟨by rw [HV.out]; rfl, hB⟩
set_option maxHeartbeats 8000000 in
set_option maxRecDepth 20000 in
theorem rcheck_any (l : List Rt) (v : Value) (w : World) (h : HasRts w v l) (hfit : ∀ r ∈ l, FitR r) :
    Calls Try.prog 37 #[v] w fun e w' => e = .returned (.int .i64 (checkT l)) ∧ Below w.heap.size w w' := by
  obtain ⟨o, c, rfl, hc1, hc2⟩ := Lk.HasRow.slice h
  have HR : Hid (∀ wr : World, Below w.heap.size w wr → HasRts wr (.slice o l.length c) l) := fun wr hb => h.keep hb
  obtain ⟨n, hn⟩ : ∃ n, n = l.length := ⟨_, rfl⟩
  have HN : Hid (n = l.length) := hn
  rw [← hn] at HR hc1 ⊢
  have HC : Hid (checkT l = if (decide (n ≤ 256) && rise none l) then 0 else 2) := by show _ = _; unfold checkT okT; rw [← hn]
  generalize checkT l = R at HC ⊢
  clear h hn
  by_cases h256 : 256 < n
  · have HV : Hid (R = 2) := by show _ = _; rw [HC.out, decide_eq_false (by omega)]; rfl
    have q1 : decide ((256 : Int) < (n : Int)) = true := decide_eq_true (by omega)
    have q2 : decide (256 < n) = true := decide_eq_true h256
    clear HC HR
    go_enter Try.func37, Try.ntmps37
    go_wp2_with fail
    go_ret
    exact ⟨by first | (rw [HV.out]; rfl) | rfl, Below.refl _ _⟩
  · have HD : Hid (R = if rise none l then 0 else 2) := by show _ = _; rw [HC.out, decide_eq_true (by omega)]; rfl
    have hni : (n : Int) ≤ 256 := by omega
    have q1 : decide ((256 : Int) < (n : Int)) = false := decide_eq_false (by omega)
    have q2 : decide (256 < n) = false := decide_eq_false h256
    clear HC h256
    go_enter Try.func37, Try.ntmps37
    go_wp2_with fail
    go_loopw [10] (fun i wr => ∃ k : Nat, k ≤ n ∧ i = .int .i64 k ∧ Below w.heap.size w wr ∧ Hid (rise none l = rise (prevR l k) (l.drop k))) (fun i _ => n - (Go.RowKit.intOf i).toNat)
    case atStart => exact ⟨0, by omega, rfl, Below.refl _ _, (rfl : rise none l = _)⟩
    case round =>
      obtain ⟨k, hk, rfl, hB, HG⟩ := hrel
      have hh := HR.out _ hB
      by_cases hlt : k < n
      · have hkz : k < l.length := by rw [← HN.out]; exact hlt
        obtain ⟨g1, i1, rfl, hg1, ax⟩ := HasRts.cell hh k hkz
        obtain ⟨a0, a1, a2, a3, a4, a5⟩ := six_at ax
        clear ax
        have hfk := hfit l[k] (List.getElem_mem hkz)
        have cr := fun W : World => one_any l[k] W hfk
        have hki : (k : Int) < (n : Int) := by omega
        have HB1 : Hid (okR l[k] = false → R = 2) := fun h => round_bad hkz HD.out HG.out h
        have HB2 : Hid (okR l[k] = true → k = 0 → rise none l = rise (prevR l 1) (l.drop 1)) := fun h h0 => round_first hkz HG.out h h0
        have HB3 : Hid (okR l[k] = true → ∀ (j : Nat) (hj : j < l.length), k = j + 1 → (decide (ordP l[k].pf l[j].pf ≤ 0) = false → rise none l = rise (prevR l (k + 1)) (l.drop (k + 1))) ∧ (decide (ordP l[k].pf l[j].pf ≤ 0) = true → R = 2)) := fun h j hj h0 => round_next hkz HD.out HG.out h h0 hj
        have HCO : Hid (∀ (j : Nat) (hj : j < l.length) (W : World), Calls Try.prog 61 #[.agg #[.bool l[j].pf.six, .int .u64 (hiN l[j].pf.n : Int), .int .u64 (loN l[j].pf.n : Int), .int .i64 l[j].pf.len], .agg #[.bool l[k].pf.six, .int .u64 (hiN l[k].pf.n : Int), .int .u64 (loN l[k].pf.n : Int), .int .i64 l[k].pf.len]] W fun e w' => e = .returned (.bool (!decide (ordP l[k].pf l[j].pf ≤ 0))) ∧ Below W.heap.size W w') := fun j hj W => by
          have h := less_any l[j].pf l[k].pf W (hfit l[j] (List.getElem_mem hj)).1 hfk.1
          rw [less_swap] at h
          exact h
        clear HG hfk
        generalize okR l[k] = B1 at cr HB1 HB2 HB3
        obtain ⟨rk, hrk⟩ : ∃ rk, rk = l[k] := ⟨_, rfl⟩
        rw [← hrk] at a0 a1 a2 a3 a4 a5 cr HB3 HCO
        clear hrk
        have HPX : Hid (∀ p q, ordP rk.pf q = p → ordP rk.pf q = p) := fun _ _ h => h
        obtain ⟨rp, ra⟩ := rk
        obtain ⟨s0, sn, s3⟩ := rp
        obtain ⟨sk, s5⟩ := ra
        simp only at a0 a1 a2 a3 a4 a5 cr HCO HB3
        generalize (hiN sn : Int) = s1 at a1 cr HCO
        generalize (loN sn : Int) = s2 at a2 cr HCO
        generalize (sk : Int) = s4 at a4 cr
        clear HPX
        go_upto_region 6 with fail
        obtain ⟨X, hX⟩ : ∃ X, X = wr.alloc (.cells #[.bool s0, .int .u64 s1, .int .u64 s2, .int .i64 s3, .int .u8 s4, .int .i64 s5] 55) := ⟨_, rfl⟩
        have hbX : Below wr.heap.size wr X := by rw [hX]; exact below_new (Below.refl _ _) _
        have rx : RowAt X wr.heap.size [.bool s0, .int .u64 s1, .int .u64 s2, .int .i64 s3, .int .u8 s4, .int .i64 s5] 55 := by rw [hX]; exact RowAt.new _ _ _
        rw [← hX]
        have hBX := below2 hB hbX
        have hhX := hh.keep hbX
        clear hX
        obtain ⟨gs, hgs⟩ : ∃ g, g = wr.heap.size := ⟨_, rfl⟩
        rw [← hgs] at rx ⊢
        clear hgs a0 a1 a2 a3 a4 a5 hg1
        have m0 : ∀ p : Bl X, p.W.cell? ⟨gs, 0, none⟩ = some (.bool s0) := fun p => (rx.below p.h).cell 0
        have m1 : ∀ p : Bl X, p.W.cell? ⟨gs, 1, none⟩ = some (.int .u64 s1) := fun p => (rx.below p.h).cell 1
        have m2 : ∀ p : Bl X, p.W.cell? ⟨gs, 2, none⟩ = some (.int .u64 s2) := fun p => (rx.below p.h).cell 2
        have m3 : ∀ p : Bl X, p.W.cell? ⟨gs, 3, none⟩ = some (.int .i64 s3) := fun p => (rx.below p.h).cell 3
        have m4 : ∀ p : Bl X, p.W.cell? ⟨gs, 4, none⟩ = some (.int .u8 s4) := fun p => (rx.below p.h).cell 4
        have m5 : ∀ p : Bl X, p.W.cell? ⟨gs, 5, none⟩ = some (.int .i64 s5) := fun p => (rx.below p.h).cell 5
        haveI := bl_ne X
        cases B1
        · have HV : Hid (R = 2) := HB1.out rfl
          clear HB1 HB2 HB3 HD hh hhX
          refine wp_region_bl (by kernel_rfl) (by kernel_rfl) ?_
          repeat (go_big_quiet_step (first | (go_at_call 60; with_reducible exact bl_call (cr _))))
          refine wpQuiet_nil ?_
          intro wq hw'
          obtain ⟨⟨wz, hq⟩, hw2⟩ := hw'
          subst hw2
          have hW := below2 hBX hq
          go_wp2_with fail
          go_ret
          exact ⟨by first | (rw [HV.out]; rfl) | rfl, hW⟩
        · by_cases hk0 : k = 0
          · have HS1 : Hid (rise none l = rise (prevR l 1) (l.drop 1)) := HB2.out rfl hk0
            clear HB1 HB2 HB3 hh hhX
            have hz1 : decide ((0 : Int) < (k : Int)) = false := decide_eq_false (by omega)
            have hz2 : decide (0 < k) = false := decide_eq_false (by omega)
            have HK : Hid (k = 0) := hk0
            clear hk0
            refine wp_region_bl (by kernel_rfl) (by kernel_rfl) ?_
            repeat (go_big_quiet_step (first | (go_at_call 60; with_reducible exact bl_call (cr _))))
            refine wpQuiet_nil ?_
            intro wq hw'
            obtain ⟨⟨wz, hq⟩, hw2⟩ := hw'
            subst hw2
            have hW := below2 hBX hq
            go_wp2_with fail
            go_roundw
            case rel => exact ⟨k + 1, by omega, by go_num, hW, by rw [HK.out]; exact HS1⟩
            case measure => simp [Go.RowKit.intOf]; omega
          · obtain ⟨j, hj⟩ : ∃ j, k = j + 1 := ⟨k - 1, by omega⟩
            have hj2 : j < l.length := by omega
            obtain ⟨g2, i2, e12, hg2, bx⟩ := HasRts.cell hhX j hj2
            obtain ⟨b0, b1, b2, b3, _, _⟩ := six_at bx
            clear bx
            injection e12 with e12
            injection e12 with e1 e2
            subst e1 e2
            obtain ⟨HN1, HN2⟩ := HB3.out rfl j hj2 hj
            have co := HCO.out j hj2
            clear HCO HB1 HB2 HB3 hh hhX
            generalize ordP ⟨s0, sn, s3⟩ l[j].pf = OR at HN1 HN2 co
            have HN1 : Hid (decide (OR ≤ 0) = false → rise none l = rise (prevR l (k + 1)) (l.drop (k + 1))) := HN1
            have HN2 : Hid (decide (OR ≤ 0) = true → R = 2) := HN2
            generalize l[j].pf.six = t0 at co b0
            generalize (hiN l[j].pf.n : Int) = t1 at co b1
            generalize (loN l[j].pf.n : Int) = t2 at co b2
            generalize l[j].pf.len = t3 at co b3
            have u0 : ∀ p : Bl X, p.W.cell? ⟨g1, i1 + j * 6, none⟩ = some (.bool t0) := fun p => (p.h.cell (p := ⟨g1, i1 + j * 6, none⟩) hg2).trans b0
            have u1 : ∀ p : Bl X, p.W.cell? ⟨g1, i1 + j * 6 + 1, none⟩ = some (.int .u64 t1) := fun p => (p.h.cell (p := ⟨g1, i1 + j * 6 + 1, none⟩) hg2).trans b1
            have u2 : ∀ p : Bl X, p.W.cell? ⟨g1, i1 + j * 6 + 2, none⟩ = some (.int .u64 t2) := fun p => (p.h.cell (p := ⟨g1, i1 + j * 6 + 2, none⟩) hg2).trans b2
            have u3 : ∀ p : Bl X, p.W.cell? ⟨g1, i1 + j * 6 + 3, none⟩ = some (.int .i64 t3) := fun p => (p.h.cell (p := ⟨g1, i1 + j * 6 + 3, none⟩) hg2).trans b3
            clear b0 b1 b2 b3 hg2
            have e1 : (k : Int) - 1 = (j : Int) := by omega
            have e2 : IntKind.i64.wrap (j : Int) = (j : Int) := by rw [IntKind.wrap_i64]; omega
            have hkp : decide ((0 : Int) < (k : Int)) = true := decide_eq_true (by omega)
            have hkp' : decide (0 < k) = true := decide_eq_true (by omega)
            have hjn : (j : Int) < (n : Int) := by omega
            clear hj hk0
            cases B2 : decide (OR ≤ 0)
            · rw [B2] at co
              simp only [Bool.not_false] at co
              have HS1 : Hid (rise none l = rise (prevR l (k + 1)) (l.drop (k + 1))) := HN1.out B2
              clear HN1 HN2
              refine wp_region_bl (by kernel_rfl) (by kernel_rfl) ?_
              repeat (go_big_quiet_step (first | (go_at_call 60; with_reducible exact bl_call (cr _)) | (go_at_call 61; with_reducible exact bl_call (co _))))
              refine wpQuiet_nil ?_
              intro wq hw'
              obtain ⟨⟨wz, hq⟩, hw2⟩ := hw'
              subst hw2
              have hW := below2 hBX hq
              go_wp2_with fail
              go_roundw
              case rel => exact ⟨k + 1, by omega, by go_num, hW, HS1⟩
              case measure => simp [Go.RowKit.intOf]; omega
            · rw [B2] at co
              simp only [Bool.not_true] at co
              have HV : Hid (R = 2) := HN2.out B2
              clear HN1 HN2 HD
              refine wp_region_bl (by kernel_rfl) (by kernel_rfl) ?_
              repeat (go_big_quiet_step (first | (go_at_call 60; with_reducible exact bl_call (cr _)) | (go_at_call 61; with_reducible exact bl_call (co _))))
              refine wpQuiet_nil ?_
              intro wq hw'
              obtain ⟨⟨wz, hq⟩, hw2⟩ := hw'
              subst hw2
              have hW := below2 hBX hq
              go_wp2_with fail
              go_ret
              exact ⟨by first | (rw [HV.out]; rfl) | rfl, hW⟩
      · obtain rfl : k = n := by omega
        have HV : Hid (R = 0) := by
          show _ = _
          rw [HD.out, HG.out, List.drop_of_length_le (by rw [← HN.out]; exact Nat.le_refl _)]
          unfold prevR
          split <;> rfl
        clear hh HG HD
        go_wp2
        go_ret
        exact ⟨by first | (rw [HV.out]; rfl) | rfl, hB⟩
end Go.Proofs.Ytpooiehhepimkaa.Tr
namespace Go.Proofs.Ytpooiehhepimkaa.Tr
open Go.RowKit
open Go.Proofs.Ytpooiehhepimkaa.Msg (Ac okA FitA)
open Go.Proofs.Ytpooiehhepimkaa.Lk (HasRow)
open Go.Proofs.Ytpooiehhepimkaa.Addr (Pf okP hasB cmpN hiN loN pfV adV RowAt below2 below_drew below_new bset gset grefl RowAt.gkeep RowAt.lt RowAt.cell RowAt.frozen RowAt.below RowAt.drew RowAt.new RowAt.alloc RowAt.set1 RowAt.far1 cells2 cells4)
def startR : Rt := ⟨⟨false, 0, -1⟩, ⟨0, 0⟩⟩
def stepR (six : Bool) (a : Nat) (b r : Rt) : Rt := if decide (b.pf.len < r.pf.len) && hasB r.pf six a then r else b
def bestF (six : Bool) (a : Nat) (l : List Rt) : Rt := l.foldl (stepR six a) startR
def bestT (l : List Rt) (six : Bool) (a : Nat) : Rt × Bool := if (bestF six a l).pf.len < 0 then (zeroR, false) else (bestF six a l, true)
theorem best_last {six : Bool} {a : Nat} : ∀ (l : List Rt), Up l → bestF six a l = (l.filter (hasR six a)).getLast?.getD startR := by
  intro l
  unfold bestF
  rw [← List.reverse_reverse l]
  generalize l.reverse = m
  induction m with
  | nil => intro _; rfl
  | cons r m ih =>
    intro hu
    rw [List.reverse_cons] at hu ⊢
    have hp := List.pairwise_append.1 hu
    have ih := ih hp.1
    rw [List.foldl_append, ih, List.filter_append]
    show stepR six a _ r = _
    unfold stepR
    cases hh : hasB r.pf six a with
    | false =>
      rw [Bool.and_false, List.filter_cons_of_neg (by unfold hasR; rw [hh]; simp)]
      simp
    | true =>
      rw [List.filter_cons_of_pos (by unfold hasR; exact hh), List.filter_nil]
      have hlt : ((m.reverse.filter (hasR six a)).getLast?.getD startR).pf.len < r.pf.len := by
        cases hL : (m.reverse.filter (hasR six a)).getLast? with
        | none =>
          have := (ok_parts (has_ok hh)).1
          show (-1 : Int) < _
          omega
        | some y =>
          have hy := List.mem_of_getLast? hL
          obtain ⟨h1, h2⟩ := List.mem_filter.1 hy
          exact (later_long (hp.2.2 y h1 r (by simp)) h2 hh).1
      rw [decide_eq_true hlt]
      simp
theorem best_long {l : List Rt} {six : Bool} {a : Nat} (hl : okT l = true) (ha : Addr.rightB six a = true) : bestT l six a = ((longT l six a).1, decide ((longT l six a).2 = 0)) := by
  have hu := ((okT_iff l).1 hl).2.2
  have hok := ((okT_iff l).1 hl).2.1
  unfold bestT longT
  rw [best_last l hu, hl, ha]
  simp only [Bool.and_self, if_true]
  unfold lastR codeR
  cases hL : (l.filter (hasR six a)).getLast? with
  | none =>
    have he := List.getLast?_eq_none_iff.1 hL
    rw [he]
    rfl
  | some y =>
    have hy := List.mem_of_getLast? hL
    obtain ⟨h1, h2⟩ := List.mem_filter.1 hy
    have h3 := (ok_parts (has_ok h2)).1
    have hne : (l.filter (hasR six a)).length ≠ 0 := fun e => by
      rw [List.length_eq_zero_iff] at e
      rw [e] at hy
      cases hy
    simp only [Option.getD_some]
    rw [if_neg (by omega), if_neg hne]
    rfl
theorem bestF_fit {l : List Rt} (hf : ∀ x ∈ l, FitR x) (six : Bool) (a : Nat) : FitR (bestF six a l) := by
  unfold bestF
  have h0 : FitR startR := ⟨⟨by decide, by decide⟩, by decide, by decide, by decide⟩
  generalize startR = s at h0
  induction l generalizing s with
  | nil => exact h0
  | cons r l ih =>
    refine ih (fun x hx => hf x (List.mem_cons_of_mem _ hx)) _ ?_
    unfold stepR
    split
    · exact hf r List.mem_cons_self
    · exact h0
theorem set6_row {W : World} {B : Nat} {c0 c1 c2 c3 c4 c5 : Value} {t : TypeId} (h : RowAt W B [c0, c1, c2, c3, c4, c5] t) (x0 x1 x2 x3 x4 x5 : Value) : RowAt ((((((W.setCell ⟨B, 0, none⟩ x0).setCell ⟨B, 1, none⟩ x1).setCell ⟨B, 2, none⟩ x2).setCell ⟨B, 3, none⟩ x3).setCell ⟨B, 4, none⟩ x4).setCell ⟨B, 5, none⟩ x5) B [x0, x1, x2, x3, x4, x5] t := (((((h.set1 0 x0).set1 1 x1).set1 2 x2).set1 3 x3).set1 4 x4).set1 5 x5
theorem set6_bl {b0 B : Nat} {w0 W : World} (h : Below b0 w0 W) (hb : b0 ≤ B) (x0 x1 x2 x3 x4 x5 : Value) : Below b0 w0 ((((((W.setCell ⟨B, 0, none⟩ x0).setCell ⟨B, 1, none⟩ x1).setCell ⟨B, 2, none⟩ x2).setCell ⟨B, 3, none⟩ x3).setCell ⟨B, 4, none⟩ x4).setCell ⟨B, 5, none⟩ x5) := bset (bset (bset (bset (bset (bset h hb) hb) hb) hb) hb) hb
theorem six_of {W : World} {B : Nat} {c0 c1 c2 c3 c4 c5 : Value} {t : TypeId} (h : RowAt W B [c0, c1, c2, c3, c4, c5] t) : W.cell? ⟨B, 0, none⟩ = some c0 ∧ W.cell? ⟨B, 1, none⟩ = some c1 ∧ W.cell? ⟨B, 2, none⟩ = some c2 ∧ W.cell? ⟨B, 3, none⟩ = some c3 ∧ W.cell? ⟨B, 4, none⟩ = some c4 ∧ W.cell? ⟨B, 5, none⟩ = some c5 ∧ ∀ k, W.frozen? ⟨B, k, none⟩ = false := ⟨h.cell 0, h.cell 1, h.cell 2, h.cell 3, h.cell 4, h.cell 5, h.frozen⟩
/-- the box of the best route, and what lies ahead of it -/
structure BestI (g : Nat) (V W : World) (r : Rt) : Prop where
  row : RowAt W g [.bool r.pf.six, .int .u64 (hiN r.pf.n : Int), .int .u64 (loN r.pf.n : Int), .int .i64 r.pf.len, .int .u8 (r.act.k : Int), .int .i64 r.act.i] 55
  bel : Below g V W
set_option maxHeartbeats 8000000 in
set_option maxRecDepth 20000 in
theorem best_any (l : List Rt) (v : Value) (six : Bool) (a : Nat) (w : World) (hl : HasRts w v l) (hf : ∀ x ∈ l, FitR x) (ha : a < 2 ^ 128) :
    Calls Try.prog 39 #[v, .bool six, .agg #[.int .u64 (hiN a : Int), .int .u64 (loN a : Int)]] w fun e w' => e = .returned (.tuple #[rtA (bestT l six a).1, .bool (bestT l six a).2]) ∧ Below w.heap.size w w' := by
  obtain ⟨o, c, rfl, hc1, hc2⟩ := Lk.HasRow.slice hl
  have HL : Hid (∀ W, Below w.heap.size w W → HasRts W (.slice o l.length c) l) := fun W hb => hl.keep hb
  have HHas : Hid (∀ (r : Rt), r ∈ l → ∀ W, Calls Try.prog 63 #[.agg #[.bool r.pf.six, .int .u64 (hiN r.pf.n : Int), .int .u64 (loN r.pf.n : Int), .int .i64 r.pf.len], .bool six, .agg #[.int .u64 (hiN a : Int), .int .u64 (loN a : Int)]] W fun e w' => e = .returned (.bool (hasB r.pf six a)) ∧ Below W.heap.size W w') := fun r hr W => Addr.rhas_any r.pf six a W (hf r hr).1.1 (hf r hr).1.2 ha
  have HT : Hid (bestT l six a = if (bestF six a l).pf.len < 0 then (zeroR, false) else (bestF six a l, true)) := rfl
  generalize bestT l six a = T at HT ⊢
  obtain ⟨n, hn⟩ : ∃ n, n = l.length := ⟨_, rfl⟩
  have HN : Hid (n = l.length) := hn
  rw [← hn] at HL hc1 ⊢
  have hni : (n : Int) ≤ 9223372036854775807 := by omega
  clear hl hf ha hn
  obtain ⟨ah, hah⟩ : ∃ x : Int, x = (hiN a : Int) := ⟨_, rfl⟩
  obtain ⟨al, hal⟩ : ∃ x : Int, x = (loN a : Int) := ⟨_, rfl⟩
  rw [← hah, ← hal] at HHas ⊢
  clear hah hal
  obtain ⟨X, hX⟩ : ∃ X, X = ((w.alloc (.cells #[.int .u64 ah, .int .u64 al] 28)).alloc (.cells #[.bool false, .int .u64 0, .int .u64 0, .int .i64 0, .int .u8 0, .int .i64 0] 55)).alloc (.cells #[.bool false, .int .u64 0, .int .u64 0, .int .i64 (-1), .int .u8 0, .int .i64 0] 55) := ⟨_, rfl⟩
  have hB : Below w.heap.size w X := by rw [hX]; exact below_new (below_new (below_new (Below.refl _ _) _) _) _
  have r0 : RowAt X w.heap.size [.int .u64 ah, .int .u64 al] 28 := by rw [hX]; exact ((RowAt.new _ _ _).alloc _).alloc _
  have r1 : RowAt X (w.heap.size + 1) [.bool false, .int .u64 0, .int .u64 0, .int .i64 0, .int .u8 0, .int .i64 0] 55 := by rw [hX, ← World.size_alloc w (.cells #[.int .u64 ah, .int .u64 al] 28)]; exact (RowAt.new _ _ _).alloc _
  have r2 : RowAt X (w.heap.size + 2) [.bool false, .int .u64 0, .int .u64 0, .int .i64 (-1), .int .u8 0, .int .i64 0] 55 := by rw [hX, show w.heap.size + 2 = ((w.alloc (.cells #[.int .u64 ah, .int .u64 al] 28)).alloc (.cells #[.bool false, .int .u64 0, .int .u64 0, .int .i64 0, .int .u8 0, .int .i64 0] 55)).heap.size by simp]; exact RowAt.new _ _ _
  have HI0 : Hid (BestI (w.heap.size + 2) X X (bestF six a (l.take 0))) := ⟨by
    show RowAt X _ [.bool false, .int .u64 ((hiN 0 : Nat) : Int), .int .u64 ((loN 0 : Nat) : Int), .int .i64 (-1), .int .u8 ((0 : Nat) : Int), .int .i64 0] _
    rw [Msg.hi0, Msg.lo0]
    exact r2, Below.refl _ _⟩
  obtain ⟨g, hg⟩ : ∃ g, g = w.heap.size + 2 := ⟨_, rfl⟩
  have hg0 : w.heap.size < g := by omega
  have hg1 : w.heap.size + 1 < g := by omega
  have hge : w.heap.size ≤ g := by omega
  rw [← hg] at HI0
  clear r2
  go_enter Try.func39, Try.ntmps39
  go_upto_region 2 with fail
  rw [← hX]
  rw [show w.heap.size + 1 + 1 = w.heap.size + 2 from rfl, ← hg]
  clear hX hg
  go_wp2_with fail
  go_loopw [15] (fun i wr => ∃ k : Nat, k ≤ n ∧ i = .int .i64 k ∧ Hid (BestI g X wr (bestF six a (l.take k)))) (fun i _ => n - (Go.RowKit.intOf i).toNat)
  case atStart => exact ⟨0, by omega, rfl, HI0⟩
  case round =>
    obtain ⟨k, hk, rfl, HI⟩ := hrel
    have hBr : Below w.heap.size w wr := hB.trans (HI.out.bel.mono hge)
    by_cases hlt : k < n
    · have hkz : k < l.length := by rw [← HN.out]; exact hlt
      obtain ⟨g1, i1, rfl, hg1', ax⟩ := HasRts.cell (HL.out _ hBr) k hkz
      obtain ⟨a0, a1, a2, a3, a4, a5⟩ := six_at ax
      clear ax
      have HS : Hid (bestF six a (l.take (k + 1)) = stepR six a (bestF six a (l.take k)) l[k]) := by
        show _ = _
        unfold bestF
        rw [List.take_succ_eq_append_getElem hkz, List.foldl_append]
        rfl
      have cH := HHas.out l[k] (List.getElem_mem hkz)
      obtain ⟨nb, hnb⟩ : ∃ nb, nb = bestF six a (l.take (k + 1)) := ⟨_, rfl⟩
      have HNB : Hid (bestF six a (l.take (k + 1)) = nb) := hnb.symm
      replace HS : Hid (nb = stepR six a (bestF six a (l.take k)) l[k]) := hnb.trans HS.out
      clear hnb
      have hrow := HI.out.row
      have hbel := HI.out.bel
      clear HI
      generalize bestF six a (l.take k) = b at HS hrow
      have HS2 : Hid (nb = if decide (b.pf.len < l[k].pf.len) && hasB l[k].pf six a then l[k] else b) := HS.out
      clear HS
      generalize hasB l[k].pf six a = hh at HS2 cH
      have HST : Hid (∀ W, RowAt W g [.bool l[k].pf.six, .int .u64 (hiN l[k].pf.n : Int), .int .u64 (loN l[k].pf.n : Int), .int .i64 l[k].pf.len, .int .u8 (l[k].act.k : Int), .int .i64 l[k].act.i] 55 → Below g X W → BestI g X W l[k]) := fun W a b => ⟨a, b⟩
      have HSB : Hid (∀ W, RowAt W g [.bool b.pf.six, .int .u64 (hiN b.pf.n : Int), .int .u64 (loN b.pf.n : Int), .int .i64 b.pf.len, .int .u8 (b.act.k : Int), .int .i64 b.act.i] 55 → Below g X W → BestI g X W b) := fun W a b => ⟨a, b⟩
      have HSL : Hid (∀ q : Bool, q = decide (b.pf.len < l[k].pf.len) → nb = if q && hh then l[k] else b) := fun q e => by rw [e]; exact HS2.out
      clear HS2
      generalize (hiN b.pf.n : Int) = b1 at hrow HSB
      generalize (loN b.pf.n : Int) = b2 at hrow HSB
      generalize b.pf.six = b0 at hrow HSB
      generalize b.act.i = b5 at hrow HSB
      generalize (b.act.k : Int) = b4 at hrow HSB
      generalize (hiN l[k].pf.n : Int) = s1 at a1 cH HST
      generalize (loN l[k].pf.n : Int) = s2 at a2 cH HST
      generalize l[k].pf.six = s0 at a0 cH HST
      generalize l[k].act.i = s5 at a5 HST
      generalize (l[k].act.k : Int) = s4 at a4 HST
      generalize b.pf.len = b3 at hrow HSB HSL
      generalize l[k].pf.len = s3 at a3 cH HST HSL
      have hki : (k : Int) < (n : Int) := by omega
      obtain ⟨Y, hY⟩ : ∃ Y, Y = wr.alloc (.cells #[.bool s0, .int .u64 s1, .int .u64 s2, .int .i64 s3, .int .u8 s4, .int .i64 s5] 55) := ⟨_, rfl⟩
      have hbY : Below wr.heap.size wr Y := by rw [hY]; exact below_new (Below.refl _ _) _
      have rY : RowAt Y wr.heap.size [.bool s0, .int .u64 s1, .int .u64 s2, .int .i64 s3, .int .u8 s4, .int .i64 s5] 55 := by rw [hY]; exact RowAt.new _ _ _
      have hgw : g < wr.heap.size := hrow.lt
      go_upto_region 5 with fail
      rw [← hY]
      clear hY a0 a1 a2 a3 a4 a5 hg1'
      obtain ⟨gy, hgy⟩ : ∃ gy, gy = wr.heap.size := ⟨_, rfl⟩
      have hne : gy ≠ g := by omega
      rw [← hgy] at rY ⊢
      clear hgy
      have rB := RowAt.below hrow hbY
      have hbG : Below g X Y := hbel.trans (hbY.mono (by omega))
      have rA : RowAt Y w.heap.size [.int .u64 ah, .int .u64 al] 28 := (hbG.block _ hg0).trans r0
      obtain ⟨y0, y1, y2, y3, y4, y5, yf⟩ := six_of rY
      obtain ⟨z0, z1, z2, z3, z4, z5, zf⟩ := six_of rB
      cases hq : decide (b3 < s3)
      · have HE : Hid (nb = b) := HSL.out false (by rw [hq])
        clear HSL
        go_wp2_with fail
        go_roundw
        case rel => exact ⟨k + 1, by omega, by go_num, by show BestI _ _ _ _; rw [HNB.out, HE.out]; exact HSB.out _ rB hbG⟩
        case measure => simp [Go.RowKit.intOf]; omega
      · have HE : Hid (nb = if hh then l[k] else b) := by have := HSL.out true (by rw [hq]); show _ = _; rw [this]; simp
        clear HSL
        obtain ⟨x0, x1, xf⟩ := cells2 rA
        go_wp2_with fail
        clear y0 y1 y2 y3 y4 y5 yf z0 z1 z2 z3 z4 z5 zf x0 x1 xf
        go_at_call 63; refine (cH _).mono ?_; rintro e w3 ⟨rfl, hb3⟩
        have hbG3 : Below g X w3 := hbG.trans (hb3.mono (by have := rB.lt; omega))
        replace rB := RowAt.below rB hb3
        replace rY := RowAt.below rY hb3
        obtain ⟨y0, y1, y2, y3, y4, y5, yf⟩ := six_of rY
        obtain ⟨z0, z1, z2, z3, z4, z5, zf⟩ := six_of rB
        cases hh
        · have HE2 : Hid (nb = b) := HE.out
          clear HE
          go_wp2_with fail
          go_roundw
          case rel => exact ⟨k + 1, by omega, by go_num, by show BestI _ _ _ _; rw [HNB.out, HE2.out]; exact HSB.out _ rB hbG3⟩
          case measure => simp [Go.RowKit.intOf]; omega
        · have HE2 : Hid (nb = l[k]) := HE.out
          clear HE
          go_wp2_with fail
          go_roundw
          case rel => exact ⟨k + 1, by omega, by go_num, by show BestI _ _ _ _; rw [HNB.out, HE2.out]; exact HST.out _ (set6_row rB _ _ _ _ _ _) (set6_bl hbG3 (Nat.le_refl _) _ _ _ _ _ _)⟩
          case measure => simp [Go.RowKit.intOf]; omega
    · have hkn : k = n := by omega
      have HE : Hid (bestF six a (l.take k) = bestF six a l) := by show _ = _; rw [List.take_of_length_le (by rw [← HN.out]; omega)]
      have hrow := HI.out.row
      have hbel := HI.out.bel
      rw [HE.out] at hrow
      clear HI HE hkn
      have hkf : decide ((k : Int) < (n : Int)) = false := decide_eq_false (by omega)
      have HT2 : Hid (∀ q : Bool, q = decide ((bestF six a l).pf.len < 0) → T = if q then (zeroR, false) else (bestF six a l, true)) := fun q e => by rw [e, HT.out]; by_cases h : (bestF six a l).pf.len < 0 <;> simp [h]
      have HV : Hid (rtA (bestF six a l) = rtA (bestF six a l)) := rfl
      have hV : rtA (bestF six a l) = .agg #[.bool (bestF six a l).pf.six, .int .u64 (hiN (bestF six a l).pf.n : Int), .int .u64 (loN (bestF six a l).pf.n : Int), .int .i64 (bestF six a l).pf.len, .int .u8 ((bestF six a l).act.k : Int), .int .i64 (bestF six a l).act.i] := rfl
      clear HT HV
      generalize bestF six a l = b at hrow HT2 hV
      have HV : Hid (rtA b = .agg #[.bool b.pf.six, .int .u64 (hiN b.pf.n : Int), .int .u64 (loN b.pf.n : Int), .int .i64 b.pf.len, .int .u8 (b.act.k : Int), .int .i64 b.act.i]) := hV
      clear hV
      generalize (hiN b.pf.n : Int) = b1 at hrow HV
      generalize (loN b.pf.n : Int) = b2 at hrow HV
      generalize b.pf.six = b0 at hrow HV
      generalize b.act.i = b5 at hrow HV
      generalize (b.act.k : Int) = b4 at hrow HV
      generalize b.pf.len = b3 at hrow HV HT2
      have rR : RowAt wr (w.heap.size + 1) [.bool false, .int .u64 0, .int .u64 0, .int .i64 0, .int .u8 0, .int .i64 0] 55 := (hbel.block _ hg1).trans r1
      obtain ⟨z0, z1, z2, z3, z4, z5, zf⟩ := six_of hrow
      obtain ⟨y0, y1, y2, y3, y4, y5, yf⟩ := six_of rR
      cases hq : decide (b3 < 0)
      · have HW : Hid (T = (b, true)) := HT2.out false (by rw [hq])
        clear HT2
        go_wp2_with fail
        (try simp only [Exit.inBlock, Exit.then])
        refine bodyPost_ret (v := .tuple #[.agg #[.bool b0, .int .u64 b1, .int .u64 b2, .int .i64 b3, .int .u8 b4, .int .i64 b5], .bool true]) ?_ rfl ⟨by rw [HW.out]; show _ = Ending.returned (.tuple #[rtA b, .bool true]); rw [HV.out], ?_⟩
        · rw [results_cell_tmp rfl]
          go_simp
        · exact set6_bl hBr (by omega) _ _ _ _ _ _
      · have HW : Hid (T = (zeroR, false)) := HT2.out true (by rw [hq])
        clear HT2
        go_wp2_with fail
        (try simp only [Exit.inBlock, Exit.then])
        refine bodyPost_ret (v := .tuple #[.agg #[.bool false, .int .u64 0, .int .u64 0, .int .i64 0, .int .u8 0, .int .i64 0], .bool false]) ?_ rfl ⟨by rw [HW.out]; show _ = Ending.returned (.tuple #[rtA zeroR, .bool false]); unfold rtA zeroR; simp only [Msg.hi0, Msg.lo0]; rfl, ?_⟩
        · rw [results_cell_tmp rfl]
          go_simp
        · exact set6_bl hBr (by omega) _ _ _ _ _ _
end Go.Proofs.Ytpooiehhepimkaa.Tr
namespace Go.Proofs.Ytpooiehhepimkaa.Fib
open Go.RowKit
open Go.Proofs.Ytpooiehhepimkaa.Addr (Pf hiN loN rightB RowAt below2 below_drew below_new RowAt.lt RowAt.cell RowAt.frozen RowAt.below RowAt.drew RowAt.new RowAt.alloc RowAt.set1 RowAt.far1 cells4 cells2 gset grefl bset gbelow gdrew RowAt.gkeep results_cell)
open Go.Proofs.Ytpooiehhepimkaa.Msg (Ev Ac okE FitE evV evC checkE FitA)
open Go.Proofs.Ytpooiehhepimkaa.Lk (Lk HasLks HasLks.keep FitL peerL okL)
open Go.Proofs.Ytpooiehhepimkaa.Tr (Rt HasRts HasRts.keep FitR longT rtA bestT okT)
set_option maxHeartbeats 4000000 in
set_option maxRecDepth 20000 in
theorem rcheck_any (R : Ro) (a b : Value) (w : World) (ha : HasRts w a R.rts) (hb : HasLks w b R.lks) (hf : ∀ x ∈ R.rts, FitR x) :
    Calls Try.prog 18 #[.agg #[.int .i64 R.id, .bool R.up, a, b]] w fun e w' => e = .returned (.int .i64 (checkRo R)) ∧ Below w.heap.size w w' := by
  obtain ⟨o2, m2, rfl, hm2⟩ := Lk.HasRow.slice ha
  obtain ⟨o3, m3, rfl, hm3⟩ := Lk.HasRow.slice hb
  have c1 := fun W (h : HasRts W (.slice o2 R.rts.length m2) R.rts) => Tr.rcheck_any R.rts _ W h hf
  have c2 := fun W (h : HasLks W (.slice o3 R.lks.length m3) R.lks) => Lk.rcheck_any R.lks _ W h
  have hT : okT R.rts = true → R.rts.length ≤ 256 := fun h => ((Tr.okT_iff _).1 h).1
  have hL : okL R.lks = true → R.lks.length ≤ 32 := fun h => Lk.okL_len2 h
  have e1 : Tr.checkT R.rts = if okT R.rts then 0 else 2 := rfl
  have e2 : Lk.checkL R.lks = if okL R.lks then 0 else 2 := rfl
  have e3 : checkRo R = if (decide (0 ≤ R.id) && decide (R.id ≤ 1048576)) && okT R.rts && okL R.lks && (R.up || decide (R.rts.length + R.lks.length = 0)) then 0 else 2 := rfl
  rw [e1] at c1
  rw [e2] at c2
  generalize checkRo R = C at e3 ⊢
  obtain ⟨id, up, rts, lks⟩ := R
  simp only at ha hb c1 c2 hT hL e3 hm2 hm3
  generalize okT rts = kt at c1 hT e3
  generalize okL lks = kl at c2 hL e3
  generalize rts.length = n2 at *
  generalize lks.length = n3 at *
  have HC : Hid (C = if (decide (0 ≤ id) && decide (id ≤ 1048576)) && kt && kl && (up || decide (n2 + n3 = 0)) then 0 else 2) := e3
  clear e1 e2 e3 hf
  obtain ⟨X, hX⟩ : ∃ X, X = w.alloc (.cells #[.int .i64 id, .bool up, .slice o2 n2 m2, .slice o3 n3 m3] 25) := ⟨_, rfl⟩
  have hB : Below w.heap.size w X := by rw [hX]; exact below_new (Below.refl _ _) _
  have r0 : RowAt X w.heap.size [.int .i64 id, .bool up, .slice o2 n2 m2, .slice o3 n3 m3] 25 := by rw [hX]; exact RowAt.new _ _ _
  replace ha := ha.keep hB
  replace hb := hb.keep hB
  show Calls Try.prog 18 #[.agg #[.int .i64 id, .bool up, .slice o2 n2 m2, .slice o3 n3 m3]] w _
  by_cases h1 : id < 0
  · have HV : Hid (C = 2) := by show _ = _; rw [HC.out, decide_eq_false (by omega)]; rfl
    have hq : decide (id < 0) = true := decide_eq_true h1
    clear HC h1
    go_enter Try.func18, Try.ntmps18
    go_upto_region 1 with fail
    rw [← hX]
    clear hX
    obtain ⟨p0, p1, p2, p3, pf0⟩ := cells4 r0
    go_wp2_with fail
    go_ret
    exact ⟨by rw [HV.out]; rfl, hB⟩
  have hq1 : decide (id < 0) = false := decide_eq_false h1
  by_cases h2 : 1048576 < id
  · have HV : Hid (C = 2) := by show _ = _; rw [HC.out, decide_eq_false (show ¬ id ≤ 1048576 by omega)]; simp
    have hq2 : decide (1048576 < id) = true := decide_eq_true h2
    clear HC h1 h2
    go_enter Try.func18, Try.ntmps18
    go_upto_region 1 with fail
    rw [← hX]
    clear hX
    obtain ⟨p0, p1, p2, p3, pf0⟩ := cells4 r0
    go_wp2_with fail
    go_ret
    exact ⟨by rw [HV.out]; rfl, hB⟩
  have hq2 : decide (1048576 < id) = false := decide_eq_false h2
  have HD : Hid (C = if kt && kl && (up || decide (n2 + n3 = 0)) then 0 else 2) := by show _ = _; rw [HC.out, decide_eq_true (show 0 ≤ id by omega), decide_eq_true (show id ≤ 1048576 by omega)]; rfl
  clear HC h1 h2
  go_enter Try.func18, Try.ntmps18
  go_upto_region 1 with fail
  rw [← hX]
  clear hX
  obtain ⟨p0, p1, p2, p3, pf0⟩ := cells4 r0
  go_wp2_with fail
  clear p0 p1 p2 p3 pf0
  go_at_call 37; refine (c1 _ ha).mono ?_; rintro e w1 ⟨rfl, hb1⟩
  replace hB := below2 hB hb1
  replace hb := hb.keep hb1
  replace r0 := RowAt.below r0 hb1
  clear hb1 c1 ha
  cases kt
  · have HV : Hid (C = 2) := HD.out
    clear HD
    go_wp2_with fail
    go_ret
    exact ⟨by rw [HV.out]; rfl, hB⟩
  obtain ⟨p0, p1, p2, p3, pf0⟩ := cells4 r0
  go_wp2_with fail
  clear p0 p1 p2 p3 pf0
  go_at_call 38; refine (c2 _ hb).mono ?_; rintro e w2 ⟨rfl, hb2⟩
  replace hB := below2 hB hb2
  replace r0 := RowAt.below r0 hb2
  clear hb2 c2 hb
  cases kl
  · have HV : Hid (C = 2) := HD.out
    clear HD
    go_wp2_with fail
    go_ret
    exact ⟨by rw [HV.out]; rfl, hB⟩
  replace hT := hT (by first | rfl | trivial)
  replace hL := hL (by first | rfl | trivial)
  have hw : IntKind.i64.wrap ((n2 : Int) + (n3 : Int)) = (n2 : Int) + (n3 : Int) := by rw [IntKind.wrap_i64]; omega
  obtain ⟨p0, p1, p2, p3, pf0⟩ := cells4 r0
  cases up
  · by_cases hs : n2 + n3 = 0
    · have HV : Hid (C = 0) := by show _ = _; rw [HD.out, decide_eq_true hs]; rfl
      have hsb : decide ((0 : Int) < (n2 : Int) + (n3 : Int)) = false := decide_eq_false (by omega)
      clear HD hs
      go_wp2_with fail
      go_ret
      exact ⟨by rw [HV.out]; rfl, hB⟩
    · have HV : Hid (C = 2) := by show _ = _; rw [HD.out, decide_eq_false hs]; rfl
      have hsb : decide ((0 : Int) < (n2 : Int) + (n3 : Int)) = true := decide_eq_true (by omega)
      clear HD hs
      go_wp2_with fail
      go_ret
      exact ⟨by rw [HV.out]; rfl, hB⟩
  · have HV : Hid (C = 0) := HD.out
    clear HD
    go_wp2_with fail
    go_ret
    exact ⟨by rw [HV.out]; rfl, hB⟩
set_option maxHeartbeats 8000000 in
set_option maxRecDepth 20000 in
theorem does_walk (id : Int) (up : Bool) (rts : List Rt) (lks : List Lk) (o2 o3 : Option Addr) (n2 n3 m2 m3 : Nat) (six : Bool) (ah al : Int) (x0 : Bool) (x1 x2 x3 x4 x5 : Int) (is : Bool) (D : Nat × Int) (w : World) (ha0 : HasRts w (.slice o2 n2 m2) rts) (hb0 : HasLks w (.slice o3 n3 m3) lks) (hn3 : n3 = lks.length) (hm3 : (n3 : Int) ≤ 9223372036854775807)
    (cB : ∀ W, HasRts W (.slice o2 n2 m2) rts → Calls Try.prog 39 #[.slice o2 n2 m2, .bool six, .agg #[.int .u64 ah, .int .u64 al]] W fun e w' => e = .returned (.tuple #[.agg #[.bool x0, .int .u64 x1, .int .u64 x2, .int .i64 x3, .int .u8 x4, .int .i64 x5], .bool is]) ∧ Below W.heap.size W w')
    (H0 : is = false → Hid (D = (0, 0))) (H2 : is = true → x4 = 2 → Hid (D = (2, 0))) (H3 : is = true → x4 = 3 → Hid (D = (3, 0))) (HF : is = true → ¬ x4 = 2 → ¬ x4 = 3 → Hid (∀ k (hk : k < lks.length), lks[k].iface = x5 → (∀ j (hj : j < lks.length), j < k → lks[j].iface ≠ x5) → D = (1, lks[k].peer))) (HN : is = true → ¬ x4 = 2 → ¬ x4 = 3 → Hid ((∀ y ∈ lks, y.iface ≠ x5) → D = (0, 0))) :
    Calls Try.prog 20 #[.agg #[.int .i64 id, .bool up, .slice o2 n2 m2, .slice o3 n3 m3], .bool six, .agg #[.int .u64 ah, .int .u64 al]] w fun e w' => e = .returned (.agg #[.int .u8 (D.1 : Int), .int .i64 D.2]) ∧ Below w.heap.size w w' := by
  have HN3 : Hid (n3 = lks.length) := hn3
  clear hn3
  have hB := Below.refl w.heap.size w
  go_enter Try.func20, Try.ntmps20
  obtain ⟨Y1, hY⟩ : ∃ Y, Y = (((w.alloc (.cells #[.int .i64 id, .bool up, .slice o2 n2 m2, .slice o3 n3 m3] 25)).alloc (.cells #[.int .u64 ah, .int .u64 al] 28)).alloc (.cells #[.int .u8 0, .int .i64 0] 31)) := ⟨_, rfl⟩
  have hbY : Below w.heap.size w Y1 := by rw [hY]; exact below_new (below_new (below_new (Below.refl _ _) _) _) _
  have hle : w.heap.size ≤ w.heap.size := hB.size
  obtain ⟨gr, hgr⟩ : ∃ g, g = w.heap.size := ⟨_, rfl⟩
  have rr : RowAt Y1 gr [.int .i64 id, .bool up, .slice o2 n2 m2, .slice o3 n3 m3] 25 := by
    have h := ((RowAt.new w [.int .i64 id, .bool up, .slice o2 n2 m2, .slice o3 n3 m3] 25).alloc (.cells #[.int .u64 ah, .int .u64 al] 28)).alloc (.cells #[.int .u8 0, .int .i64 0] 31)
    rw [hgr, hY]; exact h
  have ler : w.heap.size ≤ gr := by omega
  obtain ⟨ga, hga⟩ : ∃ g, g = w.heap.size + 1 := ⟨_, rfl⟩
  have ra : RowAt Y1 ga [.int .u64 ah, .int .u64 al] 28 := by
    have h := (RowAt.new (w.alloc (.cells #[.int .i64 id, .bool up, .slice o2 n2 m2, .slice o3 n3 m3] 25)) [.int .u64 ah, .int .u64 al] 28).alloc (.cells #[.int .u8 0, .int .i64 0] 31)
    simp only [World.size_alloc] at h
    rw [hga, hY]; exact h
  have lea : w.heap.size ≤ ga := by omega
  have nera : gr ≠ ga := by omega
  obtain ⟨gh, hgh⟩ : ∃ g, g = w.heap.size + 1 + 1 := ⟨_, rfl⟩
  have rh : RowAt Y1 gh [.int .u8 0, .int .i64 0] 31 := by
    have h := RowAt.new ((w.alloc (.cells #[.int .i64 id, .bool up, .slice o2 n2 m2, .slice o3 n3 m3] 25)).alloc (.cells #[.int .u64 ah, .int .u64 al] 28)) [.int .u8 0, .int .i64 0] 31
    simp only [World.size_alloc] at h
    rw [hgh, hY]; exact h
  have leh : w.heap.size ≤ gh := by omega
  have nerh : gr ≠ gh := by omega
  have neah : ga ≠ gh := by omega
  replace ha0 := ha0.keep hbY
  replace hb0 := hb0.keep hbY
  replace hB := below2 hB hbY
  go_upto_region 1 with fail
  rw [← hY, ← hgh, ← hga, ← hgr]
  clear hY hbY hle hgr hga hgh
  obtain ⟨r0, r1, r2, r3, rf⟩ := cells4 rr
  obtain ⟨a0, a1, af⟩ := cells2 ra
  go_wp2_with fail
  clear r0 r1 r2 r3 rf a0 a1 af
  go_at_call 39; refine (cB _ ha0).mono ?_; rintro e w2 ⟨rfl, hb⟩
  replace rr := RowAt.below rr hb
  replace ra := RowAt.below ra hb
  replace rh := RowAt.below rh hb
  replace ha0 := ha0.keep hb
  replace hb0 := hb0.keep hb
  replace hB := below2 hB hb
  clear hb
  obtain ⟨Y3, hY⟩ : ∃ Y, Y = (w2.alloc (.cells #[.bool x0, .int .u64 x1, .int .u64 x2, .int .i64 x3, .int .u8 x4, .int .i64 x5] 55)) := ⟨_, rfl⟩
  have hbY : Below w2.heap.size w2 Y3 := by rw [hY]; exact below_new (Below.refl _ _) _
  have hle : w.heap.size ≤ w2.heap.size := hB.size
  obtain ⟨gx, hgx⟩ : ∃ g, g = w2.heap.size := ⟨_, rfl⟩
  have rx : RowAt Y3 gx [.bool x0, .int .u64 x1, .int .u64 x2, .int .i64 x3, .int .u8 x4, .int .i64 x5] 55 := by
    have h := RowAt.new w2 [.bool x0, .int .u64 x1, .int .u64 x2, .int .i64 x3, .int .u8 x4, .int .i64 x5] 55
    rw [hgx, hY]; exact h
  have lex : w.heap.size ≤ gx := by omega
  have nerx : gr ≠ gx := by have := RowAt.lt rr; omega
  have neax : ga ≠ gx := by have := RowAt.lt ra; omega
  have nehx : gh ≠ gx := by have := RowAt.lt rh; omega
  replace rr := RowAt.below rr hbY
  replace ra := RowAt.below ra hbY
  replace rh := RowAt.below rh hbY
  replace ha0 := ha0.keep hbY
  replace hb0 := hb0.keep hbY
  replace hB := below2 hB hbY
  go_upto_region 2 with fail
  rw [← hY, ← hgx]
  clear hY hbY hle hgx
  clear ra ha0
  cases is
  · have HV := H0 rfl
    clear H0 H2 H3 HF HN
    obtain ⟨h0, h1, hf⟩ := cells2 rh
    go_wp2_with fail
    (try simp only [Exit.inBlock, Exit.then])
    refine bodyPost_ret (v := .agg #[.int .u8 0, .int .i64 0]) ?_ rfl ⟨by rw [HV.out]; rfl, ?_⟩
    · rw [results_cell rfl]
      go_simp
    · exact set2_bl hB leh _ _
  replace H2 := H2 rfl
  replace H3 := H3 rfl
  replace HF := HF rfl
  replace HN := HN rfl
  by_cases h2 : x4 = 2
  · have HV := H2 h2
    clear H0 H2 H3 HF HN
    subst h2
    obtain ⟨h0, h1, hf⟩ := cells2 rh
    have x0 := RowAt.cell rx 0
    have x1 := RowAt.cell rx 1
    have x2 := RowAt.cell rx 2
    have x3 := RowAt.cell rx 3
    have x4 := RowAt.cell rx 4
    have x5 := RowAt.cell rx 5
    have xf := RowAt.frozen rx
    simp only [List.getElem?_cons_succ, List.getElem?_cons_zero] at x0 x1 x2 x3 x4 x5
    go_wp2_with fail
    (try simp only [Exit.inBlock, Exit.then])
    refine bodyPost_ret (v := .agg #[.int .u8 2, .int .i64 0]) ?_ rfl ⟨by rw [HV.out]; rfl, ?_⟩
    · rw [results_cell rfl]
      go_simp
    · exact set2_bl hB leh _ _
  by_cases h3 : x4 = 3
  · have HV := H3 h3
    clear H0 H2 H3 HF HN
    subst h3
    obtain ⟨h0, h1, hf⟩ := cells2 rh
    have x0 := RowAt.cell rx 0
    have x1 := RowAt.cell rx 1
    have x2 := RowAt.cell rx 2
    have x3 := RowAt.cell rx 3
    have x4 := RowAt.cell rx 4
    have x5 := RowAt.cell rx 5
    have xf := RowAt.frozen rx
    simp only [List.getElem?_cons_succ, List.getElem?_cons_zero] at x0 x1 x2 x3 x4 x5
    go_wp2_with fail
    (try simp only [Exit.inBlock, Exit.then])
    refine bodyPost_ret (v := .agg #[.int .u8 3, .int .i64 0]) ?_ rfl ⟨by rw [HV.out]; rfl, ?_⟩
    · rw [results_cell rfl]
      go_simp
    · exact set2_bl hB leh _ _
  replace HF := HF h2 h3
  replace HN := HN h2 h3
  have hx2 : (x4 == 2) = false := beq_eq_false_iff_ne.2 h2
  have hx3 : (x4 == 3) = false := beq_eq_false_iff_ne.2 h3
  clear H0 H2 H3 h2 h3
  obtain ⟨r0, r1, r2, r3, rf⟩ := cells4 rr
  have x0 := RowAt.cell rx 0
  have x1 := RowAt.cell rx 1
  have x2 := RowAt.cell rx 2
  have x3 := RowAt.cell rx 3
  have x4 := RowAt.cell rx 4
  have x5 := RowAt.cell rx 5
  have xf := RowAt.frozen rx
  simp only [List.getElem?_cons_succ, List.getElem?_cons_zero] at x0 x1 x2 x3 x4 x5
  go_wp2_with fail
  clear r0 r1 r2 r3 rf x0 x1 x2 x3 x4 x5 xf
  go_loopw [35] (fun i wr => ∃ k : Nat, k ≤ n3 ∧ i = .int .i64 k ∧ Hid (Below Y3.heap.size Y3 wr ∧ ∀ j (h : j < lks.length), j < k → lks[j].iface ≠ x5)) (fun i _ => n3 - (intOf i).toNat)
  case atStart => exact ⟨0, by omega, rfl, Below.refl _ _, fun j h h' => by omega⟩
  case round =>
    obtain ⟨k, hk, rfl, HI⟩ := hrel
    have hbl := HI.out.1
    by_cases hlt : k < n3
    · have hkz : k < lks.length := by rw [← HN3.out]; exact hlt
      obtain ⟨g1, i1, rfl, hgl, l0, l1⟩ := Lk.HasLks.cell (hb0.keep hbl) k hkz
      obtain ⟨q0, hq0⟩ : ∃ p, p = lks[k].iface := ⟨_, rfl⟩
      obtain ⟨q1, hq1⟩ : ∃ p, p = lks[k].peer := ⟨_, rfl⟩
      have HK : Hid (q0 = lks[k].iface ∧ q1 = lks[k].peer) := ⟨hq0, hq1⟩
      rw [← hq0] at l0
      rw [← hq1] at l1
      clear hq0 hq1
      have hki : (k : Int) < (n3 : Int) := by omega
      obtain ⟨Y, hY⟩ : ∃ Y, Y = wr.alloc (.cells #[.int .i64 q0, .int .i64 q1] 53) := ⟨_, rfl⟩
      have hbY : Below wr.heap.size wr Y := by rw [hY]; exact below_new (Below.refl _ _) _
      have rY : RowAt Y wr.heap.size [.int .i64 q0, .int .i64 q1] 53 := by rw [hY]; exact RowAt.new _ _ _
      go_upto_region 11 with fail
      rw [← hY]
      clear hY l0 l1
      have hbn : Below Y3.heap.size Y3 Y := below2 hbl hbY
      obtain ⟨y0, y1, yf⟩ := cells2 rY
      obtain ⟨h0, h1, hf0⟩ := cells2 (RowAt.below rh hbn)
      have s5 := RowAt.cell (RowAt.below rx hbn) 5
      simp only [List.getElem?_cons_succ, List.getElem?_cons_zero] at s5
      have hBn := below2 hB hbn
      by_cases hqq : q0 = x5
      · have HV : Hid (D = (1, q1)) := by
          show _ = _
          rw [HF.out k hkz (HK.out.1.symm.trans hqq) HI.out.2, HK.out.2]
        have hqb : (q0 == x5) = true := by simpa using hqq
        clear hqq HK HF HN HI
        go_wp2_with fail
        (try simp only [Exit.inBlock, Exit.then])
        refine bodyPost_ret (v := .agg #[.int .u8 1, .int .i64 q1]) ?_ rfl ⟨by rw [HV.out]; rfl, ?_⟩
        · rw [results_cell rfl]
          go_simp
        · exact set2_bl hBn leh _ _
      · have hne : lks[k].iface ≠ x5 := fun h => hqq (HK.out.1.trans h)
        have hqb : (q0 == x5) = false := by simpa using hqq
        clear hqq HK
        go_wp2_with fail
        go_roundw
        case rel => exact ⟨k + 1, by omega, by go_num, hbn, fun j h h' => by
          rcases Nat.lt_or_ge j k with h9 | h9
          · exact HI.out.2 j h h9
          · have : j = k := by omega
            subst this; exact hne⟩
        case measure => simp [intOf]; omega
    · have HV : Hid (D = (0, 0)) := HN.out (fun y hy => by
        obtain ⟨j, hj, rfl⟩ := List.getElem_of_mem hy
        exact HI.out.2 j hj (by have := HN3.out; omega))
      have hkf : decide ((k : Int) < (n3 : Int)) = false := decide_eq_false (by omega)
      clear HF HN HI
      have hBn := below2 hB hbl
      obtain ⟨h0, h1, hf0⟩ := cells2 (RowAt.below rh hbl)
      go_wp2_with fail
      (try simp only [Exit.inBlock, Exit.then])
      refine bodyPost_ret (v := .agg #[.int .u8 0, .int .i64 0]) ?_ rfl ⟨by rw [HV.out]; rfl, ?_⟩
      · rw [results_cell rfl]
        go_simp
      · exact set2_bl hBn leh _ _
theorem find_at {l : List Lk} {i : Int} {k : Nat} (hk : k < l.length) (h : l[k].iface = i) (h2 : ∀ j (hj : j < l.length), j < k → l[j].iface ≠ i) : Lk.findL l i = some l[k] := by
  unfold Lk.findL
  rw [List.find?_eq_some_iff_getElem]
  refine ⟨by simpa using h, k, hk, rfl, fun j hj => ?_⟩
  have := h2 j (by omega) hj
  simpa using this
theorem rdoes_any (R : Ro) (six : Bool) (a : Nat) (u v : Value) (w : World) (ha : HasRts w u R.rts) (hb : HasLks w v R.lks) (hf : FitRo R) (hn : a < 2 ^ 128) (hok : okRo R = true) (hr : rightB six a = true) :
    Calls Try.prog 20 #[.agg #[.int .i64 R.id, .bool R.up, u, v], .bool six, .agg #[.int .u64 (hiN a : Int), .int .u64 (loN a : Int)]] w fun e w' => e = .returned (.agg #[.int .u8 ((doesRo R (longT R.rts six a).1.act).1 : Int), .int .i64 (doesRo R (longT R.rts six a).1.act).2]) ∧ Below w.heap.size w w' := by
  obtain ⟨o2, m2, rfl, hm2⟩ := Lk.HasRow.slice ha
  obtain ⟨o3, m3, rfl, hm3⟩ := Lk.HasRow.slice hb
  have cB := fun W (h : HasRts W (.slice o2 R.rts.length m2) R.rts) => Tr.best_any R.rts _ six a W h hf.rts hn
  obtain ⟨h1, h2, h3, h4, h5, h6⟩ := okRo_parts hok
  rw [Tr.best_long h2 hr] at cB
  simp only at cB
  unfold rtA at cB
  have hpe : ∀ i, sendsRo R i = match Lk.findL R.lks i with | some s => (1, s.peer) | none => (0, 0) := fun i => by
    unfold sendsRo peerL
    rw [h3]
    cases Lk.findL R.lks i <;> rfl
  have hact : (longT R.rts six a).2 = 0 → (longT R.rts six a).1 ∈ R.rts ∧ Msg.okA (longT R.rts six a).1.act = true := fun h => by
    have hL : longT R.rts six a = (Tr.lastR (R.rts.filter (Tr.hasR six a)), Tr.codeR (R.rts.filter (Tr.hasR six a))) := by unfold longT; rw [h2, hr]; rfl
    rw [hL] at h ⊢
    simp only at h ⊢
    have hne : R.rts.filter (Tr.hasR six a) ≠ [] := fun e => by rw [e] at h; cases h
    have hmem : Tr.lastR (R.rts.filter (Tr.hasR six a)) ∈ R.rts := by
      unfold Tr.lastR
      rw [List.getLast?_eq_some_getLast hne, Option.getD_some]
      exact (List.mem_filter.1 (List.getLast_mem hne)).1
    refine ⟨hmem, ?_⟩
    have := ((Tr.okT_iff _).1 h2).2.1 _ hmem
    unfold Tr.okR at this
    rw [Bool.and_eq_true] at this
    exact this.2
  have hno : ¬ (longT R.rts six a).2 = 0 → (longT R.rts six a).1.act.k = 0 := fun h => by
    have hL : longT R.rts six a = (Tr.lastR (R.rts.filter (Tr.hasR six a)), Tr.codeR (R.rts.filter (Tr.hasR six a))) := by unfold longT; rw [h2, hr]; rfl
    rw [hL] at h ⊢
    simp only at h ⊢
    unfold Tr.codeR at h
    unfold Tr.lastR
    cases hF : R.rts.filter (Tr.hasR six a) with
    | nil => rfl
    | cons x xs => rw [hF] at h; simp at h
  refine does_walk R.id R.up R.rts R.lks o2 o3 _ _ m2 m3 six _ _ _ _ _ _ _ _ _ _ w ha hb rfl (by omega) cB ?_ ?_ ?_ ?_ ?_
  · intro h
    have := hno (by simpa using h)
    show _ = _
    unfold doesRo
    rw [this]; rfl
  · intro h hk
    have hk : (longT R.rts six a).1.act.k = 2 := by omega
    show _ = _
    unfold doesRo
    rw [hk]; rfl
  · intro h hk
    have hk : (longT R.rts six a).1.act.k = 3 := by omega
    show _ = _
    unfold doesRo
    rw [hk]; rfl
  · intro h k2 k3 k hk e1 e2
    have h0 := (hact (by simpa using h)).2
    have hk1 : (longT R.rts six a).1.act.k = 1 := by
      unfold Msg.okA at h0
      simp only [Bool.and_eq_true, decide_eq_true_eq] at h0
      omega
    unfold doesRo
    rw [if_pos hk1, hpe, find_at hk e1 e2]
  · intro h k2 k3 e2
    have h0 := (hact (by simpa using h)).2
    have hk1 : (longT R.rts six a).1.act.k = 1 := by
      unfold Msg.okA at h0
      simp only [Bool.and_eq_true, decide_eq_true_eq] at h0
      omega
    unfold doesRo
    rw [if_pos hk1, hpe]
    have : Lk.findL R.lks (longT R.rts six a).1.act.i = none := by
      unfold Lk.findL
      rw [List.find?_eq_none]
      intro z hz
      simpa using e2 z hz
    rw [this]
set_option maxHeartbeats 4000000 in
set_option maxRecDepth 20000 in
theorem rhop_any (R : Ro) (six : Bool) (a : Nat) (u v : Value) (w : World) (ha : HasRts w u R.rts) (hb : HasLks w v R.lks) (hf : FitRo R) (hn : a < 2 ^ 128) :
    Calls Try.prog 8 #[.agg #[.int .i64 R.id, .bool R.up, u, v], .bool six, .agg #[.int .u64 (hiN a : Int), .int .u64 (loN a : Int)]] w fun e w' => e = .returned (.tuple #[.agg #[.int .u8 ((hopRo R six a).1.1 : Int), .int .i64 (hopRo R six a).1.2], .int .i64 (hopRo R six a).2]) ∧ Below w.heap.size w w' := by
  obtain ⟨o2, m2, rfl, _⟩ := Lk.HasRow.slice ha
  obtain ⟨o3, m3, rfl, _⟩ := Lk.HasRow.slice hb
  have cC := fun W (h : HasRts W (.slice o2 R.rts.length m2) R.rts) (h' : HasLks W (.slice o3 R.lks.length m3) R.lks) => rcheck_any R _ _ W h h' hf.rts
  have cR : ∀ W, Calls Try.prog 19 #[.bool six, .agg #[.int .u64 (hiN a : Int), .int .u64 (loN a : Int)]] W fun e w' => e = .returned (.bool (rightB six a)) ∧ Below W.heap.size W w' := fun W => Addr.rright_any six a W hn
  have cD := fun W (h : HasRts W (.slice o2 R.rts.length m2) R.rts) (h' : HasLks W (.slice o3 R.lks.length m3) R.lks) e1 e2 => rdoes_any R six a _ _ W h h' hf hn e1 e2
  have hck : checkRo R = if okRo R then 0 else 2 := rfl
  rw [hck] at cC
  clear hck
  have hA : hopRo R six a = if okRo R && rightB six a then (doesRo R (longT R.rts six a).1.act, 0) else ((0, 0), 2) := rfl
  generalize hopRo R six a = A at hA ⊢
  generalize okRo R = kr at hA cC cD
  generalize rightB six a = ka at hA cR cD
  generalize doesRo R (longT R.rts six a).1.act = D at hA cD
  obtain ⟨id, up, rts, lks⟩ := R
  simp only at ha hb cC cD hA
  generalize rts.length = n2 at *
  generalize lks.length = n3 at *
  generalize (hiN a : Int) = ah at *
  generalize (loN a : Int) = al at *
  have HA : Hid (A = if kr && ka then (D, 0) else ((0, 0), 2)) := hA
  clear hA hf hn
  show Calls Try.prog 8 #[.agg #[.int .i64 id, .bool up, .slice o2 n2 m2, .slice o3 n3 m3], .bool six, .agg #[.int .u64 ah, .int .u64 al]] w _
  obtain ⟨X, hX⟩ : ∃ X, X = ((w.alloc (.cells #[.int .i64 id, .bool up, .slice o2 n2 m2, .slice o3 n3 m3] 25)).alloc (.cells #[.int .u64 ah, .int .u64 al] 28)).alloc (.cells #[.int .u8 0, .int .i64 0] 31) := ⟨_, rfl⟩
  have hB : Below w.heap.size w X := by rw [hX]; exact below_new (below_new (below_new (Below.refl _ _) _) _) _
  have r0 : RowAt X w.heap.size [.int .i64 id, .bool up, .slice o2 n2 m2, .slice o3 n3 m3] 25 := by rw [hX]; exact ((RowAt.new _ _ _).alloc _).alloc _
  have r1 : RowAt X (w.heap.size + 1) [.int .u64 ah, .int .u64 al] 28 := by rw [hX, ← World.size_alloc w (.cells #[.int .i64 id, .bool up, .slice o2 n2 m2, .slice o3 n3 m3] 25)]; exact (RowAt.new _ _ _).alloc _
  have r2 : RowAt X (w.heap.size + 2) [.int .u8 0, .int .i64 0] 31 := by rw [hX, show w.heap.size + 2 = ((w.alloc (.cells #[.int .i64 id, .bool up, .slice o2 n2 m2, .slice o3 n3 m3] 25)).alloc (.cells #[.int .u64 ah, .int .u64 al] 28)).heap.size by simp]; exact RowAt.new _ _ _
  replace ha := ha.keep hB
  replace hb := hb.keep hB
  cases kr
  · have HV : Hid (A = ((0, 0), 2)) := HA.out
    clear HA cD cR
    simp only [Bool.false_eq_true, if_false] at cC
    go_enter Try.func8, Try.ntmps8
    go_upto_region 1 with fail
    rw [← hX]
    clear hX
    obtain ⟨p0, p1, p2, p3, pf0⟩ := cells4 r0
    go_wp2_with fail
    clear p0 p1 p2 p3 pf0
    go_at_call 18; refine (cC _ ha hb).mono ?_; rintro x w1 ⟨rfl, hb1⟩
    replace hB := below2 hB hb1
    replace r0 := RowAt.below r0 hb1
    replace r1 := RowAt.below r1 hb1
    replace r2 := RowAt.below r2 hb1
    replace ha := ha.keep hb1
    replace hb := hb.keep hb1
    clear hb1 cC
    obtain ⟨q0, q1, qf⟩ := cells2 r2
    go_wp2_with fail
    (try simp only [Exit.inBlock, Exit.then])
    refine bodyPost_ret (v := .tuple #[.agg #[.int .u8 0, .int .i64 0], .int .i64 2]) ?_ rfl ⟨by rw [HV.out]; rfl, ?_⟩
    · rw [results_cell_tmp rfl]
      go_simp
    · exact set2_bl hB (by omega) _ _
  simp only [if_true] at cC
  cases ka
  · have HV : Hid (A = ((0, 0), 2)) := HA.out
    clear HA cD
    go_enter Try.func8, Try.ntmps8
    go_upto_region 1 with fail
    rw [← hX]
    clear hX
    obtain ⟨p0, p1, p2, p3, pf0⟩ := cells4 r0
    go_wp2_with fail
    clear p0 p1 p2 p3 pf0
    go_at_call 18; refine (cC _ ha hb).mono ?_; rintro x w1 ⟨rfl, hb1⟩
    replace hB := below2 hB hb1
    replace r0 := RowAt.below r0 hb1
    replace r1 := RowAt.below r1 hb1
    replace r2 := RowAt.below r2 hb1
    replace ha := ha.keep hb1
    replace hb := hb.keep hb1
    clear hb1 cC
    obtain ⟨q0, q1, qf⟩ := cells2 r1
    go_wp2_with fail
    clear q0 q1 qf
    go_at_call 19; refine (cR _).mono ?_; rintro x w2 ⟨rfl, hb2⟩
    replace hB := below2 hB hb2
    replace r0 := RowAt.below r0 hb2
    replace r1 := RowAt.below r1 hb2
    replace r2 := RowAt.below r2 hb2
    replace ha := ha.keep hb2
    replace hb := hb.keep hb2
    clear hb2 cR
    obtain ⟨q0, q1, qf⟩ := cells2 r2
    go_wp2_with fail
    (try simp only [Exit.inBlock, Exit.then])
    refine bodyPost_ret (v := .tuple #[.agg #[.int .u8 0, .int .i64 0], .int .i64 2]) ?_ rfl ⟨by rw [HV.out]; rfl, ?_⟩
    · rw [results_cell_tmp rfl]
      go_simp
    · exact set2_bl hB (by omega) _ _
  have HV : Hid (A = (D, 0)) := HA.out
  clear HA
  go_enter Try.func8, Try.ntmps8
  go_upto_region 1 with fail
  rw [← hX]
  clear hX
  obtain ⟨p0, p1, p2, p3, pf0⟩ := cells4 r0
  go_wp2_with fail
  clear p0 p1 p2 p3 pf0
  go_at_call 18; refine (cC _ ha hb).mono ?_; rintro x w1 ⟨rfl, hb1⟩
  replace hB := below2 hB hb1
  replace r0 := RowAt.below r0 hb1
  replace r1 := RowAt.below r1 hb1
  replace r2 := RowAt.below r2 hb1
  replace ha := ha.keep hb1
  replace hb := hb.keep hb1
  clear hb1 cC
  obtain ⟨q0, q1, qf⟩ := cells2 r1
  go_wp2_with fail
  clear q0 q1 qf
  go_at_call 19; refine (cR _).mono ?_; rintro x w2 ⟨rfl, hb2⟩
  replace hB := below2 hB hb2
  replace r0 := RowAt.below r0 hb2
  replace r1 := RowAt.below r1 hb2
  replace r2 := RowAt.below r2 hb2
  replace ha := ha.keep hb2
  replace hb := hb.keep hb2
  clear hb2 cR
  obtain ⟨p0, p1, p2, p3, pf0⟩ := cells4 r0
  obtain ⟨q0, q1, qf⟩ := cells2 r1
  go_wp2_with fail
  clear p0 p1 p2 p3 pf0 q0 q1 qf
  go_at_call 20; refine (cD _ ha hb (by first | rfl | trivial) (by first | rfl | trivial)).mono ?_; rintro x w4 ⟨rfl, hb4⟩
  replace hB := below2 hB hb4
  obtain ⟨q0, q1, qf⟩ := cells2 (RowAt.below r2 hb4)
  clear hb4 cD r2 r0 r1 hb ha
  go_wp2_with fail
  (try simp only [Exit.inBlock, Exit.then])
  refine bodyPost_ret (v := .tuple #[.agg #[.int .u8 (D.1 : Int), .int .i64 D.2], .int .i64 0]) ?_ rfl ⟨by rw [HV.out], ?_⟩
  · rw [results_cell_tmp rfl]
    go_simp
  · exact set2_bl hB (by omega) _ _
end Go.Proofs.Ytpooiehhepimkaa.Fib
