/- Where among routes that of a prefix is: trie.place. -/
import Derived.Test.YtkjhnefbcnnjlaaTv06
import Derived.Test.YtkjhnefbcnnjlaaTv01
import Derived.Test.YtkjhnefbcnnjlaaTv07
import Derived.BigQuiet
set_option linter.unusedVariables false
namespace Go.Proofs.Ytkjhnefbcnnjlaa.Tr
open Go.RowKit
open Go.Proofs.Ytkjhnefbcnnjlaa.Msg (evV evC okE checkE headB partsB unN zeroE eqE eqE_iff echeck_any)
open Go.Proofs.Ytkjhnefbcnnjlaa.Lk (HasRow)
open Go.Proofs.Ytkjhnefbcnnjlaa.Addr (Pf hiN loN pfV RowAt below2 below_new RowAt.cell RowAt.below RowAt.new RowAt.alloc Bl bl_ne wp_region_bl bl_call)
theorem okE_add (r : Rt) : okE ⟨3, 0, 1, 0, r.pf, r.act, 0, 0⟩ = okR r := by
  have h1 : headB ⟨3, 0, 1, 0, r.pf, r.act, 0, 0⟩ = true := by unfold headB; rfl
  have h2 : partsB ⟨3, 0, 1, 0, r.pf, r.act, 0, 0⟩ = okR r := by
    unfold partsB okR
    simp
  have h3 : eqE (unN ⟨3, 0, 1, 0, r.pf, r.act, 0, 0⟩) zeroE = true := by
    rw [eqE_iff]
    unfold unN zeroE
    simp
  unfold okE
  rw [h1, h2, h3]
  simp
set_option maxHeartbeats 4000000 in
set_option maxRecDepth 20000 in
theorem right_any (r : Rt) (w : World) (hf : FitR r) : Calls Try.prog 56 #[.agg #[.bool r.pf.six, .int .u64 (hiN r.pf.n : Int), .int .u64 (loN r.pf.n : Int), .int .i64 r.pf.len, .int .u8 (r.act.k : Int), .int .i64 r.act.i]] w fun e w' => e = .returned (.bool (okR r)) ∧ Below w.heap.size w w' := by
  have cc := fun W => echeck_any ⟨3, 0, 1, 0, r.pf, r.act, 0, 0⟩ W ⟨by simp, by simp, by simp, by simp, hf.1.1, hf.1.2, hf.2, by simp, by simp⟩
  have hck : checkE ⟨3, 0, 1, 0, r.pf, r.act, 0, 0⟩ = if okR r then 0 else 2 := by unfold checkE; rw [okE_add]
  rw [hck] at cc
  unfold evV evC at cc
  simp only at cc
  obtain ⟨X, hX⟩ : ∃ X, X = w.alloc (.cells #[.bool r.pf.six, .int .u64 (hiN r.pf.n : Int), .int .u64 (loN r.pf.n : Int), .int .i64 r.pf.len, .int .u8 (r.act.k : Int), .int .i64 r.act.i] 73) := ⟨_, rfl⟩
  have hB : Below w.heap.size w X := by rw [hX]; exact below_new (Below.refl _ _) _
  have r0 : RowAt X w.heap.size [.bool r.pf.six, .int .u64 (hiN r.pf.n : Int), .int .u64 (loN r.pf.n : Int), .int .i64 r.pf.len, .int .u8 (r.act.k : Int), .int .i64 r.act.i] 73 := by rw [hX]; exact RowAt.new _ _ _
  generalize okR r = B at *
  generalize r.pf.six = s0 at *
  generalize (hiN r.pf.n : Int) = s1 at *
  generalize (loN r.pf.n : Int) = s2 at *
  generalize r.pf.len = s3 at *
  generalize (r.act.k : Int) = s4 at *
  generalize r.act.i = s5 at *
  clear hf hck
  have y0 := r0.cell 0
  have y1 := r0.cell 1
  have y2 := r0.cell 2
  have y3 := r0.cell 3
  have y4 := r0.cell 4
  have y5 := r0.cell 5
  simp only [List.getElem?_cons_zero, List.getElem?_cons_succ] at y0 y1 y2 y3 y4 y5
  go_enter Try.func56, Try.ntmps56
  go_upto_region 1 with fail
  rw [← hX]
  clear hX r0
  go_wp2_with fail
  go_at_call 18; refine (cc _).mono ?_; rintro e w1 ⟨rfl, hb1⟩
  have hF := below2 hB hb1
  clear cc y0 y1 y2 y3 y4 y5
  cases B
  · simp only [Bool.false_eq_true, if_false]
    go_wp2_with fail
    go_ret
    exact ⟨rfl, hF⟩
  · simp only [if_true]
    go_wp2_with fail
    go_ret
    exact ⟨rfl, hF⟩
def prevR (l : List Rt) (k : Nat) : Option Pf := match k with
  | 0 => none
  | j + 1 => (l[j]?).map (·.pf)
theorem rise_zero (l : List Rt) (h : 0 < l.length) : rise (prevR l 0) (l.drop 0) = (okR l[0] && rise (prevR l 1) (l.drop 1)) := by
  match l, h with
  | s :: t, _ => rfl
theorem rise_succ (l : List Rt) (j : Nat) (h : j + 1 < l.length) : rise (prevR l (j + 1)) (l.drop (j + 1)) = (okR l[j + 1] && !decide (ordP l[j + 1].pf l[j].pf ≤ 0) && rise (prevR l (j + 2)) (l.drop (j + 2))) := by
  have e1 : prevR l (j + 1) = some l[j].pf := by show (l[j]?).map (·.pf) = _; rw [List.getElem?_eq_getElem (by omega)]; rfl
  have e2 : prevR l (j + 2) = some l[j + 1].pf := by show (l[j + 1]?).map (·.pf) = _; rw [List.getElem?_eq_getElem (by omega)]; rfl
  have e3 : l.drop (j + 1) = l[j + 1] :: l.drop (j + 2) := List.drop_eq_getElem_cons h
  have e4 : decide (ordP l[j].pf l[j + 1].pf < 0) = !decide (ordP l[j + 1].pf l[j].pf ≤ 0) := by
    rw [Bool.eq_iff_iff]
    simp only [decide_eq_true_eq, Bool.not_eq_true', decide_eq_false_iff_not, Int.not_le]
    rw [ordP_lt, ordP_gt]
  rw [e1, e2, e3, rise, e4]
theorem round_bad {l : List Rt} {k : Nat} (hk : k < l.length) {R : Int} (HD : R = if rise none l then 0 else 2) (HG : rise none l = rise (prevR l k) (l.drop k)) (h : okR l[k] = false) : R = 2 := by
  rw [HD, HG]
  cases k with
  | zero => rw [rise_zero l hk, h]; rfl
  | succ j => rw [rise_succ l j hk, h]; rfl
theorem round_first {l : List Rt} {k : Nat} (hk : k < l.length) (HG : rise none l = rise (prevR l k) (l.drop k)) (h : okR l[k] = true) (h0 : k = 0) : rise none l = rise (prevR l 1) (l.drop 1) := by
  subst h0
  rw [HG, rise_zero l hk, h, Bool.true_and]
theorem round_next {l : List Rt} {k j : Nat} (hk : k < l.length) {R : Int} (HD : R = if rise none l then 0 else 2) (HG : rise none l = rise (prevR l k) (l.drop k)) (h : okR l[k] = true) (h0 : k = j + 1) (hj : j < l.length) :
    (decide (ordP l[k].pf l[j].pf ≤ 0) = false → rise none l = rise (prevR l (k + 1)) (l.drop (k + 1))) ∧ (decide (ordP l[k].pf l[j].pf ≤ 0) = true → R = 2) := by
  subst h0
  constructor
  · intro hd
    rw [HG, rise_succ l j hk, h, hd]
    rfl
  · intro hd
    rw [HD, HG, rise_succ l j hk, h, hd]
    rfl
theorem six_at {X : World} {g i : Nat} {r : Rt} (h : ∀ t, t < 6 → X.cell? ⟨g, i + t, none⟩ = (rtC r)[t]?) : X.cell? ⟨g, i, none⟩ = some (.bool r.pf.six) ∧ X.cell? ⟨g, i + 1, none⟩ = some (.int .u64 (hiN r.pf.n : Int)) ∧ X.cell? ⟨g, i + 2, none⟩ = some (.int .u64 (loN r.pf.n : Int)) ∧ X.cell? ⟨g, i + 3, none⟩ = some (.int .i64 r.pf.len) ∧ X.cell? ⟨g, i + 4, none⟩ = some (.int .u8 (r.act.k : Int)) ∧ X.cell? ⟨g, i + 5, none⟩ = some (.int .i64 r.act.i) :=
  ⟨h 0 (by decide), h 1 (by decide), h 2 (by decide), h 3 (by decide), h 4 (by decide), h 5 (by decide)⟩
set_option maxHeartbeats 4000000 in
set_option maxRecDepth 20000 in
theorem check_any (l : List Rt) (v : Value) (w : World) (h : HasRts w v l) (hfit : ∀ r ∈ l, FitR r) :
    Calls Try.prog 34 #[v] w fun e w' => e = .returned (.int .i64 (checkT l)) ∧ Below w.heap.size w w' := by
  obtain ⟨o, c, rfl, hc1, hc2⟩ := Lk.HasRow.slice h
  have HR : Hid (∀ wr : World, Below w.heap.size w wr → HasRts wr (.slice o l.length c) l) := fun wr hb => h.keep hb
  obtain ⟨n, hn⟩ : ∃ n, n = l.length := ⟨_, rfl⟩
  have HN : Hid (n = l.length) := hn
  rw [← hn] at HR hc1 ⊢
  have HC : Hid (checkT l = if (decide (n ≤ 256) && rise none l) then 0 else 2) := by show _ = _; unfold checkT okT; rw [← hn]
  generalize checkT l = R at HC ⊢
  clear h hn
  by_cases h256 : 256 < n
  · have HV : Hid (R = 2) := by show _ = _; rw [HC.out, decide_eq_false (by omega)]; rfl
    have q1 : decide ((256 : Int) < (n : Int)) = true := decide_eq_true (by omega)
    have q2 : decide (256 < n) = true := decide_eq_true h256
    clear HC HR
    go_enter Try.func34, Try.ntmps34
    go_wp2_with fail
    go_ret
    exact ⟨by first | (rw [HV.out]; rfl) | rfl, Below.refl _ _⟩
  · have HD : Hid (R = if rise none l then 0 else 2) := by show _ = _; rw [HC.out, decide_eq_true (by omega)]; rfl
    have hni : (n : Int) ≤ 256 := by omega
    have q1 : decide ((256 : Int) < (n : Int)) = false := decide_eq_false (by omega)
    have q2 : decide (256 < n) = false := decide_eq_false h256
    clear HC h256
    go_enter Try.func34, Try.ntmps34
    go_wp2_with fail
    go_loopw [10] (fun i wr => ∃ k : Nat, k ≤ n ∧ i = .int .i64 k ∧ Below w.heap.size w wr ∧ Hid (rise none l = rise (prevR l k) (l.drop k))) (fun i _ => n - (Go.RowKit.intOf i).toNat)
    case atStart => exact ⟨0, by omega, rfl, Below.refl _ _, (rfl : rise none l = _)⟩
    case round =>
      obtain ⟨k, hk, rfl, hB, HG⟩ := hrel
      have hh := HR.out _ hB
      by_cases hlt : k < n
      · have hkz : k < l.length := by rw [← HN.out]; exact hlt
        obtain ⟨g1, i1, rfl, hg1, ax⟩ := HasRts.cell hh k hkz
        obtain ⟨a0, a1, a2, a3, a4, a5⟩ := six_at ax
        clear ax
        have hfk := hfit l[k] (List.getElem_mem hkz)
        have cr := fun W : World => right_any l[k] W hfk
        have hki : (k : Int) < (n : Int) := by omega
        have HB1 : Hid (okR l[k] = false → R = 2) := fun h => round_bad hkz HD.out HG.out h
        have HB2 : Hid (okR l[k] = true → k = 0 → rise none l = rise (prevR l 1) (l.drop 1)) := fun h h0 => round_first hkz HG.out h h0
        have HB3 : Hid (okR l[k] = true → ∀ (j : Nat) (hj : j < l.length), k = j + 1 → (decide (ordP l[k].pf l[j].pf ≤ 0) = false → rise none l = rise (prevR l (k + 1)) (l.drop (k + 1))) ∧ (decide (ordP l[k].pf l[j].pf ≤ 0) = true → R = 2)) := fun h j hj h0 => round_next hkz HD.out HG.out h h0 hj
        have co := fun (j : Nat) (hj : j < l.length) (W : World) => order_any l[k].pf l[j].pf W hfk.1 (hfit l[j] (List.getElem_mem hj)).1
        unfold pfV at co
        have HCO : Hid (∀ (j : Nat) (hj : j < l.length) (W : World), Calls Try.prog 57 #[.agg #[.bool l[k].pf.six, .int .u64 (hiN l[k].pf.n : Int), .int .u64 (loN l[k].pf.n : Int), .int .i64 l[k].pf.len], .agg #[.bool l[j].pf.six, .int .u64 (hiN l[j].pf.n : Int), .int .u64 (loN l[j].pf.n : Int), .int .i64 l[j].pf.len]] W fun e w' => e = .returned (.int .i64 (ordP l[k].pf l[j].pf)) ∧ Below W.heap.size W w') := co
        clear co HG hfk
        generalize okR l[k] = B1 at cr HB1 HB2 HB3
        obtain ⟨rk, hrk⟩ : ∃ rk, rk = l[k] := ⟨_, rfl⟩
        rw [← hrk] at a0 a1 a2 a3 a4 a5 cr HB3 HCO
        clear hrk
        have HPX : Hid (∀ p q, ordP rk.pf q = p → ordP rk.pf q = p) := fun _ _ h => h
        obtain ⟨rp, ra⟩ := rk
        obtain ⟨s0, sn, s3⟩ := rp
        obtain ⟨sk, s5⟩ := ra
        simp only at a0 a1 a2 a3 a4 a5 cr HCO HB3
        generalize (hiN sn : Int) = s1 at a1 cr HCO
        generalize (loN sn : Int) = s2 at a2 cr HCO
        generalize (sk : Int) = s4 at a4 cr
        clear HPX
        go_upto_region 6 with fail
        obtain ⟨X, hX⟩ : ∃ X, X = wr.alloc (.cells #[.bool s0, .int .u64 s1, .int .u64 s2, .int .i64 s3, .int .u8 s4, .int .i64 s5] 73) := ⟨_, rfl⟩
        have hbX : Below wr.heap.size wr X := by rw [hX]; exact below_new (Below.refl _ _) _
        have rx : RowAt X wr.heap.size [.bool s0, .int .u64 s1, .int .u64 s2, .int .i64 s3, .int .u8 s4, .int .i64 s5] 73 := by rw [hX]; exact RowAt.new _ _ _
        rw [← hX]
        have hBX := below2 hB hbX
        have hhX := hh.keep hbX
        clear hX
        obtain ⟨gs, hgs⟩ : ∃ g, g = wr.heap.size := ⟨_, rfl⟩
        rw [← hgs] at rx ⊢
        clear hgs a0 a1 a2 a3 a4 a5 hg1
        have m0 : ∀ p : Bl X, p.W.cell? ⟨gs, 0, none⟩ = some (.bool s0) := fun p => (rx.below p.h).cell 0
        have m1 : ∀ p : Bl X, p.W.cell? ⟨gs, 1, none⟩ = some (.int .u64 s1) := fun p => (rx.below p.h).cell 1
        have m2 : ∀ p : Bl X, p.W.cell? ⟨gs, 2, none⟩ = some (.int .u64 s2) := fun p => (rx.below p.h).cell 2
        have m3 : ∀ p : Bl X, p.W.cell? ⟨gs, 3, none⟩ = some (.int .i64 s3) := fun p => (rx.below p.h).cell 3
        have m4 : ∀ p : Bl X, p.W.cell? ⟨gs, 4, none⟩ = some (.int .u8 s4) := fun p => (rx.below p.h).cell 4
        have m5 : ∀ p : Bl X, p.W.cell? ⟨gs, 5, none⟩ = some (.int .i64 s5) := fun p => (rx.below p.h).cell 5
        haveI := bl_ne X
        cases B1
        · have HV : Hid (R = 2) := HB1.out rfl
          clear HB1 HB2 HB3 HD hh hhX
          refine wp_region_bl (by kernel_rfl) (by kernel_rfl) ?_
          repeat (go_big_quiet_step (first | (go_at_call 56; with_reducible exact bl_call (cr _))))
          refine wpQuiet_nil ?_
          intro wq hw'
          obtain ⟨⟨wz, hq⟩, hw2⟩ := hw'
          subst hw2
          have hW := below2 hBX hq
          go_wp2_with fail
          go_ret
          exact ⟨by first | (rw [HV.out]; rfl) | rfl, hW⟩
        · by_cases hk0 : k = 0
          · have HS1 : Hid (rise none l = rise (prevR l 1) (l.drop 1)) := HB2.out rfl hk0
            clear HB1 HB2 HB3 hh hhX
            have hz1 : decide ((0 : Int) < (k : Int)) = false := decide_eq_false (by omega)
            have hz2 : decide (0 < k) = false := decide_eq_false (by omega)
            have HK : Hid (k = 0) := hk0
            clear hk0
            refine wp_region_bl (by kernel_rfl) (by kernel_rfl) ?_
            repeat (go_big_quiet_step (first | (go_at_call 56; with_reducible exact bl_call (cr _))))
            refine wpQuiet_nil ?_
            intro wq hw'
            obtain ⟨⟨wz, hq⟩, hw2⟩ := hw'
            subst hw2
            have hW := below2 hBX hq
            go_wp2_with fail
            go_roundw
            case rel => exact ⟨k + 1, by omega, by go_num, hW, by rw [HK.out]; exact HS1⟩
            case measure => simp [Go.RowKit.intOf]; omega
          · obtain ⟨j, hj⟩ : ∃ j, k = j + 1 := ⟨k - 1, by omega⟩
            have hj2 : j < l.length := by omega
            obtain ⟨g2, i2, e12, hg2, bx⟩ := HasRts.cell hhX j hj2
            obtain ⟨b0, b1, b2, b3, _, _⟩ := six_at bx
            clear bx
            injection e12 with e12
            injection e12 with e1 e2
            subst e1 e2
            obtain ⟨HN1, HN2⟩ := HB3.out rfl j hj2 hj
            have co := HCO.out j hj2
            clear HCO HB1 HB2 HB3 hh hhX
            generalize ordP ⟨s0, sn, s3⟩ l[j].pf = OR at HN1 HN2 co
            have HN1 : Hid (decide (OR ≤ 0) = false → rise none l = rise (prevR l (k + 1)) (l.drop (k + 1))) := HN1
            have HN2 : Hid (decide (OR ≤ 0) = true → R = 2) := HN2
            generalize l[j].pf.six = t0 at co b0
            generalize (hiN l[j].pf.n : Int) = t1 at co b1
            generalize (loN l[j].pf.n : Int) = t2 at co b2
            generalize l[j].pf.len = t3 at co b3
            have u0 : ∀ p : Bl X, p.W.cell? ⟨g1, i1 + j * 6, none⟩ = some (.bool t0) := fun p => (p.h.cell (p := ⟨g1, i1 + j * 6, none⟩) hg2).trans b0
            have u1 : ∀ p : Bl X, p.W.cell? ⟨g1, i1 + j * 6 + 1, none⟩ = some (.int .u64 t1) := fun p => (p.h.cell (p := ⟨g1, i1 + j * 6 + 1, none⟩) hg2).trans b1
            have u2 : ∀ p : Bl X, p.W.cell? ⟨g1, i1 + j * 6 + 2, none⟩ = some (.int .u64 t2) := fun p => (p.h.cell (p := ⟨g1, i1 + j * 6 + 2, none⟩) hg2).trans b2
            have u3 : ∀ p : Bl X, p.W.cell? ⟨g1, i1 + j * 6 + 3, none⟩ = some (.int .i64 t3) := fun p => (p.h.cell (p := ⟨g1, i1 + j * 6 + 3, none⟩) hg2).trans b3
            clear b0 b1 b2 b3 hg2
            have e1 : (k : Int) - 1 = (j : Int) := by omega
            have e2 : IntKind.i64.wrap (j : Int) = (j : Int) := by rw [IntKind.wrap_i64]; omega
            have hkp : decide ((0 : Int) < (k : Int)) = true := decide_eq_true (by omega)
            have hkp' : decide (0 < k) = true := decide_eq_true (by omega)
            have hjn : (j : Int) < (n : Int) := by omega
            clear hj hk0
            cases B2 : decide (OR ≤ 0)
            · have HS1 : Hid (rise none l = rise (prevR l (k + 1)) (l.drop (k + 1))) := HN1.out B2
              clear HN1 HN2
              refine wp_region_bl (by kernel_rfl) (by kernel_rfl) ?_
              repeat (go_big_quiet_step (first | (go_at_call 56; with_reducible exact bl_call (cr _)) | (go_at_call 57; with_reducible exact bl_call (co _))))
              refine wpQuiet_nil ?_
              intro wq hw'
              obtain ⟨⟨wz, hq⟩, hw2⟩ := hw'
              subst hw2
              have hW := below2 hBX hq
              go_wp2_with fail
              go_roundw
              case rel => exact ⟨k + 1, by omega, by go_num, hW, HS1⟩
              case measure => simp [Go.RowKit.intOf]; omega
            · have HV : Hid (R = 2) := HN2.out B2
              clear HN1 HN2 HD
              refine wp_region_bl (by kernel_rfl) (by kernel_rfl) ?_
              repeat (go_big_quiet_step (first | (go_at_call 56; with_reducible exact bl_call (cr _)) | (go_at_call 57; with_reducible exact bl_call (co _))))
              refine wpQuiet_nil ?_
              intro wq hw'
              obtain ⟨⟨wz, hq⟩, hw2⟩ := hw'
              subst hw2
              have hW := below2 hBX hq
              go_wp2_with fail
              go_ret
              exact ⟨by first | (rw [HV.out]; rfl) | rfl, hW⟩
      · obtain rfl : k = n := by omega
        have HV : Hid (R = 0) := by
          show _ = _
          rw [HD.out, HG.out, List.drop_of_length_le (by rw [← HN.out]; exact Nat.le_refl _)]
          unfold prevR
          split <;> rfl
        clear hh HG HD
        go_wp2
        go_ret
        exact ⟨by first | (rw [HV.out]; rfl) | rfl, hB⟩
end Go.Proofs.Ytkjhnefbcnnjlaa.Tr
namespace Go.Proofs.Ytkjhnefbcnnjlaa.Tr
open Go.RowKit
open Go.Proofs.Ytkjhnefbcnnjlaa.Lk (HasRow)
open Go.Proofs.Ytkjhnefbcnnjlaa.Addr (Pf hiN loN pfV RowAt below2 below_new RowAt.cell RowAt.below RowAt.new RowAt.alloc cells4 Bl bl_ne wp_region_bl bl_call)
set_option maxHeartbeats 4000000 in
set_option maxRecDepth 20000 in
theorem place1_any (r : Rt) (p : Pf) (w : World) (hr : FitR r) (hp : FitP p) : Calls Try.prog 87 #[.agg #[.bool r.pf.six, .int .u64 (hiN r.pf.n : Int), .int .u64 (loN r.pf.n : Int), .int .i64 r.pf.len, .int .u8 (r.act.k : Int), .int .i64 r.act.i], .agg #[.bool p.six, .int .u64 (hiN p.n : Int), .int .u64 (loN p.n : Int), .int .i64 p.len]] w fun e w' => e = .returned (.int .i64 (ordP r.pf p)) ∧ Below w.heap.size w w' := by
  have cc := fun W => order_any r.pf p W hr.1 hp
  unfold pfV at cc
  obtain ⟨X, hX⟩ : ∃ X, X = (w.alloc (.cells #[.bool r.pf.six, .int .u64 (hiN r.pf.n : Int), .int .u64 (loN r.pf.n : Int), .int .i64 r.pf.len, .int .u8 (r.act.k : Int), .int .i64 r.act.i] 73)).alloc (.cells #[.bool p.six, .int .u64 (hiN p.n : Int), .int .u64 (loN p.n : Int), .int .i64 p.len] 44) := ⟨_, rfl⟩
  have hB : Below w.heap.size w X := by rw [hX]; exact below_new (below_new (Below.refl _ _) _) _
  have r0 : RowAt X w.heap.size [.bool r.pf.six, .int .u64 (hiN r.pf.n : Int), .int .u64 (loN r.pf.n : Int), .int .i64 r.pf.len, .int .u8 (r.act.k : Int), .int .i64 r.act.i] 73 := by rw [hX]; exact (RowAt.new _ _ _).alloc _
  have r1 : RowAt X (w.heap.size + 1) [.bool p.six, .int .u64 (hiN p.n : Int), .int .u64 (loN p.n : Int), .int .i64 p.len] 44 := by rw [hX, ← World.size_alloc w (.cells #[.bool r.pf.six, .int .u64 (hiN r.pf.n : Int), .int .u64 (loN r.pf.n : Int), .int .i64 r.pf.len, .int .u8 (r.act.k : Int), .int .i64 r.act.i] 73)]; exact RowAt.new _ _ _
  generalize ordP r.pf p = R at *
  generalize r.pf.six = s0 at *
  generalize (hiN r.pf.n : Int) = s1 at *
  generalize (loN r.pf.n : Int) = s2 at *
  generalize r.pf.len = s3 at *
  generalize (r.act.k : Int) = s4 at *
  generalize r.act.i = s5 at *
  generalize p.six = t0 at *
  generalize (hiN p.n : Int) = t1 at *
  generalize (loN p.n : Int) = t2 at *
  generalize p.len = t3 at *
  clear hr hp
  have y0 := r0.cell 0
  have y1 := r0.cell 1
  have y2 := r0.cell 2
  have y3 := r0.cell 3
  simp only [List.getElem?_cons_zero, List.getElem?_cons_succ] at y0 y1 y2 y3
  obtain ⟨z0, z1, z2, z3, zf⟩ := cells4 r1
  go_enter Try.func87, Try.ntmps87
  go_upto_region 1 with fail
  rw [← hX]
  clear hX r0 r1
  go_wp2_with fail
  go_at_call 57; refine (cc _).mono ?_; rintro e w1 ⟨rfl, hb1⟩
  have hF := below2 hB hb1
  clear y0 y1 y2 y3 z0 z1 z2 z3 zf cc
  go_wp2_with fail
  go_ret
  exact ⟨rfl, hF⟩
/-- where a prefix's route is, or would be -/
def Pos (l : List Rt) (p : Pf) (k : Nat) : Prop := k ≤ l.length ∧ (∀ j (h : j < l.length), j < k → ltP l[j].pf p) ∧ ∀ j (h : j < l.length), k ≤ j → ¬ ltP l[j].pf p
def isAt (l : List Rt) (p : Pf) (k : Nat) : Bool := match l[k]? with
  | some r => decide (ordP r.pf p = 0)
  | none => false
theorem lt_below {l : List Rt} (hu : Up l) {p : Pf} {i j : Nat} (hi : i < l.length) (hj : j < l.length) (hij : i ≤ j) (h : ltP l[j].pf p) : ltP l[i].pf p := by
  by_cases e : i = j
  · subst e; exact h
  · exact ltP_trans (List.pairwise_iff_getElem.1 hu i j hi hj (by omega)) h
set_option maxHeartbeats 8000000 in
set_option maxRecDepth 20000 in
theorem search_any (l : List Rt) (v : Value) (p : Pf) (w : World) (hl : HasRts w v l) (hu : Up l) (hf : ∀ r ∈ l, FitR r) (hp : FitP p) (hlen : l.length ≤ 256) :
    Calls Try.prog 86 #[v, .agg #[.bool p.six, .int .u64 (hiN p.n : Int), .int .u64 (loN p.n : Int), .int .i64 p.len], .func (.func 87) #[] #[]] w fun e w' => ∃ k, Pos l p k ∧ e = .returned (.tuple #[.int .i64 (k : Int), .bool (isAt l p k)]) ∧ Below w.heap.size w w' := by
  obtain ⟨o, c, rfl, hc1, hc2⟩ := Lk.HasRow.slice hl
  have HC : Hid (∀ k (h : k < l.length) (W : World), Calls Try.prog 87 #[.agg #[.bool l[k].pf.six, .int .u64 (hiN l[k].pf.n : Int), .int .u64 (loN l[k].pf.n : Int), .int .i64 l[k].pf.len, .int .u8 (l[k].act.k : Int), .int .i64 l[k].act.i], .agg #[.bool p.six, .int .u64 (hiN p.n : Int), .int .u64 (loN p.n : Int), .int .i64 p.len]] W fun e w' => e = .returned (.int .i64 (ordP l[k].pf p)) ∧ Below W.heap.size W w') := fun k h W => place1_any l[k] p W (hf _ (List.getElem_mem h)) hp
  obtain ⟨X, hX⟩ : ∃ X, X = w.alloc (.cells #[.bool p.six, .int .u64 (hiN p.n : Int), .int .u64 (loN p.n : Int), .int .i64 p.len] 44) := ⟨_, rfl⟩
  have hB : Below w.heap.size w X := by rw [hX]; exact below_new (Below.refl _ _) _
  have r1 : RowAt X w.heap.size [.bool p.six, .int .u64 (hiN p.n : Int), .int .u64 (loN p.n : Int), .int .i64 p.len] 44 := by rw [hX]; exact RowAt.new _ _ _
  have HR : Hid (∀ wr : World, Below X.heap.size X wr → HasRts wr (.slice o l.length c) l ∧ RowAt wr w.heap.size [.bool p.six, .int .u64 (hiN p.n : Int), .int .u64 (loN p.n : Int), .int .i64 p.len] 44) := fun wr hb => ⟨(hl.keep hB).keep hb, RowAt.below r1 hb⟩
  have HU : Hid (Up l) := hu
  obtain ⟨n, hn⟩ : ∃ n, n = l.length := ⟨_, rfl⟩
  have HN : Hid (n = l.length) := hn
  rw [← hn] at HR hc1 hlen ⊢
  generalize (hiN p.n : Int) = t1 at *
  generalize (loN p.n : Int) = t2 at *
  have HS : Hid (∃ t0 t3, t0 = p.six ∧ t3 = p.len) := ⟨_, _, rfl, rfl⟩
  obtain ⟨t0, ht0⟩ : ∃ t0, t0 = p.six := ⟨_, rfl⟩
  obtain ⟨t3, ht3⟩ : ∃ t3, t3 = p.len := ⟨_, rfl⟩
  rw [← ht0, ← ht3] at HC HR hX ⊢
  have hni : (n : Int) ≤ 256 := by omega
  clear hl hu hf hp hn r1 HS ht0 ht3
  go_enter Try.func86, Try.ntmps86
  go_upto_region 1 with fail
  rw [← hX]
  clear hX
  go_wp2_with fail
  go_loopw [9, 10] (fun u q wr => ∃ i j : Nat, i ≤ j ∧ j ≤ n ∧ u = .int .i64 i ∧ q = .int .i64 j ∧ Below X.heap.size X wr ∧ Hid ((∀ t (h : t < l.length), t < i → ltP l[t].pf p) ∧ ∀ t (h : t < l.length), j ≤ t → ¬ ltP l[t].pf p)) (fun u q _ => (Go.RowKit.intOf q).toNat - (Go.RowKit.intOf u).toNat)
  case atStart => exact ⟨0, n, by omega, Nat.le_refl _, rfl, rfl, Below.refl _ _, (⟨fun t h h2 => by omega, fun t h h2 => by have := HN.out; omega⟩ : (∀ t (h : t < l.length), t < 0 → ltP l[t].pf p) ∧ ∀ t (h : t < l.length), n ≤ t → ¬ ltP l[t].pf p)⟩
  case round =>
    obtain ⟨i, j, hij, hjn, rfl, rfl, hbr, HI⟩ := hrel
    obtain ⟨hh, rr⟩ := HR.out _ hbr
    have hin : (i : Int) ≤ 256 := by omega
    have hjn2 : (j : Int) ≤ 256 := by omega
    by_cases hlt : i < j
    · have hlti : (i : Int) < (j : Int) := by omega
      have hhl : (i + j) / 2 < l.length := by have := HN.out; omega
      obtain ⟨g1, i1, rfl, hg1, ax⟩ := HasRts.cell hh ((i + j) / 2) hhl
      have co := HC.out ((i + j) / 2) hhl
      have HL : Hid (ordP l[(i + j) / 2].pf p < 0 ↔ ltP l[(i + j) / 2].pf p) := ordP_lt _ _
      have HLB : Hid (ltP l[(i + j) / 2].pf p → ∀ t (h : t < l.length), t < (i + j) / 2 + 1 → ltP l[t].pf p) := fun hq t h ht => lt_below HU.out h hhl (by omega) hq
      have HLA : Hid (¬ ltP l[(i + j) / 2].pf p → ∀ t (h : t < l.length), (i + j) / 2 ≤ t → ¬ ltP l[t].pf p) := fun hq t h ht hc => hq (lt_below HU.out hhl h ht hc)
      go_upto_region 5 with fail
      rw [show ((i : Int) + (j : Int)) / 2 = (((i + j) / 2 : Nat) : Int) by omega]
      have hm1 : i ≤ (i + j) / 2 := by omega
      have hm2 : (i + j) / 2 < j := by omega
      generalize (i + j) / 2 = m at *
      have hmn : (m : Int) < (n : Int) := by omega
      obtain ⟨b0, b1, b2, b3, b4, b5⟩ := six_at ax
      clear ax
      obtain ⟨rk, hrk⟩ : ∃ rk, rk = l[m] := ⟨_, rfl⟩
      rw [← hrk] at co HL HLB HLA b0 b1 b2 b3 b4 b5
      clear hrk
      generalize ordP rk.pf p = OR at co HL
      have HD : Hid (decide (OR < 0) = true ↔ ltP rk.pf p) := by show _ ↔ _; rw [decide_eq_true_eq]; exact HL.out
      clear HL
      generalize rk.pf.six = s0 at *
      generalize (hiN rk.pf.n : Int) = s1 at *
      generalize (loN rk.pf.n : Int) = s2 at *
      generalize rk.pf.len = s3 at *
      generalize (rk.act.k : Int) = s4 at *
      generalize rk.act.i = s5 at *
      have u0 : ∀ p : Bl wr, p.W.cell? ⟨g1, i1 + m * 6, none⟩ = some (.bool s0) := fun p => (p.h.cell (p := ⟨g1, i1 + m * 6, none⟩) hg1).trans b0
      have u1 : ∀ p : Bl wr, p.W.cell? ⟨g1, i1 + m * 6 + 1, none⟩ = some (.int .u64 s1) := fun p => (p.h.cell (p := ⟨g1, i1 + m * 6 + 1, none⟩) hg1).trans b1
      have u2 : ∀ p : Bl wr, p.W.cell? ⟨g1, i1 + m * 6 + 2, none⟩ = some (.int .u64 s2) := fun p => (p.h.cell (p := ⟨g1, i1 + m * 6 + 2, none⟩) hg1).trans b2
      have u3 : ∀ p : Bl wr, p.W.cell? ⟨g1, i1 + m * 6 + 3, none⟩ = some (.int .i64 s3) := fun p => (p.h.cell (p := ⟨g1, i1 + m * 6 + 3, none⟩) hg1).trans b3
      have u4 : ∀ p : Bl wr, p.W.cell? ⟨g1, i1 + m * 6 + 4, none⟩ = some (.int .u8 s4) := fun p => (p.h.cell (p := ⟨g1, i1 + m * 6 + 4, none⟩) hg1).trans b4
      have u5 : ∀ p : Bl wr, p.W.cell? ⟨g1, i1 + m * 6 + 5, none⟩ = some (.int .i64 s5) := fun p => (p.h.cell (p := ⟨g1, i1 + m * 6 + 5, none⟩) hg1).trans b5
      have m0 : ∀ p : Bl wr, p.W.cell? ⟨w.heap.size, 0, none⟩ = some (.bool t0) := fun p => (rr.below p.h).cell 0
      have m1 : ∀ p : Bl wr, p.W.cell? ⟨w.heap.size, 1, none⟩ = some (.int .u64 t1) := fun p => (rr.below p.h).cell 1
      have m2 : ∀ p : Bl wr, p.W.cell? ⟨w.heap.size, 2, none⟩ = some (.int .u64 t2) := fun p => (rr.below p.h).cell 2
      have m3 : ∀ p : Bl wr, p.W.cell? ⟨w.heap.size, 3, none⟩ = some (.int .i64 t3) := fun p => (rr.below p.h).cell 3
      haveI := bl_ne wr
      clear b0 b1 b2 b3 b4 b5 hh rr
      refine wp_region_bl (by kernel_rfl) (by kernel_rfl) ?_
      repeat (go_big_quiet_step (first | (go_at_call 87; with_reducible exact bl_call (co _))))
      refine wpQuiet_nil ?_
      intro wq hw'
      obtain ⟨⟨wz, hq⟩, hw2⟩ := hw'
      subst hw2
      have hW := below2 hbr hq
      clear u0 u1 u2 u3 u4 u5 m0 m1 m2 m3 hbr hq co
      cases hOR : decide (OR < 0)
      · have HF : Hid ((∀ t (h : t < l.length), t < i → ltP l[t].pf p) ∧ ∀ t (h : t < l.length), m ≤ t → ¬ ltP l[t].pf p) := ⟨HI.out.1, HLA.out (fun h => by have := HD.out.2 h; rw [hOR] at this; cases this)⟩
        clear HLA HLB HD HI
        go_wp2_with fail
        go_roundw
        case rel => exact ⟨i, m, hm1, by omega, rfl, rfl, hW, HF⟩
        case measure => simp [Go.RowKit.intOf]; omega
      · have HF : Hid ((∀ t (h : t < l.length), t < m + 1 → ltP l[t].pf p) ∧ ∀ t (h : t < l.length), j ≤ t → ¬ ltP l[t].pf p) := ⟨HLB.out (HD.out.1 hOR), HI.out.2⟩
        clear HLA HLB HD HI
        go_wp2_with fail
        go_roundw
        case rel => exact ⟨m + 1, j, by omega, hjn, by go_num, rfl, hW, HF⟩
        case measure => simp [Go.RowKit.intOf]; omega
    · obtain rfl : i = j := by omega
      have hd : decide ((i : Int) < (i : Int)) = false := decide_eq_false (by omega)
      have HP : Hid (Pos l p i) := ⟨by have := HN.out; omega, HI.out.1, HI.out.2⟩
      clear HI
      by_cases hin2 : i < n
      · have hhl : i < l.length := by have := HN.out; omega
        obtain ⟨g1, i1, rfl, hg1, ax⟩ := HasRts.cell hh i hhl
        have co := HC.out i hhl
        have hii : (i : Int) < (n : Int) := by omega
        have HE : Hid (isAt l p i = decide (ordP l[i].pf p = 0)) := by show isAt l p i = _; unfold isAt; rw [List.getElem?_eq_getElem hhl]
        obtain ⟨b0, b1, b2, b3, b4, b5⟩ := six_at ax
        clear ax
        obtain ⟨rk, hrk⟩ : ∃ rk, rk = l[i] := ⟨_, rfl⟩
        rw [← hrk] at co HE b0 b1 b2 b3 b4 b5
        clear hrk
        generalize ordP rk.pf p = OR at co HE
        generalize rk.pf.six = s0 at *
        generalize (hiN rk.pf.n : Int) = s1 at *
        generalize (loN rk.pf.n : Int) = s2 at *
        generalize rk.pf.len = s3 at *
        generalize (rk.act.k : Int) = s4 at *
        generalize rk.act.i = s5 at *
        have u0 : ∀ p : Bl wr, p.W.cell? ⟨g1, i1 + i * 6, none⟩ = some (.bool s0) := fun p => (p.h.cell (p := ⟨g1, i1 + i * 6, none⟩) hg1).trans b0
        have u1 : ∀ p : Bl wr, p.W.cell? ⟨g1, i1 + i * 6 + 1, none⟩ = some (.int .u64 s1) := fun p => (p.h.cell (p := ⟨g1, i1 + i * 6 + 1, none⟩) hg1).trans b1
        have u2 : ∀ p : Bl wr, p.W.cell? ⟨g1, i1 + i * 6 + 2, none⟩ = some (.int .u64 s2) := fun p => (p.h.cell (p := ⟨g1, i1 + i * 6 + 2, none⟩) hg1).trans b2
        have u3 : ∀ p : Bl wr, p.W.cell? ⟨g1, i1 + i * 6 + 3, none⟩ = some (.int .i64 s3) := fun p => (p.h.cell (p := ⟨g1, i1 + i * 6 + 3, none⟩) hg1).trans b3
        have u4 : ∀ p : Bl wr, p.W.cell? ⟨g1, i1 + i * 6 + 4, none⟩ = some (.int .u8 s4) := fun p => (p.h.cell (p := ⟨g1, i1 + i * 6 + 4, none⟩) hg1).trans b4
        have u5 : ∀ p : Bl wr, p.W.cell? ⟨g1, i1 + i * 6 + 5, none⟩ = some (.int .i64 s5) := fun p => (p.h.cell (p := ⟨g1, i1 + i * 6 + 5, none⟩) hg1).trans b5
        have m0 : ∀ p : Bl wr, p.W.cell? ⟨w.heap.size, 0, none⟩ = some (.bool t0) := fun p => (rr.below p.h).cell 0
        have m1 : ∀ p : Bl wr, p.W.cell? ⟨w.heap.size, 1, none⟩ = some (.int .u64 t1) := fun p => (rr.below p.h).cell 1
        have m2 : ∀ p : Bl wr, p.W.cell? ⟨w.heap.size, 2, none⟩ = some (.int .u64 t2) := fun p => (rr.below p.h).cell 2
        have m3 : ∀ p : Bl wr, p.W.cell? ⟨w.heap.size, 3, none⟩ = some (.int .i64 t3) := fun p => (rr.below p.h).cell 3
        haveI := bl_ne wr
        clear b0 b1 b2 b3 b4 b5 hh rr
        go_wp2_with fail
        refine wp_region_bl (by kernel_rfl) (by kernel_rfl) ?_
        repeat (go_big_quiet_step (first | (go_at_call 87; with_reducible exact bl_call (co _))))
        refine wpQuiet_nil ?_
        intro wq hw'
        obtain ⟨⟨wz, hq⟩, hw2⟩ := hw'
        subst hw2
        have hW := below2 (below2 hB hbr) hq
        clear u0 u1 u2 u3 u4 u5 m0 m1 m2 m3 hbr hq co
        go_wp2_with fail
        go_ret2
        refine ⟨i, HP.out, ?_, hW⟩
        rw [HE.out]
        first
          | rfl
          | (by_cases h : OR = 0 <;> simp [h])
      · have hii : ¬ ((i : Int) < (n : Int)) := by omega
        have HE : Hid (isAt l p i = false) := by show isAt l p i = _; unfold isAt; rw [List.getElem?_eq_none (by have := HN.out; omega)]
        have hW := below2 hB hbr
        haveI := bl_ne wr
        clear hh rr
        go_wp2_with fail
        refine wp_region_bl (by kernel_rfl) (by kernel_rfl) ?_
        repeat (go_big_quiet_step (fail))
        refine wpQuiet_nil ?_
        intro wq hw'
        obtain ⟨⟨wz, hq⟩, hw2⟩ := hw'
        subst hw2
        replace hW := below2 hW hq
        go_wp2_with fail
        go_ret2
        exact ⟨i, HP.out, by rw [HE.out]; rfl, hW⟩
set_option maxHeartbeats 4000000 in
set_option maxRecDepth 20000 in
theorem place_any (l : List Rt) (v : Value) (p : Pf) (w : World) (hl : HasRts w v l) (hu : Up l) (hf : ∀ r ∈ l, FitR r) (hp : FitP p) (hlen : l.length ≤ 256) :
    Calls Try.prog 65 #[v, .agg #[.bool p.six, .int .u64 (hiN p.n : Int), .int .u64 (loN p.n : Int), .int .i64 p.len]] w fun e w' => ∃ k, Pos l p k ∧ e = .returned (.tuple #[.int .i64 (k : Int), .bool (isAt l p k)]) ∧ Below w.heap.size w w' := by
  have cs := fun W (hb : Below w.heap.size w W) => search_any l v p W (hl.keep hb) hu hf hp hlen
  obtain ⟨X, hX⟩ : ∃ X, X = w.alloc (.cells #[.bool p.six, .int .u64 (hiN p.n : Int), .int .u64 (loN p.n : Int), .int .i64 p.len] 44) := ⟨_, rfl⟩
  have hB : Below w.heap.size w X := by rw [hX]; exact below_new (Below.refl _ _) _
  have r1 : RowAt X w.heap.size [.bool p.six, .int .u64 (hiN p.n : Int), .int .u64 (loN p.n : Int), .int .i64 p.len] 44 := by rw [hX]; exact RowAt.new _ _ _
  obtain ⟨z0, z1, z2, z3, zf⟩ := cells4 r1
  obtain ⟨o, c, rfl, hc1, hc2⟩ := Lk.HasRow.slice hl
  clear hl hu hf hp
  go_enter Try.func65, Try.ntmps65
  go_upto_region 1 with fail
  rw [← hX]
  clear hX r1
  go_wp2_with fail
  go_at_call 86; refine (cs _ hB).mono ?_; rintro e w1 ⟨k, hk, rfl, hb1⟩
  have hF := below2 hB hb1
  clear z0 z1 z2 z3 zf cs
  go_wp2_with fail
  go_ret2
  exact ⟨k, hk, rfl, hF⟩
end Go.Proofs.Ytkjhnefbcnnjlaa.Tr
