/- fib.mayBe, fib.size, fib.Check, fib.Make, fib.Size. -/
import Derived.Test.YtkjhnefbcnnjlaaTv11
import Derived.Deep.RegionHeld3
import Derived.Test.YtkjhnefbcnnjlaaTv10
import Derived.Test.YtkjhnefbcnnjlaaTv08
import Derived.Test.YtkjhnefbcnnjlaaTv09
set_option linter.unusedVariables false
namespace Go.Proofs.Ytkjhnefbcnnjlaa.Ord
open Go.RowKit
open Go.Proofs.Ytkjhnefbcnnjlaa.Addr (RowAt below2 below_new RowAt.cell RowAt.below RowAt.new RowAt.alloc Bl bl_ne wp_region_bl bl_call)

def prevR (l : List St) (k : Nat) : Option Int := match k with
  | 0 => none
  | j + 1 => (l[j]?).map (·.router)
theorem rise_zero (l : List St) (h : 0 < l.length) : rise (prevR l 0) (l.drop 0) = (okS l[0] && rise (prevR l 1) (l.drop 1)) := by
  match l, h with
  | s :: t, _ => rfl
theorem rise_succ (l : List St) (j : Nat) (h : j + 1 < l.length) : rise (prevR l (j + 1)) (l.drop (j + 1)) = (okS l[j + 1] && !decide (l[j + 1].router ≤ l[j].router) && rise (prevR l (j + 2)) (l.drop (j + 2))) := by
  have e1 : prevR l (j + 1) = some l[j].router := by show (l[j]?).map (·.router) = _; rw [List.getElem?_eq_getElem (by omega)]; rfl
  have e2 : prevR l (j + 2) = some l[j + 1].router := by show (l[j + 1]?).map (·.router) = _; rw [List.getElem?_eq_getElem (by omega)]; rfl
  have e3 : l.drop (j + 1) = l[j + 1] :: l.drop (j + 2) := List.drop_eq_getElem_cons h
  have e4 : decide (l[j].router < l[j + 1].router) = !decide (l[j + 1].router ≤ l[j].router) := by
    rw [Bool.eq_iff_iff]; simp
  rw [e1, e2, e3, rise, e4]
theorem round_bad {l : List St} {k : Nat} (hk : k < l.length) {R : Int} (HD : R = if rise none l then 0 else 2) (HG : rise none l = rise (prevR l k) (l.drop k)) (h : okS l[k] = false) : R = 2 := by
  rw [HD, HG]
  cases k with
  | zero => rw [rise_zero l hk, h]; rfl
  | succ j => rw [rise_succ l j hk, h]; rfl
theorem round_first {l : List St} {k : Nat} (hk : k < l.length) (HG : rise none l = rise (prevR l k) (l.drop k)) (h : okS l[k] = true) (h0 : k = 0) : rise none l = rise (prevR l 1) (l.drop 1) := by
  subst h0
  rw [HG, rise_zero l hk, h, Bool.true_and]
theorem round_next {l : List St} {k j : Nat} (hk : k < l.length) {R : Int} (HD : R = if rise none l then 0 else 2) (HG : rise none l = rise (prevR l k) (l.drop k)) (h : okS l[k] = true) (h0 : k = j + 1) (hj : j < l.length) :
    (decide (l[k].router ≤ l[j].router) = false → rise none l = rise (prevR l (k + 1)) (l.drop (k + 1))) ∧ (decide (l[k].router ≤ l[j].router) = true → R = 2) := by
  subst h0
  constructor
  · intro hd
    rw [HG, rise_succ l j hk, h, hd]
    rfl
  · intro hd
    rw [HD, HG, rise_succ l j hk, h, hd]
    rfl
theorem below_drewN {B : Nat} {w0 w : World} (h : Below B w0 w) (n : Nat) : Below B w0 (w.drewN n) := h.trans ⟨rfl, rfl, rfl, Nat.le_refl _, fun _ _ => rfl⟩
set_option maxHeartbeats 4000000 in
set_option maxRecDepth 20000 in
theorem check_any (l : List St) (v : Value) (w : World) (h : HasSts w v l) :
    Calls Try.prog 27 #[v] w fun e w' => e = .returned (.int .i64 (checkL l)) ∧ Below w.heap.size w w' := by
  obtain ⟨o, c, rfl, hc1, hc2⟩ := HasRow.slice h
  have HR : Hid (∀ wr : World, Below w.heap.size w wr → HasSts wr (.slice o l.length c) l) := fun wr hb => h.keep hb
  obtain ⟨n, hn⟩ : ∃ n, n = l.length := ⟨_, rfl⟩
  have HN : Hid (n = l.length) := hn
  rw [← hn] at HR hc1 ⊢
  have HC : Hid (checkL l = if (decide (n ≤ 64) && rise none l) then 0 else 2) := by show _ = _; unfold checkL okL; rw [← hn]
  generalize checkL l = R at HC ⊢
  clear h hn
  by_cases h64 : 64 < n
  · have HV : Hid (R = 2) := by show _ = _; rw [HC.out, decide_eq_false (by omega)]; rfl
    have q1 : decide ((64 : Int) < (n : Int)) = true := decide_eq_true (by omega)
    have q2 : decide (64 < n) = true := decide_eq_true h64
    clear HC HR
    go_enter Try.func27, Try.ntmps27
    go_wp2_with fail
    go_ret
    exact ⟨by rw [HV.out]; rfl, Below.refl _ _⟩
  · have HD : Hid (R = if rise none l then 0 else 2) := by show _ = _; rw [HC.out, decide_eq_true (by omega)]; rfl
    have hni : (n : Int) ≤ 64 := by omega
    have q1 : decide ((64 : Int) < (n : Int)) = false := decide_eq_false (by omega)
    have q2 : decide (64 < n) = false := decide_eq_false h64
    clear HC h64
    go_enter Try.func27, Try.ntmps27
    go_wp2_with fail
    go_loopw [10] (fun i wr => ∃ k : Nat, k ≤ n ∧ i = .int .i64 k ∧ Below w.heap.size w wr ∧ Hid (rise none l = rise (prevR l k) (l.drop k))) (fun i _ => n - (intOf i).toNat)
    case atStart => exact ⟨0, by omega, rfl, Below.refl _ _, (rfl : rise none l = _)⟩
    case round =>
      obtain ⟨k, hk, rfl, hB, HG⟩ := hrel
      have hh := HR.out _ hB
      by_cases hlt : k < n
      · have hkz : k < l.length := by rw [← HN.out]; exact hlt
        obtain ⟨g1, i1, rfl, hg1, a0, a1, a2, a3⟩ := HasSts.cell hh k hkz
        have cr : ∀ W : World, Calls Try.prog 51 #[.agg #[.int .i64 l[k].router, .int .u64 (l[k].seq : Int), .int .i64 l[k].time, .bool l[k].up]] W fun e w' => e = .returned (.bool (okS l[k])) ∧ Below W.heap.size W w' := fun W => right_any l[k] W
        have hki : (k : Int) < (n : Int) := by omega
        have HB1 : Hid (okS l[k] = false → R = 2) := fun h => round_bad hkz HD.out HG.out h
        have HB2 : Hid (okS l[k] = true → k = 0 → rise none l = rise (prevR l 1) (l.drop 1)) := fun h h0 => round_first hkz HG.out h h0
        have HB3 : Hid (okS l[k] = true → ∀ (j : Nat) (hj : j < l.length), k = j + 1 → (decide (l[k].router ≤ l[j].router) = false → rise none l = rise (prevR l (k + 1)) (l.drop (k + 1))) ∧ (decide (l[k].router ≤ l[j].router) = true → R = 2)) := fun h j hj h0 => round_next hkz HD.out HG.out h h0 hj
        generalize okS l[k] = B1 at cr HB1 HB2 HB3
        generalize l[k].router = ra at a0 cr HB3
        clear HG
        generalize (l[k].seq : Int) = rb at a1 cr
        generalize l[k].time = rc at a2 cr
        generalize l[k].up = ru at a3 cr
        go_upto_region 6 with fail
        obtain ⟨X, hX⟩ : ∃ X, X = wr.alloc (.cells #[.int .i64 ra, .int .u64 rb, .int .i64 rc, .bool ru] 33) := ⟨_, rfl⟩
        have hbX : Below wr.heap.size wr X := by rw [hX]; exact below_new (Below.refl _ _) _
        have rx : RowAt X wr.heap.size [.int .i64 ra, .int .u64 rb, .int .i64 rc, .bool ru] 33 := by rw [hX]; exact RowAt.new _ _ _
        rw [← hX]
        have hBX := below2 hB hbX
        have hhX := hh.keep hbX
        clear hX
        obtain ⟨gs, hgs⟩ : ∃ g, g = wr.heap.size := ⟨_, rfl⟩
        rw [← hgs] at rx ⊢
        clear hgs a0 a1 a2 a3 hg1
        have m0 : ∀ p : Bl X, p.W.cell? ⟨gs, 0, none⟩ = some (.int .i64 ra) := fun p => (rx.below p.h).cell 0
        have m1 : ∀ p : Bl X, p.W.cell? ⟨gs, 1, none⟩ = some (.int .u64 rb) := fun p => (rx.below p.h).cell 1
        have m2 : ∀ p : Bl X, p.W.cell? ⟨gs, 2, none⟩ = some (.int .i64 rc) := fun p => (rx.below p.h).cell 2
        have m3 : ∀ p : Bl X, p.W.cell? ⟨gs, 3, none⟩ = some (.bool ru) := fun p => (rx.below p.h).cell 3
        haveI := bl_ne X
        cases B1
        · have HV : Hid (R = 2) := HB1.out rfl
          clear HB1 HB2 HB3 HD hh hhX
          refine wp_region_bl (by kernel_rfl) (by kernel_rfl) ?_
          repeat (go_big_quiet_step (first | (go_at_call 51; with_reducible exact bl_call (cr _))))
          refine wpQuiet_nil ?_
          intro wq hw'
          obtain ⟨⟨wz, hq⟩, hw2⟩ := hw'
          subst hw2
          have hW := below2 hBX hq
          go_wp2_with fail
          go_ret
          exact ⟨by rw [HV.out]; rfl, hW⟩
        · by_cases hk0 : k = 0
          · have HS1 : Hid (rise none l = rise (prevR l 1) (l.drop 1)) := HB2.out rfl hk0
            clear HB1 HB2 HB3 hh hhX
            have hz1 : decide ((0 : Int) < (k : Int)) = false := decide_eq_false (by omega)
            have hz2 : decide (0 < k) = false := decide_eq_false (by omega)
            have HK : Hid (k = 0) := hk0
            clear hk0
            refine wp_region_bl (by kernel_rfl) (by kernel_rfl) ?_
            repeat (go_big_quiet_step (first | (go_at_call 51; with_reducible exact bl_call (cr _))))
            refine wpQuiet_nil ?_
            intro wq hw'
            obtain ⟨⟨wz, hq⟩, hw2⟩ := hw'
            subst hw2
            have hW := below2 hBX hq
            go_wp2_with fail
            go_roundw
            case rel => exact ⟨k + 1, by omega, by go_num, hW, by rw [HK.out]; exact HS1⟩
            case measure => simp [intOf]; omega
          · obtain ⟨j, hj⟩ : ∃ j, k = j + 1 := ⟨k - 1, by omega⟩
            have hj2 : j < l.length := by omega
            obtain ⟨g2, i2, e12, hg2, b0, _, _, _⟩ := HasSts.cell hhX j hj2
            injection e12 with e12
            injection e12 with e1 e2
            subst e1 e2
            obtain ⟨HN1, HN2⟩ := HB3.out rfl j hj2 hj
            have HN1 : Hid (decide (ra ≤ l[j].router) = false → rise none l = rise (prevR l (k + 1)) (l.drop (k + 1))) := HN1
            have HN2 : Hid (decide (ra ≤ l[j].router) = true → R = 2) := HN2
            have u0 : ∀ p : Bl X, p.W.cell? ⟨g1, i1 + j * 4, none⟩ = some (.int .i64 l[j].router) := fun p => (p.h.cell (p := ⟨g1, i1 + j * 4, none⟩) hg2).trans b0
            clear HB1 HB2 HB3 hh hhX b0 hg2
            generalize l[j].router = pr at u0 HN1 HN2
            have e1 : (k : Int) - 1 = (j : Int) := by omega
            have e2 : IntKind.i64.wrap (j : Int) = (j : Int) := by rw [IntKind.wrap_i64]; omega
            have hkp : decide ((0 : Int) < (k : Int)) = true := decide_eq_true (by omega)
            have hkp' : decide (0 < k) = true := decide_eq_true (by omega)
            have hjn : (j : Int) < (n : Int) := by omega
            clear hj hk0
            cases B2 : decide (ra ≤ pr)
            · have HS1 : Hid (rise none l = rise (prevR l (k + 1)) (l.drop (k + 1))) := HN1.out B2
              clear HN1 HN2
              refine wp_region_bl (by kernel_rfl) (by kernel_rfl) ?_
              repeat (go_big_quiet_step (first | (go_at_call 51; with_reducible exact bl_call (cr _))))
              refine wpQuiet_nil ?_
              intro wq hw'
              obtain ⟨⟨wz, hq⟩, hw2⟩ := hw'
              subst hw2
              have hW := below2 hBX hq
              go_wp2_with fail
              go_roundw
              case rel => exact ⟨k + 1, by omega, by go_num, hW, HS1⟩
              case measure => simp [intOf]; omega
            · have HV : Hid (R = 2) := HN2.out B2
              clear HN1 HN2 HD
              refine wp_region_bl (by kernel_rfl) (by kernel_rfl) ?_
              repeat (go_big_quiet_step (first | (go_at_call 51; with_reducible exact bl_call (cr _))))
              refine wpQuiet_nil ?_
              intro wq hw'
              obtain ⟨⟨wz, hq⟩, hw2⟩ := hw'
              subst hw2
              have hW := below2 hBX hq
              go_wp2_with fail
              go_ret
              exact ⟨by rw [HV.out]; rfl, hW⟩
      · obtain rfl : k = n := by omega
        have HV : Hid (R = 0) := by
          show _ = _
          rw [HD.out, HG.out, List.drop_of_length_le (by rw [← HN.out]; exact Nat.le_refl _)]
          unfold prevR
          split <;> rfl
        clear hh HG HD
        go_wp2
        go_ret
        exact ⟨by rw [HV.out]; rfl, hB⟩
end Go.Proofs.Ytkjhnefbcnnjlaa.Ord
namespace Go.Proofs.Ytkjhnefbcnnjlaa.Fib
open Go.RowKit
open Go.Proofs.Ytkjhnefbcnnjlaa.Addr (RowAt below2 below_new RowAt.below RowAt.new RowAt.alloc cells4)
open Go.Proofs.Ytkjhnefbcnnjlaa.Lk (Lk HasLks HasLks.keep okL checkL)
open Go.Proofs.Ytkjhnefbcnnjlaa.Tr (HasRts HasRts.keep okT checkT FitR)
theorem mayBe_any (i : Int) (w : World) : Calls Try.prog 16 #[.int .i64 i] w fun e w' => e = .returned (.bool (okId i)) ∧ Below w.heap.size w w' := by
  have HD : Hid (okId i = (decide (0 ≤ i) && decide (i ≤ 1048576))) := rfl
  rw [HD.out]
  by_cases h1 : 0 ≤ i
  · by_cases h2 : i ≤ 1048576
    · have e : (decide (0 ≤ i) && decide (i ≤ 1048576)) = true := by simp [h1, h2]
      rw [e]
      go_enter Try.func16, Try.ntmps16
      go_wp2_with fail
      go_ret
      exact ⟨rfl, Below.refl _ _⟩
    · have e : (decide (0 ≤ i) && decide (i ≤ 1048576)) = false := by simp [h1, h2]
      rw [e]
      go_enter Try.func16, Try.ntmps16
      go_wp2_with fail
      go_ret
      exact ⟨rfl, Below.refl _ _⟩
  · have e : (decide (0 ≤ i) && decide (i ≤ 1048576)) = false := by simp [h1]
    rw [e]
    go_enter Try.func16, Try.ntmps16
    go_wp2_with fail
    go_ret
    exact ⟨rfl, Below.refl _ _⟩
theorem size_any (R : Ro) (a b : Value) (w : World) (ha : HasRts w a R.rts) (hb : HasLks w b R.lks) (h1 : R.rts.length ≤ 1000) (h2 : R.lks.length ≤ 1000) :
    Calls Try.prog 36 #[.agg #[.int .i64 R.id, .bool R.up, a, b]] w fun e w' => e = .returned (.int .i64 ((R.rts.length + R.lks.length : Nat) : Int)) ∧ Below w.heap.size w w' := by
  obtain ⟨oa, ca, rfl, hc1, hc2⟩ := Lk.HasRow.slice ha
  obtain ⟨ob, cb, rfl, hc3, hc4⟩ := Lk.HasRow.slice hb
  clear ha hb
  obtain ⟨X, hX⟩ : ∃ X, X = w.alloc (.cells #[.int .i64 R.id, .bool R.up, .slice oa R.rts.length ca, .slice ob R.lks.length cb] 37) := ⟨_, rfl⟩
  have hB : Below w.heap.size w X := by rw [hX]; exact below_new (Below.refl _ _) _
  have r0 : RowAt X w.heap.size [.int .i64 R.id, .bool R.up, .slice oa R.rts.length ca, .slice ob R.lks.length cb] 37 := by rw [hX]; exact RowAt.new _ _ _
  have hcast : ((R.rts.length + R.lks.length : Nat) : Int) = (R.rts.length : Int) + (R.lks.length : Int) := by omega
  rw [hcast]
  generalize R.rts.length = n at *
  generalize R.lks.length = m at *
  have hw : IntKind.i64.wrap ((n : Int) + (m : Int)) = (n : Int) + (m : Int) := by rw [IntKind.wrap_i64]; omega
  go_enter Try.func36, Try.ntmps36
  go_upto_region 1 with fail
  rw [← hX]
  clear hX
  obtain ⟨p0, p1, p2, p3, pf⟩ := cells4 r0
  go_wp2_with fail
  go_ret
  exact ⟨rfl, hB⟩
set_option maxHeartbeats 2000000 in
theorem check_any (R : Ro) (a b : Value) (w : World) (ha : HasRts w a R.rts) (hb : HasLks w b R.lks) (hf : ∀ x ∈ R.rts, FitR x) :
    Calls Try.prog 17 #[.agg #[.int .i64 R.id, .bool R.up, a, b]] w fun e w' => e = .returned (.int .i64 (checkRo R)) ∧ Below w.heap.size w w' := by
  have c0 := fun W => mayBe_any R.id W
  have c1 := fun W (h : HasRts W a R.rts) => Tr.check_any R.rts a W h hf
  have c2 := fun W (h : HasLks W b R.lks) => Lk.check_any R.lks b W h
  have c3 := fun W (h : HasRts W a R.rts) (h' : HasLks W b R.lks) h1 h2 => size_any R a b W h h' h1 h2
  have hT : okT R.rts = true → R.rts.length ≤ 256 := fun h => ((Tr.okT_iff _).1 h).1
  have hL : okL R.lks = true → R.lks.length ≤ 32 := fun h => Lk.okL_len2 h
  have e1 : checkT R.rts = if okT R.rts then 0 else 2 := rfl
  have e2 : checkL R.lks = if okL R.lks then 0 else 2 := rfl
  have e3 : checkRo R = if okId R.id && okT R.rts && okL R.lks && (R.up || decide (R.rts.length + R.lks.length = 0)) then 0 else 2 := rfl
  rw [e1] at c1
  rw [e2] at c2
  obtain ⟨C, hC⟩ : ∃ C, C = checkRo R := ⟨_, rfl⟩
  rw [← hC]
  have HC : Hid (C = if okId R.id && okT R.rts && okL R.lks && (R.up || decide (R.rts.length + R.lks.length = 0)) then 0 else 2) := hC.trans e3
  clear e1 e2 e3 hC
  obtain ⟨X, hX⟩ : ∃ X, X = w.alloc (.cells #[.int .i64 R.id, .bool R.up, a, b] 37) := ⟨_, rfl⟩
  have hB : Below w.heap.size w X := by rw [hX]; exact below_new (Below.refl _ _) _
  have r0 : RowAt X w.heap.size [.int .i64 R.id, .bool R.up, a, b] 37 := by rw [hX]; exact RowAt.new _ _ _
  have oa : a.oneCell' = true := by obtain ⟨o, c, rfl, _⟩ := Lk.HasRow.slice ha; rfl
  have ob : b.oneCell' = true := by obtain ⟨o, c, rfl, _⟩ := Lk.HasRow.slice hb; rfl
  obtain ⟨o1, n1, m1, rfl⟩ : ∃ o n m, a = .slice o n m := by obtain ⟨o, c, rfl, _⟩ := Lk.HasRow.slice ha; exact ⟨_, _, _, rfl⟩
  obtain ⟨o2, n2, m2, rfl⟩ : ∃ o n m, b = .slice o n m := by obtain ⟨o, c, rfl, _⟩ := Lk.HasRow.slice hb; exact ⟨_, _, _, rfl⟩
  clear oa ob
  go_enter Try.func17, Try.ntmps17
  go_upto_region 1 with fail
  rw [← hX]
  clear hX
  replace ha := ha.keep hB
  replace hb := hb.keep hB
  obtain ⟨p0, p1, p2, p3, pf⟩ := cells4 r0
  go_wp2_with fail
  clear p0 p1 p2 p3 pf
  go_at_call 16; refine (c0 _).mono ?_; rintro e w1 ⟨rfl, hb1⟩
  replace hB := below2 hB hb1
  replace ha := ha.keep hb1
  replace hb := hb.keep hb1
  replace r0 := RowAt.below r0 hb1
  clear hb1 c0
  cases hI : okId R.id
  · go_wp2_with fail
    go_ret
    exact ⟨by rw [HC.out, hI]; rfl, hB⟩
  obtain ⟨p0, p1, p2, p3, pf⟩ := cells4 r0
  go_wp2_with fail
  clear p0 p1 p2 p3 pf
  go_at_call 34; refine (c1 _ ha).mono ?_; rintro e w2 ⟨rfl, hb2⟩
  replace hB := below2 hB hb2
  replace ha := ha.keep hb2
  replace hb := hb.keep hb2
  replace r0 := RowAt.below r0 hb2
  clear hb2 c1
  cases hKT : okT R.rts
  · go_wp2_with fail
    go_ret
    exact ⟨by rw [HC.out, hI, hKT]; rfl, hB⟩
  replace hT := hT hKT
  obtain ⟨p0, p1, p2, p3, pf⟩ := cells4 r0
  go_wp2_with fail
  clear p0 p1 p2 p3 pf
  go_at_call 35; refine (c2 _ hb).mono ?_; rintro e w3 ⟨rfl, hb3⟩
  replace hB := below2 hB hb3
  replace ha := ha.keep hb3
  replace hb := hb.keep hb3
  replace r0 := RowAt.below r0 hb3
  clear hb3 c2
  cases hKL : okL R.lks
  · go_wp2_with fail
    go_ret
    exact ⟨by rw [HC.out, hI, hKT, hKL]; rfl, hB⟩
  replace hL := hL hKL
  obtain ⟨p0, p1, p2, p3, pf⟩ := cells4 r0
  cases hU : R.up
  · rw [hU] at p1 c3
    go_wp2_with fail
    clear p0 p1 p2 p3 pf
    go_at_call 36; refine (c3 _ ha hb (by omega) (by omega)).mono ?_; rintro e w4 ⟨rfl, hb4⟩
    replace hB := below2 hB hb4
    clear ha hb
    by_cases hs : R.rts.length + R.lks.length = 0
    · have HV : Hid (C = 0) := by show _ = _; rw [HC.out, hI, hKT, hKL, hU, hs]; rfl
      rw [hs]
      go_wp2_with fail
      go_ret
      exact ⟨by rw [HV.out]; rfl, hB⟩
    · have hs2 : decide (R.rts.length + R.lks.length = 0) = false := by simpa using hs
      have HV : Hid (C = 2) := by show _ = _; rw [HC.out, hI, hKT, hKL, hU, hs2]; rfl
      clear HC
      generalize R.rts.length + R.lks.length = s at *
      have hs1 : ((s : Int) > 0) := by omega
      go_wp2_with fail
      go_ret
      exact ⟨by rw [HV.out]; rfl, hB⟩
  · rw [hU] at p1
    go_wp2_with fail
    go_ret
    exact ⟨by rw [HC.out, hI, hKT, hKL, hU]; rfl, hB⟩
end Go.Proofs.Ytkjhnefbcnnjlaa.Fib
