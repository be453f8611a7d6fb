/- Events that were taken in a row: how many of a router, and when; plain. -/
import Derived.Test.YtemefcojmidmbaaOrdBase
import Derived.Deep.RegionHeld3
import Derived.RangeFuncBox
import Derived.Laws.Cover3
import Derived.Deep.DeepCutAuto
import Derived.Lib.AppendZeros
import Derived.Deep.RegionHeld
import Derived.Test.YtemefcojmidmbaaMsgPut2
set_option linter.unusedVariables false
namespace Go.Proofs.Ytemefcojmidmbaa.Ord
open Go.RowKit
open Go.Proofs.Ytemefcojmidmbaa.Msg (Ev okE checkE evV evC FitE echeck_any cells12')
open Go.Proofs.Ytemefcojmidmbaa.Addr (RowAt below2 below_drew below_new bset RowAt.lt RowAt.cell RowAt.frozen RowAt.below RowAt.drew RowAt.new RowAt.alloc gdrew gset gbelow galloc grefl gfinal cells2 cells4 results_cell Bl bl_ne wp_region_bl bl_call bl_same)

theorem row4 (W : World) (s : St) : RowAt (W.alloc (.cells #[.int .i64 s.router, .int .u64 (s.seq : Int), .int .i64 s.time, .bool s.up] 60)) W.heap.size (stC s) 60 := RowAt.new W (stC s) 60
set_option maxHeartbeats 4000000 in
theorem right_walk (a : Int) (b : Nat) (c : Int) (u : Bool) (w : World) : Calls Try.prog 92 #[.agg #[.int .i64 a, .int .u64 (b : Int), .int .i64 c, .bool u]] w fun e w' => e = .returned (.bool (decide (0 ≤ a) && decide (a ≤ 1048576) && decide (1 ≤ (b : Int)) && decide ((b : Int) ≤ 1099511627776) && decide (0 ≤ c) && decide (c ≤ 1099511627776))) ∧ Below w.heap.size w w' := by
  obtain ⟨X, hX⟩ : ∃ X, X = w.alloc (.cells #[.int .i64 a, .int .u64 (b : Int), .int .i64 c, .bool u] 60) := ⟨_, rfl⟩
  have hB : Below w.heap.size w X := by rw [hX]; exact below_new (Below.refl _ _) _
  have r0 : RowAt X w.heap.size [.int .i64 a, .int .u64 (b : Int), .int .i64 c, .bool u] 60 := by rw [hX]; exact RowAt.new _ _ _
  obtain ⟨x0, x1, x2, x3, xf⟩ := cells4 r0
  clear r0
  generalize hR : (decide (0 ≤ a) && decide (a ≤ 1048576) && decide (1 ≤ (b : Int)) && decide ((b : Int) ≤ 1099511627776) && decide (0 ≤ c) && decide (c ≤ 1099511627776)) = R
  have HR : Hid ((decide (0 ≤ a) && decide (a ≤ 1048576) && decide (1 ≤ (b : Int)) && decide ((b : Int) ≤ 1099511627776) && decide (0 ≤ c) && decide (c ≤ 1099511627776)) = R) := hR
  clear hR
  cases q0 : decide (0 ≤ a)
  · go_enter Try.func92, Try.ntmps92
    go_upto_region 1 with fail
    rw [← hX]
    clear hX
    go_wp2_with fail
    go_ret
    exact ⟨by rw [← HR.out]; simp [q0], hB⟩
  cases q1 : decide (a ≤ 1048576)
  · go_enter Try.func92, Try.ntmps92
    go_upto_region 1 with fail
    rw [← hX]
    clear hX
    go_wp2_with fail
    go_ret
    exact ⟨by rw [← HR.out]; simp [q0, q1], hB⟩
  cases q2 : decide (1 ≤ (b : Int))
  · go_enter Try.func92, Try.ntmps92
    go_upto_region 1 with fail
    rw [← hX]
    clear hX
    go_wp2_with fail
    go_ret
    exact ⟨by rw [← HR.out]; simp [q0, q1, q2], hB⟩
  cases q3 : decide ((b : Int) ≤ 1099511627776)
  · go_enter Try.func92, Try.ntmps92
    go_upto_region 1 with fail
    rw [← hX]
    clear hX
    go_wp2_with fail
    go_ret
    exact ⟨by rw [← HR.out]; simp [q0, q1, q2, q3], hB⟩
  cases q4 : decide (0 ≤ c)
  · go_enter Try.func92, Try.ntmps92
    go_upto_region 1 with fail
    rw [← hX]
    clear hX
    go_wp2_with fail
    go_ret
    exact ⟨by rw [← HR.out]; simp [q0, q1, q2, q3, q4], hB⟩
  cases q5 : decide (c ≤ 1099511627776)
  · go_enter Try.func92, Try.ntmps92
    go_upto_region 1 with fail
    rw [← hX]
    clear hX
    go_wp2_with fail
    go_ret
    exact ⟨by rw [← HR.out]; simp [q0, q1, q2, q3, q4, q5], hB⟩
  go_enter Try.func92, Try.ntmps92
  go_upto_region 1 with fail
  rw [← hX]
  clear hX
  go_wp2_with fail
  go_ret
  exact ⟨by rw [← HR.out]; simp [q0, q1, q2, q3, q4, q5], hB⟩
theorem right_any (s : St) (w : World) : Calls Try.prog 92 #[stV s] w fun e w' => e = .returned (.bool (okS s)) ∧ Below w.heap.size w w' := by
  have h := right_walk s.router s.seq s.time s.up w
  have e1 : decide (1 ≤ (s.seq : Int)) = decide (1 ≤ s.seq) := decide_eq_decide.2 (by omega)
  have e2 : decide ((s.seq : Int) ≤ 1099511627776) = decide (s.seq ≤ 1099511627776) := decide_eq_decide.2 (by omega)
  rw [e1, e2] at h
  exact h
end Go.Proofs.Ytemefcojmidmbaa.Ord
namespace Go.Proofs.Ytemefcojmidmbaa.Ord
open Go.RowKit
open Go.Proofs.Ytemefcojmidmbaa.Msg (Ev okE checkE evV evC FitE echeck_any cells12')
open Go.Proofs.Ytemefcojmidmbaa.Addr (RowAt below2 below_drew below_new bset RowAt.lt RowAt.cell RowAt.frozen RowAt.below RowAt.drew RowAt.new RowAt.alloc gdrew gset gbelow galloc grefl gfinal cells2 cells4 results_cell Bl bl_ne wp_region_bl bl_call bl_same)

def prevR (l : List St) (k : Nat) : Option Int := match k with
  | 0 => none
  | j + 1 => (l[j]?).map (·.router)
theorem rise_zero (l : List St) (h : 0 < l.length) : rise (prevR l 0) (l.drop 0) = (okS l[0] && rise (prevR l 1) (l.drop 1)) := by
  match l, h with
  | s :: t, _ => rfl
theorem rise_succ (l : List St) (j : Nat) (h : j + 1 < l.length) : rise (prevR l (j + 1)) (l.drop (j + 1)) = (okS l[j + 1] && !decide (l[j + 1].router ≤ l[j].router) && rise (prevR l (j + 2)) (l.drop (j + 2))) := by
  have e1 : prevR l (j + 1) = some l[j].router := by show (l[j]?).map (·.router) = _; rw [List.getElem?_eq_getElem (by omega)]; rfl
  have e2 : prevR l (j + 2) = some l[j + 1].router := by show (l[j + 1]?).map (·.router) = _; rw [List.getElem?_eq_getElem (by omega)]; rfl
  have e3 : l.drop (j + 1) = l[j + 1] :: l.drop (j + 2) := List.drop_eq_getElem_cons h
  have e4 : decide (l[j].router < l[j + 1].router) = !decide (l[j + 1].router ≤ l[j].router) := by
    rw [Bool.eq_iff_iff]; simp
  rw [e1, e2, e3, rise, e4]
theorem round_bad {l : List St} {k : Nat} (hk : k < l.length) {R : Int} (HD : R = if rise none l then 0 else 2) (HG : rise none l = rise (prevR l k) (l.drop k)) (h : okS l[k] = false) : R = 2 := by
  rw [HD, HG]
  cases k with
  | zero => rw [rise_zero l hk, h]; rfl
  | succ j => rw [rise_succ l j hk, h]; rfl
theorem round_first {l : List St} {k : Nat} (hk : k < l.length) (HG : rise none l = rise (prevR l k) (l.drop k)) (h : okS l[k] = true) (h0 : k = 0) : rise none l = rise (prevR l 1) (l.drop 1) := by
  subst h0
  rw [HG, rise_zero l hk, h, Bool.true_and]
theorem round_next {l : List St} {k j : Nat} (hk : k < l.length) {R : Int} (HD : R = if rise none l then 0 else 2) (HG : rise none l = rise (prevR l k) (l.drop k)) (h : okS l[k] = true) (h0 : k = j + 1) (hj : j < l.length) :
    (decide (l[k].router ≤ l[j].router) = false → rise none l = rise (prevR l (k + 1)) (l.drop (k + 1))) ∧ (decide (l[k].router ≤ l[j].router) = true → R = 2) := by
  subst h0
  constructor
  · intro hd
    rw [HG, rise_succ l j hk, h, hd]
    rfl
  · intro hd
    rw [HD, HG, rise_succ l j hk, h, hd]
    rfl
theorem below_drewN {B : Nat} {w0 w : World} (h : Below B w0 w) (n : Nat) : Below B w0 (w.drewN n) := h.trans ⟨rfl, rfl, rfl, Nat.le_refl _, fun _ _ => rfl⟩
set_option maxHeartbeats 4000000 in
set_option maxRecDepth 20000 in
theorem check_any (l : List St) (v : Value) (w : World) (h : HasSts w v l) :
    Calls Try.prog 60 #[v] w fun e w' => e = .returned (.int .i64 (checkL l)) ∧ Below w.heap.size w w' := by
  obtain ⟨o, c, rfl, hc1, hc2⟩ := HasRow.slice h
  have HR : Hid (∀ wr : World, Below w.heap.size w wr → HasSts wr (.slice o l.length c) l) := fun wr hb => h.keep hb
  obtain ⟨n, hn⟩ : ∃ n, n = l.length := ⟨_, rfl⟩
  have HN : Hid (n = l.length) := hn
  rw [← hn] at HR hc1 ⊢
  have HC : Hid (checkL l = if (decide (n ≤ 64) && rise none l) then 0 else 2) := by show _ = _; unfold checkL okL; rw [← hn]
  generalize checkL l = R at HC ⊢
  clear h hn
  by_cases h64 : 64 < n
  · have HV : Hid (R = 2) := by show _ = _; rw [HC.out, decide_eq_false (by omega)]; rfl
    have q1 : decide ((64 : Int) < (n : Int)) = true := decide_eq_true (by omega)
    have q2 : decide (64 < n) = true := decide_eq_true h64
    clear HC HR
    go_enter Try.func60, Try.ntmps60
    go_wp2_with fail
    go_ret
    exact ⟨by rw [HV.out]; rfl, Below.refl _ _⟩
  · have HD : Hid (R = if rise none l then 0 else 2) := by show _ = _; rw [HC.out, decide_eq_true (by omega)]; rfl
    have hni : (n : Int) ≤ 64 := by omega
    have q1 : decide ((64 : Int) < (n : Int)) = false := decide_eq_false (by omega)
    have q2 : decide (64 < n) = false := decide_eq_false h64
    clear HC h64
    go_enter Try.func60, Try.ntmps60
    go_wp2_with fail
    go_loopw [10] (fun i wr => ∃ k : Nat, k ≤ n ∧ i = .int .i64 k ∧ Below w.heap.size w wr ∧ Hid (rise none l = rise (prevR l k) (l.drop k))) (fun i _ => n - (intOf i).toNat)
    case atStart => exact ⟨0, by omega, rfl, Below.refl _ _, (rfl : rise none l = _)⟩
    case round =>
      obtain ⟨k, hk, rfl, hB, HG⟩ := hrel
      have hh := HR.out _ hB
      by_cases hlt : k < n
      · have hkz : k < l.length := by rw [← HN.out]; exact hlt
        obtain ⟨g1, i1, rfl, hg1, a0, a1, a2, a3⟩ := HasSts.cell hh k hkz
        have cr : ∀ W : World, Calls Try.prog 92 #[.agg #[.int .i64 l[k].router, .int .u64 (l[k].seq : Int), .int .i64 l[k].time, .bool l[k].up]] W fun e w' => e = .returned (.bool (okS l[k])) ∧ Below W.heap.size W w' := fun W => right_any l[k] W
        have hki : (k : Int) < (n : Int) := by omega
        have HB1 : Hid (okS l[k] = false → R = 2) := fun h => round_bad hkz HD.out HG.out h
        have HB2 : Hid (okS l[k] = true → k = 0 → rise none l = rise (prevR l 1) (l.drop 1)) := fun h h0 => round_first hkz HG.out h h0
        have HB3 : Hid (okS l[k] = true → ∀ (j : Nat) (hj : j < l.length), k = j + 1 → (decide (l[k].router ≤ l[j].router) = false → rise none l = rise (prevR l (k + 1)) (l.drop (k + 1))) ∧ (decide (l[k].router ≤ l[j].router) = true → R = 2)) := fun h j hj h0 => round_next hkz HD.out HG.out h h0 hj
        generalize okS l[k] = B1 at cr HB1 HB2 HB3
        generalize l[k].router = ra at a0 cr HB3
        clear HG
        generalize (l[k].seq : Int) = rb at a1 cr
        generalize l[k].time = rc at a2 cr
        generalize l[k].up = ru at a3 cr
        go_upto_region 6 with fail
        obtain ⟨X, hX⟩ : ∃ X, X = wr.alloc (.cells #[.int .i64 ra, .int .u64 rb, .int .i64 rc, .bool ru] 60) := ⟨_, rfl⟩
        have hbX : Below wr.heap.size wr X := by rw [hX]; exact below_new (Below.refl _ _) _
        have rx : RowAt X wr.heap.size [.int .i64 ra, .int .u64 rb, .int .i64 rc, .bool ru] 60 := by rw [hX]; exact RowAt.new _ _ _
        rw [← hX]
        have hBX := below2 hB hbX
        have hhX := hh.keep hbX
        clear hX
        obtain ⟨gs, hgs⟩ : ∃ g, g = wr.heap.size := ⟨_, rfl⟩
        rw [← hgs] at rx ⊢
        clear hgs a0 a1 a2 a3 hg1
        have m0 : ∀ p : Bl X, p.W.cell? ⟨gs, 0, none⟩ = some (.int .i64 ra) := fun p => (rx.below p.h).cell 0
        have m1 : ∀ p : Bl X, p.W.cell? ⟨gs, 1, none⟩ = some (.int .u64 rb) := fun p => (rx.below p.h).cell 1
        have m2 : ∀ p : Bl X, p.W.cell? ⟨gs, 2, none⟩ = some (.int .i64 rc) := fun p => (rx.below p.h).cell 2
        have m3 : ∀ p : Bl X, p.W.cell? ⟨gs, 3, none⟩ = some (.bool ru) := fun p => (rx.below p.h).cell 3
        haveI := bl_ne X
        cases B1
        · have HV : Hid (R = 2) := HB1.out rfl
          clear HB1 HB2 HB3 HD hh hhX
          refine wp_region_bl (by kernel_rfl) (by kernel_rfl) ?_
          repeat (go_big_quiet_step (first | (go_at_call 92; with_reducible exact bl_call (cr _))))
          refine wpQuiet_nil ?_
          intro wq hw'
          obtain ⟨⟨wz, hq⟩, hw2⟩ := hw'
          subst hw2
          have hW := below2 hBX hq
          go_wp2_with fail
          go_ret
          exact ⟨by rw [HV.out]; rfl, hW⟩
        · by_cases hk0 : k = 0
          · have HS1 : Hid (rise none l = rise (prevR l 1) (l.drop 1)) := HB2.out rfl hk0
            clear HB1 HB2 HB3 hh hhX
            have hz1 : decide ((0 : Int) < (k : Int)) = false := decide_eq_false (by omega)
            have hz2 : decide (0 < k) = false := decide_eq_false (by omega)
            have HK : Hid (k = 0) := hk0
            clear hk0
            refine wp_region_bl (by kernel_rfl) (by kernel_rfl) ?_
            repeat (go_big_quiet_step (first | (go_at_call 92; with_reducible exact bl_call (cr _))))
            refine wpQuiet_nil ?_
            intro wq hw'
            obtain ⟨⟨wz, hq⟩, hw2⟩ := hw'
            subst hw2
            have hW := below2 hBX hq
            go_wp2_with fail
            go_roundw
            case rel => exact ⟨k + 1, by omega, by go_num, hW, by rw [HK.out]; exact HS1⟩
            case measure => simp [intOf]; omega
          · obtain ⟨j, hj⟩ : ∃ j, k = j + 1 := ⟨k - 1, by omega⟩
            have hj2 : j < l.length := by omega
            obtain ⟨g2, i2, e12, hg2, b0, _, _, _⟩ := HasSts.cell hhX j hj2
            injection e12 with e12
            injection e12 with e1 e2
            subst e1 e2
            obtain ⟨HN1, HN2⟩ := HB3.out rfl j hj2 hj
            have HN1 : Hid (decide (ra ≤ l[j].router) = false → rise none l = rise (prevR l (k + 1)) (l.drop (k + 1))) := HN1
            have HN2 : Hid (decide (ra ≤ l[j].router) = true → R = 2) := HN2
            have u0 : ∀ p : Bl X, p.W.cell? ⟨g1, i1 + j * 4, none⟩ = some (.int .i64 l[j].router) := fun p => (p.h.cell (p := ⟨g1, i1 + j * 4, none⟩) hg2).trans b0
            clear HB1 HB2 HB3 hh hhX b0 hg2
            generalize l[j].router = pr at u0 HN1 HN2
            have e1 : (k : Int) - 1 = (j : Int) := by omega
            have e2 : IntKind.i64.wrap (j : Int) = (j : Int) := by rw [IntKind.wrap_i64]; omega
            have hkp : decide ((0 : Int) < (k : Int)) = true := decide_eq_true (by omega)
            have hkp' : decide (0 < k) = true := decide_eq_true (by omega)
            have hjn : (j : Int) < (n : Int) := by omega
            clear hj hk0
            cases B2 : decide (ra ≤ pr)
            · have HS1 : Hid (rise none l = rise (prevR l (k + 1)) (l.drop (k + 1))) := HN1.out B2
              clear HN1 HN2
              refine wp_region_bl (by kernel_rfl) (by kernel_rfl) ?_
              repeat (go_big_quiet_step (first | (go_at_call 92; with_reducible exact bl_call (cr _))))
              refine wpQuiet_nil ?_
              intro wq hw'
              obtain ⟨⟨wz, hq⟩, hw2⟩ := hw'
              subst hw2
              have hW := below2 hBX hq
              go_wp2_with fail
              go_roundw
              case rel => exact ⟨k + 1, by omega, by go_num, hW, HS1⟩
              case measure => simp [intOf]; omega
            · have HV : Hid (R = 2) := HN2.out B2
              clear HN1 HN2 HD
              refine wp_region_bl (by kernel_rfl) (by kernel_rfl) ?_
              repeat (go_big_quiet_step (first | (go_at_call 92; with_reducible exact bl_call (cr _))))
              refine wpQuiet_nil ?_
              intro wq hw'
              obtain ⟨⟨wz, hq⟩, hw2⟩ := hw'
              subst hw2
              have hW := below2 hBX hq
              go_wp2_with fail
              go_ret
              exact ⟨by rw [HV.out]; rfl, hW⟩
      · obtain rfl : k = n := by omega
        have HV : Hid (R = 0) := by
          show _ = _
          rw [HD.out, HG.out, List.drop_of_length_le (by rw [← HN.out]; exact Nat.le_refl _)]
          unfold prevR
          split <;> rfl
        clear hh HG HD
        go_wp2
        go_ret
        exact ⟨by rw [HV.out]; rfl, hB⟩
end Go.Proofs.Ytemefcojmidmbaa.Ord
namespace Go.Proofs.Ytemefcojmidmbaa.Ord
open Go.RowKit
open Go.Proofs.Ytemefcojmidmbaa.Msg (Ev okE checkE evV evC FitE echeck_any cells12' gkeep gsetO results_cell_tmp1)
open Go.Proofs.Ytemefcojmidmbaa.Addr (RowAt below2 below_drew below_new bset RowAt.lt RowAt.cell RowAt.frozen RowAt.below RowAt.drew RowAt.new RowAt.alloc gdrew gset gbelow galloc grefl gfinal cells2 cells4 results_cell Bl bl_ne wp_region_bl bl_call bl_same)

set_option maxHeartbeats 2000000 in
theorem is_any (a : Int) (b : Int) (c : Int) (u : Bool) (g : Nat) (r : Int) (w : World) (hg : RowAt w g [.int .i64 r] 3) :
    Calls Try.prog 94 #[.agg #[.int .i64 a, .int .u64 b, .int .i64 c, .bool u], .pointer (some ⟨g, 0, none⟩)] w fun e w' => e = .returned (.bool (decide (a = r))) ∧ Below w.heap.size w w' := by
  obtain ⟨X, hX⟩ : ∃ X, X = w.alloc (.cells #[.int .i64 a, .int .u64 b, .int .i64 c, .bool u] 60) := ⟨_, rfl⟩
  have hB : Below w.heap.size w X := by rw [hX]; exact below_new (Below.refl _ _) _
  have r0 : RowAt X w.heap.size [.int .i64 a, .int .u64 b, .int .i64 c, .bool u] 60 := by rw [hX]; exact RowAt.new _ _ _
  have r1 := RowAt.below hg hB
  obtain ⟨x0, x1, x2, x3, xf⟩ := cells4 r0
  have y0 : X.cell? ⟨g, 0, none⟩ = some (.int .i64 r) := r1.cell 0
  clear r0 r1 hg
  go_enter Try.func94, Try.ntmps94
  go_upto_region 1 with fail
  rw [← hX]
  clear hX
  go_wp2_with fail
  go_ret
  exact ⟨by simp [Bool.beq_eq_decide_eq], hB⟩
/-- the place of the first seat of a router from the k-th on -/
def idxL (l : List St) (r : Int) (k : Nat) : Int :=
  match (l.drop k).findIdx? (fun s => decide (s.router = r)) with
  | some j => ((k + j : Nat) : Int)
  | none => -1
theorem idx_end (l : List St) (r : Int) (k : Nat) (h : l.length ≤ k) : idxL l r k = -1 := by unfold idxL; rw [List.drop_of_length_le h]; rfl
theorem idx_hit (l : List St) (r : Int) (k : Nat) (h : k < l.length) (hr : decide (l[k].router = r) = true) : idxL l r k = (k : Int) := by
  unfold idxL
  rw [List.drop_eq_getElem_cons h, List.findIdx?_cons, hr]
  simp
theorem idx_miss (l : List St) (r : Int) (k : Nat) (h : k < l.length) (hr : decide (l[k].router = r) = false) : idxL l r k = idxL l r (k + 1) := by
  unfold idxL
  rw [List.drop_eq_getElem_cons h, List.findIdx?_cons, hr]
  cases (l.drop (k + 1)).findIdx? (fun s => decide (s.router = r)) with
  | none => simp
  | some j => simp; omega
set_option maxHeartbeats 4000000 in
set_option maxRecDepth 20000 in
theorem index_any (l : List St) (v : Value) (g : Nat) (r : Int) (w : World) (h : HasSts w v l) (hg : RowAt w g [.int .i64 r] 3) :
    Calls Try.prog 93 #[v, .func (.func 94) #[] #[.pointer (some ⟨g, 0, none⟩)]] w fun e w' => e = .returned (.int .i64 (idxL l r 0)) ∧ Below w.heap.size w w' := by
  obtain ⟨o, c, rfl, hc1, hc2⟩ := HasRow.slice h
  have HR : Hid (∀ wr : World, Below w.heap.size w wr → HasSts wr (.slice o l.length c) l ∧ RowAt wr g [.int .i64 r] 3) := fun wr hb => ⟨h.keep hb, RowAt.below hg hb⟩
  obtain ⟨n, hn⟩ : ∃ n, n = l.length := ⟨_, rfl⟩
  have HN : Hid (n = l.length) := hn
  rw [← hn] at HR hc1 ⊢
  have hni : (n : Int) ≤ 9223372036854775807 := by omega
  obtain ⟨R, hR⟩ : ∃ R, R = idxL l r 0 := ⟨_, rfl⟩
  have HD : Hid (R = idxL l r 0) := hR
  rw [← hR]
  clear h hg hn hR
  go_enter Try.func93, Try.ntmps93
  go_wp2_with fail
  go_loopw [8] (fun i wr => ∃ k : Nat, k ≤ n ∧ i = .int .i64 k ∧ Below w.heap.size w wr ∧ Hid (R = idxL l r k)) (fun i _ => n - (intOf i).toNat)
  case atStart => exact ⟨0, by omega, rfl, Below.refl _ _, HD⟩
  case round =>
    obtain ⟨k, hk, rfl, hB, HG⟩ := hrel
    obtain ⟨hh, hr⟩ := HR.out _ hB
    by_cases hlt : k < n
    · have hkz : k < l.length := by rw [← HN.out]; exact hlt
      obtain ⟨g1, i1, rfl, hg1, a0, a1, a2, a3⟩ := HasSts.cell hh k hkz
      have HB1 : Hid (decide (l[k].router = r) = true → R = (k : Int)) := fun h => by rw [HG.out]; exact idx_hit l r k hkz h
      have HB2 : Hid (decide (l[k].router = r) = false → R = idxL l r (k + 1)) := fun h => by rw [HG.out]; exact idx_miss l r k hkz h
      have hki : (k : Int) < (n : Int) := by omega
      generalize l[k].router = ra at a0 HB1 HB2
      generalize (l[k].seq : Int) = rb at a1
      generalize l[k].time = rc at a2
      generalize l[k].up = ru at a3
      have cr := is_any ra rb rc ru g r wr hr
      generalize decide (ra = r) = B at cr HB1 HB2
      clear HG hh hr hg1
      go_wp2_with fail
      go_at_call 94; refine cr.mono ?_; rintro e w1 ⟨rfl, hb1⟩
      have hW := below2 hB hb1
      cases B
      · have HS1 := HB2.out rfl
        clear HB1 HB2 a0 a1 a2 a3
        go_wp2_with fail
        go_roundw
        case rel => exact ⟨k + 1, by omega, by go_num, hW, HS1⟩
        case measure => simp [intOf]; omega
      · have HV : Hid (R = (k : Int)) := HB1.out rfl
        clear HB1 HB2 a0 a1 a2 a3
        go_wp2_with fail
        go_ret
        exact ⟨by rw [HV.out]; rfl, hW⟩
    · obtain rfl : k = n := by omega
      have HV : Hid (R = -1) := by show _ = _; rw [HG.out]; exact idx_end l r _ (by rw [← HN.out]; exact Nat.le_refl _)
      clear hh hr HG
      go_wp2
      go_ret
      exact ⟨by rw [HV.out]; rfl, hB⟩
theorem idx_find (l : List St) (r : Int) : (idxL l r 0 = -1 ∧ findL l r = none) ∨ ∃ (j : Nat) (hj : j < l.length), idxL l r 0 = (j : Int) ∧ findL l r = some l[j] := by
  unfold idxL findL
  rw [List.drop_zero]
  cases hf : l.findIdx? (fun s => decide (s.router = r)) with
  | none =>
    refine .inl ⟨rfl, ?_⟩
    rw [List.findIdx?_eq_none_iff] at hf
    rw [List.find?_eq_none]
    intro x hx
    rw [hf x hx]
    simp
  | some j =>
    rw [List.findIdx?_eq_some_iff_getElem] at hf
    obtain ⟨hj, h1, h2⟩ := hf
    refine .inr ⟨j, hj, by simp, ?_⟩
    rw [List.find?_eq_some_iff_getElem]
    exact ⟨h1, j, hj, rfl, fun i hi => by have := h2 i hi; simpa using this⟩
set_option maxHeartbeats 4000000 in
set_option maxRecDepth 20000 in
theorem find_any (l : List St) (v : Value) (r : Int) (w : World) (h : HasSts w v l) :
    Calls Try.prog 61 #[v, .int .i64 r] w fun e w' => e = .returned (.tuple #[stV (seatOf l r), .bool (isIn l r)]) ∧ Below w.heap.size w w' := by
  obtain ⟨o, c, rfl, hc1, hc2⟩ := HasRow.slice h
  have HR : Hid (∀ wr : World, Below w.heap.size w wr → HasSts wr (.slice o l.length c) l) := fun wr hb => h.keep hb
  obtain ⟨X, hX⟩ : ∃ X, X = (w.alloc (.cells #[.int .i64 r] 3)).alloc (.cells #[.int .i64 0, .int .u64 0, .int .i64 0, .bool false] 60) := ⟨_, rfl⟩
  have hB : Below w.heap.size w X := by rw [hX]; exact below_new (below_new (Below.refl _ _) _) _
  have rr : RowAt X w.heap.size [.int .i64 r] 3 := by rw [hX]; exact (RowAt.new w [.int .i64 r] 3).alloc _
  have rs : RowAt X (w.heap.size + 1) [.int .i64 0, .int .u64 0, .int .i64 0, .bool false] 60 := by
    have h := RowAt.new (w.alloc (.cells #[.int .i64 r] 3)) [.int .i64 0, .int .u64 0, .int .i64 0, .bool false] 60
    rw [World.size_alloc] at h
    rw [hX]; exact h
  have cI := index_any l (.slice o l.length c) w.heap.size r X (HR.out _ hB) rr
  have hix := idx_find l r
  have hSt : stV (seatOf l r) = match findL l r with | some s => stV s | none => .agg #[.int .i64 0, .int .u64 0, .int .i64 0, .bool false] := by
    unfold seatOf
    cases findL l r <;> rfl
  have hIs : isIn l r = (findL l r).isSome := rfl
  rw [hSt, hIs]
  clear hSt hIs
  obtain ⟨n, hn⟩ : ∃ n, n = l.length := ⟨_, rfl⟩
  have HN : Hid (n = l.length) := hn
  rw [← hn] at HR hc1 cI ⊢
  have hni : (n : Int) ≤ 9223372036854775807 := by omega
  clear h hn rr
  have hls := RowAt.lt rs
  rcases hix with ⟨h1, h2⟩ | ⟨j, hj, h1, h2⟩
  · rw [h2]
    rw [h1] at cI
    clear h1 h2 HR
    go_enter Try.func61, Try.ntmps61
    go_upto_region 1 with fail
    rw [← hX]
    clear hX
    go_wp2_with fail
    go_at_call 93; refine cI.mono ?_; rintro e w1 ⟨rfl, hb1⟩
    have hW := below2 hB hb1
    replace rs := RowAt.below rs hb1
    clear hls
    obtain ⟨x0, x1, x2, x3, xf⟩ := cells4 rs
    have hls := RowAt.lt rs
    have hgw : w.heap.size ≤ w.heap.size + 1 := by omega
    generalize w.heap.size + 1 = gs at *
    go_wp2_with fail
    refine bodyPost_ret (v := .tuple #[.agg #[.int .i64 0, .int .u64 0, .int .i64 0, .bool false], .bool false]) ?_ rfl ⟨rfl, ?_⟩
    any_goals (rw [results_cell_tmp1 rfl]; go_simp)
    all_goals (repeat' (first | with_reducible exact hW | with_reducible apply below_drew | with_reducible refine bset ?_ (by omega)))
  · rw [h2]
    rw [h1] at cI
    show Calls Try.prog _ _ w fun e w' => e = .returned (.tuple #[.agg #[.int .i64 l[j].router, .int .u64 (l[j].seq : Int), .int .i64 l[j].time, .bool l[j].up], .bool true]) ∧ Below w.heap.size w w'
    have hjn : (j : Int) < (n : Int) := by rw [HN.out]; omega
    have q1 : decide ((j : Int) < 0) = false := decide_eq_false (by omega)
    have HCL : Hid (∀ W : World, HasSts W (.slice o n c) l → ∃ b i, o = some ⟨b, i, none⟩ ∧ b < W.heap.size ∧ W.cell? ⟨b, i + j * 4, none⟩ = some (.int .i64 l[j].router) ∧ W.cell? ⟨b, i + j * 4 + 1, none⟩ = some (.int .u64 (l[j].seq : Int)) ∧ W.cell? ⟨b, i + j * 4 + 2, none⟩ = some (.int .i64 l[j].time) ∧ W.cell? ⟨b, i + j * 4 + 3, none⟩ = some (.bool l[j].up)) := fun W h => HasSts.cell h j hj
    generalize l[j].router = ra at HCL ⊢
    generalize (l[j].seq : Int) = rb at HCL ⊢
    generalize l[j].time = rc at HCL ⊢
    generalize l[j].up = ru at HCL ⊢
    go_enter Try.func61, Try.ntmps61
    go_upto_region 1 with fail
    rw [← hX]
    clear hX
    go_wp2_with fail
    go_at_call 93; refine cI.mono ?_; rintro e w1 ⟨rfl, hb1⟩
    have hW := below2 hB hb1
    replace rs := RowAt.below rs hb1
    clear hls
    obtain ⟨x0, x1, x2, x3, xf⟩ := cells4 rs
    have hls := RowAt.lt rs
    have hgw : w.heap.size ≤ w.heap.size + 1 := by omega
    generalize w.heap.size + 1 = gs at *
    obtain ⟨g1, i1, rfl, hg1, a0, a1, a2, a3⟩ := HCL.out _ (HR.out _ hW)
    clear h1 h2 HR HCL
    go_wp2_with fail
    refine bodyPost_ret (v := .tuple #[.agg #[.int .i64 ra, .int .u64 rb, .int .i64 rc, .bool ru], .bool true]) ?_ rfl ⟨rfl, ?_⟩
    any_goals (rw [results_cell_tmp1 rfl]; go_simp)
    all_goals (repeat' (first | with_reducible exact hW | with_reducible apply below_drew | with_reducible refine bset ?_ (by omega)))
end Go.Proofs.Ytemefcojmidmbaa.Ord
namespace Go.Proofs.Ytemefcojmidmbaa.Ord
open Go.RowKit
open Go.Proofs.Ytemefcojmidmbaa.Msg (Ev okE checkE evV evC FitE echeck_any cells12' gkeep gsetO results_cell_tmp1)
open Go.Proofs.Ytemefcojmidmbaa.Addr (hiN loN RowAt below2 below_drew below_new bset RowAt.lt RowAt.cell RowAt.frozen RowAt.below RowAt.drew RowAt.new RowAt.alloc gdrew gset gbelow galloc grefl gfinal cells2 cells4 results_cell Bl bl_ne wp_region_bl bl_call bl_same)

set_option maxHeartbeats 4000000 in
set_option maxRecDepth 20000 in
theorem ask_walk (v : Value) (c0 c1 c2 c3 c5 c6 c7 c8 c9 c10 c11 : Int) (cs : Bool) (h : Int) (w : World) (E1 E2 R : Int)
    (k1 : ∀ W : World, Below w.heap.size w W → Calls Try.prog 60 #[v] W fun e w' => e = .returned (.int .i64 E1) ∧ Below W.heap.size W w')
    (k2 : ∀ W : World, Calls Try.prog 16 #[.agg #[.int .u8 c0, .int .i64 c1, .int .u64 c2, .int .i64 c3, .bool cs, .int .u64 c5, .int .u64 c6, .int .i64 c7, .int .u8 c8, .int .i64 c9, .int .i64 c10, .int .i64 c11]] W fun e w' => e = .returned (.int .i64 E2) ∧ Below W.heap.size W w')
    (H1 : E1 ≠ 0 → Hid (R = 2)) (H2 : E2 ≠ 0 → Hid (R = 2)) (H3 : E1 = 0 → E2 = 0 → (h < -1 ∨ 1099511627776 < h) → Hid (R = 1)) (H4 : E1 = 0 → E2 = 0 → ¬ (h < -1 ∨ 1099511627776 < h) → Hid (R = 0)) :
    Calls Try.prog 30 #[v, .agg #[.int .u8 c0, .int .i64 c1, .int .u64 c2, .int .i64 c3, .bool cs, .int .u64 c5, .int .u64 c6, .int .i64 c7, .int .u8 c8, .int .i64 c9, .int .i64 c10, .int .i64 c11], .int .i64 h] w fun e w' => e = .returned (.int .i64 R) ∧ Below w.heap.size w w' := by
  obtain ⟨X, hX⟩ : ∃ X, X = w.alloc (.cells #[.int .u8 c0, .int .i64 c1, .int .u64 c2, .int .i64 c3, .bool cs, .int .u64 c5, .int .u64 c6, .int .i64 c7, .int .u8 c8, .int .i64 c9, .int .i64 c10, .int .i64 c11] 35) := ⟨_, rfl⟩
  have hB : Below w.heap.size w X := by rw [hX]; exact below_new (Below.refl _ _) _
  have r0 : RowAt X w.heap.size [.int .u8 c0, .int .i64 c1, .int .u64 c2, .int .i64 c3, .bool cs, .int .u64 c5, .int .u64 c6, .int .i64 c7, .int .u8 c8, .int .i64 c9, .int .i64 c10, .int .i64 c11] 35 := by rw [hX]; exact RowAt.new _ _ _
  go_enter Try.func30, Try.ntmps30
  go_upto_region 1 with fail
  rw [← hX]
  clear hX
  go_wp2_with fail
  go_at_call 60; refine (k1 _ hB).mono ?_; rintro e w1 ⟨rfl, hb1⟩
  replace hB := below2 hB hb1
  replace r0 := RowAt.below r0 hb1
  clear hb1 k1
  obtain ⟨⟨y0, y1, y2, y3, y4, y5⟩, ⟨y6, y7, y8, y9, y10, y11⟩, yf, hly⟩ := cells12' r0
  by_cases h1 : E1 = 0
  · subst h1
    go_wp2_with fail
    go_at_call 16; refine (k2 _).mono ?_; rintro e w2 ⟨rfl, hb2⟩
    replace hB := below2 hB hb2
    clear y0 y1 y2 y3 y4 y5 y6 y7 y8 y9 y10 y11 yf hly hb2 r0 k2
    by_cases h2 : E2 = 0
    · subst h2
      by_cases h3 : h < -1
      · have HV := (H3 (by trivial) (by trivial) (.inl h3))
        have q1 : decide (h < -1) = true := decide_eq_true h3
        clear H1 H2 H3 H4
        go_wp2_with fail
        go_ret
        exact ⟨by rw [HV.out]; rfl, hB⟩
      · have q1 : decide (h < -1) = false := decide_eq_false h3
        by_cases h4 : 1099511627776 < h
        · have HV := (H3 (by trivial) (by trivial) (.inr h4))
          have q2 : decide (1099511627776 < h) = true := decide_eq_true h4
          clear H1 H2 H3 H4
          go_wp2_with fail
          go_ret
          exact ⟨by rw [HV.out]; rfl, hB⟩
        · have HV := (H4 (by trivial) (by trivial) (fun c => c.elim h3 h4))
          have q2 : decide (1099511627776 < h) = false := decide_eq_false h4
          clear H1 H2 H3 H4
          go_wp2_with fail
          go_ret
          exact ⟨by rw [HV.out]; rfl, hB⟩
    · have HV := H2 h2
      have q1 : (E2 == 0) = false := beq_eq_false_iff_ne.2 h2
      have q2 : (E2 != 0) = true := bne_iff_ne.2 h2
      clear H1 H2 H3 H4 h2
      go_wp2_with fail
      go_ret
      exact ⟨by rw [HV.out]; rfl, hB⟩
  · have HV := H1 h1
    have q1 : (E1 == 0) = false := beq_eq_false_iff_ne.2 h1
    have q2 : (E1 != 0) = true := bne_iff_ne.2 h1
    clear H1 H2 H3 H4 h1 y0 y1 y2 y3 y4 y5 y6 y7 y8 y9 y10 y11 yf hly r0
    go_wp2_with fail
    go_ret
    exact ⟨by rw [HV.out]; rfl, hB⟩
theorem ask_any (l : List St) (v : Value) (e : Ev) (h : Int) (w : World) (hl : HasSts w v l) (hf : FitE e) :
    Calls Try.prog 30 #[v, evV e, .int .i64 h] w fun r w' => r = .returned (.int .i64 (askL l e h)) ∧ Below w.heap.size w w' := by
  have c1 : checkL l = if okL l = true then 0 else 2 := rfl
  have c2 : checkE e = if okE e = true then 0 else 2 := rfl
  refine ask_walk v _ _ _ _ _ _ _ _ _ _ _ _ h w (checkL l) (checkE e) _ (fun W hb => check_any l v W (hl.keep hb)) (fun W => echeck_any e W hf) ?_ ?_ ?_ ?_
  · intro h1
    show _ = _
    unfold askL
    cases hk : okL l with
    | true => rw [c1, hk] at h1; exact absurd rfl h1
    | false => rfl
  · intro h1
    show _ = _
    unfold askL
    cases hk : okE e with
    | true => rw [c2, hk] at h1; exact absurd rfl h1
    | false => rw [Bool.and_false]; rfl
  · intro h1 h2 h3
    show _ = _
    unfold askL
    cases hk : okL l with
    | false => rw [c1, hk] at h1; exact absurd h1 (by decide)
    | true =>
      cases hk2 : okE e with
      | false => rw [c2, hk2] at h2; exact absurd h2 (by decide)
      | true =>
        show (if h < -1 ∨ 1099511627776 < h then (1 : Int) else 0) = 1
        rw [if_pos h3]
  · intro h1 h2 h3
    show _ = _
    unfold askL
    cases hk : okL l with
    | false => rw [c1, hk] at h1; exact absurd h1 (by decide)
    | true =>
      cases hk2 : okE e with
      | false => rw [c2, hk2] at h2; exact absurd h2 (by decide)
      | true =>
        show (if h < -1 ∨ 1099511627776 < h then (1 : Int) else 0) = 0
        rw [if_neg h3]
set_option maxHeartbeats 8000000 in
set_option maxRecDepth 20000 in
theorem mis_walk (o : Option Addr) (n cp : Nat) (c0 c1 c2 c3 c5 c6 c7 c8 c9 c10 c11 : Int) (cs : Bool) (h : Int) (w : World) (s0 s1 s2 : Int) (su is : Bool) (R : Int)
    (k1 : ∀ W : World, Below w.heap.size w W → Calls Try.prog 61 #[.slice o n cp, .int .i64 c1] W fun e w' => e = .returned (.tuple #[.agg #[.int .i64 s0, .int .u64 s1, .int .i64 s2, .bool su], .bool is]) ∧ Below W.heap.size W w')
    (hs : 0 ≤ s1 ∧ s1 ≤ 1099511627776) (hn : (n : Int) ≤ 64)
    (H1 : is = false ∧ c0 ≠ 1 → Hid (R = 14)) (H2 : ¬ (is = false ∧ c0 ≠ 1) → c2 ≠ s1 + 1 → Hid (R = 12)) (H3 : ¬ (is = false ∧ c0 ≠ 1) → c2 = s1 + 1 → (c3 < s2 ∨ c3 ≤ h) → Hid (R = 13))
    (H4 : ¬ (is = false ∧ c0 ≠ 1) → c2 = s1 + 1 → ¬ (c3 < s2 ∨ c3 ≤ h) → decide (c0 = 1) = su → Hid (R = 10))
    (H5 : ¬ (is = false ∧ c0 ≠ 1) → c2 = s1 + 1 → ¬ (c3 < s2 ∨ c3 ≤ h) → decide (c0 = 1) ≠ su → (is = false ∧ (n : Int) = 64) → Hid (R = 8))
    (H6 : ¬ (is = false ∧ c0 ≠ 1) → c2 = s1 + 1 → ¬ (c3 < s2 ∨ c3 ≤ h) → decide (c0 = 1) ≠ su → ¬ (is = false ∧ (n : Int) = 64) → Hid (R = 0)) :
    Calls Try.prog 31 #[.slice o n cp, .agg #[.int .u8 c0, .int .i64 c1, .int .u64 c2, .int .i64 c3, .bool cs, .int .u64 c5, .int .u64 c6, .int .i64 c7, .int .u8 c8, .int .i64 c9, .int .i64 c10, .int .i64 c11], .int .i64 h] w fun e w' => e = .returned (.int .i64 R) ∧ Below w.heap.size w w' := by
  have hwr : IntKind.u64.wrap (s1 + 1) = s1 + 1 := by rw [IntKind.wrap_u64]; omega
  obtain ⟨X, hX⟩ : ∃ X, X = w.alloc (.cells #[.int .u8 c0, .int .i64 c1, .int .u64 c2, .int .i64 c3, .bool cs, .int .u64 c5, .int .u64 c6, .int .i64 c7, .int .u8 c8, .int .i64 c9, .int .i64 c10, .int .i64 c11] 35) := ⟨_, rfl⟩
  have hB : Below w.heap.size w X := by rw [hX]; exact below_new (Below.refl _ _) _
  have r0 : RowAt X w.heap.size [.int .u8 c0, .int .i64 c1, .int .u64 c2, .int .i64 c3, .bool cs, .int .u64 c5, .int .u64 c6, .int .i64 c7, .int .u8 c8, .int .i64 c9, .int .i64 c10, .int .i64 c11] 35 := by rw [hX]; exact RowAt.new _ _ _
  go_enter Try.func31, Try.ntmps31
  go_upto_region 1 with fail
  rw [← hX]
  clear hX
  obtain ⟨⟨y0, y1, y2, y3, y4, y5⟩, ⟨y6, y7, y8, y9, y10, y11⟩, yf, hly⟩ := cells12' r0
  go_wp2_with fail
  go_at_call 61; refine (k1 _ hB).mono ?_; rintro e w1 ⟨rfl, hb1⟩
  replace hB := below2 hB hb1
  replace r0 := RowAt.below r0 hb1
  clear hb1 k1 y0 y1 y2 y3 y4 y5 y6 y7 y8 y9 y10 y11 yf hly
  obtain ⟨⟨y0, y1, y2, y3, y4, y5⟩, ⟨y6, y7, y8, y9, y10, y11⟩, yf, hly⟩ := cells12' r0
  go_upto_region 2 with fail
  obtain ⟨Y, hY⟩ : ∃ Y, Y = w1.alloc (.cells #[.int .i64 s0, .int .u64 s1, .int .i64 s2, .bool su] 60) := ⟨_, rfl⟩
  have hbY : Below w1.heap.size w1 Y := by rw [hY]; exact below_new (Below.refl _ _) _
  have r1 : RowAt Y w1.heap.size [.int .i64 s0, .int .u64 s1, .int .i64 s2, .bool su] 60 := by rw [hY]; exact RowAt.new _ _ _
  rw [← hY]
  replace r0 := RowAt.below r0 hbY
  replace hB := below2 hB hbY
  clear hY hbY y0 y1 y2 y3 y4 y5 y6 y7 y8 y9 y10 y11 yf hly
  generalize w1.heap.size = g1 at r1 ⊢
  obtain ⟨⟨y0, y1, y2, y3, y4, y5⟩, ⟨y6, y7, y8, y9, y10, y11⟩, yf, hly⟩ := cells12' r0
  obtain ⟨x0, x1, x2, x3, xf⟩ := cells4 r1
  clear r0 r1
  generalize hs1 : s1 + 1 = t1 at *
  by_cases b1 : is = false ∧ c0 ≠ 1
  · have HV := H1 b1
    obtain ⟨rfl, b2⟩ := b1
    have q1 : (c0 == 1) = false := beq_eq_false_iff_ne.2 b2
    clear H1 H2 H3 H4 H5 H6 b2
    go_wp2_with fail
    go_ret
    exact ⟨by rw [HV.out]; rfl, hB⟩
  replace H2 := H2 b1
  replace H3 := H3 b1
  replace H4 := H4 b1
  replace H5 := H5 b1
  replace H6 := H6 b1
  clear H1
  have hc : (is = true ∧ ((c0 == 1) = false ∨ c0 = 1)) ∨ (is = false ∧ c0 = 1) := by
    by_cases b2 : c0 = 1
    · cases is
      · exact .inr ⟨rfl, b2⟩
      · exact .inl ⟨rfl, .inr b2⟩
    · cases is
      · exact absurd ⟨rfl, b2⟩ b1
      · exact .inl ⟨rfl, .inl (beq_eq_false_iff_ne.2 b2)⟩
  clear b1
  by_cases b3 : c2 = t1
  · replace H3 := H3 b3
    replace H4 := H4 b3
    replace H5 := H5 b3
    replace H6 := H6 b3
    clear H2
    subst b3
    by_cases b4 : c3 < s2 ∨ c3 ≤ h
    · have HV := H3 b4
      clear H3 H4 H5 H6
      by_cases b5 : c3 < s2
      · have q3 : decide (c3 < s2) = true := decide_eq_true b5
        rcases hc with ⟨rfl, q1 | rfl⟩ | ⟨rfl, rfl⟩
        all_goals
          go_wp2_with fail
          go_ret
          exact ⟨by rw [HV.out]; rfl, hB⟩
      · have q3 : decide (c3 < s2) = false := decide_eq_false b5
        have q4 : decide (c3 ≤ h) = true := decide_eq_true (b4.resolve_left b5)
        rcases hc with ⟨rfl, q1 | rfl⟩ | ⟨rfl, rfl⟩
        all_goals
          go_wp2_with fail
          go_ret
          exact ⟨by rw [HV.out]; rfl, hB⟩
    · have q3 : decide (c3 < s2) = false := decide_eq_false (fun c => b4 (.inl c))
      have q4 : decide (c3 ≤ h) = false := decide_eq_false (fun c => b4 (.inr c))
      replace H4 := H4 b4
      replace H5 := H5 b4
      replace H6 := H6 b4
      clear H3 b4
      rcases hc with ⟨rfl, q1 | rfl⟩ | ⟨rfl, rfl⟩
      · have e1 : decide (c0 = 1) = false := decide_eq_false (beq_eq_false_iff_ne.1 q1)
        cases su
        · have HV := H4 e1
          clear H4 H5 H6 e1
          go_wp2_with fail
          go_ret
          exact ⟨by rw [HV.out]; rfl, hB⟩
        · have HV := H6 (by rw [e1]; decide) (fun c => absurd c.1 (by decide))
          clear H4 H5 H6 e1
          go_wp2_with fail
          go_ret
          exact ⟨by rw [HV.out]; rfl, hB⟩
      · cases su
        · have HV := H6 (by decide) (fun c => absurd c.1 (by decide))
          clear H4 H5 H6
          go_wp2_with fail
          go_ret
          exact ⟨by rw [HV.out]; rfl, hB⟩
        · have HV := H4 (by decide)
          clear H4 H5 H6
          go_wp2_with fail
          go_ret
          exact ⟨by rw [HV.out]; rfl, hB⟩
      · cases su
        · by_cases b6 : (n : Int) = 64
          · have HV := H5 (by decide) ⟨rfl, b6⟩
            have q6 : ((n : Int) == 64) = true := by rw [b6]; rfl
            have q7 : (n == 64) = true := by simp; omega
            clear H4 H5 H6 b6
            go_wp2_with fail
            go_ret
            exact ⟨by rw [HV.out]; rfl, hB⟩
          · have HV := H6 (by decide) (fun c => b6 c.2)
            have q6 : ((n : Int) == 64) = false := beq_eq_false_iff_ne.2 b6
            have q7 : (n == 64) = false := beq_eq_false_iff_ne.2 (by omega)
            clear H4 H5 H6 b6
            go_wp2_with fail
            go_ret
            exact ⟨by rw [HV.out]; rfl, hB⟩
        · have HV := H4 (by decide)
          clear H4 H5 H6
          go_wp2_with fail
          go_ret
          exact ⟨by rw [HV.out]; rfl, hB⟩
  · have HV := H2 b3
    have q2 : (c2 == t1) = false := beq_eq_false_iff_ne.2 b3
    have q3 : (c2 != t1) = true := bne_iff_ne.2 b3
    clear H2 H3 H4 H5 H6 b3
    rcases hc with ⟨rfl, q1 | rfl⟩ | ⟨rfl, rfl⟩
    all_goals
      go_wp2_with fail
      go_ret
      exact ⟨by rw [HV.out]; rfl, hB⟩
theorem rise_ok (l : List St) : ∀ p, rise p l = true → ∀ s ∈ l, okS s = true := by
  induction l with
  | nil => intro p _ s hs; cases hs
  | cons x t ih =>
    intro p h s hs
    have h2 : okS x = true ∧ rise (some x.router) t = true := by
      cases p with
      | none => simp only [rise, Bool.and_eq_true] at h; exact h
      | some r => simp only [rise, Bool.and_eq_true] at h; exact ⟨h.1.1, h.2⟩
    rcases List.mem_cons.1 hs with rfl | hs
    · exact h2.1
    · exact ih _ h2.2 s hs
theorem okS_bd {s : St} (h : okS s = true) : (0 ≤ s.router ∧ s.router ≤ 1048576) ∧ (1 ≤ s.seq ∧ s.seq ≤ 1099511627776) ∧ (0 ≤ s.time ∧ s.time ≤ 1099511627776) := by
  unfold okS at h
  simp only [Bool.and_eq_true, decide_eq_true_eq] at h
  omega
theorem okL_all {l : List St} (h : okL l = true) : l.length ≤ 64 ∧ ∀ s ∈ l, okS s = true := by
  unfold okL at h
  simp only [Bool.and_eq_true, decide_eq_true_eq] at h
  exact ⟨h.1, rise_ok l none h.2⟩
theorem seat_bd {l : List St} (h : okL l = true) (r : Int) : (0 : Int) ≤ ((seatOf l r).seq : Int) ∧ ((seatOf l r).seq : Int) ≤ 1099511627776 := by
  refine ⟨by omega, ?_⟩
  unfold seatOf
  cases hf : findL l r with
  | none => show ((0 : Nat) : Int) ≤ _; decide
  | some s =>
    have hm : s ∈ l := List.mem_of_find?_eq_some hf
    have := (okS_bd ((okL_all h).2 s hm)).2.1.2
    show (s.seq : Int) ≤ _
    omega
theorem mis_any (l : List St) (v : Value) (e : Ev) (h : Int) (w : World) (hl : HasSts w v l) (hok : okL l = true) :
    Calls Try.prog 31 #[v, evV e, .int .i64 h] w fun r w' => r = .returned (.int .i64 (misL l e h)) ∧ Below w.heap.size w w' := by
  obtain ⟨o, c, rfl, hc1, hc2⟩ := HasRow.slice hl
  have hn := (okL_all hok).1
  refine mis_walk o l.length c _ _ _ _ _ _ _ _ _ _ _ _ h w (seatOf l e.router).router ((seatOf l e.router).seq : Int) (seatOf l e.router).time (seatOf l e.router).up (isIn l e.router) _ (fun W hb => find_any l _ e.router W (hl.keep hb)) (seat_bd hok e.router) (by omega) ?_ ?_ ?_ ?_ ?_ ?_
  all_goals unfold misL
  all_goals (generalize isIn l e.router = is; generalize seatOf l e.router = s)
  · rintro ⟨h1, h2⟩
    show _ = _
    rw [if_pos ⟨h1, by omega⟩]
  · intro h1 h2
    show _ = _
    rw [if_neg (fun c => h1 ⟨c.1, by omega⟩), if_pos (by omega)]
  · intro h1 h2 h3
    show _ = _
    rw [if_neg (fun c => h1 ⟨c.1, by omega⟩), if_neg (by omega), if_pos h3]
  · intro h1 h2 h3 h4
    have h4' : decide (e.kind = 1) = s.up := by rw [← h4]; exact decide_eq_decide.2 (by omega)
    show _ = _
    rw [if_neg (fun c => h1 ⟨c.1, by omega⟩), if_neg (by omega), if_neg h3, if_pos h4']
  · intro h1 h2 h3 h4 h5
    have h4' : ¬ decide (e.kind = 1) = s.up := by intro c; apply h4; rw [← c]; exact decide_eq_decide.2 (by omega)
    show _ = _
    rw [if_neg (fun c => h1 ⟨c.1, by omega⟩), if_neg (by omega), if_neg h3, if_neg h4', if_pos ⟨h5.1, by omega⟩]
  · intro h1 h2 h3 h4 h5
    have h4' : ¬ decide (e.kind = 1) = s.up := by intro c; apply h4; rw [← c]; exact decide_eq_decide.2 (by omega)
    show _ = _
    rw [if_neg (fun c => h1 ⟨c.1, by omega⟩), if_neg (by omega), if_neg h3, if_neg h4', if_neg (fun c => h5 ⟨c.1, by omega⟩)]
theorem ask_ok {l : List St} {e : Ev} {h : Int} (ha : askL l e h = 0) : okL l = true ∧ okE e = true ∧ -1 ≤ h ∧ h ≤ 1099511627776 := by
  unfold askL at ha
  cases hk : okL l with
  | false => rw [hk] at ha; exact absurd (show (2 : Int) = 0 from ha) (by decide)
  | true =>
    cases hk2 : okE e with
    | false => rw [hk, hk2] at ha; exact absurd (show (2 : Int) = 0 from ha) (by decide)
    | true =>
      rw [hk, hk2] at ha
      replace ha : (if h < -1 ∨ 1099511627776 < h then (1 : Int) else 0) = 0 := ha
      split at ha
      · exact absurd ha (by decide)
      · exact ⟨rfl, rfl, by omega, by omega⟩
end Go.Proofs.Ytemefcojmidmbaa.Ord
namespace Go.Proofs.Ytemefcojmidmbaa.Ord
open Go.RowKit Go.Shelf
open Go.Proofs.Ytemefcojmidmbaa.Msg (Ev okE checkE evV evC FitE echeck_any cells12' gkeep gsetO results_cell_tmp1)
open Go.Proofs.Ytemefcojmidmbaa.Addr (hiN loN RowAt below2 below_drew below_new bset RowAt.lt RowAt.cell RowAt.frozen RowAt.below RowAt.drew RowAt.new RowAt.alloc gdrew gset gbelow galloc grefl gfinal cells2 cells4 results_cell Bl bl_ne wp_region_bl bl_call bl_same)
attribute [-go_sem] Builtin.append_

theorem info_seat : (Try.prog.info? 60).map (fun i => (i.zero, i.size, i.bytes)) = some (some (.agg #[.int .i64 0, .int .u64 0, .int .i64 0, .bool false]), 4, 32) := by kernel_rfl
theorem append_row {e tS sz bytes : Nat} {z : Value} (hi : (Try.prog.info? e).map (fun i => (i.zero, i.size, i.bytes)) = some (some z, sz, bytes)) (hu : Try.prog.underlying tS = some (.slice e)) (hz : z.cells.size = sz) (hsz : 0 < sz)
    {W : World} {n₀ k m : Nat} {v u : Value} {xs news : List Value} (hown : W.ownsRow n₀ e sz v k xs) (hsrc : HasRow W u sz m news) (h1 : ∀ x ∈ news, x.oneCell' = true) (hb : (k + m) * bytes ≤ 140737488355328) (hkm : k + m ≤ 9223372036854775807) (hn : n₀ ≤ W.heap.size) :
    ∃ v' w3, (∀ ty, (Builtin.append_ #[tS, tS] ty #[v, u]).run Try.prog W = .ok v' w3) ∧ w3.ownsRow n₀ e sz v' (k + m) (xs ++ news) ∧ W.grownBy w3 v.ownBlock := by
  obtain ⟨i0, hi0, hz0, hz1, hz2⟩ := info_parts hi
  rcases hsrc.2 with ⟨rfl, rfl⟩ | ⟨a, cap, rfl, g1, g2, g3, g4⟩
  · obtain rfl : news = [] := List.eq_nil_of_length_eq_zero (by rw [hsrc.1]; simp)
    have := fun ty => run_append_owned_none (P := Try.prog) W n₀ tS ty e i0 sz hu hi0 v k xs hown
    exact ⟨v, W, this, by simpa using hown, World.grownBy.refl _ _⟩
  · have h := run_append_own (P := Try.prog) W n₀ tS 0 e i0 z sz bytes hu hi0 hz0 hz1 hz2 hz hsz v k xs hown a m cap news hsrc.1
      (fun j x hj => by rw [g4 j (by rw [← hsrc.1]; exact (List.getElem?_eq_some_iff.1 hj).1)]; exact hj) h1 (by unfold maxLen; omega) hb hn
    obtain ⟨v', w3, hrun, k1, k2, _⟩ := h
    exact ⟨v', w3, fun ty => hrun, k1, k2⟩
theorem empty_own (w : World) (e sz : Nat) : (w.alloc (.cells #[] e)).ownsRow w.heap.size e sz (.slice (some ⟨w.heap.size, 0, none⟩) 0 0) 0 [] :=
  World.ownsRow_made (base := w.heap.size) (e := e) (size := sz) w #[] 0 (Nat.le_refl _) (by decide) (by simp)
theorem eql_slice_nil {t e : Nat} (h : Try.prog.underlying t = some (.slice e)) (a : Option Addr) (l c : Nat) (w : World) : (binOp .eql t (.slice a l c) (.slice none 0 0)).run Try.prog w = .ok (.bool a.isNone) w := by
  simp only [binOp]
  simp [run_equal_slice_nil w t e a l c h]
set_option maxRecDepth 20000 in
set_option maxHeartbeats 400000 in
theorem clone_any (l : List St) (v : Value) (w : World) (h : HasSts w v l) (hz : l.length ≤ 1000000000) :
    Calls Try.prog 32 #[v] w fun e w' => ∃ u, e = .returned u ∧ w'.ownsRow w.heap.size 60 4 u l.length (stCs l) ∧ Below w.heap.size w w' := by
  have hk := h.keep ((Below.refl _ w).alloc (Nat.le_refl _) (.cells #[] 60))
  have he := eql_slice_nil Try.underlying52
  rcases h.2 with ⟨rfl, h0⟩ | ⟨a, cap, rfl, g1, g2, g3, g4⟩
  · obtain rfl : l = [] := List.eq_nil_of_length_eq_zero h0
    clear h hk h0 hz
    go_enter Try.func32, Try.ntmps32
    go_wp2
    go_ret
    exact ⟨_, rfl, World.ownsRow_nil _ _ _ _, Below.refl _ _⟩
  · obtain ⟨v', w3, hrun, h1, h2⟩ := append_row info_seat Try.underlying52 rfl (by decide) (empty_own w 60 4) hk (one_seats l) (by omega) (by omega) (by simp)
    rw [Nat.zero_add, List.nil_append] at h1
    have hB : Below w.heap.size w w3 := ((Below.refl _ w).alloc (Nat.le_refl _) _).grown h2 (by simp) (fun k e => by simp [Value.ownBlock] at e; omega)
    have H1 : Hid (w3.ownsRow w.heap.size 60 4 v' l.length (stCs l)) := h1
    have hn9 : l.length ≤ 9223372036854775807 := by omega
    clear h hk h1 h2 g3 g4 hz
    generalize l.length = n at *
    go_enter Try.func32, Try.ntmps32
    go_wp2
    go_ret
    exact ⟨_, rfl, H1.out, hB⟩
theorem zeros_run (n : Nat) (w : World) (h0 : 0 < n) (hn : n ≤ 10000) : ∃ C W', (∀ ty, (Builtin.append_ #[52, 3] ty #[.slice none 0 0, .int .i64 (n : Int)]).run Try.prog w = .ok (.slice (some ⟨w.heap.size, 0, none⟩) n C) W') ∧ n ≤ C ∧ C ≤ 9223372036854775807 ∧
    W'.ownsRow w.heap.size 60 4 (.slice (some ⟨w.heap.size, 0, none⟩) 0 C) 0 [] ∧ Below w.heap.size w W' := by
  obtain ⟨i0, hi, hz0, hz1, hz2⟩ := info_parts info_seat
  have hr := fun ty => Lib.run_append_nil_zeros w 52 3 ty 60 i0 _ .i64 .i64 Try.underlying52 Try.underlying3 hi hz0 n h0 (by rw [hz1]; decide) (by omega) (by rw [hz2]; omega)
  refine ⟨_, _, hr, grownCap_ge _ _ _ _, ?_, ?_, ?_⟩
  · have := grownCap_le_maxLen w n 0 60 (by unfold maxLen; omega)
    unfold maxLen at this
    exact this
  · have := World.ownsRow_made (base := w.heap.size) (e := 60) (size := 4) w.drew (Builtin.zeroCells (Value.cells (.agg #[.int .i64 0, .int .u64 0, .int .i64 0, .bool false])) n ++ Builtin.zeroCells (Value.cells (.agg #[.int .i64 0, .int .u64 0, .int .i64 0, .bool false])) (grownCap w n 0 60 - n)) (grownCap w n 0 60) (Nat.le_refl _) (grownCap_le_maxLen w n 0 _ (by unfold maxLen; omega)) (by
      have := grownCap_ge w n 0 60
      rw [Array.size_append, size_zeroCells, size_zeroCells, show (Value.cells (.agg #[.int .i64 0, .int .u64 0, .int .i64 0, .bool false])).size = 4 from rfl]
      omega)
    exact this
  · exact ((Below.refl _ w).drew).alloc (Nat.le_refl _) _
set_option maxHeartbeats 1000000 in
set_option maxRecDepth 20000 in
theorem grow_any (n : Nat) (w : World) (hn : n ≤ 10000) :
    Calls Try.prog 95 #[.slice none 0 0, .int .i64 (n : Int)] w fun e w' => ∃ u, e = .returned u ∧ w'.ownsRow w.heap.size 60 4 u 0 [] ∧ Below w.heap.size w w' := by
  by_cases h0 : n = 0
  · subst h0
    go_enter Try.func95, Try.ntmps95
    go_wp2
    go_ret
    exact ⟨_, rfl, World.ownsRow_nil _ _ _ _, Below.refl _ _⟩
  · obtain ⟨C, W', hr, hC1, hC2, ho, hB⟩ := zeros_run n w (by omega) hn
    have h1 : (0 : Int) < (n : Int) := by omega
    have h1' : decide ((0 : Int) < (n : Int)) = true := by simp; omega
    have hz : 0 ≤ C := by omega
    have HO : Hid (W'.ownsRow w.heap.size 60 4 (.slice (some ⟨w.heap.size, 0, none⟩) 0 C) 0 []) := ho
    clear ho
    go_enter Try.func95, Try.ntmps95
    go_wp2
    go_ret
    exact ⟨_, rfl, HO.out, hB⟩
set_option maxHeartbeats 4000000 in
set_option maxRecDepth 20000 in
theorem concat_any (b : Nat) (la lb lc : List St) (oa ob oc : Option Addr) (na nb nc ca cb cc : Nat) (w : World) (hb : b < w.heap.size) (h0 : w.cell? ⟨b, 0, none⟩ = some (.slice oa na ca)) (h1 : w.cell? ⟨b, 1, none⟩ = some (.slice ob nb cb)) (h2 : w.cell? ⟨b, 2, none⟩ = some (.slice oc nc cc))
    (ea : na = la.length) (eb : nb = lb.length) (ec : nc = lc.length)
    (ha : HasSts w (.slice oa na ca) la) (hbb : HasSts w (.slice ob nb cb) lb) (hc : HasSts w (.slice oc nc cc) lc) (hla : na ≤ 1000) (hlb : nb ≤ 1000) (hlc : nc ≤ 1000) :
    Calls Try.prog 64 #[.slice (some ⟨b, 0, none⟩) 3 3] w fun e w' => ∃ v, e = .returned v ∧ w'.ownsRow w.heap.size 60 4 v (la ++ (lb ++ lc)).length (stCs (la ++ (lb ++ lc))) ∧ Below w.heap.size w w' := by
  have EA : Hid (na = la.length) := ea
  have EB : Hid (nb = lb.length) := eb
  have EC : Hid (nc = lc.length) := ec
  have cg := fun w => grow_any (na + nb + nc) w (by omega)
  rw [show ((na + nb + nc : Nat) : Int) = (na : Int) + (nb : Int) + (nc : Int) by omega] at cg
  have HA : Hid (HasSts w (.slice oa na ca) la) := ha
  have HB : Hid (HasSts w (.slice ob nb cb) lb) := hbb
  have HC : Hid (HasSts w (.slice oc nc cc) lc) := hc
  have hia : (na : Int) ≤ 1000 := by omega
  have hib : (nb : Int) ≤ 1000 := by omega
  have hic : (nc : Int) ≤ 1000 := by omega
  have hn0 : decide ((na : Int) < 0) = false := by simp
  have hn1 : decide ((na : Int) + (nb : Int) < 0) = false := by simp; omega
  have hn2 : decide ((na : Int) + (nb : Int) + (nc : Int) < 0) = false := by simp; omega
  clear ea eb ec ha hbb hc
  go_enter Try.func64, Try.ntmps64
  go_wp2_with fail
  refine wp_loop_rounds 4 ?_
  repeat any_goals (rw [rounds_succ]; go_wp2_with fail)
  go_at_call 95; refine (cg _).mono ?_; rintro e w1 ⟨v0, rfl, ho1, hb1⟩
  obtain ⟨v1, w2, hr1, ho2, hg1⟩ := append_row info_seat Try.underlying52 rfl (by decide) ho1 (HA.out.keep hb1) (one_seats la) (by rw [← EA.out]; omega) (by rw [← EA.out]; omega) hb1.size
  have hb2 : Below w.heap.size w w2 := hb1.grown hg1 hb1.size (fun k e => (ho1.lt k e).1)
  obtain ⟨v2, w3, hr2, ho3, hg2⟩ := append_row info_seat Try.underlying52 rfl (by decide) ho2 (HB.out.keep hb2) (one_seats lb) (by rw [← EA.out, ← EB.out]; omega) (by rw [← EA.out, ← EB.out]; omega) hb2.size
  have hb3 : Below w.heap.size w w3 := hb2.grown hg2 hb2.size (fun k e => (ho2.lt k e).1)
  obtain ⟨v3, w4, hr3, ho4, hg3⟩ := append_row info_seat Try.underlying52 rfl (by decide) ho3 (HC.out.keep hb3) (one_seats lc) (by rw [← EA.out, ← EB.out, ← EC.out]; omega) (by rw [← EA.out, ← EB.out, ← EC.out]; omega) hb3.size
  have hb4 : Below w.heap.size w w4 := hb3.grown hg3 hb3.size (fun k e => (ho3.lt k e).1)
  have HO : Hid (w4.ownsRow w.heap.size 60 4 v3 (la ++ (lb ++ lc)).length (stCs (la ++ (lb ++ lc)))) := by
    show w4.ownsRow _ _ _ _ _ _
    rw [stCs_app, stCs_app, List.length_append, List.length_append]
    simp only [Nat.zero_add, List.nil_append, List.append_assoc, Nat.add_assoc] at ho4
    exact ho4
  have y0 := (hb1.cell (p := ⟨b, 0, none⟩) hb).trans h0
  have y1 := (hb2.cell (p := ⟨b, 1, none⟩) hb).trans h1
  have y2 := (hb3.cell (p := ⟨b, 2, none⟩) hb).trans h2
  clear ho1 ho2 ho3 ho4 hg1 hg2 hg3 hb1 hb2 hb3
  go_wp2_with fail
  refine wp_loop_rounds 4 ?_
  repeat any_goals (rw [rounds_succ]; go_wp2_with fail)
  go_ret
  exact ⟨_, rfl, HO.out, hb4⟩
end Go.Proofs.Ytemefcojmidmbaa.Ord
namespace Go.Proofs.Ytemefcojmidmbaa.Ord
open Go.RowKit Go.Shelf
open Go.Proofs.Ytemefcojmidmbaa.Msg (Ev okE checkE evV evC FitE echeck_any cells12' gkeep gsetO results_cell_tmp1)
open Go.Proofs.Ytemefcojmidmbaa.Addr (hiN loN RowAt below2 below_drew below_new bset RowAt.lt RowAt.cell RowAt.frozen RowAt.below RowAt.drew RowAt.new RowAt.alloc gdrew gset gbelow galloc grefl gfinal cells2 cells4 results_cell Bl bl_ne wp_region_bl bl_call bl_same)
attribute [-go_sem] Builtin.append_

theorem one_has (W : World) (s : St) : HasSts (W.alloc (.cells #[.int .i64 s.router, .int .u64 (s.seq : Int), .int .i64 s.time, .bool s.up] 60)) (.slice (some ⟨W.heap.size, 0, none⟩) 1 1) [s] := by
  refine ⟨rfl, .inr ⟨⟨W.heap.size, 0, none⟩, 1, rfl, Nat.le_refl _, by decide, fun _ => ⟨rfl, by simp⟩, fun j hj => ?_⟩⟩
  rw [addr_add, Nat.zero_add]
  exact (RowAt.new W (stC s) 60).cell j
theorem own_below {W W' : World} {m e size k : Nat} {v : Value} {xs : List Value} (h : W.ownsRow m e size v k xs) (hb : Below W.heap.size W W') : W'.ownsRow m e size v k xs := h.kept (row := none) ⟨hb.os, hb.tape, hb.output, hb.size, fun k hk _ => hb.block k hk⟩ (by cases v.ownBlock <;> simp)
set_option maxHeartbeats 2000000 in
theorem ahead_is (a b c : Int) (u : Bool) (g : Nat) (p q r : Int) (t : Bool) (w : World) (hg : RowAt w g [.int .i64 p, .int .u64 q, .int .i64 r, .bool t] 60) :
    Calls Try.prog 62 #[.agg #[.int .i64 a, .int .u64 b, .int .i64 c, .bool u], .pointer (some ⟨g, 0, none⟩)] w fun e w' => e = .returned (.bool (decide (a < p))) ∧ Below w.heap.size w w' := by
  obtain ⟨X, hX⟩ : ∃ X, X = w.alloc (.cells #[.int .i64 a, .int .u64 b, .int .i64 c, .bool u] 60) := ⟨_, rfl⟩
  have hB : Below w.heap.size w X := by rw [hX]; exact below_new (Below.refl _ _) _
  have r0 : RowAt X w.heap.size [.int .i64 a, .int .u64 b, .int .i64 c, .bool u] 60 := by rw [hX]; exact RowAt.new _ _ _
  have r1 := RowAt.below hg hB
  obtain ⟨x0, x1, x2, x3, xf⟩ := cells4 r0
  obtain ⟨y0, y1, y2, y3, yf⟩ := cells4 r1
  clear r0 r1 hg
  go_enter Try.func62, Try.ntmps62
  go_upto_region 1 with fail
  rw [← hX]
  clear hX
  go_wp2_with fail
  go_ret
  exact ⟨rfl, hB⟩
set_option maxHeartbeats 4000000 in
set_option maxRecDepth 20000 in
theorem ahead_any (l : List St) (v : Value) (g : Nat) (p q r : Int) (t : Bool) (w : World) (h : HasSts w v l) (hg : RowAt w g [.int .i64 p, .int .u64 q, .int .i64 r, .bool t] 60) (hl : l.length ≤ 1000) :
    Calls Try.prog 65 #[v, .func (.func 62) #[] #[.pointer (some ⟨g, 0, none⟩)]] w fun e w' => ∃ u, e = .returned u ∧ w'.ownsRow w.heap.size 60 4 u (ahead l p).length (stCs (ahead l p)) ∧ Below w.heap.size w w' := by
  obtain ⟨o, c, rfl, hc1, hc2⟩ := HasRow.slice h
  have HR : Hid (∀ wr : World, Below w.heap.size w wr → HasSts wr (.slice o l.length c) l ∧ RowAt wr g [.int .i64 p, .int .u64 q, .int .i64 r, .bool t] 60) := fun wr hb => ⟨h.keep hb, RowAt.below hg hb⟩
  obtain ⟨n, hn⟩ : ∃ n, n = l.length := ⟨_, rfl⟩
  have HN : Hid (n = l.length) := hn
  rw [← hn] at HR hc1 hl ⊢
  have hni : (n : Int) ≤ 1000 := by omega
  clear h hg hn hl
  go_enter Try.func65, Try.ntmps65
  go_wp2_with fail
  go_loopw [5, 10] (fun s i wr => ∃ k : Nat, k ≤ n ∧ i = .int .i64 k ∧ Below w.heap.size w wr ∧ Hid (wr.ownsRow w.heap.size 60 4 s (ahead (l.take k) p).length (stCs (ahead (l.take k) p)))) (fun _ i _ => n - (intOf i).toNat)
  case atStart => exact ⟨0, by omega, rfl, Below.refl _ _, World.ownsRow_nil _ _ _ _⟩
  case round =>
    obtain ⟨k, hk, rfl, hB, HO⟩ := hrel
    obtain ⟨hh, hr⟩ := HR.out _ hB
    by_cases hlt : k < n
    · have hkz : k < l.length := by rw [← HN.out]; exact hlt
      obtain ⟨g1, i1, rfl, hg1, a0, a1, a2, a3⟩ := HasSts.cell hh k hkz
      have hstep : ahead (l.take (k + 1)) p = ahead (l.take k) p ++ (if decide (l[k].router < p) then [l[k]] else []) := by
        unfold ahead
        rw [List.take_succ_eq_append_getElem hkz, List.filter_append, List.filter_cons, List.filter_nil]
      have hlen : (ahead (l.take k) p).length ≤ n := by
        unfold ahead
        refine Nat.le_trans (List.length_filter_le _ _) ?_
        rw [List.length_take]; omega
      have HB1 : Hid (decide (l[k].router < p) = true → ahead (l.take (k + 1)) p = ahead (l.take k) p ++ [l[k]]) := fun e => by rw [hstep, e]; rfl
      have HB2 : Hid (decide (l[k].router < p) = false → ahead (l.take (k + 1)) p = ahead (l.take k) p) := fun e => by rw [hstep, e]; simp
      have hki : (k : Int) < (n : Int) := by omega
      have HST : Hid (∃ s0 : St, s0 = l[k]) := ⟨_, rfl⟩
      obtain ⟨s0, hs0⟩ := HST.out
      rw [← hs0] at a0 a1 a2 a3 HB1 HB2
      clear hs0 HST hstep hg1
      go_upto_region 5 with fail
      obtain ⟨X, hX⟩ : ∃ X, X = wr.alloc (.cells #[.int .i64 s0.router, .int .u64 (s0.seq : Int), .int .i64 s0.time, .bool s0.up] 60) := ⟨_, rfl⟩
      have hbX : Below wr.heap.size wr X := by rw [hX]; exact below_new (Below.refl _ _) _
      have rx : RowAt X wr.heap.size [.int .i64 s0.router, .int .u64 (s0.seq : Int), .int .i64 s0.time, .bool s0.up] 60 := by rw [hX]; exact RowAt.new _ _ _
      rw [← hX]
      have hOX := own_below HO.out hbX
      have hBX := below2 hB hbX
      have cr := ahead_is s0.router (s0.seq : Int) s0.time s0.up g p q r t X (RowAt.below hr hbX)
      clear hX a0 a1 a2 a3 hh hr HO
      obtain ⟨gs, hgs⟩ : ∃ g, g = wr.heap.size := ⟨_, rfl⟩
      rw [← hgs] at rx ⊢
      clear hgs hbX
      obtain ⟨x0, x1, x2, x3, xf⟩ := cells4 rx
      generalize decide (s0.router < p) = B at cr HB1 HB2
      go_wp2_with fail
      go_at_call 62; refine cr.mono ?_; rintro e w1 ⟨rfl, hb1⟩
      have hW := below2 hBX hb1
      have hO1 := own_below hOX hb1
      replace rx := RowAt.below rx hb1
      clear x0 x1 x2 x3 xf hOX hBX hb1 cr
      obtain ⟨x0, x1, x2, x3, xf⟩ := cells4 rx
      cases B
      · have HO2 : Hid (w1.ownsRow w.heap.size 60 4 u5 (ahead (l.take (k + 1)) p).length (stCs (ahead (l.take (k + 1)) p))) := by
          show w1.ownsRow _ _ _ _ _ _
          rw [HB2.out rfl]; exact hO1
        clear HB1 HB2 hO1 rx
        go_wp2_with fail
        go_roundw
        case rel => exact ⟨k + 1, by omega, by go_num, hW, HO2⟩
        case measure => simp [intOf]; omega
      · obtain ⟨Y, hY⟩ : ∃ Y, Y = w1.alloc (.cells #[.int .i64 s0.router, .int .u64 (s0.seq : Int), .int .i64 s0.time, .bool s0.up] 60) := ⟨_, rfl⟩
        have hbY : Below w1.heap.size w1 Y := by rw [hY]; exact below_new (Below.refl _ _) _
        have hOY := own_below hO1 hbY
        have hsrc : HasSts Y (.slice (some ⟨w1.heap.size, 0, none⟩) 1 1) [s0] := by rw [hY]; exact one_has w1 s0
        have hBY := below2 hW hbY
        obtain ⟨v', w3, hrun, ho3, hg3⟩ := append_row info_seat Try.underlying52 rfl (by decide) hOY hsrc (one_seats [s0]) (by simp only [List.length_cons, List.length_nil]; omega) (by simp only [List.length_cons, List.length_nil]; omega) hBY.size
        have hB3 : Below w.heap.size w w3 := hBY.grown hg3 hBY.size (fun k e => (hOY.lt k e).1)
        have HO3 : Hid (w3.ownsRow w.heap.size 60 4 v' (ahead (l.take (k + 1)) p).length (stCs (ahead (l.take (k + 1)) p))) := by
          show w3.ownsRow _ _ _ _ _ _
          rw [HB1.out rfl, stCs_app, List.length_append]; exact ho3
        clear HB1 HB2 hO1 rx hOY hsrc ho3 hg3 hBY hbY
        go_upto_region 6 with fail
        rw [hY] at hrun
        go_wp2_with fail
        go_roundw
        case rel => exact ⟨k + 1, by omega, by go_num, hB3, HO3⟩
        case measure => simp [intOf]; omega
    · obtain rfl : k = n := by omega
      have HO2 : Hid (wr.ownsRow w.heap.size 60 4 u5 (ahead l p).length (stCs (ahead l p))) := by
        have := HO.out
        rw [List.take_of_length_le (by rw [← HN.out]; exact Nat.le_refl _)] at this
        exact this
      clear hh hr HO
      go_wp2
      go_ret
      exact ⟨_, rfl, HO2.out, hB⟩
set_option maxHeartbeats 2000000 in
theorem behind_is (a b c : Int) (u : Bool) (g : Nat) (p q r : Int) (t : Bool) (w : World) (hg : RowAt w g [.int .i64 p, .int .u64 q, .int .i64 r, .bool t] 60) :
    Calls Try.prog 63 #[.agg #[.int .i64 a, .int .u64 b, .int .i64 c, .bool u], .pointer (some ⟨g, 0, none⟩)] w fun e w' => e = .returned (.bool (decide (p < a))) ∧ Below w.heap.size w w' := by
  obtain ⟨X, hX⟩ : ∃ X, X = w.alloc (.cells #[.int .i64 a, .int .u64 b, .int .i64 c, .bool u] 60) := ⟨_, rfl⟩
  have hB : Below w.heap.size w X := by rw [hX]; exact below_new (Below.refl _ _) _
  have r0 : RowAt X w.heap.size [.int .i64 a, .int .u64 b, .int .i64 c, .bool u] 60 := by rw [hX]; exact RowAt.new _ _ _
  have r1 := RowAt.below hg hB
  obtain ⟨x0, x1, x2, x3, xf⟩ := cells4 r0
  obtain ⟨y0, y1, y2, y3, yf⟩ := cells4 r1
  clear r0 r1 hg
  go_enter Try.func63, Try.ntmps63
  go_upto_region 1 with fail
  rw [← hX]
  clear hX
  go_wp2_with fail
  go_ret
  exact ⟨rfl, hB⟩
set_option maxHeartbeats 4000000 in
set_option maxRecDepth 20000 in
theorem behind_any (l : List St) (v : Value) (g : Nat) (p q r : Int) (t : Bool) (w : World) (h : HasSts w v l) (hg : RowAt w g [.int .i64 p, .int .u64 q, .int .i64 r, .bool t] 60) (hl : l.length ≤ 1000) :
    Calls Try.prog 65 #[v, .func (.func 63) #[] #[.pointer (some ⟨g, 0, none⟩)]] w fun e w' => ∃ u, e = .returned u ∧ w'.ownsRow w.heap.size 60 4 u (behind l p).length (stCs (behind l p)) ∧ Below w.heap.size w w' := by
  obtain ⟨o, c, rfl, hc1, hc2⟩ := HasRow.slice h
  have HR : Hid (∀ wr : World, Below w.heap.size w wr → HasSts wr (.slice o l.length c) l ∧ RowAt wr g [.int .i64 p, .int .u64 q, .int .i64 r, .bool t] 60) := fun wr hb => ⟨h.keep hb, RowAt.below hg hb⟩
  obtain ⟨n, hn⟩ : ∃ n, n = l.length := ⟨_, rfl⟩
  have HN : Hid (n = l.length) := hn
  rw [← hn] at HR hc1 hl ⊢
  have hni : (n : Int) ≤ 1000 := by omega
  clear h hg hn hl
  go_enter Try.func65, Try.ntmps65
  go_wp2_with fail
  go_loopw [5, 10] (fun s i wr => ∃ k : Nat, k ≤ n ∧ i = .int .i64 k ∧ Below w.heap.size w wr ∧ Hid (wr.ownsRow w.heap.size 60 4 s (behind (l.take k) p).length (stCs (behind (l.take k) p)))) (fun _ i _ => n - (intOf i).toNat)
  case atStart => exact ⟨0, by omega, rfl, Below.refl _ _, World.ownsRow_nil _ _ _ _⟩
  case round =>
    obtain ⟨k, hk, rfl, hB, HO⟩ := hrel
    obtain ⟨hh, hr⟩ := HR.out _ hB
    by_cases hlt : k < n
    · have hkz : k < l.length := by rw [← HN.out]; exact hlt
      obtain ⟨g1, i1, rfl, hg1, a0, a1, a2, a3⟩ := HasSts.cell hh k hkz
      have hstep : behind (l.take (k + 1)) p = behind (l.take k) p ++ (if decide (p < l[k].router) then [l[k]] else []) := by
        unfold behind
        rw [List.take_succ_eq_append_getElem hkz, List.filter_append, List.filter_cons, List.filter_nil]
      have hlen : (behind (l.take k) p).length ≤ n := by
        unfold behind
        refine Nat.le_trans (List.length_filter_le _ _) ?_
        rw [List.length_take]; omega
      have HB1 : Hid (decide (p < l[k].router) = true → behind (l.take (k + 1)) p = behind (l.take k) p ++ [l[k]]) := fun e => by rw [hstep, e]; rfl
      have HB2 : Hid (decide (p < l[k].router) = false → behind (l.take (k + 1)) p = behind (l.take k) p) := fun e => by rw [hstep, e]; simp
      have hki : (k : Int) < (n : Int) := by omega
      have HST : Hid (∃ s0 : St, s0 = l[k]) := ⟨_, rfl⟩
      obtain ⟨s0, hs0⟩ := HST.out
      rw [← hs0] at a0 a1 a2 a3 HB1 HB2
      clear hs0 HST hstep hg1
      go_upto_region 5 with fail
      obtain ⟨X, hX⟩ : ∃ X, X = wr.alloc (.cells #[.int .i64 s0.router, .int .u64 (s0.seq : Int), .int .i64 s0.time, .bool s0.up] 60) := ⟨_, rfl⟩
      have hbX : Below wr.heap.size wr X := by rw [hX]; exact below_new (Below.refl _ _) _
      have rx : RowAt X wr.heap.size [.int .i64 s0.router, .int .u64 (s0.seq : Int), .int .i64 s0.time, .bool s0.up] 60 := by rw [hX]; exact RowAt.new _ _ _
      rw [← hX]
      have hOX := own_below HO.out hbX
      have hBX := below2 hB hbX
      have cr := behind_is s0.router (s0.seq : Int) s0.time s0.up g p q r t X (RowAt.below hr hbX)
      clear hX a0 a1 a2 a3 hh hr HO
      obtain ⟨gs, hgs⟩ : ∃ g, g = wr.heap.size := ⟨_, rfl⟩
      rw [← hgs] at rx ⊢
      clear hgs hbX
      obtain ⟨x0, x1, x2, x3, xf⟩ := cells4 rx
      generalize decide (p < s0.router) = B at cr HB1 HB2
      go_wp2_with fail
      go_at_call 63; refine cr.mono ?_; rintro e w1 ⟨rfl, hb1⟩
      have hW := below2 hBX hb1
      have hO1 := own_below hOX hb1
      replace rx := RowAt.below rx hb1
      clear x0 x1 x2 x3 xf hOX hBX hb1 cr
      obtain ⟨x0, x1, x2, x3, xf⟩ := cells4 rx
      cases B
      · have HO2 : Hid (w1.ownsRow w.heap.size 60 4 u5 (behind (l.take (k + 1)) p).length (stCs (behind (l.take (k + 1)) p))) := by
          show w1.ownsRow _ _ _ _ _ _
          rw [HB2.out rfl]; exact hO1
        clear HB1 HB2 hO1 rx
        go_wp2_with fail
        go_roundw
        case rel => exact ⟨k + 1, by omega, by go_num, hW, HO2⟩
        case measure => simp [intOf]; omega
      · obtain ⟨Y, hY⟩ : ∃ Y, Y = w1.alloc (.cells #[.int .i64 s0.router, .int .u64 (s0.seq : Int), .int .i64 s0.time, .bool s0.up] 60) := ⟨_, rfl⟩
        have hbY : Below w1.heap.size w1 Y := by rw [hY]; exact below_new (Below.refl _ _) _
        have hOY := own_below hO1 hbY
        have hsrc : HasSts Y (.slice (some ⟨w1.heap.size, 0, none⟩) 1 1) [s0] := by rw [hY]; exact one_has w1 s0
        have hBY := below2 hW hbY
        obtain ⟨v', w3, hrun, ho3, hg3⟩ := append_row info_seat Try.underlying52 rfl (by decide) hOY hsrc (one_seats [s0]) (by simp only [List.length_cons, List.length_nil]; omega) (by simp only [List.length_cons, List.length_nil]; omega) hBY.size
        have hB3 : Below w.heap.size w w3 := hBY.grown hg3 hBY.size (fun k e => (hOY.lt k e).1)
        have HO3 : Hid (w3.ownsRow w.heap.size 60 4 v' (behind (l.take (k + 1)) p).length (stCs (behind (l.take (k + 1)) p))) := by
          show w3.ownsRow _ _ _ _ _ _
          rw [HB1.out rfl, stCs_app, List.length_append]; exact ho3
        clear HB1 HB2 hO1 rx hOY hsrc ho3 hg3 hBY hbY
        go_upto_region 6 with fail
        rw [hY] at hrun
        go_wp2_with fail
        go_roundw
        case rel => exact ⟨k + 1, by omega, by go_num, hB3, HO3⟩
        case measure => simp [intOf]; omega
    · obtain rfl : k = n := by omega
      have HO2 : Hid (wr.ownsRow w.heap.size 60 4 u5 (behind l p).length (stCs (behind l p))) := by
        have := HO.out
        rw [List.take_of_length_le (by rw [← HN.out]; exact Nat.le_refl _)] at this
        exact this
      clear hh hr HO
      go_wp2
      go_ret
      exact ⟨_, rfl, HO2.out, hB⟩
end Go.Proofs.Ytemefcojmidmbaa.Ord
namespace Go.Proofs.Ytemefcojmidmbaa.Ord
open Go.RowKit Go.Shelf
open Go.Proofs.Ytemefcojmidmbaa.Msg (Ev okE checkE evV evC FitE echeck_any cells12' gkeep gsetO results_cell_tmp1)
open Go.Proofs.Ytemefcojmidmbaa.Addr (hiN loN RowAt below2 below_drew below_new bset RowAt.lt RowAt.cell RowAt.frozen RowAt.below RowAt.drew RowAt.new RowAt.alloc gdrew gset gbelow galloc grefl gfinal cells2 cells4 results_cell Bl bl_ne wp_region_bl bl_call bl_same)
attribute [-go_sem] Builtin.append_

theorem own_slice {W : World} {B e sz n : Nat} {v : Value} {cs : List Value} (h : W.ownsRow B e sz v n cs) : ∃ o c, v = .slice o n c := by
  obtain ⟨o, c, e, _⟩ := HasRow.slice (hasRow_own h)
  exact ⟨o, c, e⟩
theorem seats_len (l : List St) (p : Int) : (ahead l p).length ≤ l.length ∧ (behind l p).length ≤ l.length := ⟨List.length_filter_le _ _, List.length_filter_le _ _⟩
theorem one_keep {L Y : World} (s : St) (hb : Below (L.alloc (.cells #[.int .i64 s.router, .int .u64 (s.seq : Int), .int .i64 s.time, .bool s.up] 60)).heap.size (L.alloc (.cells #[.int .i64 s.router, .int .u64 (s.seq : Int), .int .i64 s.time, .bool s.up] 60)) Y) : HasSts Y (.slice (some ⟨L.heap.size, 0, none⟩) 1 1) [s] := (one_has L s).keep hb
theorem one_keep2 {L Y : World} (s : St) (hb : Below (L.alloc (.cells #[.int .i64 s.router, .int .u64 (s.seq : Int), .int .i64 s.time, .bool s.up] 60)).drew.heap.size (L.alloc (.cells #[.int .i64 s.router, .int .u64 (s.seq : Int), .int .i64 s.time, .bool s.up] 60)).drew Y) : HasSts Y (.slice (some ⟨L.heap.size, 0, none⟩) 1 1) [s] := ((one_has L s).keep (below_drew (Below.refl _ _))).keep hb
/-- three rows put together, in a world in which a row of the three has just been made -/
theorem three (L : World) (la lb lc : List St) (oa ob oc : Option Addr) (na nb nc ca cb cc : Nat) (ea : na = la.length) (eb : nb = lb.length) (ec : nc = lc.length)
    (ha : HasSts L (.slice oa na ca) la) (hb : HasSts L (.slice ob nb cb) lb) (hc : HasSts L (.slice oc nc cc) lc) (hla : na ≤ 1000) (hlb : nb ≤ 1000) (hlc : nc ≤ 1000) (W : World)
    (hW : W = L.alloc (.cells #[.slice oa na ca, .slice ob nb cb, .slice oc nc cc] 52) ∨ W = (L.alloc (.cells #[.slice oa na ca, .slice ob nb cb, .slice oc nc cc] 52)).drew) :
    Calls Try.prog 64 #[.slice (some ⟨L.heap.size, 0, none⟩) 3 3] W fun e w' => ∃ v, e = .returned v ∧ (∃ B, L.heap.size ≤ B ∧ w'.ownsRow B 60 4 v (la ++ (lb ++ lc)).length (stCs (la ++ (lb ++ lc)))) ∧ Below L.heap.size L w' := by
  have hbW : Below L.heap.size L W := by
    rcases hW with rfl | rfl
    · exact below_new (Below.refl _ _) _
    · exact below_drew (below_new (Below.refl _ _) _)
  have rw1 : RowAt W L.heap.size [.slice oa na ca, .slice ob nb cb, .slice oc nc cc] 52 := by
    rcases hW with rfl | rfl
    · exact RowAt.new _ _ _
    · exact (RowAt.new _ _ _).drew
  refine (concat_any L.heap.size la lb lc oa ob oc na nb nc ca cb cc W rw1.lt (rw1.cell 0) (rw1.cell 1) (rw1.cell 2) ea eb ec (ha.keep hbW) (hb.keep hbW) (hc.keep hbW) hla hlb hlc).mono ?_
  rintro e w' ⟨v, rfl, ho, hb'⟩
  exact ⟨v, rfl, ⟨W.heap.size, hbW.size, ho⟩, below2 hbW hb'⟩
theorem three3 (L : World) (s : St) (la lc : List St) (oa oc : Option Addr) (na nc ca cc : Nat) (ea : na = la.length) (ec : nc = lc.length)
    (ha : HasSts L (.slice oa na ca) la) (hc : HasSts L (.slice oc nc cc) lc) (hla : na ≤ 1000) (hlc : nc ≤ 1000) (W : World)
    (hW : W = (L.alloc (.cells #[.int .i64 s.router, .int .u64 (s.seq : Int), .int .i64 s.time, .bool s.up] 60)).alloc (.cells #[.slice oa na ca, .slice (some ⟨L.heap.size, 0, none⟩) 1 1, .slice oc nc cc] 52) ∨ W = ((L.alloc (.cells #[.int .i64 s.router, .int .u64 (s.seq : Int), .int .i64 s.time, .bool s.up] 60)).alloc (.cells #[.slice oa na ca, .slice (some ⟨L.heap.size, 0, none⟩) 1 1, .slice oc nc cc] 52)).drew) :
    Calls Try.prog 64 #[.slice (some ⟨L.heap.size + 1, 0, none⟩) 3 3] W fun e w' => ∃ v, e = .returned v ∧ (∃ B, L.heap.size ≤ B ∧ w'.ownsRow B 60 4 v (la ++ ([s] ++ lc)).length (stCs (la ++ ([s] ++ lc)))) ∧ Below L.heap.size L w' := by
  have hb := below_new (Below.refl _ L) (.cells #[.int .i64 s.router, .int .u64 (s.seq : Int), .int .i64 s.time, .bool s.up] 60)
  have h := three (L.alloc (.cells #[.int .i64 s.router, .int .u64 (s.seq : Int), .int .i64 s.time, .bool s.up] 60)) la [s] lc oa _ oc na 1 nc ca 1 cc ea rfl ec (ha.keep hb) (one_has L s) (hc.keep hb) hla (by decide) hlc W hW
  have e1 : (L.alloc (.cells #[.int .i64 s.router, .int .u64 (s.seq : Int), .int .i64 s.time, .bool s.up] 60)).heap.size = L.heap.size + 1 := World.size_alloc _ _
  rw [show (⟨(L.alloc (.cells #[.int .i64 s.router, .int .u64 (s.seq : Int), .int .i64 s.time, .bool s.up] 60)).heap.size, 0, none⟩ : Addr) = ⟨L.heap.size + 1, 0, none⟩ by rw [e1]] at h
  refine h.mono ?_
  rintro e w' ⟨v, rfl, ⟨B, hB, ho⟩, hb'⟩
  exact ⟨v, rfl, ⟨B, Nat.le_trans hb.size hB, ho⟩, below2 hb hb'⟩
set_option maxHeartbeats 8000000 in
set_option maxRecDepth 20000 in
theorem seated_any (l : List St) (v : Value) (s : St) (w : World) (h : HasSts w v l) (hl : l.length ≤ 1000) :
    Calls Try.prog 33 #[v, stV s] w fun e w' => ∃ u, e = .returned u ∧ (∃ B, w.heap.size ≤ B ∧ w'.ownsRow B 60 4 u (seatedL l s).length (stCs (seatedL l s))) ∧ Below w.heap.size w w' := by
  show Calls Try.prog 33 #[v, .agg #[.int .i64 s.router, .int .u64 (s.seq : Int), .int .i64 s.time, .bool s.up]] w _
  obtain ⟨X, hX⟩ : ∃ X, X = w.alloc (.cells #[.int .i64 s.router, .int .u64 (s.seq : Int), .int .i64 s.time, .bool s.up] 60) := ⟨_, rfl⟩
  have hB : Below w.heap.size w X := by rw [hX]; exact below_new (Below.refl _ _) _
  have rx : RowAt X w.heap.size [.int .i64 s.router, .int .u64 (s.seq : Int), .int .i64 s.time, .bool s.up] 60 := by rw [hX]; exact RowAt.new _ _ _
  have hXs := h.keep hB
  have c1 : Hid (∀ W : World, Below X.heap.size X W → Calls Try.prog 65 #[v, .func (.func 62) #[] #[.pointer (some ⟨w.heap.size, 0, none⟩)]] W fun e w' => ∃ u, e = .returned u ∧ w'.ownsRow W.heap.size 60 4 u (ahead l s.router).length (stCs (ahead l s.router)) ∧ Below W.heap.size W w') := fun W hb => ahead_any l v w.heap.size _ _ _ _ W (hXs.keep hb) (rx.below hb) hl
  have c2 : Hid (∀ W : World, Below X.heap.size X W → Calls Try.prog 65 #[v, .func (.func 63) #[] #[.pointer (some ⟨w.heap.size, 0, none⟩)]] W fun e w' => ∃ u, e = .returned u ∧ w'.ownsRow W.heap.size 60 4 u (behind l s.router).length (stCs (behind l s.router)) ∧ Below W.heap.size W w') := fun W hb => behind_any l v w.heap.size _ _ _ _ W (hXs.keep hb) (rx.below hb) hl
  have HSK : Hid (∀ W : World, Below X.heap.size X W → (W.cell? ⟨w.heap.size, 0, none⟩ = some (.int .i64 s.router) ∧ W.cell? ⟨w.heap.size, 1, none⟩ = some (.int .u64 (s.seq : Int)) ∧ W.cell? ⟨w.heap.size, 2, none⟩ = some (.int .i64 s.time) ∧ W.cell? ⟨w.heap.size, 3, none⟩ = some (.bool s.up))) := fun W hb => by
    have r := RowAt.below rx hb
    exact ⟨r.cell 0, r.cell 1, r.cell 2, r.cell 3⟩
  have HL : Hid (seatedL l s = ahead l s.router ++ ([s] ++ behind l s.router)) := rfl
  generalize seatedL l s = RL at HL ⊢
  obtain ⟨hla, hlb⟩ := seats_len l s.router
  have hla1 : (ahead l s.router).length ≤ 1000 := by omega
  have hlb1 : (behind l s.router).length ≤ 1000 := by omega
  generalize ahead l s.router = LA at *
  generalize behind l s.router = LB at *
  obtain ⟨x0, x1, x2, x3, xf⟩ := cells4 rx
  have hbA : Below X.heap.size X X := Below.refl _ _
  have hone : 1 = [s].length := rfl
  have H1000 : Hid (1 ≤ 1000) := by show 1 ≤ 1000; decide
  have HONE : Hid (1 = [s].length) := hone
  clear hone
  clear h hXs rx hla hlb hl
  go_enter Try.func33, Try.ntmps33
  go_upto_region 1 with fail
  rw [← hX]
  clear hX
  go_upto_region 3 with fail
  go_region_held (fun w' => w'.cell? ⟨w.heap.size, 0, none⟩ = some (.int .i64 s.router) ∧ w'.cell? ⟨w.heap.size, 1, none⟩ = some (.int .u64 (s.seq : Int)) ∧ w'.cell? ⟨w.heap.size, 2, none⟩ = some (.int .i64 s.time) ∧ w'.cell? ⟨w.heap.size, 3, none⟩ = some (.bool s.up))
    (first
      | (refine HSK.out _ ?_
         repeat' (first | with_reducible exact hbA | with_reducible apply below_drew | with_reducible apply below_new))
      | go_keep)
    (first
      | (go_at_call 65
         with_reducible refine (c1.out _ (by repeat' (first | with_reducible exact hbA | with_reducible apply below_drew | with_reducible apply below_new))).mono ?_
         rintro e w3 ⟨u1, rfl, ho1, hb3⟩
         obtain ⟨oa, ca, rfl⟩ := own_slice ho1
         (first | (with_reducible have hlit := one_keep s hb3) | (with_reducible have hlit := one_keep2 s hb3) | skip)
         have hbN : Below X.heap.size X w3 := below2 (by repeat' (first | with_reducible exact hbA | with_reducible apply below_drew | with_reducible apply below_new)) hb3
         have hra : HasSts w3 (.slice oa LA.length ca) LA := hasRow_own ho1
         clear hbA ho1 hb3
         have hbA := hbN
         clear hbN)
      | (go_at_call 65
         with_reducible refine (c2.out _ (by repeat' (first | with_reducible exact hbA | with_reducible apply below_drew | with_reducible apply below_new))).mono ?_
         rintro e w4 ⟨u2, rfl, ho2, hb4⟩
         obtain ⟨ob, cb, rfl⟩ := own_slice ho2
         (first | (with_reducible have hlit := one_keep s hb4) | (with_reducible have hlit := one_keep2 s hb4) | skip)
         have hbN : Below X.heap.size X w4 := below2 (by repeat' (first | with_reducible exact hbA | with_reducible apply below_drew | with_reducible apply below_new)) hb4
         have h34 : Below w3.heap.size w3 w4 := below2 (by repeat' (first | with_reducible exact Below.refl _ _ | with_reducible apply below_drew | with_reducible apply below_new)) hb4
         have hrb : HasSts w4 (.slice ob LB.length cb) LB := hasRow_own ho2
         replace hra := HasSts.keep hra h34
         (first | (with_reducible replace hlit := HasSts.keep hlit h34) | skip)
         clear hbA ho2 hb4
         have hbA := hbN
         clear hbN)
      | (go_at_call 64
         (first
           | (with_reducible refine (three w4 LA [s] LB oa _ ob LA.length 1 LB.length ca 1 cb rfl HONE.out rfl hra hlit hrb hla1 H1000.out hlb1 _ (.inl rfl)).mono ?_)
           | (with_reducible refine (three w4 LA [s] LB oa _ ob LA.length 1 LB.length ca 1 cb rfl HONE.out rfl hra hlit hrb hla1 H1000.out hlb1 _ (.inr rfl)).mono ?_)
           | (with_reducible refine (three3 w4 s LA LB oa ob LA.length LB.length ca cb rfl rfl hra hrb hla1 hlb1 _ (.inl rfl)).mono ?_)
           | (with_reducible refine (three3 w4 s LA LB oa ob LA.length LB.length ca cb rfl rfl hra hrb hla1 hlb1 _ (.inr rfl)).mono ?_))
         rintro e w5 ⟨u3, rfl, ⟨B5, hB5, ho5⟩, hb5⟩
         have hB6 : X.heap.size ≤ B5 := Nat.le_trans (Below.size (by repeat' (first | with_reducible exact hbA | with_reducible apply below_drew | with_reducible apply below_new))) hB5
         have hbN : Below X.heap.size X w5 := below2 (by repeat' (first | with_reducible exact hbA | with_reducible apply below_drew | with_reducible apply below_new)) hb5
         clear hbA hB5
         have hbA := hbN
         clear hbN))
  all_goals go_wp2_with fail
  all_goals go_ret
  all_goals exact ⟨_, rfl, ⟨B5, Nat.le_trans hB.size hB6, by rw [HL.out]; exact ho5⟩, below2 hB hbA⟩
end Go.Proofs.Ytemefcojmidmbaa.Ord
namespace Go.Proofs.Ytemefcojmidmbaa.Ord
open Go.RowKit Go.Shelf
open Go.Proofs.Ytemefcojmidmbaa.Msg (Ev okE checkE evV evC FitE echeck_any cells12' gkeep gsetO results_cell_tmp1)
open Go.Proofs.Ytemefcojmidmbaa.Addr (hiN loN RowAt below2 below_drew below_new bset RowAt.lt RowAt.cell RowAt.frozen RowAt.below RowAt.drew RowAt.new RowAt.alloc gdrew gset gbelow galloc grefl gfinal cells2 cells4 results_cell Bl bl_ne wp_region_bl bl_call bl_same)
attribute [-go_sem] Builtin.append_

set_option maxHeartbeats 8000000 in
set_option maxRecDepth 20000 in
theorem next_walk (v : Value) (c0 c1 c2 c3 c5 c6 c7 c8 c9 c10 c11 : Int) (cs : Bool) (h : Int) (w : World) (E1 E2 R : Int) (L : List St) (P : World → Value → Prop) (Q : World → Value → Prop)
    (k1 : ∀ W : World, Below w.heap.size w W → Calls Try.prog 30 #[v, .agg #[.int .u8 c0, .int .i64 c1, .int .u64 c2, .int .i64 c3, .bool cs, .int .u64 c5, .int .u64 c6, .int .i64 c7, .int .u8 c8, .int .i64 c9, .int .i64 c10, .int .i64 c11], .int .i64 h] W fun e w' => e = .returned (.int .i64 E1) ∧ Below W.heap.size W w')
    (k2 : E1 = 0 → ∀ W : World, Below w.heap.size w W → Calls Try.prog 31 #[v, .agg #[.int .u8 c0, .int .i64 c1, .int .u64 c2, .int .i64 c3, .bool cs, .int .u64 c5, .int .u64 c6, .int .i64 c7, .int .u8 c8, .int .i64 c9, .int .i64 c10, .int .i64 c11], .int .i64 h] W fun e w' => e = .returned (.int .i64 E2) ∧ Below W.heap.size W w')
    (k3 : E1 = 0 → E2 ≠ 0 → ∀ W : World, Below w.heap.size w W → Calls Try.prog 32 #[v] W fun e w' => ∃ u, e = .returned u ∧ P w' u ∧ Below W.heap.size W w')
    (k4 : E1 = 0 → E2 = 0 → ∀ W : World, Below w.heap.size w W → Calls Try.prog 33 #[v, .agg #[.int .i64 c1, .int .u64 c2, .int .i64 c3, .bool (c0 != 2)]] W fun e w' => ∃ u, e = .returned u ∧ Q w' u ∧ Below W.heap.size W w')
    (G : World → Value → Prop) (H1 : E1 ≠ 0 → Hid (R = E1 ∧ ∀ W : World, G W (.slice none 0 0))) (H2 : E1 = 0 → E2 ≠ 0 → Hid (R = E2 ∧ ∀ (W : World) (u : Value), P W u → G W u)) (H3 : E1 = 0 → E2 = 0 → Hid (R = 0 ∧ ∀ (W : World) (u : Value), Q W u → G W u)) :
    Calls Try.prog 12 #[v, .agg #[.int .u8 c0, .int .i64 c1, .int .u64 c2, .int .i64 c3, .bool cs, .int .u64 c5, .int .u64 c6, .int .i64 c7, .int .u8 c8, .int .i64 c9, .int .i64 c10, .int .i64 c11], .int .i64 h] w fun e w' => ∃ u, e = .returned (.tuple #[u, .int .i64 R]) ∧ G w' u ∧ Below w.heap.size w w' := by
  obtain ⟨X, hX⟩ : ∃ X, X = w.alloc (.cells #[.int .u8 c0, .int .i64 c1, .int .u64 c2, .int .i64 c3, .bool cs, .int .u64 c5, .int .u64 c6, .int .i64 c7, .int .u8 c8, .int .i64 c9, .int .i64 c10, .int .i64 c11] 35) := ⟨_, rfl⟩
  have hB : Below w.heap.size w X := by rw [hX]; exact below_new (Below.refl _ _) _
  have r0 : RowAt X w.heap.size [.int .u8 c0, .int .i64 c1, .int .u64 c2, .int .i64 c3, .bool cs, .int .u64 c5, .int .u64 c6, .int .i64 c7, .int .u8 c8, .int .i64 c9, .int .i64 c10, .int .i64 c11] 35 := by rw [hX]; exact RowAt.new _ _ _
  go_enter Try.func12, Try.ntmps12
  go_upto_region 1 with fail
  rw [← hX]
  clear hX
  obtain ⟨⟨y0, y1, y2, y3, y4, y5⟩, ⟨y6, y7, y8, y9, y10, y11⟩, yf, hly⟩ := cells12' r0
  by_cases h1 : E1 = 0
  · have k2' := k2 h1
    by_cases h2 : E2 = 0
    · have k4' := k4 h1 h2
      have HV := H3 h1 h2
      have HR : Hid (R = 0) := HV.out.1
      subst h1 h2
      clear H1 H2 H3 k2 k3 k4
      go_wp2_with fail
      go_at_call 30; refine (k1 _ hB).mono ?_; rintro e w1 ⟨rfl, hb⟩
      replace hB := below2 hB hb
      replace r0 := RowAt.below r0 hb
      clear hb k1 y0 y1 y2 y3 y4 y5 y6 y7 y8 y9 y10 y11 yf hly
      obtain ⟨⟨y0, y1, y2, y3, y4, y5⟩, ⟨y6, y7, y8, y9, y10, y11⟩, yf, hly⟩ := cells12' r0
      go_wp2_with fail
      go_at_call 31; refine (k2' _ hB).mono ?_; rintro e w2 ⟨rfl, hb⟩
      replace hB := below2 hB hb
      replace r0 := RowAt.below r0 hb
      clear hb k2' y0 y1 y2 y3 y4 y5 y6 y7 y8 y9 y10 y11 yf hly
      obtain ⟨⟨y0, y1, y2, y3, y4, y5⟩, ⟨y6, y7, y8, y9, y10, y11⟩, yf, hly⟩ := cells12' r0
      go_wp2_with fail
      go_at_call 33; refine (k4' _ hB).mono ?_; rintro e w3 ⟨u, rfl, hQ, hb⟩
      have hG := HV.out.2 _ _ hQ
      replace hB := below2 hB hb
      clear hb y0 y1 y2 y3 y4 y5 y6 y7 y8 y9 y10 y11 yf hly hQ HV
      have HG : Hid (G w3 u) := hG
      clear hG
      go_wp2_with fail
      go_ret2
      exact ⟨u, by rw [HR.out]; rfl, HG.out, hB⟩
    · have k3' := k3 h1 h2
      have HV := H2 h1 h2
      have HR : Hid (R = E2) := HV.out.1
      have q1 : (E2 == 0) = false := beq_eq_false_iff_ne.2 h2
      have q2 : (E2 != 0) = true := bne_iff_ne.2 h2
      subst h1
      clear H1 H2 H3 k2 k3 k4 h2
      go_wp2_with fail
      go_at_call 30; refine (k1 _ hB).mono ?_; rintro e w1 ⟨rfl, hb⟩
      replace hB := below2 hB hb
      replace r0 := RowAt.below r0 hb
      clear hb k1 y0 y1 y2 y3 y4 y5 y6 y7 y8 y9 y10 y11 yf hly
      obtain ⟨⟨y0, y1, y2, y3, y4, y5⟩, ⟨y6, y7, y8, y9, y10, y11⟩, yf, hly⟩ := cells12' r0
      go_wp2_with fail
      go_at_call 31; refine (k2' _ hB).mono ?_; rintro e w2 ⟨rfl, hb⟩
      replace hB := below2 hB hb
      replace r0 := RowAt.below r0 hb
      clear hb k2' y0 y1 y2 y3 y4 y5 y6 y7 y8 y9 y10 y11 yf hly
      obtain ⟨⟨y0, y1, y2, y3, y4, y5⟩, ⟨y6, y7, y8, y9, y10, y11⟩, yf, hly⟩ := cells12' r0
      go_wp2_with fail
      go_at_call 32; refine (k3' _ hB).mono ?_; rintro e w3 ⟨u, rfl, hQ, hb⟩
      have hG := HV.out.2 _ _ hQ
      replace hB := below2 hB hb
      clear hb y0 y1 y2 y3 y4 y5 y6 y7 y8 y9 y10 y11 yf hly hQ HV
      have HG : Hid (G w3 u) := hG
      clear hG
      go_wp2_with fail
      go_ret2
      exact ⟨u, by rw [HR.out]; rfl, HG.out, hB⟩
  · have HV := H1 h1
    have HR : Hid (R = E1) := HV.out.1
    have q1 : (E1 == 0) = false := beq_eq_false_iff_ne.2 h1
    have q2 : (E1 != 0) = true := bne_iff_ne.2 h1
    clear H1 H2 H3 k2 k3 k4 h1
    go_wp2_with fail
    go_at_call 30; refine (k1 _ hB).mono ?_; rintro e w1 ⟨rfl, hb⟩
    replace hB := below2 hB hb
    replace r0 := RowAt.below r0 hb
    clear hb k1 y0 y1 y2 y3 y4 y5 y6 y7 y8 y9 y10 y11 yf hly
    obtain ⟨⟨y0, y1, y2, y3, y4, y5⟩, ⟨y6, y7, y8, y9, y10, y11⟩, yf, hly⟩ := cells12' r0
    have HG : Hid (G w1 (.slice none 0 0)) := HV.out.2 _
    clear HV y0 y1 y2 y3 y4 y5 y6 y7 y8 y9 y10 y11 yf hly
    go_wp2_with fail
    go_ret2
    exact ⟨.slice none 0 0, by rw [HR.out]; rfl, HG.out, hB⟩
theorem newIn_own {w W : World} {m e size k : Nat} {v : Value} {xs : List Value} (h : W.ownsRow m e size v k xs) (hm : w.heap.size ≤ m) : NewIn w v := by
  intro a n c e
  subst e
  have := (h.lt a.block rfl).1
  omega
theorem newIn_nil (w : World) : NewIn w (.slice none 0 0) := fun a n c e => by injection e with e; cases e
theorem newIn_le {w W : World} {v : Value} (h : NewIn W v) (hb : w.heap.size ≤ W.heap.size) : NewIn w v := fun a n c e => Nat.le_trans hb (h a n c e)
theorem next_any (l : List St) (v : Value) (e : Ev) (h : Int) (w : World) (hl : HasSts w v l) (hf : FitE e) :
    Calls Try.prog 12 #[v, evV e, .int .i64 h] w fun r w' => ∃ u, r = .returned (.tuple #[u, .int .i64 (nextL l e h).2]) ∧ (HasSts w' u (nextL l e h).1 ∧ NewIn w u) ∧ Below w.heap.size w w' := by
  have hkind : ((e.kind : Int) != 2) = decide (e.kind ≠ 2) := by
    rw [Bool.eq_iff_iff, bne_iff_ne, decide_eq_true_eq]; omega
  refine next_walk v _ _ _ _ _ _ _ _ _ _ _ _ h w (askL l e h) (misL l e h) _ l (fun W u => HasSts W u l ∧ NewIn w u) (fun W u => HasSts W u (seatedL l ⟨e.router, e.seq, e.time, decide (e.kind ≠ 2)⟩) ∧ NewIn w u) (fun W hb => ask_any l v e h W (hl.keep hb) hf) (fun h1 W hb => mis_any l v e h W (hl.keep hb) (ask_ok h1).1) ?_ ?_ (fun W u => HasSts W u (nextL l e h).1 ∧ NewIn w u) ?_ ?_ ?_
  · intro h1 h2 W hb
    have := (okL_all (ask_ok h1).1).1
    refine (clone_any l v W (hl.keep hb) (by omega)).mono ?_
    rintro e w' ⟨u, rfl, ho, hb'⟩
    exact ⟨u, rfl, ⟨hasRow_own ho, newIn_own ho hb.size⟩, hb'⟩
  · intro h1 h2 W hb
    have := (okL_all (ask_ok h1).1).1
    rw [hkind]
    refine (seated_any l v ⟨e.router, e.seq, e.time, decide (e.kind ≠ 2)⟩ W (hl.keep hb) (by omega)).mono ?_
    rintro e w' ⟨u, rfl, ⟨B, hBB, ho⟩, hb'⟩
    exact ⟨u, rfl, ⟨hasRow_own ho, newIn_own ho (Nat.le_trans hb.size hBB)⟩, hb'⟩
  · intro h1
    show _ ∧ _
    unfold nextL
    rw [if_neg h1]
    exact ⟨rfl, fun W => ⟨hasRow_nil W 4, newIn_nil w⟩⟩
  · intro h1 h2
    show _ ∧ _
    unfold nextL
    rw [if_pos h1, if_neg h2]
    exact ⟨rfl, fun W u hu => hu⟩
  · intro h1 h2
    show _ ∧ _
    unfold nextL
    rw [if_pos h1, if_pos h2]
    exact ⟨rfl, fun W u hu => hu⟩
end Go.Proofs.Ytemefcojmidmbaa.Ord
namespace Go.Proofs.Ytemefcojmidmbaa.Ord
open Go.RowKit Go.Shelf
open Go.Proofs.Ytemefcojmidmbaa.Msg (Ev okE checkE evV evC FitE echeck_any cells12' gkeep gsetO set1 results_cell_tmp1 zeroPf zeroA zeroE evV_z)
open Go.Proofs.Ytemefcojmidmbaa.Addr (hiN loN RowAt below2 below_drew below_new bset RowAt.lt RowAt.cell RowAt.frozen RowAt.below RowAt.drew RowAt.new RowAt.alloc gdrew gset gbelow galloc grefl gfinal cells2 cells4 results_cell Bl bl_ne wp_region_bl bl_call bl_same)
attribute [-go_sem] Builtin.append_

theorem st_neq (a b c : Int) (d : Bool) (w : World) : (binOp .neq 60 (.agg #[.int .i64 a, .int .u64 b, .int .i64 c, .bool d]) (.agg #[.int .i64 a, .int .u64 b, .int .i64 c, .bool d])).run Try.prog w = .ok (.bool false) w := by
  have u3 := Try.underlying3
  have a3 := Try.isAgg3
  have z3 := Try.sizeOf3
  have u2 := Try.underlying2
  have a2 := Try.isAgg2
  have z2 := Try.sizeOf2
  have u9 := Try.underlying26
  have a9 := Try.isAgg26
  have z9 := Try.sizeOf26
  have u4 := Try.underlying4
  have a4 := Try.isAgg4
  have z4 := Try.sizeOf4
  have hS : Try.prog.underlying 60 = some (.struct (Try.prog.fieldsOf 60)) := by kernel_rfl
  have hp : Try.prog.stoodInHeld 60 = false := by kernel_rfl
  rw [run_neq_struct, show (10000 : Nat) = 9999 + 1 from rfl, run_equalIn_agg w 9999 60 _ _ hS hp]
  simp only [Program.fieldsOf, Try.underlying60]
  go_simp
theorem st_eql (a b c : Int) (d : Bool) (w : World) : (binOp .eql 60 (.agg #[.int .i64 a, .int .u64 b, .int .i64 c, .bool d]) (.agg #[.int .i64 a, .int .u64 b, .int .i64 c, .bool d])).run Try.prog w = .ok (.bool true) w := by
  have u3 := Try.underlying3
  have a3 := Try.isAgg3
  have z3 := Try.sizeOf3
  have u2 := Try.underlying2
  have a2 := Try.isAgg2
  have z2 := Try.sizeOf2
  have u9 := Try.underlying26
  have a9 := Try.isAgg26
  have z9 := Try.sizeOf26
  have u4 := Try.underlying4
  have a4 := Try.isAgg4
  have z4 := Try.sizeOf4
  have hS : Try.prog.underlying 60 = some (.struct (Try.prog.fieldsOf 60)) := by kernel_rfl
  have hp : Try.prog.stoodInHeld 60 = false := by kernel_rfl
  rw [run_eql_struct, show (10000 : Nat) = 9999 + 1 from rfl, run_equalIn_agg w 9999 60 _ _ hS hp]
  simp only [Program.fieldsOf, Try.underlying60]
  go_simp
theorem st_guard : Try.prog.eqGuardType Try.prog.depth 60 = false := by kernel_rfl
end Go.Proofs.Ytemefcojmidmbaa.Ord
namespace Go.Proofs.Ytemefcojmidmbaa.Ord
open Go.Proofs.Ytemefcojmidmbaa.Msg (Ev okE okE_bd)

def Up (l : List St) : Prop := l.Pairwise (fun a b => a.router < b.router)
theorem rise_iff (l : List St) : ∀ p : Option Int, rise p l = true ↔ (∀ s ∈ l, okS s = true) ∧ Up l ∧ ∀ r, p = some r → ∀ s ∈ l, r < s.router := by
  induction l with
  | nil => intro p; simp [rise, Up]
  | cons x t ih =>
    intro p
    have hx := ih (some x.router)
    have key : rise p (x :: t) = true ↔ (okS x = true ∧ (∀ r, p = some r → r < x.router)) ∧ rise (some x.router) t = true := by
      cases p with
      | none => simp [rise]
      | some r => simp [rise]
    rw [key, hx]
    unfold Up
    rw [List.pairwise_cons]
    constructor
    · rintro ⟨⟨h1, h2⟩, h3, h4, h5⟩
      refine ⟨?_, ⟨fun s hs => h5 _ rfl s hs, h4⟩, ?_⟩
      · intro s hs
        rcases List.mem_cons.1 hs with rfl | hs
        · exact h1
        · exact h3 s hs
      · intro r hr s hs
        rcases List.mem_cons.1 hs with rfl | hs
        · exact h2 r hr
        · exact Int.lt_trans (h2 r hr) (h5 _ rfl s hs)
    · rintro ⟨h1, ⟨h2, h3⟩, h4⟩
      refine ⟨⟨h1 x (by simp), fun r hr => h4 r hr x (by simp)⟩, fun s hs => h1 s (by simp [hs]), h3, ?_⟩
      intro r hr s hs
      injection hr with hr
      subst hr
      exact h2 s hs
theorem okL_iff (l : List St) : okL l = true ↔ l.length ≤ 64 ∧ (∀ s ∈ l, okS s = true) ∧ Up l := by
  unfold okL
  rw [Bool.and_eq_true, decide_eq_true_eq, rise_iff]
  constructor
  · rintro ⟨h1, h2, h3, _⟩; exact ⟨h1, h2, h3⟩
  · rintro ⟨h1, h2, h3⟩; exact ⟨h1, h2, h3, fun r hr => by cases hr⟩
theorem find_mem {l : List St} (h : Up l) : ∀ {s : St}, s ∈ l → findL l s.router = some s := by
  induction l with
  | nil => intro s hs; cases hs
  | cons x t ih =>
    intro s hs
    unfold Up at h
    rw [List.pairwise_cons] at h
    unfold findL
    rw [List.find?_cons]
    rcases List.mem_cons.1 hs with rfl | hs
    · simp
    · have hlt := h.1 s hs
      have hd : decide (x.router = s.router) = false := decide_eq_false (by omega)
      rw [hd]
      exact ih h.2 hs
theorem find_has {l : List St} {r : Int} {s : St} (h : findL l r = some s) : s ∈ l ∧ s.router = r := by
  refine ⟨List.mem_of_find?_eq_some h, ?_⟩
  have := List.find?_some h
  simpa using this
theorem up_len {l : List St} (h : Up l) (r : Int) : l.length = (ahead l r).length + (behind l r).length + (if isIn l r = true then 1 else 0) := by
  induction l with
  | nil => rfl
  | cons x t ih =>
    have h0 := h
    unfold Up at h
    rw [List.pairwise_cons] at h
    have iht := ih h.2
    by_cases h1 : x.router < r
    · have e1 : ahead (x :: t) r = x :: ahead t r := by unfold ahead; rw [List.filter_cons_of_pos (by simpa using h1)]
      have e2 : behind (x :: t) r = behind t r := by unfold behind; rw [List.filter_cons_of_neg (by simp; omega)]
      have e3 : isIn (x :: t) r = isIn t r := by
        unfold isIn findL
        rw [List.find?_cons, decide_eq_false (by omega)]
      rw [e1, e2, e3, List.length_cons, List.length_cons, iht]
      omega
    · have e1 : ahead (x :: t) r = [] := by
        unfold ahead
        rw [List.filter_eq_nil_iff]
        intro s hs
        rcases List.mem_cons.1 hs with rfl | hs
        · simp; omega
        · have := h.1 s hs; simp; omega
      by_cases h2 : x.router = r
      · have e2 : behind (x :: t) r = t := by
          unfold behind
          rw [List.filter_cons_of_neg (by simp; omega), List.filter_eq_self]
          intro s hs
          have := h.1 s hs
          simp; omega
        have e3 : isIn (x :: t) r = true := by
          unfold isIn findL
          rw [List.find?_cons, decide_eq_true h2]
          rfl
        rw [e1, e2, e3, List.length_cons]
        simp
      · have e2 : behind (x :: t) r = x :: t := by
          unfold behind
          rw [List.filter_eq_self]
          intro s hs
          rcases List.mem_cons.1 hs with rfl | hs
          · simp; omega
          · have := h.1 s hs; simp; omega
        have e3 : isIn (x :: t) r = false := by
          unfold isIn findL
          rw [List.find?_eq_none.2]
          · rfl
          · intro s hs
            rcases List.mem_cons.1 hs with rfl | hs
            · simpa using h2
            · have := h.1 s hs; simp; omega
        rw [e1, e2, e3]
        simp
theorem up_seated {l : List St} (h : Up l) (s : St) : Up (seatedL l s) := by
  unfold seatedL Up
  rw [List.pairwise_append]
  refine ⟨List.Pairwise.filter _ h, ?_, ?_⟩
  · rw [List.pairwise_append]
    refine ⟨by simp, List.Pairwise.filter _ h, ?_⟩
    intro a ha b hb
    simp only [List.mem_cons, List.not_mem_nil, or_false] at ha
    subst ha
    unfold behind at hb
    simpa using (List.mem_filter.1 hb).2
  · intro a ha b hb
    have h1 : a.router < s.router := by unfold ahead at ha; simpa using (List.mem_filter.1 ha).2
    rcases List.mem_append.1 hb with hb | hb
    · simp only [List.mem_cons, List.not_mem_nil, or_false] at hb
      subst hb; exact h1
    · have : s.router < b.router := by unfold behind at hb; simpa using (List.mem_filter.1 hb).2
      omega
theorem mem_seated {l : List St} {s t : St} (ht : t ∈ l) (hne : t.router ≠ s.router) : t ∈ seatedL l s := by
  unfold seatedL ahead behind
  rw [List.mem_append, List.mem_append]
  by_cases h : t.router < s.router
  · exact .inl (List.mem_filter.2 ⟨ht, by simpa using h⟩)
  · exact .inr (.inr (List.mem_filter.2 ⟨ht, by simp; omega⟩))
theorem own_seated (l : List St) (s : St) : s ∈ seatedL l s := by
  unfold seatedL
  simp
def aloneL (l : List St) (r : Int) : List St := match findL l r with
  | some s => [s]
  | none => []
theorem next_may (l : List St) (e : Ev) (h : Int) : (nextL l e h).2 = mayL l e h := by
  unfold nextL mayL
  by_cases ha : askL l e h = 0
  · rw [if_pos ha, if_pos ha]
    by_cases hm : misL l e h = 0
    · rw [if_pos hm, hm]
    · rw [if_neg hm]
  · rw [if_neg ha, if_neg ha]
theorem alone_may {l : List St} (hok : okL l = true) (e : Ev) (h : Int) : mayL (aloneL l e.router) e h = mayL l e h ∨ mayL l e h = 8 := by
  have hkey : okL (aloneL l e.router) = true ∧ findL (aloneL l e.router) e.router = findL l e.router ∧ (aloneL l e.router).length ≤ 1 := by
    unfold aloneL
    cases hf : findL l e.router with
    | none => exact ⟨rfl, rfl, by simp⟩
    | some s =>
      obtain ⟨hm, hr⟩ := find_has hf
      refine ⟨?_, ?_, by simp⟩
      · rw [okL_iff]
        refine ⟨by simp, fun t ht => ?_, by unfold Up; simp⟩
        simp only [List.mem_cons, List.not_mem_nil, or_false] at ht
        subst ht
        exact ((okL_iff l).1 hok).2.1 _ hm
      · show List.find? _ [s] = _
        rw [List.find?_cons, decide_eq_true hr]
  obtain ⟨h1, h2, h3⟩ := hkey
  have e1 : askL (aloneL l e.router) e h = askL l e h := by unfold askL; rw [h1, hok]
  have e2 : isIn (aloneL l e.router) e.router = isIn l e.router := by unfold isIn; rw [h2]
  have e3 : seatOf (aloneL l e.router) e.router = seatOf l e.router := by unfold seatOf; rw [h2]
  unfold mayL
  rw [e1]
  by_cases ha : askL l e h = 0
  · rw [if_pos ha, if_pos ha]
    unfold misL
    rw [e2, e3]
    split
    · exact .inl rfl
    · split
      · exact .inl rfl
      · split
        · exact .inl rfl
        · split
          · exact .inl rfl
          · rw [if_neg (show ¬ (isIn l e.router = false ∧ (aloneL l e.router).length = 64) by omega)]
            split
            · exact .inr rfl
            · exact .inl rfl
  · rw [if_neg ha, if_neg ha]
    exact .inl rfl
/-- what is so where an event was taken -/
theorem taken {l : List St} {e : Ev} {h : Int} (hy : (nextL l e h).2 = 0) :
    okL (nextL l e h).1 = true ∧ (nextL l e h).1.length + (aloneL l e.router).length = l.length + 1 ∧
    (∀ s ∈ l, isIn (nextL l e h).1 s.router = true ∧ (s.router ≠ e.router → seatOf (nextL l e h).1 s.router = s)) := by
  have ha : askL l e h = 0 := by
    by_cases ha : askL l e h = 0
    · exact ha
    · unfold nextL at hy; rw [if_neg ha] at hy; exact absurd hy ha
  have hm : misL l e h = 0 := by
    by_cases hm : misL l e h = 0
    · exact hm
    · unfold nextL at hy; rw [if_pos ha, if_neg hm] at hy; exact absurd hy hm
  obtain ⟨hok, hoe, hh1, hh2⟩ := ask_ok ha
  obtain ⟨hl64, hall, hup⟩ := (okL_iff l).1 hok
  obtain ⟨⟨_, ⟨r1, r2⟩, ⟨q1, q2⟩, ⟨t1, t2⟩⟩, _, _⟩ := okE_bd hoe
  have e1 : (nextL l e h).1 = seatedL l ⟨e.router, e.seq, e.time, decide (e.kind ≠ 2)⟩ := by unfold nextL; rw [if_pos ha, if_pos hm]
  rw [e1]
  generalize hs : (⟨e.router, e.seq, e.time, decide (e.kind ≠ 2)⟩ : St) = s0
  have hr0 : s0.router = e.router := by rw [← hs]
  have hok0 : okS s0 = true := by
    rw [← hs]
    unfold okS
    simp only [Bool.and_eq_true, decide_eq_true_eq]
    omega
  have hu := up_seated hup s0
  have hlen := up_len hup e.router
  have hlm : (seatedL l s0).length = (ahead l e.router).length + (behind l e.router).length + 1 := by
    unfold seatedL
    rw [hr0]
    simp only [List.length_append, List.length_cons, List.length_nil]
    omega
  have hal : (aloneL l e.router).length = if isIn l e.router = true then 1 else 0 := by
    unfold aloneL isIn
    cases findL l e.router <;> rfl
  have hfull : ¬ (isIn l e.router = false ∧ l.length = 64) := by
    intro c
    unfold misL at hm
    split at hm
    · exact absurd hm (by decide)
    · split at hm
      · exact absurd hm (by decide)
      · split at hm
        · exact absurd hm (by decide)
        · split at hm
          · exact absurd hm (by decide)
          · exact absurd hm (by decide)
  refine ⟨?_, by rw [hlm, hal]; omega, ?_⟩
  · rw [okL_iff]
    refine ⟨?_, ?_, hu⟩
    · cases hi : isIn l e.router with
      | true => rw [hi] at hlen; simp only [if_true] at hlen; omega
      | false =>
        have : l.length ≠ 64 := fun c => hfull ⟨hi, c⟩
        rw [hi] at hlen
        simp only [Bool.false_eq_true, if_false] at hlen
        omega
    · intro s hs'
      unfold seatedL at hs'
      rcases List.mem_append.1 hs' with hs' | hs'
      · exact hall s ((List.mem_filter.1 hs').1)
      · rcases List.mem_append.1 hs' with hs' | hs'
        · simp only [List.mem_cons, List.not_mem_nil, or_false] at hs'
          subst hs'; exact hok0
        · exact hall s ((List.mem_filter.1 hs').1)
  · intro s hsl
    by_cases hne : s.router = e.router
    · refine ⟨?_, fun c => absurd hne c⟩
      have := find_mem hu (own_seated l s0)
      unfold isIn
      rw [hne, ← hr0, this]
      rfl
    · have := find_mem hu (mem_seated (s := s0) hsl (by rw [hr0]; exact hne))
      refine ⟨?_, fun _ => ?_⟩
      · unfold isIn; rw [this]; rfl
      · unfold seatOf; rw [this]; rfl
theorem next_keeps {l : List St} {e : Ev} {h : Int} (hok : okL l = true) (hy : (nextL l e h).2 ≠ 0) : (nextL l e h).2 = 2 ∨ (nextL l e h).2 = 1 ∨ (nextL l e h).1 = l := by
  unfold nextL at hy ⊢
  by_cases ha : askL l e h = 0
  · rw [if_pos ha] at hy ⊢
    by_cases hm : misL l e h = 0
    · rw [if_pos hm] at hy; exact absurd rfl hy
    · rw [if_neg hm]; exact .inr (.inr rfl)
  · rw [if_neg ha]
    unfold askL
    split
    · split
      · exact .inr (.inl rfl)
      · rename_i h1 h2
        exfalso
        apply ha
        unfold askL
        rw [if_pos h1, if_neg h2]
    · exact .inl rfl
theorem next_wrong {l : List St} {e : Ev} {h : Int} (hok : okL l = false) : (nextL l e h).2 = 2 := by
  have : askL l e h = 2 := by unfold askL; rw [hok]; rfl
  unfold nextL
  rw [if_neg (by rw [this]; decide), this]
end Go.Proofs.Ytemefcojmidmbaa.Ord
namespace Go.Proofs.Ytemefcojmidmbaa.Ord
open Go.Proofs.Ytemefcojmidmbaa.Msg (Ev okE okE_bd)

def ofR (r : Int) (l : List Ev) : List Ev := l.filter (fun e => decide (e.router = r))
def cntR (r : Int) (l : List Ev) : Nat := (ofR r l).length
def lastR (r : Int) (l : List Ev) : Int := match (ofR r l).getLast? with
  | some e => e.time
  | none => -1
theorem of_snoc (r : Int) (l : List Ev) (e : Ev) : ofR r (l ++ [e]) = if e.router = r then ofR r l ++ [e] else ofR r l := by
  unfold ofR
  rw [List.filter_append, List.filter_cons, List.filter_nil]
  by_cases h : e.router = r
  · rw [if_pos h, if_pos (by simpa using h)]
  · rw [if_neg h, if_neg (by simpa using h), List.append_nil]
theorem cnt_snoc (r : Int) (l : List Ev) (e : Ev) : cntR r (l ++ [e]) = if e.router = r then cntR r l + 1 else cntR r l := by
  unfold cntR
  rw [of_snoc]
  split
  · rw [List.length_append]; rfl
  · rfl
theorem last_snoc (r : Int) (l : List Ev) (e : Ev) : lastR r (l ++ [e]) = if e.router = r then e.time else lastR r l := by
  unfold lastR
  rw [of_snoc]
  by_cases h : e.router = r
  · rw [if_pos h, if_pos h, List.getLast?_append]; rfl
  · rw [if_neg h, if_neg h]
theorem last_none {r : Int} {l : List Ev} (h : cntR r l = 0) : lastR r l = -1 := by
  unfold lastR
  rw [List.eq_nil_of_length_eq_zero h]
  rfl
theorem cnt_mono (r : Int) (l : List Ev) (i j : Nat) (h : i ≤ j) : cntR r (l.take i) ≤ cntR r (l.take j) := by
  unfold cntR ofR
  have e : l.take i = (l.take j).take i := by rw [List.take_take, Nat.min_eq_left h]
  rw [e]
  exact ((List.take_sublist i (l.take j)).filter _).length_le
structure Inv (l : List St) (pre : List Ev) : Prop where
  ok : okL l = true
  seat : ∀ r, (findL l r = none ∧ cntR r pre = 0) ∨ ∃ s, findL l r = some s ∧ s.seq = cntR r pre ∧ s.time = lastR r pre ∧ 0 < cntR r pre
theorem inv_nil : Inv [] [] := ⟨rfl, fun r => .inl ⟨rfl, rfl⟩⟩
theorem find_seated {l : List St} (h : Up l) (s : St) (r : Int) : findL (seatedL l s) r = if r = s.router then some s else findL l r := by
  have hu := up_seated h s
  by_cases hr : r = s.router
  · rw [if_pos hr, hr]
    exact find_mem hu (own_seated l s)
  · rw [if_neg hr]
    cases hf : findL l r with
    | some t =>
      obtain ⟨ht, htr⟩ := find_has hf
      have := find_mem hu (mem_seated (s := s) ht (by rw [htr]; exact hr))
      rw [htr] at this
      exact this
    | none =>
      cases hg : findL (seatedL l s) r with
      | none => rfl
      | some t =>
        exfalso
        obtain ⟨ht, htr⟩ := find_has hg
        have htl : t ∈ l := by
          unfold seatedL ahead behind at ht
          rcases List.mem_append.1 ht with ht | ht
          · exact (List.mem_filter.1 ht).1
          · rcases List.mem_append.1 ht with ht | ht
            · simp only [List.mem_cons, List.not_mem_nil, or_false] at ht
              subst ht
              exact absurd htr.symm hr
            · exact (List.mem_filter.1 ht).1
        have := find_mem h htl
        rw [htr, hf] at this
        cases this
theorem mis_zero {l : List St} {e : Ev} {h : Int} (hm : misL l e h = 0) : e.seq = (seatOf l e.router).seq + 1 ∧ (seatOf l e.router).time ≤ e.time := by
  unfold misL at hm
  split at hm
  · exact absurd hm (by decide)
  · split at hm
    · exact absurd hm (by decide)
    · split at hm
      · exact absurd hm (by decide)
      · omega
theorem next_zero {l : List St} {e : Ev} {h : Int} (hy : (nextL l e h).2 = 0) : askL l e h = 0 ∧ misL l e h = 0 := by
  have ha : askL l e h = 0 := by
    by_cases ha : askL l e h = 0
    · exact ha
    · unfold nextL at hy; rw [if_neg ha] at hy; exact absurd hy ha
  refine ⟨ha, ?_⟩
  by_cases hm : misL l e h = 0
  · exact hm
  · unfold nextL at hy; rw [if_pos ha, if_neg hm] at hy; exact absurd hy hm
theorem inv_step {l : List St} {pre : List Ev} {e : Ev} {h : Int} (hi : Inv l pre) (hy : (nextL l e h).2 = 0) :
    Inv (nextL l e h).1 (pre ++ [e]) ∧ e.seq = cntR e.router pre + 1 ∧ lastR e.router pre ≤ e.time := by
  obtain ⟨ha, hm⟩ := next_zero hy
  obtain ⟨hok, hoe, _, _⟩ := ask_ok ha
  obtain ⟨⟨_, ⟨r1, r2⟩, ⟨q1, q2⟩, ⟨t1, t2⟩⟩, _, _⟩ := okE_bd hoe
  obtain ⟨m1, m2⟩ := mis_zero hm
  have e1 : (nextL l e h).1 = seatedL l ⟨e.router, e.seq, e.time, decide (e.kind ≠ 2)⟩ := by unfold nextL; rw [if_pos ha, if_pos hm]
  have hs : e.seq = cntR e.router pre + 1 ∧ lastR e.router pre ≤ e.time := by
    rcases hi.seat e.router with ⟨h1, h2⟩ | ⟨s, h1, h2, h3, h4⟩
    · have : seatOf l e.router = zeroS := by unfold seatOf; rw [h1]; rfl
      rw [this] at m1
      refine ⟨by rw [m1, h2]; rfl, by rw [last_none h2]; omega⟩
    · have : seatOf l e.router = s := by unfold seatOf; rw [h1]; rfl
      rw [this] at m1 m2
      exact ⟨by rw [m1, h2], by rw [← h3]; exact m2⟩
  refine ⟨⟨(taken hy).1, fun r => ?_⟩, hs⟩
  rw [e1, find_seated ((okL_iff l).1 hok).2.2, cnt_snoc, last_snoc]
  by_cases hr : r = e.router
  · rw [if_pos hr, if_pos hr.symm, if_pos hr.symm]
    refine .inr ⟨_, rfl, ?_, rfl, by omega⟩
    rw [hr]
    exact hs.1
  · rw [if_neg hr, if_neg (fun c => hr c.symm), if_neg (fun c => hr c.symm)]
    exact hi.seat r
theorem all_inv (h : Int) : ∀ (es : List Ev) (l : List St) (pre : List Ev) (k : Nat), Inv l pre → ∃ j, j ≤ es.length ∧ (allL h l es k).2.1 = k + j ∧ Inv (allL h l es k).1 (pre ++ es.take j) ∧ ∀ (i : Nat) (hi : i < j) (hi2 : i < es.length), es[i].seq = cntR es[i].router (pre ++ es.take i) + 1 ∧ lastR es[i].router (pre ++ es.take i) ≤ es[i].time := by
  intro es
  induction es with
  | nil =>
    intro l pre k hi
    refine ⟨0, Nat.le_refl _, rfl, ?_, fun i hi2 _ => absurd hi2 (by omega)⟩
    show Inv l (pre ++ [])
    rw [List.append_nil]
    exact hi
  | cons e t ih =>
    intro l pre k hi
    unfold allL
    by_cases hy : (nextL l e h).2 = 0
    · rw [if_pos hy]
      obtain ⟨hi', hs1, hs2⟩ := inv_step hi hy
      obtain ⟨j, hj, h1, h2, h3⟩ := ih (nextL l e h).1 (pre ++ [e]) (k + 1) hi'
      refine ⟨j + 1, by simp; omega, by rw [h1]; omega, ?_, ?_⟩
      · rw [List.take_succ_cons]
        simpa using h2
      · intro i hij hil
        cases i with
        | zero => simpa using ⟨hs1, hs2⟩
        | succ i =>
          have := h3 i (by omega) (by simpa using hil)
          rw [List.take_succ_cons]
          simpa using this
    · rw [if_neg hy]
      refine ⟨0, by omega, rfl, ?_, fun i hi2 _ => absurd hi2 (by omega)⟩
      show Inv l (pre ++ [])
      rw [List.append_nil]
      exact hi
/-- what OrderOnce asks for -/
theorem once (h : Int) (es : List Ev) : ∃ j, j ≤ es.length ∧ (allL h [] es 0).2.1 = j ∧
    (∀ (i : Nat) (hi : i < j) (hi2 : i < es.length), mayL (allL h [] es 0).1 es[i] h ≠ 0 ∧ es[i].seq = cntR es[i].router (es.take i) + 1 ∧ lastR es[i].router (es.take i) ≤ es[i].time) ∧
    (∀ r, isIn (allL h [] es 0).1 r = decide (0 < cntR r (es.take j)) ∧ (0 < cntR r (es.take j) → (seatOf (allL h [] es 0).1 r).seq = cntR r (es.take j) ∧ (seatOf (allL h [] es 0).1 r).time = lastR r (es.take j))) := by
  obtain ⟨j, hj, h1, h2, h3⟩ := all_inv h es [] [] 0 inv_nil
  rw [Nat.zero_add] at h1
  simp only [List.nil_append] at h2 h3
  have hseat : ∀ r, isIn (allL h [] es 0).1 r = decide (0 < cntR r (es.take j)) ∧ (0 < cntR r (es.take j) → (seatOf (allL h [] es 0).1 r).seq = cntR r (es.take j) ∧ (seatOf (allL h [] es 0).1 r).time = lastR r (es.take j)) := by
    intro r
    rcases h2.seat r with ⟨a1, a2⟩ | ⟨s, a1, a2, a3, a4⟩
    · unfold isIn
      rw [a1, a2]
      exact ⟨rfl, fun c => absurd c (by omega)⟩
    · unfold isIn seatOf
      rw [a1]
      exact ⟨by rw [decide_eq_true a4]; rfl, fun _ => ⟨a2, a3⟩⟩
  refine ⟨j, hj, h1, fun i hi hi2 => ?_, hseat⟩
  obtain ⟨b1, b2⟩ := h3 i hi hi2
  refine ⟨?_, b1, b2⟩
  intro hc
  have hm : misL (allL h [] es 0).1 es[i] h = 0 := by
    unfold mayL at hc
    by_cases ha : askL (allL h [] es 0).1 es[i] h = 0
    · rw [if_pos ha] at hc; exact hc
    · rw [if_neg ha] at hc; exact absurd hc ha
  have hz := (mis_zero hm).1
  have hcnt : cntR es[i].router (es.take (i + 1)) = cntR es[i].router (es.take i) + 1 := by
    rw [List.take_succ_eq_append_getElem hi2, cnt_snoc, if_pos rfl]
  have hmono := cnt_mono es[i].router es (i + 1) j hi
  have := ((hseat es[i].router).2 (by omega)).1
  omega
end Go.Proofs.Ytemefcojmidmbaa.Ord
