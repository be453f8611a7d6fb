/- Whether links are right. -/
import Derived.Test.YtedgmnnbmonhkaaLkRight
import Derived.BigQuiet
set_option linter.unusedVariables false
namespace Go.Proofs.Ytedgmnnbmonhkaa.Lk
open Go.RowKit
open Go.Proofs.Ytedgmnnbmonhkaa.Addr (RowAt below2 below_drew below_new bset RowAt.lt RowAt.cell RowAt.frozen RowAt.below RowAt.drew RowAt.new RowAt.alloc cells2 Bl bl_ne wp_region_bl bl_call bl_same)
def prevR (l : List Lk) (k : Nat) : Option Int := match k with
  | 0 => none
  | j + 1 => (l[j]?).map (·.iface)
theorem rise_zero (l : List Lk) (h : 0 < l.length) : rise (prevR l 0) (l.drop 0) = (okK l[0] && rise (prevR l 1) (l.drop 1)) := by
  match l, h with
  | s :: t, _ => rfl
theorem rise_succ (l : List Lk) (j : Nat) (h : j + 1 < l.length) : rise (prevR l (j + 1)) (l.drop (j + 1)) = (okK l[j + 1] && !decide (l[j + 1].iface ≤ l[j].iface) && rise (prevR l (j + 2)) (l.drop (j + 2))) := by
  have e1 : prevR l (j + 1) = some l[j].iface := by show (l[j]?).map (·.iface) = _; rw [List.getElem?_eq_getElem (by omega)]; rfl
  have e2 : prevR l (j + 2) = some l[j + 1].iface := by show (l[j + 1]?).map (·.iface) = _; rw [List.getElem?_eq_getElem (by omega)]; rfl
  have e3 : l.drop (j + 1) = l[j + 1] :: l.drop (j + 2) := List.drop_eq_getElem_cons h
  have e4 : decide (l[j].iface < l[j + 1].iface) = !decide (l[j + 1].iface ≤ l[j].iface) := by
    rw [Bool.eq_iff_iff]; simp
  rw [e1, e2, e3, rise, e4]
theorem round_bad {l : List Lk} {k : Nat} (hk : k < l.length) {R : Int} (HD : R = if rise none l then 0 else 2) (HG : rise none l = rise (prevR l k) (l.drop k)) (h : okK l[k] = false) : R = 2 := by
  rw [HD, HG]
  cases k with
  | zero => rw [rise_zero l hk, h]; rfl
  | succ j => rw [rise_succ l j hk, h]; rfl
theorem round_first {l : List Lk} {k : Nat} (hk : k < l.length) (HG : rise none l = rise (prevR l k) (l.drop k)) (h : okK l[k] = true) (h0 : k = 0) : rise none l = rise (prevR l 1) (l.drop 1) := by
  subst h0
  rw [HG, rise_zero l hk, h, Bool.true_and]
theorem round_next {l : List Lk} {k j : Nat} (hk : k < l.length) {R : Int} (HD : R = if rise none l then 0 else 2) (HG : rise none l = rise (prevR l k) (l.drop k)) (h : okK l[k] = true) (h0 : k = j + 1) (hj : j < l.length) :
    (decide (l[k].iface ≤ l[j].iface) = false → rise none l = rise (prevR l (k + 1)) (l.drop (k + 1))) ∧ (decide (l[k].iface ≤ l[j].iface) = true → R = 2) := by
  subst h0
  constructor
  · intro hd
    rw [HG, rise_succ l j hk, h, hd]
    rfl
  · intro hd
    rw [HD, HG, rise_succ l j hk, h, hd]
    rfl
theorem below_drewN {B : Nat} {w0 w : World} (h : Below B w0 w) (n : Nat) : Below B w0 (w.drewN n) := h.trans ⟨rfl, rfl, rfl, Nat.le_refl _, fun _ _ => rfl⟩
set_option maxHeartbeats 4000000 in
set_option maxRecDepth 20000 in
theorem check_any (l : List Lk) (v : Value) (w : World) (h : HasLks w v l) :
    Calls Try.prog 12 #[v] w fun e w' => e = .returned (.int .i64 (checkL l)) ∧ Below w.heap.size w w' := by
  obtain ⟨o, c, rfl, hc1, hc2⟩ := HasRow.slice h
  have HR : Hid (∀ wr : World, Below w.heap.size w wr → HasLks wr (.slice o l.length c) l) := fun wr hb => h.keep hb
  obtain ⟨n, hn⟩ : ∃ n, n = l.length := ⟨_, rfl⟩
  have HN : Hid (n = l.length) := hn
  rw [← hn] at HR hc1 ⊢
  have HC : Hid (checkL l = if (decide (n ≤ 32) && rise none l) then 0 else 2) := by show _ = _; unfold checkL okL; rw [← hn]
  generalize checkL l = R at HC ⊢
  clear h hn
  by_cases h32 : 32 < n
  · have HV : Hid (R = 2) := by show _ = _; rw [HC.out, decide_eq_false (by omega)]; rfl
    have q1 : decide ((32 : Int) < (n : Int)) = true := decide_eq_true (by omega)
    have q2 : decide (32 < n) = true := decide_eq_true h32
    clear HC HR
    go_enter Try.func12, Try.ntmps12
    go_wp2_with fail
    go_ret
    exact ⟨by rw [HV.out]; rfl, Below.refl _ _⟩
  · have HD : Hid (R = if rise none l then 0 else 2) := by show _ = _; rw [HC.out, decide_eq_true (by omega)]; rfl
    have hni : (n : Int) ≤ 32 := by omega
    have q1 : decide ((32 : Int) < (n : Int)) = false := decide_eq_false (by omega)
    have q2 : decide (32 < n) = false := decide_eq_false h32
    clear HC h32
    go_enter Try.func12, Try.ntmps12
    go_wp2_with fail
    go_loopw [10] (fun i wr => ∃ k : Nat, k ≤ n ∧ i = .int .i64 k ∧ Below w.heap.size w wr ∧ Hid (rise none l = rise (prevR l k) (l.drop k))) (fun i _ => n - (intOf i).toNat)
    case atStart => exact ⟨0, by omega, rfl, Below.refl _ _, (rfl : rise none l = _)⟩
    case round =>
      obtain ⟨k, hk, rfl, hB, HG⟩ := hrel
      have hh := HR.out _ hB
      by_cases hlt : k < n
      · have hkz : k < l.length := by rw [← HN.out]; exact hlt
        obtain ⟨g1, i1, rfl, hg1, a0, a1⟩ := HasLks.cell hh k hkz
        have cr : ∀ W : World, Calls Try.prog 20 #[.agg #[.int .i64 l[k].iface, .int .i64 l[k].peer]] W fun e w' => e = .returned (.bool (okK l[k])) ∧ Below W.heap.size W w' := fun W => right_any l[k] W
        have hki : (k : Int) < (n : Int) := by omega
        have HB1 : Hid (okK l[k] = false → R = 2) := fun h => round_bad hkz HD.out HG.out h
        have HB2 : Hid (okK l[k] = true → k = 0 → rise none l = rise (prevR l 1) (l.drop 1)) := fun h h0 => round_first hkz HG.out h h0
        have HB3 : Hid (okK l[k] = true → ∀ (j : Nat) (hj : j < l.length), k = j + 1 → (decide (l[k].iface ≤ l[j].iface) = false → rise none l = rise (prevR l (k + 1)) (l.drop (k + 1))) ∧ (decide (l[k].iface ≤ l[j].iface) = true → R = 2)) := fun h j hj h0 => round_next hkz HD.out HG.out h h0 hj
        generalize okK l[k] = B1 at cr HB1 HB2 HB3
        generalize l[k].iface = ra at a0 cr HB3
        clear HG
        generalize l[k].peer = rb at a1 cr
        go_upto_region 6 with fail
        obtain ⟨X, hX⟩ : ∃ X, X = wr.alloc (.cells #[.int .i64 ra, .int .i64 rb] 24) := ⟨_, rfl⟩
        have hbX : Below wr.heap.size wr X := by rw [hX]; exact below_new (Below.refl _ _) _
        have rx : RowAt X wr.heap.size [.int .i64 ra, .int .i64 rb] 24 := by rw [hX]; exact RowAt.new _ _ _
        rw [← hX]
        have hBX := below2 hB hbX
        have hhX := hh.keep hbX
        clear hX
        obtain ⟨gs, hgs⟩ : ∃ g, g = wr.heap.size := ⟨_, rfl⟩
        rw [← hgs] at rx ⊢
        clear hgs a0 a1 hg1
        have m0 : ∀ p : Bl X, p.W.cell? ⟨gs, 0, none⟩ = some (.int .i64 ra) := fun p => (rx.below p.h).cell 0
        have m1 : ∀ p : Bl X, p.W.cell? ⟨gs, 1, none⟩ = some (.int .i64 rb) := fun p => (rx.below p.h).cell 1
        haveI := bl_ne X
        cases B1
        · have HV : Hid (R = 2) := HB1.out rfl
          clear HB1 HB2 HB3 HD hh hhX
          refine wp_region_bl (by kernel_rfl) (by kernel_rfl) ?_
          repeat (go_big_quiet_step (first | (go_at_call 20; with_reducible exact bl_call (cr _))))
          refine wpQuiet_nil ?_
          intro wq hw'
          obtain ⟨⟨wz, hq⟩, hw2⟩ := hw'
          subst hw2
          have hW := below2 hBX hq
          go_wp2_with fail
          go_ret
          exact ⟨by rw [HV.out]; rfl, hW⟩
        · by_cases hk0 : k = 0
          · have HS1 : Hid (rise none l = rise (prevR l 1) (l.drop 1)) := HB2.out rfl hk0
            clear HB1 HB2 HB3 hh hhX
            have hz1 : decide ((0 : Int) < (k : Int)) = false := decide_eq_false (by omega)
            have hz2 : decide (0 < k) = false := decide_eq_false (by omega)
            have HK : Hid (k = 0) := hk0
            clear hk0
            refine wp_region_bl (by kernel_rfl) (by kernel_rfl) ?_
            repeat (go_big_quiet_step (first | (go_at_call 20; with_reducible exact bl_call (cr _))))
            refine wpQuiet_nil ?_
            intro wq hw'
            obtain ⟨⟨wz, hq⟩, hw2⟩ := hw'
            subst hw2
            have hW := below2 hBX hq
            go_wp2_with fail
            go_roundw
            case rel => exact ⟨k + 1, by omega, by go_num, hW, by rw [HK.out]; exact HS1⟩
            case measure => simp [intOf]; omega
          · obtain ⟨j, hj⟩ : ∃ j, k = j + 1 := ⟨k - 1, by omega⟩
            have hj2 : j < l.length := by omega
            obtain ⟨g2, i2, e12, hg2, b0, _⟩ := HasLks.cell hhX j hj2
            injection e12 with e12
            injection e12 with e1 e2
            subst e1 e2
            obtain ⟨HN1, HN2⟩ := HB3.out rfl j hj2 hj
            have HN1 : Hid (decide (ra ≤ l[j].iface) = false → rise none l = rise (prevR l (k + 1)) (l.drop (k + 1))) := HN1
            have HN2 : Hid (decide (ra ≤ l[j].iface) = true → R = 2) := HN2
            have u0 : ∀ p : Bl X, p.W.cell? ⟨g1, i1 + j * 2, none⟩ = some (.int .i64 l[j].iface) := fun p => (p.h.cell (p := ⟨g1, i1 + j * 2, none⟩) hg2).trans b0
            clear HB1 HB2 HB3 hh hhX b0 hg2
            generalize l[j].iface = pr at u0 HN1 HN2
            have e1 : (k : Int) - 1 = (j : Int) := by omega
            have e2 : IntKind.i64.wrap (j : Int) = (j : Int) := by rw [IntKind.wrap_i64]; omega
            have hkp : decide ((0 : Int) < (k : Int)) = true := decide_eq_true (by omega)
            have hkp' : decide (0 < k) = true := decide_eq_true (by omega)
            have hjn : (j : Int) < (n : Int) := by omega
            clear hj hk0
            cases B2 : decide (ra ≤ pr)
            · have HS1 : Hid (rise none l = rise (prevR l (k + 1)) (l.drop (k + 1))) := HN1.out B2
              clear HN1 HN2
              refine wp_region_bl (by kernel_rfl) (by kernel_rfl) ?_
              repeat (go_big_quiet_step (first | (go_at_call 20; with_reducible exact bl_call (cr _))))
              refine wpQuiet_nil ?_
              intro wq hw'
              obtain ⟨⟨wz, hq⟩, hw2⟩ := hw'
              subst hw2
              have hW := below2 hBX hq
              go_wp2_with fail
              go_roundw
              case rel => exact ⟨k + 1, by omega, by go_num, hW, HS1⟩
              case measure => simp [intOf]; omega
            · have HV : Hid (R = 2) := HN2.out B2
              clear HN1 HN2 HD
              refine wp_region_bl (by kernel_rfl) (by kernel_rfl) ?_
              repeat (go_big_quiet_step (first | (go_at_call 20; with_reducible exact bl_call (cr _))))
              refine wpQuiet_nil ?_
              intro wq hw'
              obtain ⟨⟨wz, hq⟩, hw2⟩ := hw'
              subst hw2
              have hW := below2 hBX hq
              go_wp2_with fail
              go_ret
              exact ⟨by rw [HV.out]; rfl, hW⟩
      · obtain rfl : k = n := by omega
        have HV : Hid (R = 0) := by
          show _ = _
          rw [HD.out, HG.out, List.drop_of_length_le (by rw [← HN.out]; exact Nat.le_refl _)]
          unfold prevR
          split <;> rfl
        clear hh HG HD
        go_wp2
        go_ret
        exact ⟨by rw [HV.out]; rfl, hB⟩
end Go.Proofs.Ytedgmnnbmonhkaa.Lk
