/- A row of links anew. -/
import Derived.Test.YtkjhnefbcnnjlaaGreatNv06
import Derived.BigQuiet
import Derived.Deep.AppendLies
import Derived.Shelf.Slices.Clone
import Derived.Laws.Cover3
set_option linter.unusedVariables false
namespace Go.Proofs.YtkjhnefbcnnjlaaGreat.Lk
open Go.RowKit
open Go.Proofs.YtkjhnefbcnnjlaaGreat.Addr (RowAt below2 below_new RowAt.cell RowAt.below RowAt.new RowAt.alloc Bl bl_ne wp_region_bl bl_call)
def prevR (l : List Lk) (k : Nat) : Option Int := match k with
  | 0 => none
  | j + 1 => (l[j]?).map (·.iface)
theorem rise_zero (l : List Lk) (h : 0 < l.length) : rise (prevR l 0) (l.drop 0) = (okK l[0] && rise (prevR l 1) (l.drop 1)) := by
  match l, h with
  | s :: t, _ => rfl
theorem rise_succ (l : List Lk) (j : Nat) (h : j + 1 < l.length) : rise (prevR l (j + 1)) (l.drop (j + 1)) = (okK l[j + 1] && !decide (l[j + 1].iface ≤ l[j].iface) && rise (prevR l (j + 2)) (l.drop (j + 2))) := by
  have e1 : prevR l (j + 1) = some l[j].iface := by show (l[j]?).map (·.iface) = _; rw [List.getElem?_eq_getElem (by omega)]; rfl
  have e2 : prevR l (j + 2) = some l[j + 1].iface := by show (l[j + 1]?).map (·.iface) = _; rw [List.getElem?_eq_getElem (by omega)]; rfl
  have e3 : l.drop (j + 1) = l[j + 1] :: l.drop (j + 2) := List.drop_eq_getElem_cons h
  have e4 : decide (l[j].iface < l[j + 1].iface) = !decide (l[j + 1].iface ≤ l[j].iface) := by
    rw [Bool.eq_iff_iff]; simp
  rw [e1, e2, e3, rise, e4]
theorem round_bad {l : List Lk} {k : Nat} (hk : k < l.length) {R : Int} (HD : R = if rise none l then 0 else 2) (HG : rise none l = rise (prevR l k) (l.drop k)) (h : okK l[k] = false) : R = 2 := by
  rw [HD, HG]
  cases k with
  | zero => rw [rise_zero l hk, h]; rfl
  | succ j => rw [rise_succ l j hk, h]; rfl
theorem round_first {l : List Lk} {k : Nat} (hk : k < l.length) (HG : rise none l = rise (prevR l k) (l.drop k)) (h : okK l[k] = true) (h0 : k = 0) : rise none l = rise (prevR l 1) (l.drop 1) := by
  subst h0
  rw [HG, rise_zero l hk, h, Bool.true_and]
theorem round_next {l : List Lk} {k j : Nat} (hk : k < l.length) {R : Int} (HD : R = if rise none l then 0 else 2) (HG : rise none l = rise (prevR l k) (l.drop k)) (h : okK l[k] = true) (h0 : k = j + 1) (hj : j < l.length) :
    (decide (l[k].iface ≤ l[j].iface) = false → rise none l = rise (prevR l (k + 1)) (l.drop (k + 1))) ∧ (decide (l[k].iface ≤ l[j].iface) = true → R = 2) := by
  subst h0
  constructor
  · intro hd
    rw [HG, rise_succ l j hk, h, hd]
    rfl
  · intro hd
    rw [HD, HG, rise_succ l j hk, h, hd]
    rfl
theorem below_drewN {B : Nat} {w0 w : World} (h : Below B w0 w) (n : Nat) : Below B w0 (w.drewN n) := h.trans ⟨rfl, rfl, rfl, Nat.le_refl _, fun _ _ => rfl⟩
set_option maxHeartbeats 4000000 in
set_option maxRecDepth 20000 in
theorem check_any (l : List Lk) (v : Value) (w : World) (h : HasLks w v l) :
    Calls Tryz.prog 48 #[v] w fun e w' => e = .returned (.int .i64 (checkL l)) ∧ Below w.heap.size w w' := by
  obtain ⟨o, c, rfl, hc1, hc2⟩ := HasRow.slice h
  have HR : Hid (∀ wr : World, Below w.heap.size w wr → HasLks wr (.slice o l.length c) l) := fun wr hb => h.keep hb
  obtain ⟨n, hn⟩ : ∃ n, n = l.length := ⟨_, rfl⟩
  have HN : Hid (n = l.length) := hn
  rw [← hn] at HR hc1 ⊢
  have HC : Hid (checkL l = if (decide (n ≤ 32) && rise none l) then 0 else 2) := by show _ = _; unfold checkL okL; rw [← hn]
  generalize checkL l = R at HC ⊢
  clear h hn
  by_cases h32 : 32 < n
  · have HV : Hid (R = 2) := by show _ = _; rw [HC.out, decide_eq_false (by omega)]; rfl
    have q1 : decide ((32 : Int) < (n : Int)) = true := decide_eq_true (by omega)
    have q2 : decide (32 < n) = true := decide_eq_true h32
    clear HC HR
    go_enter Tryz.func48, Tryz.ntmps48
    go_wp2_with fail
    go_ret
    exact ⟨by rw [HV.out]; rfl, Below.refl _ _⟩
  · have HD : Hid (R = if rise none l then 0 else 2) := by show _ = _; rw [HC.out, decide_eq_true (by omega)]; rfl
    have hni : (n : Int) ≤ 32 := by omega
    have q1 : decide ((32 : Int) < (n : Int)) = false := decide_eq_false (by omega)
    have q2 : decide (32 < n) = false := decide_eq_false h32
    clear HC h32
    go_enter Tryz.func48, Tryz.ntmps48
    go_wp2_with fail
    go_loopw [10] (fun i wr => ∃ k : Nat, k ≤ n ∧ i = .int .i64 k ∧ Below w.heap.size w wr ∧ Hid (rise none l = rise (prevR l k) (l.drop k))) (fun i _ => n - (intOf i).toNat)
    case atStart => exact ⟨0, by omega, rfl, Below.refl _ _, (rfl : rise none l = _)⟩
    case round =>
      obtain ⟨k, hk, rfl, hB, HG⟩ := hrel
      have hh := HR.out _ hB
      by_cases hlt : k < n
      · have hkz : k < l.length := by rw [← HN.out]; exact hlt
        obtain ⟨g1, i1, rfl, hg1, a0, a1⟩ := HasLks.cell hh k hkz
        have cr : ∀ W : World, Calls Tryz.prog 77 #[.agg #[.int .i64 l[k].iface, .int .i64 l[k].peer]] W fun e w' => e = .returned (.bool (okK l[k])) ∧ Below W.heap.size W w' := fun W => right_any l[k] W
        have hki : (k : Int) < (n : Int) := by omega
        have HB1 : Hid (okK l[k] = false → R = 2) := fun h => round_bad hkz HD.out HG.out h
        have HB2 : Hid (okK l[k] = true → k = 0 → rise none l = rise (prevR l 1) (l.drop 1)) := fun h h0 => round_first hkz HG.out h h0
        have HB3 : Hid (okK l[k] = true → ∀ (j : Nat) (hj : j < l.length), k = j + 1 → (decide (l[k].iface ≤ l[j].iface) = false → rise none l = rise (prevR l (k + 1)) (l.drop (k + 1))) ∧ (decide (l[k].iface ≤ l[j].iface) = true → R = 2)) := fun h j hj h0 => round_next hkz HD.out HG.out h h0 hj
        generalize okK l[k] = B1 at cr HB1 HB2 HB3
        generalize l[k].iface = ra at a0 cr HB3
        clear HG
        generalize l[k].peer = rb at a1 cr
        go_upto_region 6 with fail
        obtain ⟨X, hX⟩ : ∃ X, X = wr.alloc (.cells #[.int .i64 ra, .int .i64 rb] 101) := ⟨_, rfl⟩
        have hbX : Below wr.heap.size wr X := by rw [hX]; exact below_new (Below.refl _ _) _
        have rx : RowAt X wr.heap.size [.int .i64 ra, .int .i64 rb] 101 := by rw [hX]; exact RowAt.new _ _ _
        rw [← hX]
        have hBX := below2 hB hbX
        have hhX := hh.keep hbX
        clear hX
        obtain ⟨gs, hgs⟩ : ∃ g, g = wr.heap.size := ⟨_, rfl⟩
        rw [← hgs] at rx ⊢
        clear hgs a0 a1 hg1
        have m0 : ∀ p : Bl X, p.W.cell? ⟨gs, 0, none⟩ = some (.int .i64 ra) := fun p => (rx.below p.h).cell 0
        have m1 : ∀ p : Bl X, p.W.cell? ⟨gs, 1, none⟩ = some (.int .i64 rb) := fun p => (rx.below p.h).cell 1
        haveI := bl_ne X
        cases B1
        · have HV : Hid (R = 2) := HB1.out rfl
          clear HB1 HB2 HB3 HD hh hhX
          refine wp_region_bl (by kernel_rfl) (by kernel_rfl) ?_
          repeat (go_big_quiet_step (first | (go_at_call 77; with_reducible exact bl_call (cr _))))
          refine wpQuiet_nil ?_
          intro wq hw'
          obtain ⟨⟨wz, hq⟩, hw2⟩ := hw'
          subst hw2
          have hW := below2 hBX hq
          go_wp2_with fail
          go_ret
          exact ⟨by rw [HV.out]; rfl, hW⟩
        · by_cases hk0 : k = 0
          · have HS1 : Hid (rise none l = rise (prevR l 1) (l.drop 1)) := HB2.out rfl hk0
            clear HB1 HB2 HB3 hh hhX
            have hz1 : decide ((0 : Int) < (k : Int)) = false := decide_eq_false (by omega)
            have hz2 : decide (0 < k) = false := decide_eq_false (by omega)
            have HK : Hid (k = 0) := hk0
            clear hk0
            refine wp_region_bl (by kernel_rfl) (by kernel_rfl) ?_
            repeat (go_big_quiet_step (first | (go_at_call 77; with_reducible exact bl_call (cr _))))
            refine wpQuiet_nil ?_
            intro wq hw'
            obtain ⟨⟨wz, hq⟩, hw2⟩ := hw'
            subst hw2
            have hW := below2 hBX hq
            go_wp2_with fail
            go_roundw
            case rel => exact ⟨k + 1, by omega, by go_num, hW, by rw [HK.out]; exact HS1⟩
            case measure => simp [intOf]; omega
          · obtain ⟨j, hj⟩ : ∃ j, k = j + 1 := ⟨k - 1, by omega⟩
            have hj2 : j < l.length := by omega
            obtain ⟨g2, i2, e12, hg2, b0, _⟩ := HasLks.cell hhX j hj2
            injection e12 with e12
            injection e12 with e1 e2
            subst e1 e2
            obtain ⟨HN1, HN2⟩ := HB3.out rfl j hj2 hj
            have HN1 : Hid (decide (ra ≤ l[j].iface) = false → rise none l = rise (prevR l (k + 1)) (l.drop (k + 1))) := HN1
            have HN2 : Hid (decide (ra ≤ l[j].iface) = true → R = 2) := HN2
            have u0 : ∀ p : Bl X, p.W.cell? ⟨g1, i1 + j * 2, none⟩ = some (.int .i64 l[j].iface) := fun p => (p.h.cell (p := ⟨g1, i1 + j * 2, none⟩) hg2).trans b0
            clear HB1 HB2 HB3 hh hhX b0 hg2
            generalize l[j].iface = pr at u0 HN1 HN2
            have e1 : (k : Int) - 1 = (j : Int) := by omega
            have e2 : IntKind.i64.wrap (j : Int) = (j : Int) := by rw [IntKind.wrap_i64]; omega
            have hkp : decide ((0 : Int) < (k : Int)) = true := decide_eq_true (by omega)
            have hkp' : decide (0 < k) = true := decide_eq_true (by omega)
            have hjn : (j : Int) < (n : Int) := by omega
            clear hj hk0
            cases B2 : decide (ra ≤ pr)
            · have HS1 : Hid (rise none l = rise (prevR l (k + 1)) (l.drop (k + 1))) := HN1.out B2
              clear HN1 HN2
              refine wp_region_bl (by kernel_rfl) (by kernel_rfl) ?_
              repeat (go_big_quiet_step (first | (go_at_call 77; with_reducible exact bl_call (cr _))))
              refine wpQuiet_nil ?_
              intro wq hw'
              obtain ⟨⟨wz, hq⟩, hw2⟩ := hw'
              subst hw2
              have hW := below2 hBX hq
              go_wp2_with fail
              go_roundw
              case rel => exact ⟨k + 1, by omega, by go_num, hW, HS1⟩
              case measure => simp [intOf]; omega
            · have HV : Hid (R = 2) := HN2.out B2
              clear HN1 HN2 HD
              refine wp_region_bl (by kernel_rfl) (by kernel_rfl) ?_
              repeat (go_big_quiet_step (first | (go_at_call 77; with_reducible exact bl_call (cr _))))
              refine wpQuiet_nil ?_
              intro wq hw'
              obtain ⟨⟨wz, hq⟩, hw2⟩ := hw'
              subst hw2
              have hW := below2 hBX hq
              go_wp2_with fail
              go_ret
              exact ⟨by rw [HV.out]; rfl, hW⟩
      · obtain rfl : k = n := by omega
        have HV : Hid (R = 0) := by
          show _ = _
          rw [HD.out, HG.out, List.drop_of_length_le (by rw [← HN.out]; exact Nat.le_refl _)]
          unfold prevR
          split <;> rfl
        clear hh HG HD
        go_wp2
        go_ret
        exact ⟨by rw [HV.out]; rfl, hB⟩
end Go.Proofs.YtkjhnefbcnnjlaaGreat.Lk
namespace Go.Proofs.YtkjhnefbcnnjlaaGreat.Lk
open Go.RowKit
open Go.Proofs.YtkjhnefbcnnjlaaGreat.Addr (RowAt below2 below_new RowAt.lt RowAt.cell RowAt.new)
theorem find_idx (l : List Lk) (i : Int) : (findL l i = none ∧ idxL (fun x : Lk => decide (x.iface = i)) l = -1) ∨ ∃ (k : Nat) (h : k < l.length), findL l i = some l[k] ∧ idxL (fun x : Lk => decide (x.iface = i)) l = (k : Int) := by
  induction l with
  | nil => exact .inl ⟨rfl, rfl⟩
  | cons s l ih =>
    by_cases hs : s.iface = i
    · right
      refine ⟨0, by simp, ?_, ?_⟩
      · unfold findL; simp [hs]
      · unfold idxL; simp [List.findIdx?_cons, hs]
    · rcases ih with ⟨h1, h2⟩ | ⟨k, hk, h1, h2⟩
      · left
        refine ⟨by unfold findL at h1 ⊢; rw [List.find?_cons_of_neg (by simpa using hs)]; exact h1, ?_⟩
        unfold idxL at h2 ⊢
        rw [List.findIdx?_cons]
        simp only [hs, decide_false, Bool.false_eq_true, if_false]
        cases hf : l.findIdx? (fun x : Lk => decide (x.iface = i)) with
        | none => rfl
        | some k => rw [hf] at h2; simp only at h2; omega
      · right
        refine ⟨k + 1, by simpa using hk, by unfold findL at h1 ⊢; rw [List.find?_cons_of_neg (by simpa using hs)]; exact h1, ?_⟩
        unfold idxL at h2 ⊢
        rw [List.findIdx?_cons]
        simp only [hs, decide_false, Bool.false_eq_true, if_false]
        cases hf : l.findIdx? (fun x : Lk => decide (x.iface = i)) with
        | none => rw [hf] at h2; simp only at h2; omega
        | some j => rw [hf] at h2; simp only [Option.map_some] at h2 ⊢; omega
set_option maxHeartbeats 4000000 in
set_option maxRecDepth 20000 in
theorem peer_any (l : List Lk) (v : Value) (i : Int) (w : World) (hl : HasLks w v l) :
    Calls Tryz.prog 131 #[v, .int .i64 i] w fun e w' => e = .returned (.tuple #[.int .i64 (peerL l i).1, .int .i64 (peerL l i).2]) ∧ Below w.heap.size w w' := by
  obtain ⟨o, c, rfl, hc1, hc2⟩ := HasRow.slice hl
  have cc := fun W (hb : Below w.heap.size w W) => check_any l _ W (hl.keep hb)
  have ci := fun W (hb : Below w.heap.size w W) (g : Nat) (hg : W.cell? ⟨g, 0, none⟩ = some (.int .i64 i)) (hlt : g < W.heap.size) => idxOf_any l _ i g W (hl.keep hb) hg hlt
  have co := fun W => of_any i W
  have HR : Hid (∀ wr : World, Below w.heap.size w wr → HasLks wr (.slice o l.length c) l) := fun wr hb => hl.keep hb
  obtain ⟨R, hR⟩ : ∃ R, R = peerL l i := ⟨_, rfl⟩
  have HP : Hid (R = if okL l then (match findL l i with | some s => ((s.peer, 0) : Int × Int) | none => (0, 3)) else (0, 2)) := hR
  rw [← hR]
  have hck : checkL l = if okL l then 0 else 2 := rfl
  rw [hck] at cc
  have hf := find_idx l i
  clear hR hck hl
  cases hok : okL l
  · rw [hok] at cc HP
    have HV : Hid (R = (0, 2)) := HP.out
    simp only [Bool.false_eq_true, if_false] at cc
    clear HP hf
    go_enter Tryz.func131, Tryz.ntmps131
    go_wp2_with fail
    go_at_call 48; refine (cc _ (Below.refl _ _)).mono ?_; rintro e w1 ⟨rfl, hb1⟩
    go_wp2_with fail
    go_ret2
    exact ⟨by rw [HV.out]; rfl, hb1⟩
  · rw [hok] at cc HP
    simp only [if_true] at cc
    rcases hf with ⟨h1, h2⟩ | ⟨k, hk, h1, h2⟩
    · have HV : Hid (R = (0, 3)) := by have := HP.out; rw [h1] at this; exact this
      rw [h2] at ci
      clear HP h1 h2
      go_enter Tryz.func131, Tryz.ntmps131
      go_wp2_with fail
      go_at_call 48; refine (cc _ (Below.refl _ _)).mono ?_; rintro e w1 ⟨rfl, hb1⟩
      go_wp2_with fail
      go_at_call 119; refine (co _).mono ?_; rintro e w2 ⟨rfl, hw2⟩
      have hb2 : Below w.heap.size w w2 := by rw [hw2]; exact below_new hb1 _
      have r2 : RowAt w2 w1.heap.size [.int .i64 i] 3 := by rw [hw2]; exact RowAt.new _ _ _
      clear hw2
      generalize w1.heap.size = g at r2 ⊢
      go_wp2_with fail
      go_at_call 120; refine (ci _ hb2 g (r2.cell 0) r2.lt).mono ?_; rintro e w3 ⟨rfl, hb3⟩
      go_wp2_with fail
      go_ret2
      exact ⟨by rw [HV.out]; rfl, below2 hb2 hb3⟩
    · have HV : Hid (R = (l[k].peer, 0)) := by have := HP.out; rw [h1] at this; exact this
      rw [h2] at ci
      have hki : (k : Int) < (l.length : Int) := by omega
      have hkn : decide ((k : Int) < 0) = false := decide_eq_false (by omega)
      clear HP h1 h2
      go_enter Tryz.func131, Tryz.ntmps131
      go_wp2_with fail
      go_at_call 48; refine (cc _ (Below.refl _ _)).mono ?_; rintro e w1 ⟨rfl, hb1⟩
      go_wp2_with fail
      go_at_call 119; refine (co _).mono ?_; rintro e w2 ⟨rfl, hw2⟩
      have hb2 : Below w.heap.size w w2 := by rw [hw2]; exact below_new hb1 _
      have r2 : RowAt w2 w1.heap.size [.int .i64 i] 3 := by rw [hw2]; exact RowAt.new _ _ _
      clear hw2
      generalize w1.heap.size = g at r2 ⊢
      go_wp2_with fail
      go_at_call 120; refine (ci _ hb2 g (r2.cell 0) r2.lt).mono ?_; rintro e w3 ⟨rfl, hb3⟩
      have hb4 := below2 hb2 hb3
      obtain ⟨g1, i1, rfl, hg1, a0, a1⟩ := HasLks.cell (HR.out _ hb4) k hk
      clear HR ci cc co
      generalize l[k].peer = pp at *
      go_wp2_with fail
      go_ret2
      exact ⟨by rw [HV.out]; rfl, hb4⟩
end Go.Proofs.YtkjhnefbcnnjlaaGreat.Lk
namespace Go.Proofs.YtkjhnefbcnnjlaaGreat.Lk
open Go.RowKit
open Go.Proofs.YtkjhnefbcnnjlaaGreat.Addr (RowAt below2 below_new RowAt.cell RowAt.below RowAt.new RowAt.alloc Bl bl_ne wp_region_bl bl_call)
set_option maxHeartbeats 4000000 in
set_option maxRecDepth 20000 in
theorem rcheck_any (l : List Lk) (v : Value) (w : World) (h : HasLks w v l) :
    Calls Tryz.prog 51 #[v] w fun e w' => e = .returned (.int .i64 (checkL l)) ∧ Below w.heap.size w w' := by
  obtain ⟨o, c, rfl, hc1, hc2⟩ := HasRow.slice h
  have HR : Hid (∀ wr : World, Below w.heap.size w wr → HasLks wr (.slice o l.length c) l) := fun wr hb => h.keep hb
  obtain ⟨n, hn⟩ : ∃ n, n = l.length := ⟨_, rfl⟩
  have HN : Hid (n = l.length) := hn
  rw [← hn] at HR hc1 ⊢
  have HC : Hid (checkL l = if (decide (n ≤ 32) && rise none l) then 0 else 2) := by show _ = _; unfold checkL okL; rw [← hn]
  generalize checkL l = R at HC ⊢
  clear h hn
  by_cases h32 : 32 < n
  · have HV : Hid (R = 2) := by show _ = _; rw [HC.out, decide_eq_false (by omega)]; rfl
    have q1 : decide ((32 : Int) < (n : Int)) = true := decide_eq_true (by omega)
    have q2 : decide (32 < n) = true := decide_eq_true h32
    clear HC HR
    go_enter Tryz.func51, Tryz.ntmps51
    go_wp2_with fail
    go_ret
    exact ⟨by rw [HV.out]; rfl, Below.refl _ _⟩
  · have HD : Hid (R = if rise none l then 0 else 2) := by show _ = _; rw [HC.out, decide_eq_true (by omega)]; rfl
    have hni : (n : Int) ≤ 32 := by omega
    have q1 : decide ((32 : Int) < (n : Int)) = false := decide_eq_false (by omega)
    have q2 : decide (32 < n) = false := decide_eq_false h32
    clear HC h32
    go_enter Tryz.func51, Tryz.ntmps51
    go_wp2_with fail
    go_loopw [10] (fun i wr => ∃ k : Nat, k ≤ n ∧ i = .int .i64 k ∧ Below w.heap.size w wr ∧ Hid (rise none l = rise (prevR l k) (l.drop k))) (fun i _ => n - (intOf i).toNat)
    case atStart => exact ⟨0, by omega, rfl, Below.refl _ _, (rfl : rise none l = _)⟩
    case round =>
      obtain ⟨k, hk, rfl, hB, HG⟩ := hrel
      have hh := HR.out _ hB
      by_cases hlt : k < n
      · have hkz : k < l.length := by rw [← HN.out]; exact hlt
        obtain ⟨g1, i1, rfl, hg1, a0, a1⟩ := HasLks.cell hh k hkz
        have cr : ∀ W : World, Calls Tryz.prog 80 #[.agg #[.int .i64 l[k].iface, .int .i64 l[k].peer]] W fun e w' => e = .returned (.bool (okK l[k])) ∧ Below W.heap.size W w' := fun W => one_any l[k] W
        have hki : (k : Int) < (n : Int) := by omega
        have HB1 : Hid (okK l[k] = false → R = 2) := fun h => round_bad hkz HD.out HG.out h
        have HB2 : Hid (okK l[k] = true → k = 0 → rise none l = rise (prevR l 1) (l.drop 1)) := fun h h0 => round_first hkz HG.out h h0
        have HB3 : Hid (okK l[k] = true → ∀ (j : Nat) (hj : j < l.length), k = j + 1 → (decide (l[k].iface ≤ l[j].iface) = false → rise none l = rise (prevR l (k + 1)) (l.drop (k + 1))) ∧ (decide (l[k].iface ≤ l[j].iface) = true → R = 2)) := fun h j hj h0 => round_next hkz HD.out HG.out h h0 hj
        generalize okK l[k] = B1 at cr HB1 HB2 HB3
        generalize l[k].iface = ra at a0 cr HB3
        clear HG
        generalize l[k].peer = rb at a1 cr
        go_upto_region 6 with fail
        obtain ⟨X, hX⟩ : ∃ X, X = wr.alloc (.cells #[.int .i64 ra, .int .i64 rb] 101) := ⟨_, rfl⟩
        have hbX : Below wr.heap.size wr X := by rw [hX]; exact below_new (Below.refl _ _) _
        have rx : RowAt X wr.heap.size [.int .i64 ra, .int .i64 rb] 101 := by rw [hX]; exact RowAt.new _ _ _
        rw [← hX]
        have hBX := below2 hB hbX
        have hhX := hh.keep hbX
        clear hX
        obtain ⟨gs, hgs⟩ : ∃ g, g = wr.heap.size := ⟨_, rfl⟩
        rw [← hgs] at rx ⊢
        clear hgs a0 a1 hg1
        have m0 : ∀ p : Bl X, p.W.cell? ⟨gs, 0, none⟩ = some (.int .i64 ra) := fun p => (rx.below p.h).cell 0
        have m1 : ∀ p : Bl X, p.W.cell? ⟨gs, 1, none⟩ = some (.int .i64 rb) := fun p => (rx.below p.h).cell 1
        haveI := bl_ne X
        cases B1
        · have HV : Hid (R = 2) := HB1.out rfl
          clear HB1 HB2 HB3 HD hh hhX
          refine wp_region_bl (by kernel_rfl) (by kernel_rfl) ?_
          repeat (go_big_quiet_step (first | (go_at_call 80; with_reducible exact bl_call (cr _))))
          refine wpQuiet_nil ?_
          intro wq hw'
          obtain ⟨⟨wz, hq⟩, hw2⟩ := hw'
          subst hw2
          have hW := below2 hBX hq
          go_wp2_with fail
          go_ret
          exact ⟨by rw [HV.out]; rfl, hW⟩
        · by_cases hk0 : k = 0
          · have HS1 : Hid (rise none l = rise (prevR l 1) (l.drop 1)) := HB2.out rfl hk0
            clear HB1 HB2 HB3 hh hhX
            have hz1 : decide ((0 : Int) < (k : Int)) = false := decide_eq_false (by omega)
            have hz2 : decide (0 < k) = false := decide_eq_false (by omega)
            have HK : Hid (k = 0) := hk0
            clear hk0
            refine wp_region_bl (by kernel_rfl) (by kernel_rfl) ?_
            repeat (go_big_quiet_step (first | (go_at_call 80; with_reducible exact bl_call (cr _))))
            refine wpQuiet_nil ?_
            intro wq hw'
            obtain ⟨⟨wz, hq⟩, hw2⟩ := hw'
            subst hw2
            have hW := below2 hBX hq
            go_wp2_with fail
            go_roundw
            case rel => exact ⟨k + 1, by omega, by go_num, hW, by rw [HK.out]; exact HS1⟩
            case measure => simp [intOf]; omega
          · obtain ⟨j, hj⟩ : ∃ j, k = j + 1 := ⟨k - 1, by omega⟩
            have hj2 : j < l.length := by omega
            obtain ⟨g2, i2, e12, hg2, b0, _⟩ := HasLks.cell hhX j hj2
            injection e12 with e12
            injection e12 with e1 e2
            subst e1 e2
            obtain ⟨HN1, HN2⟩ := HB3.out rfl j hj2 hj
            have HN1 : Hid (decide (ra ≤ l[j].iface) = false → rise none l = rise (prevR l (k + 1)) (l.drop (k + 1))) := HN1
            have HN2 : Hid (decide (ra ≤ l[j].iface) = true → R = 2) := HN2
            have u0 : ∀ p : Bl X, p.W.cell? ⟨g1, i1 + j * 2, none⟩ = some (.int .i64 l[j].iface) := fun p => (p.h.cell (p := ⟨g1, i1 + j * 2, none⟩) hg2).trans b0
            clear HB1 HB2 HB3 hh hhX b0 hg2
            generalize l[j].iface = pr at u0 HN1 HN2
            have e1 : (k : Int) - 1 = (j : Int) := by omega
            have e2 : IntKind.i64.wrap (j : Int) = (j : Int) := by rw [IntKind.wrap_i64]; omega
            have hkp : decide ((0 : Int) < (k : Int)) = true := decide_eq_true (by omega)
            have hkp' : decide (0 < k) = true := decide_eq_true (by omega)
            have hjn : (j : Int) < (n : Int) := by omega
            clear hj hk0
            cases B2 : decide (ra ≤ pr)
            · have HS1 : Hid (rise none l = rise (prevR l (k + 1)) (l.drop (k + 1))) := HN1.out B2
              clear HN1 HN2
              refine wp_region_bl (by kernel_rfl) (by kernel_rfl) ?_
              repeat (go_big_quiet_step (first | (go_at_call 80; with_reducible exact bl_call (cr _))))
              refine wpQuiet_nil ?_
              intro wq hw'
              obtain ⟨⟨wz, hq⟩, hw2⟩ := hw'
              subst hw2
              have hW := below2 hBX hq
              go_wp2_with fail
              go_roundw
              case rel => exact ⟨k + 1, by omega, by go_num, hW, HS1⟩
              case measure => simp [intOf]; omega
            · have HV : Hid (R = 2) := HN2.out B2
              clear HN1 HN2 HD
              refine wp_region_bl (by kernel_rfl) (by kernel_rfl) ?_
              repeat (go_big_quiet_step (first | (go_at_call 80; with_reducible exact bl_call (cr _))))
              refine wpQuiet_nil ?_
              intro wq hw'
              obtain ⟨⟨wz, hq⟩, hw2⟩ := hw'
              subst hw2
              have hW := below2 hBX hq
              go_wp2_with fail
              go_ret
              exact ⟨by rw [HV.out]; rfl, hW⟩
      · obtain rfl : k = n := by omega
        have HV : Hid (R = 0) := by
          show _ = _
          rw [HD.out, HG.out, List.drop_of_length_le (by rw [← HN.out]; exact Nat.le_refl _)]
          unfold prevR
          split <;> rfl
        clear hh HG HD
        go_wp2
        go_ret
        exact ⟨by rw [HV.out]; rfl, hB⟩
end Go.Proofs.YtkjhnefbcnnjlaaGreat.Lk
namespace Go.Proofs.YtkjhnefbcnnjlaaGreat.Lk
open Go.RowKit
open Go.Proofs.YtkjhnefbcnnjlaaGreat.Addr (RowAt below2 below_new RowAt.lt RowAt.cell RowAt.below RowAt.new RowAt.alloc cells2)
attribute [-go_sem] Builtin.append_
theorem info_lk : (Tryz.prog.info? 101).map (fun i => (i.zero, i.size, i.bytes)) = some (some (.agg #[.int .i64 0, .int .i64 0]), 2, 16) := by kernel_rfl
theorem info_parts {e sz by' : Nat} {z : Value} (h : (Tryz.prog.info? e).map (fun i => (i.zero, i.size, i.bytes)) = some (some z, sz, by')) : ∃ i, Tryz.prog.info? e = some i ∧ i.zero = some z ∧ i.size = sz ∧ i.bytes = by' := by
  cases hi : Tryz.prog.info? e with
  | none => rw [hi] at h; cases h
  | some i =>
    rw [hi] at h
    simp only [Option.map_some, Option.some.injEq, Prod.mk.injEq] at h
    exact ⟨i, rfl, h.1, h.2.1, h.2.2⟩
/-- a row put behind an owned one, and where it then lies -/
theorem append_lks {W : World} {n₀ : Nat} {v u : Value} {l m : List Lk} (hown : W.ownsRow n₀ 101 2 v l.length (lkCs l)) (hsrc : HasLks W u m) (hm : 0 < m.length) (hb : l.length + m.length ≤ 1000000) (hn : n₀ ≤ W.heap.size) :
    ∃ g cap w3, (∀ ty, (Builtin.append_ #[49, 49] ty #[v, u]).run Tryz.prog W = .ok (.slice (some ⟨g, 0, none⟩) (l ++ m).length cap) w3) ∧ w3.ownsRow n₀ 101 2 (.slice (some ⟨g, 0, none⟩) (l ++ m).length cap) (l ++ m).length (lkCs (l ++ m)) ∧ W.grownBy w3 v.ownBlock ∧ (v.ownBlock = some g ∨ g = W.heap.size) ∧ g < w3.heap.size := by
  obtain ⟨i0, hi0, hz0, hz1, hz2⟩ := info_parts info_lk
  rcases hsrc.2 with ⟨rfl, h0⟩ | ⟨a, cap, rfl, g1, g2, g3, g4⟩
  · omega
  · have h := fun ty => run_append_lies (P := Tryz.prog) (w := W) 49 ty n₀ 101 i0 (.agg #[.int .i64 0, .int .i64 0]) 2 16 Tryz.underlying49 hi0 hz0 hz1 hz2 rfl (by decide) v l.length (lkCs l) hown a m.length cap (lkCs m) hsrc.1
      (fun j x hj => by rw [g4 j (by rw [← hsrc.1]; exact (List.getElem?_eq_some_iff.1 hj).1)]; exact hj) (one_links m) hm (by unfold maxLen; omega) (by omega) hn W.heap.size rfl
    obtain ⟨g, c2, w3, hrun, k1, k2, k3, k4⟩ := h 0
    rw [← lkCs_app, ← List.length_append] at k1
    rw [← List.length_append] at hrun
    exact ⟨g, c2, w3, fun ty => hrun, k1, k2, k3, k4⟩
def Dist (u v : Value) : Prop := ∀ k, u.ownBlock = some k → v.ownBlock ≠ some k
/-- three rows of one call's own, apart -/
structure Own3 (w W : World) (u v t : Value) (a b c : List Lk) : Prop where
  ou : W.ownsRow w.heap.size 101 2 u a.length (lkCs a)
  ov : W.ownsRow w.heap.size 101 2 v b.length (lkCs b)
  ot : W.ownsRow w.heap.size 101 2 t c.length (lkCs c)
  uv : Dist u v
  vt : Dist v t
  tu : Dist t u
  bl : Below w.heap.size w W
theorem Dist.symm {u v : Value} (h : Dist u v) : Dist v u := fun k hk hc => h k hc hk
theorem Own3.turn {w W : World} {u v t : Value} {a b c : List Lk} (h : Own3 w W u v t a b c) : Own3 w W v t u b c a := ⟨h.ov, h.ot, h.ou, h.vt, h.tu, h.uv, h.bl⟩
theorem own_below {W W' : World} {m e size k : Nat} {v : Value} {xs : List Value} (h : W.ownsRow m e size v k xs) (hb : Below W.heap.size W W') : W'.ownsRow m e size v k xs := by
  refine ⟨h.1, ?_⟩
  rcases h.2 with h0 | ⟨g, cap, cur, e1, hg, hgb, rest⟩
  · exact .inl h0
  · exact .inr ⟨g, cap, cur, e1, hg, by rw [hb.block g (Array.getElem?_eq_some_iff.1 hgb).1]; exact hgb, rest⟩
theorem Own3.below {w W W' : World} {u v t : Value} {a b c : List Lk} (h : Own3 w W u v t a b c) (hb : Below W.heap.size W W') : Own3 w W' u v t a b c :=
  ⟨own_below h.ou hb, own_below h.ov hb, own_below h.ot hb, h.uv, h.vt, h.tu, below2 h.bl hb⟩
theorem lit_lk (W : World) (x : Lk) : HasLks (W.alloc (.cells #[.int .i64 x.iface, .int .i64 x.peer] 101)) (.slice (some ⟨W.heap.size, 0, none⟩) 1 1) [x] := by
  refine ⟨rfl, .inr ⟨⟨W.heap.size, 0, none⟩, 1, rfl, Nat.le_refl _, by decide, fun _ => ⟨rfl, by simp⟩, fun j hj => ?_⟩⟩
  rw [addr_add, Nat.zero_add]
  exact (RowAt.new W (lkC x) 101).cell j
/-- the first row takes others -/
theorem Own3.app {w W : World} {u v t x : Value} {a b c m : List Lk} (h : Own3 w W u v t a b c) (hx : HasLks W x m) (hm : 0 < m.length) (hb : a.length + m.length ≤ 1000000) :
    ∃ g cap w3, (∀ ty, (Builtin.append_ #[49, 49] ty #[u, x]).run Tryz.prog W = .ok (.slice (some ⟨g, 0, none⟩) (a ++ m).length cap) w3) ∧ Own3 w w3 (.slice (some ⟨g, 0, none⟩) (a ++ m).length cap) v t (a ++ m) b c := by
  obtain ⟨g, cap, w3, hrun, ho, hg, hl, hlt⟩ := append_lks h.ou hx hm hb h.bl.size
  have hd : ∀ (y : Value) (d : List Lk), W.ownsRow w.heap.size 101 2 y d.length (lkCs d) → Dist u y → Dist y (.slice (some ⟨g, 0, none⟩) (a ++ m).length cap) ∧ w3.ownsRow w.heap.size 101 2 y d.length (lkCs d) := fun y d oy hy => by
    refine ⟨fun k hk hc => ?_, oy.kept hg ?_⟩
    · have hgk : g = k := by simpa [Value.ownBlock] using hc
      subst hgk
      rcases hl with hl | hl
      · exact hy g hl hk
      · have := (oy.lt g hk).2; omega
    · cases hyb : y.ownBlock with
      | none => exact .inl rfl
      | some k => exact .inr (fun hc => hy k hc.symm hyb)
  obtain ⟨d1, o1⟩ := hd v b h.ov h.uv
  obtain ⟨d2, o2⟩ := hd t c h.ot h.tu.symm
  refine ⟨g, cap, w3, hrun, ho, o1, o2, d1.symm, h.vt, d2, ?_⟩
  exact h.bl.grown hg h.bl.size (fun k e => (h.ou.lt k e).1)
def ofL (l : List Lk) (i : Int) : List Lk := l.filter (fun s => decide (s.iface = i))
theorem filter_snoc (p : Lk → Bool) (l : List Lk) (k : Nat) (h : k < l.length) : (l.take (k + 1)).filter p = (l.take k).filter p ++ (if p l[k] then [l[k]] else []) := by
  rw [List.take_succ_eq_append_getElem h, List.filter_append]
  congr 1
  cases hp : p l[k] <;> simp [hp]
theorem filter_le (p : Lk → Bool) (l : List Lk) (k : Nat) : ((l.take k).filter p).length ≤ l.length := Nat.le_trans (List.length_filter_le _ _) (by rw [List.length_take]; omega)
set_option maxHeartbeats 8000000 in
set_option maxRecDepth 20000 in
theorem parts_any (l : List Lk) (v : Value) (i : Int) (w : World) (hl : HasLks w v l) (hlen : l.length ≤ 1000) :
    Calls Tryz.prog 97 #[v, .int .i64 i] w fun e w' => ∃ u v t, e = .returned (.tuple #[u, v, t]) ∧ Own3 w w' u v t (aheadL l i) (ofL l i) (behindL l i) := by
  obtain ⟨o, c, rfl, hc1, hc2⟩ := HasRow.slice hl
  have HR : Hid (∀ wr : World, Below w.heap.size w wr → HasLks wr (.slice o l.length c) l) := fun wr hb => hl.keep hb
  obtain ⟨n, hn⟩ : ∃ n, n = l.length := ⟨_, rfl⟩
  have HN : Hid (n = l.length) := hn
  rw [← hn] at HR hc1 hlen ⊢
  have hni : (n : Int) ≤ 1000 := by omega
  clear hl hn
  have H0 : Hid (Own3 w w (.slice none 0 0) (.slice none 0 0) (.slice none 0 0) (aheadL (l.take 0) i) (ofL (l.take 0) i) (behindL (l.take 0) i)) := ⟨World.ownsRow_nil _ _ _ _, World.ownsRow_nil _ _ _ _, World.ownsRow_nil _ _ _ _, (fun k h => (by cases h)), (fun k h => (by cases h)), (fun k h => (by cases h)), Below.refl _ _⟩
  go_enter Tryz.func97, Tryz.ntmps97
  go_wp2_with fail
  go_loopw [7, 8, 9, 14] (fun u v t q wr => ∃ k : Nat, k ≤ n ∧ q = .int .i64 k ∧ Hid (Own3 w wr u v t (aheadL (l.take k) i) (ofL (l.take k) i) (behindL (l.take k) i))) (fun _ _ _ q _ => n - (intOf q).toNat)
  case atStart => exact ⟨0, by omega, rfl, H0⟩
  case round =>
    obtain ⟨k, hk, rfl, HI⟩ := hrel
    have hI := HI.out
    by_cases hlt : k < n
    · have hkz : k < l.length := by rw [← HN.out]; exact hlt
      obtain ⟨g1, i1, rfl, hg1, a0, a1⟩ := HasLks.cell (HR.out _ hI.bl) k hkz
      have HA : Hid (aheadL (l.take (k + 1)) i = aheadL (l.take k) i ++ (if decide (l[k].iface < i) then [l[k]] else [])) := filter_snoc _ l k hkz
      have HB : Hid (ofL (l.take (k + 1)) i = ofL (l.take k) i ++ (if decide (l[k].iface = i) then [l[k]] else [])) := filter_snoc _ l k hkz
      have HC : Hid (behindL (l.take (k + 1)) i = behindL (l.take k) i ++ (if decide (i < l[k].iface) then [l[k]] else [])) := filter_snoc _ l k hkz
      have la := filter_le (fun s => decide (s.iface < i)) l k
      have lb := filter_le (fun s => decide (s.iface = i)) l k
      have lc := filter_le (fun s => decide (i < s.iface)) l k
      have hnl := HN.out
      have la2 : (aheadL (l.take k) i).length ≤ 1000 := by show ((l.take k).filter _).length ≤ _; omega
      have lb2 : (ofL (l.take k) i).length ≤ 1000 := by show ((l.take k).filter _).length ≤ _; omega
      have lc2 : (behindL (l.take k) i).length ≤ 1000 := by show ((l.take k).filter _).length ≤ _; omega
      have hki : (k : Int) < (n : Int) := by omega
      obtain ⟨x, hx⟩ : ∃ x : Lk, x = l[k] := ⟨_, rfl⟩
      rw [← hx] at HA HB HC a0 a1
      clear hx la lb lc hnl HI hg1
      obtain ⟨ra, rb⟩ := x
      simp only at HA HB HC a0 a1
      go_upto_region 6 with fail
      obtain ⟨X, hX⟩ : ∃ X, X = wr.alloc (.cells #[.int .i64 ra, .int .i64 rb] 101) := ⟨_, rfl⟩
      have hbX : Below wr.heap.size wr X := by rw [hX]; exact below_new (Below.refl _ _) _
      have r0 : RowAt X wr.heap.size [.int .i64 ra, .int .i64 rb] 101 := by rw [hX]; exact RowAt.new _ _ _
      rw [← hX]
      replace hI := hI.below hbX
      clear hX hbX a0 a1
      generalize wr.heap.size = gs at r0 ⊢
      obtain ⟨y0, y1, yf⟩ := cells2 r0
      have hx := lit_lk X ⟨ra, rb⟩
      simp only at hx
      by_cases h1 : ra < i
      · have h2 : ¬ ra = i := by omega
        have h3 : ¬ i < ra := by omega
        rw [decide_eq_true h1] at HA
        rw [decide_eq_false h2] at HB
        rw [decide_eq_false h3] at HC
        obtain ⟨g, cap, w3, hrun, hO⟩ := (hI.below (below_new (Below.refl _ X) (.cells #[.int .i64 ra, .int .i64 rb] 101))).app hx (by simp) (by simp only [List.length_cons, List.length_nil]; omega)
        have HO : Hid (Own3 w w3 (.slice (some ⟨g, 0, none⟩) (aheadL (l.take k) i ++ [(⟨ra, rb⟩ : Lk)]).length cap) u8 u9 (aheadL (l.take (k + 1)) i) (ofL (l.take (k + 1)) i) (behindL (l.take (k + 1)) i)) := by
          show Own3 _ _ _ _ _ _ _ _
          rw [HA.out, HB.out, HC.out]
          simpa using hO
        clear hO hI hx HA HB HC
        go_wp2_with fail
        go_roundw
        case rel => exact ⟨k + 1, by omega, by go_num, by first | exact HO | simpa using HO⟩
        case measure => simp [intOf]; omega
      · by_cases h2 : ra = i
        · have h3 : ¬ i < ra := by omega
          rw [decide_eq_false h1] at HA
          rw [decide_eq_true h2] at HB
          rw [decide_eq_false h3] at HC
          obtain ⟨g, cap, w3, hrun, hO⟩ := (hI.turn.below (below_new (Below.refl _ X) (.cells #[.int .i64 ra, .int .i64 rb] 101))).app hx (by simp) (by simp only [List.length_cons, List.length_nil]; omega)
          have HO : Hid (Own3 w w3 u7 (.slice (some ⟨g, 0, none⟩) (ofL (l.take k) i ++ [(⟨ra, rb⟩ : Lk)]).length cap) u9 (aheadL (l.take (k + 1)) i) (ofL (l.take (k + 1)) i) (behindL (l.take (k + 1)) i)) := by
            show Own3 _ _ _ _ _ _ _ _
            rw [HA.out, HB.out, HC.out]
            simpa using hO.turn.turn
          have h2d : decide (ra < i) = false := decide_eq_false h1
          have h2e : (ra == i) = true := by simpa using h2
          clear hO hI hx HA HB HC h2 h1 h3
          go_wp2_with fail
          go_roundw
          case rel => exact ⟨k + 1, by omega, by go_num, by first | exact HO | simpa using HO⟩
          case measure => simp [intOf]; omega
        · have h3 : i < ra := by omega
          rw [decide_eq_false h1] at HA
          rw [decide_eq_false h2] at HB
          rw [decide_eq_true h3] at HC
          obtain ⟨g, cap, w3, hrun, hO⟩ := (hI.turn.turn.below (below_new (Below.refl _ X) (.cells #[.int .i64 ra, .int .i64 rb] 101))).app hx (by simp) (by simp only [List.length_cons, List.length_nil]; omega)
          have HO : Hid (Own3 w w3 u7 u8 (.slice (some ⟨g, 0, none⟩) (behindL (l.take k) i ++ [(⟨ra, rb⟩ : Lk)]).length cap) (aheadL (l.take (k + 1)) i) (ofL (l.take (k + 1)) i) (behindL (l.take (k + 1)) i)) := by
            show Own3 _ _ _ _ _ _ _ _
            rw [HA.out, HB.out, HC.out]
            simpa using hO.turn
          clear hO hI hx HA HB HC
          go_wp2_with fail
          go_roundw
          case rel => exact ⟨k + 1, by omega, by go_num, by first | exact HO | simpa using HO⟩
          case measure => simp [intOf]; omega
    · have hkn : decide ((k : Int) < (n : Int)) = false := decide_eq_false (by omega)
      have hte : l.take k = l := by have := HN.out; exact List.take_of_length_le (by omega)
      have HF : Hid (Own3 w wr u7 u8 u9 (aheadL l i) (ofL l i) (behindL l i)) := by rw [hte] at hI; exact hI
      clear hte hI HI
      go_wp2_with fail
      go_ret3
      exact ⟨u7, u8, u9, rfl, HF.out⟩
end Go.Proofs.YtkjhnefbcnnjlaaGreat.Lk
namespace Go.Proofs.YtkjhnefbcnnjlaaGreat.Lk
open Go.RowKit Go.Shelf
open Go.Proofs.YtkjhnefbcnnjlaaGreat.Addr (RowAt.alloc)
attribute [-go_sem] Builtin.append_
theorem append_row {e tS sz bytes : Nat} {z : Value} (hi : (Tryz.prog.info? e).map (fun i => (i.zero, i.size, i.bytes)) = some (some z, sz, bytes)) (hu : Tryz.prog.underlying tS = some (.slice e)) (hz : z.cells.size = sz) (hsz : 0 < sz)
    {W : World} {n₀ k m : Nat} {v u : Value} {xs news : List Value} (hown : W.ownsRow n₀ e sz v k xs) (hsrc : HasRow W u sz m news) (h1 : ∀ x ∈ news, x.oneCell' = true) (hb : (k + m) * bytes ≤ 140737488355328) (hkm : k + m ≤ 9223372036854775807) (hn : n₀ ≤ W.heap.size) :
    ∃ v' w3, (∀ ty, (Builtin.append_ #[tS, tS] ty #[v, u]).run Tryz.prog W = .ok v' w3) ∧ w3.ownsRow n₀ e sz v' (k + m) (xs ++ news) ∧ W.grownBy w3 v.ownBlock := by
  obtain ⟨i0, hi0, hz0, hz1, hz2⟩ := info_parts hi
  rcases hsrc.2 with ⟨rfl, rfl⟩ | ⟨a, cap, rfl, g1, g2, g3, g4⟩
  · obtain rfl : news = [] := List.eq_nil_of_length_eq_zero (by rw [hsrc.1]; simp)
    have := fun ty => run_append_owned_none (P := Tryz.prog) W n₀ tS ty e i0 sz hu hi0 v k xs hown
    exact ⟨v, W, this, by simpa using hown, World.grownBy.refl _ _⟩
  · have h := run_append_own (P := Tryz.prog) W n₀ tS 0 e i0 z sz bytes hu hi0 hz0 hz1 hz2 hz hsz v k xs hown a m cap news hsrc.1
      (fun j x hj => by rw [g4 j (by rw [← hsrc.1]; exact (List.getElem?_eq_some_iff.1 hj).1)]; exact hj) h1 (by unfold maxLen; omega) hb hn
    obtain ⟨v', w3, hrun, k1, k2, _⟩ := h
    exact ⟨v', w3, fun ty => hrun, k1, k2⟩
theorem empty_own (w : World) (e sz : Nat) : (w.alloc (.cells #[] e)).ownsRow w.heap.size e sz (.slice (some ⟨w.heap.size, 0, none⟩) 0 0) 0 [] :=
  World.ownsRow_made (base := w.heap.size) (e := e) (size := sz) w #[] 0 (Nat.le_refl _) (by decide) (by simp)
theorem eql_slice_nil {t e : Nat} (h : Tryz.prog.underlying t = some (.slice e)) (a : Option Addr) (l c : Nat) (w : World) : (binOp .eql t (.slice a l c) (.slice none 0 0)).run Tryz.prog w = .ok (.bool a.isNone) w := by
  simp only [binOp]
  simp [run_equal_slice_nil w t e a l c h]
set_option maxRecDepth 20000 in
set_option maxHeartbeats 400000 in
theorem clone_any (l : List Lk) (v : Value) (w : World) (h : HasLks w v l) (hz : l.length ≤ 1000000000) :
    Calls Tryz.prog 53 #[v] w fun e w' => ∃ u, e = .returned u ∧ w'.ownsRow w.heap.size 101 2 u l.length (lkCs l) ∧ Below w.heap.size w w' := by
  have hk := h.keep ((Below.refl _ w).alloc (Nat.le_refl _) (.cells #[] 101))
  have he := eql_slice_nil Tryz.underlying49
  rcases h.2 with ⟨rfl, h0⟩ | ⟨a, cap, rfl, g1, g2, g3, g4⟩
  · obtain rfl : l = [] := List.eq_nil_of_length_eq_zero h0
    clear h hk h0 hz
    go_enter Tryz.func53, Tryz.ntmps53
    go_wp2
    go_ret
    exact ⟨_, rfl, World.ownsRow_nil _ _ _ _, Below.refl _ _⟩
  · obtain ⟨v', w3, hrun, h1, h2⟩ := append_row info_lk Tryz.underlying49 rfl (by decide) (empty_own w 101 2) hk (one_links l) (by omega) (by omega) (by simp)
    rw [Nat.zero_add, List.nil_append] at h1
    have hB : Below w.heap.size w w3 := ((Below.refl _ w).alloc (Nat.le_refl _) _).grown h2 (by simp) (fun k e => by simp [Value.ownBlock] at e; omega)
    have H1 : Hid (w3.ownsRow w.heap.size 101 2 v' l.length (lkCs l)) := h1
    have hn9 : l.length ≤ 9223372036854775807 := by omega
    clear h hk h1 h2 g3 g4 hz
    generalize l.length = n at *
    go_enter Tryz.func53, Tryz.ntmps53
    go_wp2
    go_ret
    exact ⟨_, rfl, H1.out, hB⟩
end Go.Proofs.YtkjhnefbcnnjlaaGreat.Lk
