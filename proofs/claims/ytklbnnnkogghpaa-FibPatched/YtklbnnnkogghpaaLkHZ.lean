/- Rows of links, and of numbers, that are one. -/
import Derived.Test.YtklbnnnkogghpaaLkBase
import Derived.BigQuiet
import Derived.Deep.AppendLies
import Derived.Shelf.Slices.Clone
import Derived.Laws.Cover3
import Derived.Laws.OwnMore
import Derived.Lib.SliceRun
import Derived.Lib.Overlaps
import Derived.Lib.AppendZerosOnto
import Derived.Lib.SlBuf
import Derived.Shelf.RegionOpen
import Derived.Test.YtklbnnnkogghpaaRows
import Derived.Deep.Matrix
import Derived.Deep.Strs
import Derived.Deep.SlicePairs
import Derived.ProofKit
import Derived.OpenShut
import Derived.SizedLaws
import Derived.Deep.QuietTactic
import Derived.Laws.StructEq
set_option linter.unusedVariables false
namespace Go.Proofs.Ytklbnnnkogghpaa.Lk
open Go.RowKit
open Go.Proofs.Ytklbnnnkogghpaa.Addr (RowAt below2 below_drew below_new bset RowAt.lt RowAt.cell RowAt.frozen RowAt.below RowAt.drew RowAt.new RowAt.alloc cells2 Bl bl_ne wp_region_bl bl_call bl_same)
set_option maxHeartbeats 4000000 in
theorem right_walk (a b : Int) (w : World) : Calls Try.prog 47 #[.agg #[.int .i64 a, .int .i64 b]] w fun e w' => e = .returned (.bool (decide (0 ≤ a) && decide (a ≤ 65536) && decide (0 ≤ b) && decide (b ≤ 1048576))) ∧ Below w.heap.size w w' := by
  obtain ⟨X, hX⟩ : ∃ X, X = w.alloc (.cells #[.int .i64 a, .int .i64 b] 77) := ⟨_, rfl⟩
  have hB : Below w.heap.size w X := by rw [hX]; exact below_new (Below.refl _ _) _
  have r0 : RowAt X w.heap.size [.int .i64 a, .int .i64 b] 77 := by rw [hX]; exact RowAt.new _ _ _
  obtain ⟨x0, x1, xf⟩ := cells2 r0
  clear r0
  generalize hR : (decide (0 ≤ a) && decide (a ≤ 65536) && decide (0 ≤ b) && decide (b ≤ 1048576)) = R
  have HR : Hid ((decide (0 ≤ a) && decide (a ≤ 65536) && decide (0 ≤ b) && decide (b ≤ 1048576)) = R) := hR
  clear hR
  cases q0 : decide (0 ≤ a)
  · go_enter Try.func47, Try.ntmps47
    go_upto_region 1 with fail
    rw [← hX]
    clear hX
    go_wp2_with fail
    go_ret
    exact ⟨by rw [← HR.out]; simp [q0], hB⟩
  cases q1 : decide (a ≤ 65536)
  · go_enter Try.func47, Try.ntmps47
    go_upto_region 1 with fail
    rw [← hX]
    clear hX
    go_wp2_with fail
    go_ret
    exact ⟨by rw [← HR.out]; simp [q0, q1], hB⟩
  cases q2 : decide (0 ≤ b)
  · go_enter Try.func47, Try.ntmps47
    go_upto_region 1 with fail
    rw [← hX]
    clear hX
    go_wp2_with fail
    go_ret
    exact ⟨by rw [← HR.out]; simp [q0, q1, q2], hB⟩
  cases q3 : decide (b ≤ 1048576)
  · go_enter Try.func47, Try.ntmps47
    go_upto_region 1 with fail
    rw [← hX]
    clear hX
    go_wp2_with fail
    go_ret
    exact ⟨by rw [← HR.out]; simp [q0, q1, q2, q3], hB⟩
  go_enter Try.func47, Try.ntmps47
  go_upto_region 1 with fail
  rw [← hX]
  clear hX
  go_wp2_with fail
  go_ret
  exact ⟨by rw [← HR.out]; simp [q0, q1, q2, q3], hB⟩
theorem right_any (x : Lk) (w : World) : Calls Try.prog 47 #[.agg #[.int .i64 x.iface, .int .i64 x.peer]] w fun e w' => e = .returned (.bool (okK x)) ∧ Below w.heap.size w w' := right_walk x.iface x.peer w
end Go.Proofs.Ytklbnnnkogghpaa.Lk
namespace Go.Proofs.Ytklbnnnkogghpaa.Lk
open Go.RowKit
open Go.Proofs.Ytklbnnnkogghpaa.Addr (RowAt below2 below_drew below_new bset RowAt.lt RowAt.cell RowAt.frozen RowAt.below RowAt.drew RowAt.new RowAt.alloc cells2 Bl bl_ne wp_region_bl bl_call bl_same)
def prevR (l : List Lk) (k : Nat) : Option Int := match k with
  | 0 => none
  | j + 1 => (l[j]?).map (·.iface)
theorem rise_zero (l : List Lk) (h : 0 < l.length) : rise (prevR l 0) (l.drop 0) = (okK l[0] && rise (prevR l 1) (l.drop 1)) := by
  match l, h with
  | s :: t, _ => rfl
theorem rise_succ (l : List Lk) (j : Nat) (h : j + 1 < l.length) : rise (prevR l (j + 1)) (l.drop (j + 1)) = (okK l[j + 1] && !decide (l[j + 1].iface ≤ l[j].iface) && rise (prevR l (j + 2)) (l.drop (j + 2))) := by
  have e1 : prevR l (j + 1) = some l[j].iface := by show (l[j]?).map (·.iface) = _; rw [List.getElem?_eq_getElem (by omega)]; rfl
  have e2 : prevR l (j + 2) = some l[j + 1].iface := by show (l[j + 1]?).map (·.iface) = _; rw [List.getElem?_eq_getElem (by omega)]; rfl
  have e3 : l.drop (j + 1) = l[j + 1] :: l.drop (j + 2) := List.drop_eq_getElem_cons h
  have e4 : decide (l[j].iface < l[j + 1].iface) = !decide (l[j + 1].iface ≤ l[j].iface) := by
    rw [Bool.eq_iff_iff]; simp
  rw [e1, e2, e3, rise, e4]
theorem round_bad {l : List Lk} {k : Nat} (hk : k < l.length) {R : Int} (HD : R = if rise none l then 0 else 2) (HG : rise none l = rise (prevR l k) (l.drop k)) (h : okK l[k] = false) : R = 2 := by
  rw [HD, HG]
  cases k with
  | zero => rw [rise_zero l hk, h]; rfl
  | succ j => rw [rise_succ l j hk, h]; rfl
theorem round_first {l : List Lk} {k : Nat} (hk : k < l.length) (HG : rise none l = rise (prevR l k) (l.drop k)) (h : okK l[k] = true) (h0 : k = 0) : rise none l = rise (prevR l 1) (l.drop 1) := by
  subst h0
  rw [HG, rise_zero l hk, h, Bool.true_and]
theorem round_next {l : List Lk} {k j : Nat} (hk : k < l.length) {R : Int} (HD : R = if rise none l then 0 else 2) (HG : rise none l = rise (prevR l k) (l.drop k)) (h : okK l[k] = true) (h0 : k = j + 1) (hj : j < l.length) :
    (decide (l[k].iface ≤ l[j].iface) = false → rise none l = rise (prevR l (k + 1)) (l.drop (k + 1))) ∧ (decide (l[k].iface ≤ l[j].iface) = true → R = 2) := by
  subst h0
  constructor
  · intro hd
    rw [HG, rise_succ l j hk, h, hd]
    rfl
  · intro hd
    rw [HD, HG, rise_succ l j hk, h, hd]
    rfl
theorem below_drewN {B : Nat} {w0 w : World} (h : Below B w0 w) (n : Nat) : Below B w0 (w.drewN n) := h.trans ⟨rfl, rfl, rfl, Nat.le_refl _, fun _ _ => rfl⟩
set_option maxHeartbeats 4000000 in
set_option maxRecDepth 20000 in
theorem check_any (l : List Lk) (v : Value) (w : World) (h : HasLks w v l) :
    Calls Try.prog 25 #[v] w fun e w' => e = .returned (.int .i64 (checkL l)) ∧ Below w.heap.size w w' := by
  obtain ⟨o, c, rfl, hc1, hc2⟩ := HasRow.slice h
  have HR : Hid (∀ wr : World, Below w.heap.size w wr → HasLks wr (.slice o l.length c) l) := fun wr hb => h.keep hb
  obtain ⟨n, hn⟩ : ∃ n, n = l.length := ⟨_, rfl⟩
  have HN : Hid (n = l.length) := hn
  rw [← hn] at HR hc1 ⊢
  have HC : Hid (checkL l = if (decide (n ≤ 32) && rise none l) then 0 else 2) := by show _ = _; unfold checkL okL; rw [← hn]
  generalize checkL l = R at HC ⊢
  clear h hn
  by_cases h32 : 32 < n
  · have HV : Hid (R = 2) := by show _ = _; rw [HC.out, decide_eq_false (by omega)]; rfl
    have q1 : decide ((32 : Int) < (n : Int)) = true := decide_eq_true (by omega)
    have q2 : decide (32 < n) = true := decide_eq_true h32
    clear HC HR
    go_enter Try.func25, Try.ntmps25
    go_wp2_with fail
    go_ret
    exact ⟨by rw [HV.out]; rfl, Below.refl _ _⟩
  · have HD : Hid (R = if rise none l then 0 else 2) := by show _ = _; rw [HC.out, decide_eq_true (by omega)]; rfl
    have hni : (n : Int) ≤ 32 := by omega
    have q1 : decide ((32 : Int) < (n : Int)) = false := decide_eq_false (by omega)
    have q2 : decide (32 < n) = false := decide_eq_false h32
    clear HC h32
    go_enter Try.func25, Try.ntmps25
    go_wp2_with fail
    go_loopw [10] (fun i wr => ∃ k : Nat, k ≤ n ∧ i = .int .i64 k ∧ Below w.heap.size w wr ∧ Hid (rise none l = rise (prevR l k) (l.drop k))) (fun i _ => n - (intOf i).toNat)
    case atStart => exact ⟨0, by omega, rfl, Below.refl _ _, (rfl : rise none l = _)⟩
    case round =>
      obtain ⟨k, hk, rfl, hB, HG⟩ := hrel
      have hh := HR.out _ hB
      by_cases hlt : k < n
      · have hkz : k < l.length := by rw [← HN.out]; exact hlt
        obtain ⟨g1, i1, rfl, hg1, a0, a1⟩ := HasLks.cell hh k hkz
        have cr : ∀ W : World, Calls Try.prog 47 #[.agg #[.int .i64 l[k].iface, .int .i64 l[k].peer]] W fun e w' => e = .returned (.bool (okK l[k])) ∧ Below W.heap.size W w' := fun W => right_any l[k] W
        have hki : (k : Int) < (n : Int) := by omega
        have HB1 : Hid (okK l[k] = false → R = 2) := fun h => round_bad hkz HD.out HG.out h
        have HB2 : Hid (okK l[k] = true → k = 0 → rise none l = rise (prevR l 1) (l.drop 1)) := fun h h0 => round_first hkz HG.out h h0
        have HB3 : Hid (okK l[k] = true → ∀ (j : Nat) (hj : j < l.length), k = j + 1 → (decide (l[k].iface ≤ l[j].iface) = false → rise none l = rise (prevR l (k + 1)) (l.drop (k + 1))) ∧ (decide (l[k].iface ≤ l[j].iface) = true → R = 2)) := fun h j hj h0 => round_next hkz HD.out HG.out h h0 hj
        generalize okK l[k] = B1 at cr HB1 HB2 HB3
        generalize l[k].iface = ra at a0 cr HB3
        clear HG
        generalize l[k].peer = rb at a1 cr
        go_upto_region 6 with fail
        obtain ⟨X, hX⟩ : ∃ X, X = wr.alloc (.cells #[.int .i64 ra, .int .i64 rb] 77) := ⟨_, rfl⟩
        have hbX : Below wr.heap.size wr X := by rw [hX]; exact below_new (Below.refl _ _) _
        have rx : RowAt X wr.heap.size [.int .i64 ra, .int .i64 rb] 77 := by rw [hX]; exact RowAt.new _ _ _
        rw [← hX]
        have hBX := below2 hB hbX
        have hhX := hh.keep hbX
        clear hX
        obtain ⟨gs, hgs⟩ : ∃ g, g = wr.heap.size := ⟨_, rfl⟩
        rw [← hgs] at rx ⊢
        clear hgs a0 a1 hg1
        have m0 : ∀ p : Bl X, p.W.cell? ⟨gs, 0, none⟩ = some (.int .i64 ra) := fun p => (rx.below p.h).cell 0
        have m1 : ∀ p : Bl X, p.W.cell? ⟨gs, 1, none⟩ = some (.int .i64 rb) := fun p => (rx.below p.h).cell 1
        haveI := bl_ne X
        cases B1
        · have HV : Hid (R = 2) := HB1.out rfl
          clear HB1 HB2 HB3 HD hh hhX
          refine wp_region_bl (by kernel_rfl) (by kernel_rfl) ?_
          repeat (go_big_quiet_step (first | (go_at_call 47; with_reducible exact bl_call (cr _))))
          refine wpQuiet_nil ?_
          intro wq hw'
          obtain ⟨⟨wz, hq⟩, hw2⟩ := hw'
          subst hw2
          have hW := below2 hBX hq
          go_wp2_with fail
          go_ret
          exact ⟨by rw [HV.out]; rfl, hW⟩
        · by_cases hk0 : k = 0
          · have HS1 : Hid (rise none l = rise (prevR l 1) (l.drop 1)) := HB2.out rfl hk0
            clear HB1 HB2 HB3 hh hhX
            have hz1 : decide ((0 : Int) < (k : Int)) = false := decide_eq_false (by omega)
            have hz2 : decide (0 < k) = false := decide_eq_false (by omega)
            have HK : Hid (k = 0) := hk0
            clear hk0
            refine wp_region_bl (by kernel_rfl) (by kernel_rfl) ?_
            repeat (go_big_quiet_step (first | (go_at_call 47; with_reducible exact bl_call (cr _))))
            refine wpQuiet_nil ?_
            intro wq hw'
            obtain ⟨⟨wz, hq⟩, hw2⟩ := hw'
            subst hw2
            have hW := below2 hBX hq
            go_wp2_with fail
            go_roundw
            case rel => exact ⟨k + 1, by omega, by go_num, hW, by rw [HK.out]; exact HS1⟩
            case measure => simp [intOf]; omega
          · obtain ⟨j, hj⟩ : ∃ j, k = j + 1 := ⟨k - 1, by omega⟩
            have hj2 : j < l.length := by omega
            obtain ⟨g2, i2, e12, hg2, b0, _⟩ := HasLks.cell hhX j hj2
            injection e12 with e12
            injection e12 with e1 e2
            subst e1 e2
            obtain ⟨HN1, HN2⟩ := HB3.out rfl j hj2 hj
            have HN1 : Hid (decide (ra ≤ l[j].iface) = false → rise none l = rise (prevR l (k + 1)) (l.drop (k + 1))) := HN1
            have HN2 : Hid (decide (ra ≤ l[j].iface) = true → R = 2) := HN2
            have u0 : ∀ p : Bl X, p.W.cell? ⟨g1, i1 + j * 2, none⟩ = some (.int .i64 l[j].iface) := fun p => (p.h.cell (p := ⟨g1, i1 + j * 2, none⟩) hg2).trans b0
            clear HB1 HB2 HB3 hh hhX b0 hg2
            generalize l[j].iface = pr at u0 HN1 HN2
            have e1 : (k : Int) - 1 = (j : Int) := by omega
            have e2 : IntKind.i64.wrap (j : Int) = (j : Int) := by rw [IntKind.wrap_i64]; omega
            have hkp : decide ((0 : Int) < (k : Int)) = true := decide_eq_true (by omega)
            have hkp' : decide (0 < k) = true := decide_eq_true (by omega)
            have hjn : (j : Int) < (n : Int) := by omega
            clear hj hk0
            cases B2 : decide (ra ≤ pr)
            · have HS1 : Hid (rise none l = rise (prevR l (k + 1)) (l.drop (k + 1))) := HN1.out B2
              clear HN1 HN2
              refine wp_region_bl (by kernel_rfl) (by kernel_rfl) ?_
              repeat (go_big_quiet_step (first | (go_at_call 47; with_reducible exact bl_call (cr _))))
              refine wpQuiet_nil ?_
              intro wq hw'
              obtain ⟨⟨wz, hq⟩, hw2⟩ := hw'
              subst hw2
              have hW := below2 hBX hq
              go_wp2_with fail
              go_roundw
              case rel => exact ⟨k + 1, by omega, by go_num, hW, HS1⟩
              case measure => simp [intOf]; omega
            · have HV : Hid (R = 2) := HN2.out B2
              clear HN1 HN2 HD
              refine wp_region_bl (by kernel_rfl) (by kernel_rfl) ?_
              repeat (go_big_quiet_step (first | (go_at_call 47; with_reducible exact bl_call (cr _))))
              refine wpQuiet_nil ?_
              intro wq hw'
              obtain ⟨⟨wz, hq⟩, hw2⟩ := hw'
              subst hw2
              have hW := below2 hBX hq
              go_wp2_with fail
              go_ret
              exact ⟨by rw [HV.out]; rfl, hW⟩
      · obtain rfl : k = n := by omega
        have HV : Hid (R = 0) := by
          show _ = _
          rw [HD.out, HG.out, List.drop_of_length_le (by rw [← HN.out]; exact Nat.le_refl _)]
          unfold prevR
          split <;> rfl
        clear hh HG HD
        go_wp2
        go_ret
        exact ⟨by rw [HV.out]; rfl, hB⟩
end Go.Proofs.Ytklbnnnkogghpaa.Lk
namespace Go.Proofs.Ytklbnnnkogghpaa.Lk
open Go.RowKit
open Go.Proofs.Ytklbnnnkogghpaa.Addr (RowAt below2 below_drew below_new bset RowAt.lt RowAt.cell RowAt.frozen RowAt.below RowAt.drew RowAt.new RowAt.alloc cells2 Bl bl_ne wp_region_bl bl_call bl_same)
theorem of_any (i : Int) (w : World) : Calls Try.prog 60 #[.int .i64 i] w fun e w' => e = .returned (.func (.func 79) #[] #[.pointer (some ⟨w.heap.size, 0, none⟩)]) ∧ w' = w.alloc (.cells #[.int .i64 i] 3) := by
  go_enter Try.func60, Try.ntmps60
  go_wp2_with fail
  go_ret
  exact ⟨rfl, rfl⟩
/-- where the first element is that p holds of -/
def idxL {α : Type} (p : α → Bool) (l : List α) : Int := match l.findIdx? p with
  | some k => (k : Int)
  | none => -1
theorem idx_at {α : Type} {p : α → Bool} {l : List α} {k : Nat} (hk : k < l.length) (h : ∀ j (hj : j < l.length), j < k → p l[j] = false) (hp : p l[k] = true) : idxL p l = (k : Int) := by
  unfold idxL
  rw [(List.findIdx?_eq_some_iff_getElem (xs := l) (p := p) (i := k)).2 ⟨hk, hp, fun j hj => by rw [h j (by omega) hj]; simp⟩]
theorem idx_none {α : Type} {p : α → Bool} {l : List α} (h : ∀ j (hj : j < l.length), p l[j] = false) : idxL p l = -1 := by
  unfold idxL
  rw [List.findIdx?_eq_none_iff.2 (fun x hx => by obtain ⟨j, hj, rfl⟩ := List.getElem_of_mem hx; exact h j hj)]
set_option maxHeartbeats 2000000 in
theorem of1_any (x : Lk) (i : Int) (g : Nat) (w : World) (hg : w.cell? ⟨g, 0, none⟩ = some (.int .i64 i)) (hl : g < w.heap.size) : Calls Try.prog 79 #[.agg #[.int .i64 x.iface, .int .i64 x.peer], .pointer (some ⟨g, 0, none⟩)] w fun e w' => e = .returned (.bool (decide (x.iface = i))) ∧ Below w.heap.size w w' := by
  obtain ⟨a, b⟩ := x
  simp only
  obtain ⟨X, hX⟩ : ∃ X, X = w.alloc (.cells #[.int .i64 a, .int .i64 b] 77) := ⟨_, rfl⟩
  have hB : Below w.heap.size w X := by rw [hX]; exact below_new (Below.refl _ _) _
  have r0 : RowAt X w.heap.size [.int .i64 a, .int .i64 b] 77 := by rw [hX]; exact RowAt.new _ _ _
  have hg2 : X.cell? ⟨g, 0, none⟩ = some (.int .i64 i) := (hB.cell (p := ⟨g, 0, none⟩) hl).trans hg
  obtain ⟨x0, x1, xf⟩ := cells2 r0
  go_enter Try.func79, Try.ntmps79
  go_upto_region 1 with fail
  rw [← hX]
  clear hX r0
  go_wp2_with fail
  have hB2 := hB
  go_ret
  exact ⟨by first | rfl | simp | (congr 2; rw [Bool.eq_iff_iff]; simp), hB2⟩
set_option maxHeartbeats 2000000 in
theorem put1_any (x : Lk) (i : Int) (g : Nat) (w : World) (hg : w.cell? ⟨g, 0, none⟩ = some (.int .i64 i)) (hl : g < w.heap.size) : Calls Try.prog 62 #[.agg #[.int .i64 x.iface, .int .i64 x.peer], .pointer (some ⟨g, 0, none⟩)] w fun e w' => e = .returned (.bool (decide (i < x.iface))) ∧ Below w.heap.size w w' := by
  obtain ⟨a, b⟩ := x
  simp only
  obtain ⟨X, hX⟩ : ∃ X, X = w.alloc (.cells #[.int .i64 a, .int .i64 b] 77) := ⟨_, rfl⟩
  have hB : Below w.heap.size w X := by rw [hX]; exact below_new (Below.refl _ _) _
  have r0 : RowAt X w.heap.size [.int .i64 a, .int .i64 b] 77 := by rw [hX]; exact RowAt.new _ _ _
  have hg2 : X.cell? ⟨g, 0, none⟩ = some (.int .i64 i) := (hB.cell (p := ⟨g, 0, none⟩) hl).trans hg
  obtain ⟨x0, x1, xf⟩ := cells2 r0
  go_enter Try.func62, Try.ntmps62
  go_upto_region 1 with fail
  rw [← hX]
  clear hX r0
  go_wp2_with fail
  have hB2 := hB
  go_ret
  exact ⟨by first | rfl | simp | (congr 2; rw [Bool.eq_iff_iff]; simp), hB2⟩
set_option maxHeartbeats 4000000 in
set_option maxRecDepth 20000 in
theorem idxOf_any (l : List Lk) (v : Value) (i : Int) (g : Nat) (w : World) (hl : HasLks w v l) (hg : w.cell? ⟨g, 0, none⟩ = some (.int .i64 i)) (hlt : g < w.heap.size) :
    Calls Try.prog 61 #[v, .func (.func 79) #[] #[.pointer (some ⟨g, 0, none⟩)]] w fun e w' => e = .returned (.int .i64 (idxL (fun x : Lk => decide (x.iface = i)) l)) ∧ Below w.heap.size w w' := by
  obtain ⟨o, c, rfl, hc1, hc2⟩ := HasRow.slice hl
  have HR : Hid (∀ wr : World, Below w.heap.size w wr → HasLks wr (.slice o l.length c) l) := fun wr hb => hl.keep hb
  have HG : Hid (∀ wr : World, Below w.heap.size w wr → wr.cell? ⟨g, 0, none⟩ = some (.int .i64 i) ∧ g < wr.heap.size) := fun wr hb => ⟨(hb.cell (p := ⟨g, 0, none⟩) hlt).trans hg, Nat.lt_of_lt_of_le hlt hb.size⟩
  obtain ⟨n, hn⟩ : ∃ n, n = l.length := ⟨_, rfl⟩
  have HN : Hid (n = l.length) := hn
  rw [← hn] at HR hc1 ⊢
  have hni : (n : Int) ≤ 9223372036854775807 := by omega
  obtain ⟨R, hR⟩ : ∃ R, R = idxL (fun x : Lk => decide (x.iface = i)) l := ⟨_, rfl⟩
  have HRD : Hid (R = idxL (fun x : Lk => decide (x.iface = i)) l) := hR
  rw [← hR]
  clear hl hn hR hg hlt
  go_enter Try.func61, Try.ntmps61
  go_wp2_with fail
  go_loopw [8] (fun q wr => ∃ k : Nat, k ≤ n ∧ q = .int .i64 k ∧ Below w.heap.size w wr ∧ Hid (∀ j (hj : j < l.length), j < k → (fun x : Lk => decide (x.iface = i)) l[j] = false)) (fun q _ => n - (intOf q).toNat)
  case atStart => exact ⟨0, by omega, rfl, Below.refl _ _, fun j hj h => absurd h (Nat.not_lt_zero _)⟩
  case round =>
    obtain ⟨k, hk, rfl, hB, HI⟩ := hrel
    by_cases hlt : k < n
    · have hkz : k < l.length := by rw [← HN.out]; exact hlt
      obtain ⟨g1, i1, rfl, hg1, a0, a1⟩ := HasLks.cell (HR.out _ hB) k hkz
      obtain ⟨hgc, hgl⟩ := HG.out _ hB
      have cc := fun W => of1_any l[k] i g W
      have HV1 : Hid ((fun x : Lk => decide (x.iface = i)) l[k] = true → R = (k : Int)) := fun h => by rw [HRD.out]; exact idx_at hkz HI.out h
      have HV2 : Hid ((fun x : Lk => decide (x.iface = i)) l[k] = false → ∀ j (hj : j < l.length), j < k + 1 → (fun x : Lk => decide (x.iface = i)) l[j] = false) := fun h j hj hjk => by
        by_cases e : j = k
        · subst e; exact h
        · exact HI.out j hj (by omega)
      have hki : (k : Int) < (n : Int) := by omega
      have cc2 := cc wr hgc hgl
      clear cc HI hgc hgl hg1
      simp only at HV1 HV2
      generalize hD : decide (l[k].iface = i) = D at *
      generalize l[k].iface = ra at *
      generalize l[k].peer = rb at *
      clear hD
      go_wp2_with fail
      go_at_call 79; refine cc2.mono ?_; rintro e w2 ⟨rfl, hb2⟩
      have hB2 := below2 hB hb2
      cases D
      · have HV := HV2.out rfl
        have HV3 : Hid (∀ j (hj : j < l.length), j < k + 1 → (fun x : Lk => decide (x.iface = i)) l[j] = false) := HV
        clear HV HV1 HV2 cc2
        go_wp2_with fail
        go_roundw
        case rel => exact ⟨k + 1, by omega, by go_num, hB2, HV3⟩
        case measure => simp [intOf]; omega
      · have HV : Hid (R = (k : Int)) := HV1.out rfl
        clear HV1 HV2 cc2
        go_wp2_with fail
        go_ret
        exact ⟨by have h := HV.out; subst h; rfl, hB2⟩
    · have hkn : decide ((k : Int) < (n : Int)) = false := decide_eq_false (by omega)
      have HV : Hid (R = -1) := by show _ = _; rw [HRD.out]; exact idx_none (fun j hj => HI.out j hj (by have := HN.out; omega))
      clear HI
      go_wp2_with fail
      go_ret
      exact ⟨by have h := HV.out; subst h; rfl, hB⟩
set_option maxHeartbeats 4000000 in
set_option maxRecDepth 20000 in
theorem idxPut_any (l : List Lk) (v : Value) (i : Int) (g : Nat) (w : World) (hl : HasLks w v l) (hg : w.cell? ⟨g, 0, none⟩ = some (.int .i64 i)) (hlt : g < w.heap.size) :
    Calls Try.prog 61 #[v, .func (.func 62) #[] #[.pointer (some ⟨g, 0, none⟩)]] w fun e w' => e = .returned (.int .i64 (idxL (fun x : Lk => decide (i < x.iface)) l)) ∧ Below w.heap.size w w' := by
  obtain ⟨o, c, rfl, hc1, hc2⟩ := HasRow.slice hl
  have HR : Hid (∀ wr : World, Below w.heap.size w wr → HasLks wr (.slice o l.length c) l) := fun wr hb => hl.keep hb
  have HG : Hid (∀ wr : World, Below w.heap.size w wr → wr.cell? ⟨g, 0, none⟩ = some (.int .i64 i) ∧ g < wr.heap.size) := fun wr hb => ⟨(hb.cell (p := ⟨g, 0, none⟩) hlt).trans hg, Nat.lt_of_lt_of_le hlt hb.size⟩
  obtain ⟨n, hn⟩ : ∃ n, n = l.length := ⟨_, rfl⟩
  have HN : Hid (n = l.length) := hn
  rw [← hn] at HR hc1 ⊢
  have hni : (n : Int) ≤ 9223372036854775807 := by omega
  obtain ⟨R, hR⟩ : ∃ R, R = idxL (fun x : Lk => decide (i < x.iface)) l := ⟨_, rfl⟩
  have HRD : Hid (R = idxL (fun x : Lk => decide (i < x.iface)) l) := hR
  rw [← hR]
  clear hl hn hR hg hlt
  go_enter Try.func61, Try.ntmps61
  go_wp2_with fail
  go_loopw [8] (fun q wr => ∃ k : Nat, k ≤ n ∧ q = .int .i64 k ∧ Below w.heap.size w wr ∧ Hid (∀ j (hj : j < l.length), j < k → (fun x : Lk => decide (i < x.iface)) l[j] = false)) (fun q _ => n - (intOf q).toNat)
  case atStart => exact ⟨0, by omega, rfl, Below.refl _ _, fun j hj h => absurd h (Nat.not_lt_zero _)⟩
  case round =>
    obtain ⟨k, hk, rfl, hB, HI⟩ := hrel
    by_cases hlt : k < n
    · have hkz : k < l.length := by rw [← HN.out]; exact hlt
      obtain ⟨g1, i1, rfl, hg1, a0, a1⟩ := HasLks.cell (HR.out _ hB) k hkz
      obtain ⟨hgc, hgl⟩ := HG.out _ hB
      have cc := fun W => put1_any l[k] i g W
      have HV1 : Hid ((fun x : Lk => decide (i < x.iface)) l[k] = true → R = (k : Int)) := fun h => by rw [HRD.out]; exact idx_at hkz HI.out h
      have HV2 : Hid ((fun x : Lk => decide (i < x.iface)) l[k] = false → ∀ j (hj : j < l.length), j < k + 1 → (fun x : Lk => decide (i < x.iface)) l[j] = false) := fun h j hj hjk => by
        by_cases e : j = k
        · subst e; exact h
        · exact HI.out j hj (by omega)
      have hki : (k : Int) < (n : Int) := by omega
      have cc2 := cc wr hgc hgl
      clear cc HI hgc hgl hg1
      simp only at HV1 HV2
      generalize hD : decide (i < l[k].iface) = D at *
      generalize l[k].iface = ra at *
      generalize l[k].peer = rb at *
      clear hD
      go_wp2_with fail
      go_at_call 62; refine cc2.mono ?_; rintro e w2 ⟨rfl, hb2⟩
      have hB2 := below2 hB hb2
      cases D
      · have HV := HV2.out rfl
        have HV3 : Hid (∀ j (hj : j < l.length), j < k + 1 → (fun x : Lk => decide (i < x.iface)) l[j] = false) := HV
        clear HV HV1 HV2 cc2
        go_wp2_with fail
        go_roundw
        case rel => exact ⟨k + 1, by omega, by go_num, hB2, HV3⟩
        case measure => simp [intOf]; omega
      · have HV : Hid (R = (k : Int)) := HV1.out rfl
        clear HV1 HV2 cc2
        go_wp2_with fail
        go_ret
        exact ⟨by have h := HV.out; subst h; rfl, hB2⟩
    · have hkn : decide ((k : Int) < (n : Int)) = false := decide_eq_false (by omega)
      have HV : Hid (R = -1) := by show _ = _; rw [HRD.out]; exact idx_none (fun j hj => HI.out j hj (by have := HN.out; omega))
      clear HI
      go_wp2_with fail
      go_ret
      exact ⟨by have h := HV.out; subst h; rfl, hB⟩
end Go.Proofs.Ytklbnnnkogghpaa.Lk
namespace Go.Proofs.Ytklbnnnkogghpaa.Lk
open Go.RowKit
open Go.Proofs.Ytklbnnnkogghpaa.Addr (RowAt below2 below_drew below_new bset RowAt.lt RowAt.cell RowAt.frozen RowAt.below RowAt.drew RowAt.new RowAt.alloc cells2 Bl bl_ne wp_region_bl bl_call bl_same)
end Go.Proofs.Ytklbnnnkogghpaa.Lk
namespace Go.Proofs.Ytklbnnnkogghpaa.Lk
open Go.RowKit
open Go.Proofs.Ytklbnnnkogghpaa.Addr (RowAt below2 below_drew below_new bset RowAt.lt RowAt.cell RowAt.frozen RowAt.below RowAt.drew RowAt.new RowAt.alloc cells2)
attribute [-go_sem] Builtin.append_
theorem info_lk : (Try.prog.info? 77).map (fun i => (i.zero, i.size, i.bytes)) = some (some (.agg #[.int .i64 0, .int .i64 0]), 2, 16) := by kernel_rfl
theorem info_parts {e sz by' : Nat} {z : Value} (h : (Try.prog.info? e).map (fun i => (i.zero, i.size, i.bytes)) = some (some z, sz, by')) : ∃ i, Try.prog.info? e = some i ∧ i.zero = some z ∧ i.size = sz ∧ i.bytes = by' := by
  cases hi : Try.prog.info? e with
  | none => rw [hi] at h; cases h
  | some i =>
    rw [hi] at h
    simp only [Option.map_some, Option.some.injEq, Prod.mk.injEq] at h
    exact ⟨i, rfl, h.1, h.2.1, h.2.2⟩
/-- a row put behind an owned one, and where it then lies -/
theorem append_lks {W : World} {n₀ : Nat} {v u : Value} {l m : List Lk} (hown : W.ownsRow n₀ 77 2 v l.length (lkCs l)) (hsrc : HasLks W u m) (hm : 0 < m.length) (hb : l.length + m.length ≤ 1000000) (hn : n₀ ≤ W.heap.size) :
    ∃ g cap w3, (∀ ty, (Builtin.append_ #[23, 23] ty #[v, u]).run Try.prog W = .ok (.slice (some ⟨g, 0, none⟩) (l ++ m).length cap) w3) ∧ w3.ownsRow n₀ 77 2 (.slice (some ⟨g, 0, none⟩) (l ++ m).length cap) (l ++ m).length (lkCs (l ++ m)) ∧ W.grownBy w3 v.ownBlock ∧ (v.ownBlock = some g ∨ g = W.heap.size) ∧ g < w3.heap.size := by
  obtain ⟨i0, hi0, hz0, hz1, hz2⟩ := info_parts info_lk
  rcases hsrc.2 with ⟨rfl, h0⟩ | ⟨a, cap, rfl, g1, g2, g3, g4⟩
  · omega
  · have h := fun ty => run_append_lies (P := Try.prog) (w := W) 23 ty n₀ 77 i0 (.agg #[.int .i64 0, .int .i64 0]) 2 16 Try.underlying23 hi0 hz0 hz1 hz2 rfl (by decide) v l.length (lkCs l) hown a m.length cap (lkCs m) hsrc.1
      (fun j x hj => by rw [g4 j (by rw [← hsrc.1]; exact (List.getElem?_eq_some_iff.1 hj).1)]; exact hj) (one_links m) hm (by unfold maxLen; omega) (by omega) hn W.heap.size rfl
    obtain ⟨g, c2, w3, hrun, k1, k2, k3, k4⟩ := h 0
    rw [← lkCs_app, ← List.length_append] at k1
    rw [← List.length_append] at hrun
    exact ⟨g, c2, w3, fun ty => hrun, k1, k2, k3, k4⟩
def Dist (u v : Value) : Prop := ∀ k, u.ownBlock = some k → v.ownBlock ≠ some k
/-- three rows of one call's own, apart -/
structure Own3 (w W : World) (u v t : Value) (a b c : List Lk) : Prop where
  ou : W.ownsRow w.heap.size 77 2 u a.length (lkCs a)
  ov : W.ownsRow w.heap.size 77 2 v b.length (lkCs b)
  ot : W.ownsRow w.heap.size 77 2 t c.length (lkCs c)
  uv : Dist u v
  vt : Dist v t
  tu : Dist t u
  bl : Below w.heap.size w W
theorem Dist.symm {u v : Value} (h : Dist u v) : Dist v u := fun k hk hc => h k hc hk
theorem Own3.turn {w W : World} {u v t : Value} {a b c : List Lk} (h : Own3 w W u v t a b c) : Own3 w W v t u b c a := ⟨h.ov, h.ot, h.ou, h.vt, h.tu, h.uv, h.bl⟩
theorem own_below {W W' : World} {m e size k : Nat} {v : Value} {xs : List Value} (h : W.ownsRow m e size v k xs) (hb : Below W.heap.size W W') : W'.ownsRow m e size v k xs := by
  refine ⟨h.1, ?_⟩
  rcases h.2 with h0 | ⟨g, cap, cur, e1, hg, hgb, rest⟩
  · exact .inl h0
  · exact .inr ⟨g, cap, cur, e1, hg, by rw [hb.block g (Array.getElem?_eq_some_iff.1 hgb).1]; exact hgb, rest⟩
theorem Own3.below {w W W' : World} {u v t : Value} {a b c : List Lk} (h : Own3 w W u v t a b c) (hb : Below W.heap.size W W') : Own3 w W' u v t a b c :=
  ⟨own_below h.ou hb, own_below h.ov hb, own_below h.ot hb, h.uv, h.vt, h.tu, below2 h.bl hb⟩
theorem lit_lk (W : World) (x : Lk) : HasLks (W.alloc (.cells #[.int .i64 x.iface, .int .i64 x.peer] 77)) (.slice (some ⟨W.heap.size, 0, none⟩) 1 1) [x] := by
  refine ⟨rfl, .inr ⟨⟨W.heap.size, 0, none⟩, 1, rfl, Nat.le_refl _, by decide, fun _ => ⟨rfl, by simp⟩, fun j hj => ?_⟩⟩
  rw [addr_add, Nat.zero_add]
  exact (RowAt.new W (lkC x) 77).cell j
/-- the first row takes others -/
theorem Own3.app {w W : World} {u v t x : Value} {a b c m : List Lk} (h : Own3 w W u v t a b c) (hx : HasLks W x m) (hm : 0 < m.length) (hb : a.length + m.length ≤ 1000000) :
    ∃ g cap w3, (∀ ty, (Builtin.append_ #[23, 23] ty #[u, x]).run Try.prog W = .ok (.slice (some ⟨g, 0, none⟩) (a ++ m).length cap) w3) ∧ Own3 w w3 (.slice (some ⟨g, 0, none⟩) (a ++ m).length cap) v t (a ++ m) b c := by
  obtain ⟨g, cap, w3, hrun, ho, hg, hl, hlt⟩ := append_lks h.ou hx hm hb h.bl.size
  have hd : ∀ (y : Value) (d : List Lk), W.ownsRow w.heap.size 77 2 y d.length (lkCs d) → Dist u y → Dist y (.slice (some ⟨g, 0, none⟩) (a ++ m).length cap) ∧ w3.ownsRow w.heap.size 77 2 y d.length (lkCs d) := fun y d oy hy => by
    refine ⟨fun k hk hc => ?_, oy.kept hg ?_⟩
    · have hgk : g = k := by simpa [Value.ownBlock] using hc
      subst hgk
      rcases hl with hl | hl
      · exact hy g hl hk
      · have := (oy.lt g hk).2; omega
    · cases hyb : y.ownBlock with
      | none => exact .inl rfl
      | some k => exact .inr (fun hc => hy k hc.symm hyb)
  obtain ⟨d1, o1⟩ := hd v b h.ov h.uv
  obtain ⟨d2, o2⟩ := hd t c h.ot h.tu.symm
  refine ⟨g, cap, w3, hrun, ho, o1, o2, d1.symm, h.vt, d2, ?_⟩
  exact h.bl.grown hg h.bl.size (fun k e => (h.ou.lt k e).1)
def ofL (l : List Lk) (i : Int) : List Lk := l.filter (fun s => decide (s.iface = i))
theorem filter_snoc (p : Lk → Bool) (l : List Lk) (k : Nat) (h : k < l.length) : (l.take (k + 1)).filter p = (l.take k).filter p ++ (if p l[k] then [l[k]] else []) := by
  rw [List.take_succ_eq_append_getElem h, List.filter_append]
  congr 1
  cases hp : p l[k] <;> simp [hp]
theorem filter_le (p : Lk → Bool) (l : List Lk) (k : Nat) : ((l.take k).filter p).length ≤ l.length := Nat.le_trans (List.length_filter_le _ _) (by rw [List.length_take]; omega)
end Go.Proofs.Ytklbnnnkogghpaa.Lk
namespace Go.Proofs.Ytklbnnnkogghpaa.Lk
open Go.RowKit
open Go.Proofs.Ytklbnnnkogghpaa.Addr (RowAt below2 below_drew below_new bset RowAt.lt RowAt.cell RowAt.frozen RowAt.below RowAt.drew RowAt.new RowAt.alloc cells2)
theorem find_idx (l : List Lk) (i : Int) : (findL l i = none ∧ idxL (fun x : Lk => decide (x.iface = i)) l = -1) ∨ ∃ (k : Nat) (h : k < l.length), findL l i = some l[k] ∧ idxL (fun x : Lk => decide (x.iface = i)) l = (k : Int) := by
  induction l with
  | nil => exact .inl ⟨rfl, rfl⟩
  | cons s l ih =>
    by_cases hs : s.iface = i
    · right
      refine ⟨0, by simp, ?_, ?_⟩
      · unfold findL; simp [hs]
      · unfold idxL; simp [List.findIdx?_cons, hs]
    · rcases ih with ⟨h1, h2⟩ | ⟨k, hk, h1, h2⟩
      · left
        refine ⟨by unfold findL at h1 ⊢; rw [List.find?_cons_of_neg (by simpa using hs)]; exact h1, ?_⟩
        unfold idxL at h2 ⊢
        rw [List.findIdx?_cons]
        simp only [hs, decide_false, Bool.false_eq_true, if_false]
        cases hf : l.findIdx? (fun x : Lk => decide (x.iface = i)) with
        | none => rfl
        | some k => rw [hf] at h2; simp only at h2; omega
      · right
        refine ⟨k + 1, by simpa using hk, by unfold findL at h1 ⊢; rw [List.find?_cons_of_neg (by simpa using hs)]; exact h1, ?_⟩
        unfold idxL at h2 ⊢
        rw [List.findIdx?_cons]
        simp only [hs, decide_false, Bool.false_eq_true, if_false]
        cases hf : l.findIdx? (fun x : Lk => decide (x.iface = i)) with
        | none => rw [hf] at h2; simp only at h2; omega
        | some j => rw [hf] at h2; simp only [Option.map_some] at h2 ⊢; omega
set_option maxHeartbeats 4000000 in
set_option maxRecDepth 20000 in
theorem peer_any (l : List Lk) (v : Value) (i : Int) (w : World) (hl : HasLks w v l) :
    Calls Try.prog 71 #[v, .int .i64 i] w fun e w' => e = .returned (.tuple #[.int .i64 (peerL l i).1, .int .i64 (peerL l i).2]) ∧ Below w.heap.size w w' := by
  obtain ⟨o, c, rfl, hc1, hc2⟩ := HasRow.slice hl
  have cc := fun W (hb : Below w.heap.size w W) => check_any l _ W (hl.keep hb)
  have ci := fun W (hb : Below w.heap.size w W) (g : Nat) (hg : W.cell? ⟨g, 0, none⟩ = some (.int .i64 i)) (hlt : g < W.heap.size) => idxOf_any l _ i g W (hl.keep hb) hg hlt
  have co := fun W => of_any i W
  have HR : Hid (∀ wr : World, Below w.heap.size w wr → HasLks wr (.slice o l.length c) l) := fun wr hb => hl.keep hb
  obtain ⟨R, hR⟩ : ∃ R, R = peerL l i := ⟨_, rfl⟩
  have HP : Hid (R = if okL l then (match findL l i with | some s => ((s.peer, 0) : Int × Int) | none => (0, 3)) else (0, 2)) := hR
  rw [← hR]
  have hck : checkL l = if okL l then 0 else 2 := rfl
  rw [hck] at cc
  have hf := find_idx l i
  clear hR hck hl
  cases hok : okL l
  · rw [hok] at cc HP
    have HV : Hid (R = (0, 2)) := HP.out
    simp only [Bool.false_eq_true, if_false] at cc
    clear HP hf
    go_enter Try.func71, Try.ntmps71
    go_wp2_with fail
    go_at_call 25; refine (cc _ (Below.refl _ _)).mono ?_; rintro e w1 ⟨rfl, hb1⟩
    go_wp2_with fail
    go_ret2
    exact ⟨by rw [HV.out]; rfl, hb1⟩
  · rw [hok] at cc HP
    simp only [if_true] at cc
    rcases hf with ⟨h1, h2⟩ | ⟨k, hk, h1, h2⟩
    · have HV : Hid (R = (0, 3)) := by have := HP.out; rw [h1] at this; exact this
      rw [h2] at ci
      clear HP h1 h2
      go_enter Try.func71, Try.ntmps71
      go_wp2_with fail
      go_at_call 25; refine (cc _ (Below.refl _ _)).mono ?_; rintro e w1 ⟨rfl, hb1⟩
      go_wp2_with fail
      go_at_call 60; refine (co _).mono ?_; rintro e w2 ⟨rfl, hw2⟩
      have hb2 : Below w.heap.size w w2 := by rw [hw2]; exact below_new hb1 _
      have r2 : RowAt w2 w1.heap.size [.int .i64 i] 3 := by rw [hw2]; exact RowAt.new _ _ _
      clear hw2
      generalize w1.heap.size = g at r2 ⊢
      go_wp2_with fail
      go_at_call 61; refine (ci _ hb2 g (r2.cell 0) r2.lt).mono ?_; rintro e w3 ⟨rfl, hb3⟩
      go_wp2_with fail
      go_ret2
      exact ⟨by rw [HV.out]; rfl, below2 hb2 hb3⟩
    · have HV : Hid (R = (l[k].peer, 0)) := by have := HP.out; rw [h1] at this; exact this
      rw [h2] at ci
      have hki : (k : Int) < (l.length : Int) := by omega
      have hkn : decide ((k : Int) < 0) = false := decide_eq_false (by omega)
      clear HP h1 h2
      go_enter Try.func71, Try.ntmps71
      go_wp2_with fail
      go_at_call 25; refine (cc _ (Below.refl _ _)).mono ?_; rintro e w1 ⟨rfl, hb1⟩
      go_wp2_with fail
      go_at_call 60; refine (co _).mono ?_; rintro e w2 ⟨rfl, hw2⟩
      have hb2 : Below w.heap.size w w2 := by rw [hw2]; exact below_new hb1 _
      have r2 : RowAt w2 w1.heap.size [.int .i64 i] 3 := by rw [hw2]; exact RowAt.new _ _ _
      clear hw2
      generalize w1.heap.size = g at r2 ⊢
      go_wp2_with fail
      go_at_call 61; refine (ci _ hb2 g (r2.cell 0) r2.lt).mono ?_; rintro e w3 ⟨rfl, hb3⟩
      have hb4 := below2 hb2 hb3
      obtain ⟨g1, i1, rfl, hg1, a0, a1⟩ := HasLks.cell (HR.out _ hb4) k hk
      clear HR ci cc co
      generalize l[k].peer = pp at *
      go_wp2_with fail
      go_ret2
      exact ⟨by rw [HV.out]; rfl, hb4⟩
end Go.Proofs.Ytklbnnnkogghpaa.Lk
namespace Go.Proofs.Ytklbnnnkogghpaa.Lk
open Go.RowKit Go.Shelf
open Go.Proofs.Ytklbnnnkogghpaa.Addr (RowAt below2 below_drew below_new bset RowAt.lt RowAt.cell RowAt.frozen RowAt.below RowAt.drew RowAt.new RowAt.alloc cells2)
attribute [-go_sem] Builtin.append_
theorem append_row {e tS sz bytes : Nat} {z : Value} (hi : (Try.prog.info? e).map (fun i => (i.zero, i.size, i.bytes)) = some (some z, sz, bytes)) (hu : Try.prog.underlying tS = some (.slice e)) (hz : z.cells.size = sz) (hsz : 0 < sz)
    {W : World} {n₀ k m : Nat} {v u : Value} {xs news : List Value} (hown : W.ownsRow n₀ e sz v k xs) (hsrc : HasRow W u sz m news) (h1 : ∀ x ∈ news, x.oneCell' = true) (hb : (k + m) * bytes ≤ 140737488355328) (hkm : k + m ≤ 9223372036854775807) (hn : n₀ ≤ W.heap.size) :
    ∃ v' w3, (∀ ty, (Builtin.append_ #[tS, tS] ty #[v, u]).run Try.prog W = .ok v' w3) ∧ w3.ownsRow n₀ e sz v' (k + m) (xs ++ news) ∧ W.grownBy w3 v.ownBlock := by
  obtain ⟨i0, hi0, hz0, hz1, hz2⟩ := info_parts hi
  rcases hsrc.2 with ⟨rfl, rfl⟩ | ⟨a, cap, rfl, g1, g2, g3, g4⟩
  · obtain rfl : news = [] := List.eq_nil_of_length_eq_zero (by rw [hsrc.1]; simp)
    have := fun ty => run_append_owned_none (P := Try.prog) W n₀ tS ty e i0 sz hu hi0 v k xs hown
    exact ⟨v, W, this, by simpa using hown, World.grownBy.refl _ _⟩
  · have h := run_append_own (P := Try.prog) W n₀ tS 0 e i0 z sz bytes hu hi0 hz0 hz1 hz2 hz hsz v k xs hown a m cap news hsrc.1
      (fun j x hj => by rw [g4 j (by rw [← hsrc.1]; exact (List.getElem?_eq_some_iff.1 hj).1)]; exact hj) h1 (by unfold maxLen; omega) hb hn
    obtain ⟨v', w3, hrun, k1, k2, _⟩ := h
    exact ⟨v', w3, fun ty => hrun, k1, k2⟩
theorem empty_own (w : World) (e sz : Nat) : (w.alloc (.cells #[] e)).ownsRow w.heap.size e sz (.slice (some ⟨w.heap.size, 0, none⟩) 0 0) 0 [] :=
  World.ownsRow_made (base := w.heap.size) (e := e) (size := sz) w #[] 0 (Nat.le_refl _) (by decide) (by simp)
theorem eql_slice_nil {t e : Nat} (h : Try.prog.underlying t = some (.slice e)) (a : Option Addr) (l c : Nat) (w : World) : (binOp .eql t (.slice a l c) (.slice none 0 0)).run Try.prog w = .ok (.bool a.isNone) w := by
  simp only [binOp]
  simp [run_equal_slice_nil w t e a l c h]
set_option maxRecDepth 20000 in
set_option maxHeartbeats 400000 in
theorem clone_any (l : List Lk) (v : Value) (w : World) (h : HasLks w v l) (hz : l.length ≤ 1000000000) :
    Calls Try.prog 29 #[v] w fun e w' => ∃ u, e = .returned u ∧ w'.ownsRow w.heap.size 77 2 u l.length (lkCs l) ∧ Below w.heap.size w w' := by
  have hk := h.keep ((Below.refl _ w).alloc (Nat.le_refl _) (.cells #[] 77))
  have he := eql_slice_nil Try.underlying23
  rcases h.2 with ⟨rfl, h0⟩ | ⟨a, cap, rfl, g1, g2, g3, g4⟩
  · obtain rfl : l = [] := List.eq_nil_of_length_eq_zero h0
    clear h hk h0 hz
    go_enter Try.func29, Try.ntmps29
    go_wp2
    go_ret
    exact ⟨_, rfl, World.ownsRow_nil _ _ _ _, Below.refl _ _⟩
  · obtain ⟨v', w3, hrun, h1, h2⟩ := append_row info_lk Try.underlying23 rfl (by decide) (empty_own w 77 2) hk (one_links l) (by omega) (by omega) (by simp)
    rw [Nat.zero_add, List.nil_append] at h1
    have hB : Below w.heap.size w w3 := ((Below.refl _ w).alloc (Nat.le_refl _) _).grown h2 (by simp) (fun k e => by simp [Value.ownBlock] at e; omega)
    have H1 : Hid (w3.ownsRow w.heap.size 77 2 v' l.length (lkCs l)) := h1
    have hn9 : l.length ≤ 9223372036854775807 := by omega
    clear h hk h1 h2 g3 g4 hz
    generalize l.length = n at *
    go_enter Try.func29, Try.ntmps29
    go_wp2
    go_ret
    exact ⟨_, rfl, H1.out, hB⟩
end Go.Proofs.Ytklbnnnkogghpaa.Lk
namespace Go.Proofs.Ytklbnnnkogghpaa.Lk
open Go.RowKit
theorem rise_some (l : List Lk) : ∀ (r : Int), rise (some r) l = true → ∀ x ∈ l, r < x.iface := by
  induction l with
  | nil => intro r _ x hx; simp at hx
  | cons s l ih =>
    intro r h x hx
    unfold rise at h
    simp only [Bool.and_eq_true, decide_eq_true_eq] at h
    rcases List.mem_cons.1 hx with rfl | hx
    · exact h.1.2
    · have := ih s.iface h.2 x hx; omega
theorem rise_drop (l : List Lk) : ∀ p, rise p l = true → l.Pairwise (fun x y => x.iface < y.iface) := by
  induction l with
  | nil => intro p _; exact List.Pairwise.nil
  | cons s l ih =>
    intro p h
    have h2 : rise (some s.iface) l = true := by
      cases p <;> (unfold rise at h; simp only [Bool.and_eq_true] at h; exact h.2)
    exact List.Pairwise.cons (fun y hy => rise_some l _ h2 y hy) (ih _ h2)
theorem okL_up {l : List Lk} (h : okL l = true) : l.Pairwise (fun x y => x.iface < y.iface) := by
  unfold okL at h
  simp only [Bool.and_eq_true] at h
  exact rise_drop l _ h.2
theorem okL_len2 {l : List Lk} (h : okL l = true) : l.length ≤ 32 := by
  unfold okL at h
  simp only [Bool.and_eq_true, decide_eq_true_eq] at h
  exact h.1
theorem up_ne {l : List Lk} (h : l.Pairwise (fun x y => x.iface < y.iface)) {j k : Nat} (hj : j < l.length) (hk : k < l.length) (hjk : j ≠ k) : l[j].iface ≠ l[k].iface := by
  rcases Nat.lt_or_gt_of_ne hjk with h1 | h1
  · have := List.pairwise_iff_getElem.1 h j k hj hk h1; omega
  · have := List.pairwise_iff_getElem.1 h k j hk hj h1; omega
theorem others_none {l : List Lk} {i : Int} (h : ∀ j (hj : j < l.length), ¬ l[j].iface = i) : others l i = l := by
  unfold others
  rw [List.filter_eq_self]
  intro x hx
  obtain ⟨j, hj, rfl⟩ := List.getElem_of_mem hx
  simp [h j hj]
theorem others_cut (l : List Lk) (k : Nat) (r : Int) : others l r = others (l.take k) r ++ others (l.drop k) r := by
  unfold others
  rw [← List.filter_append, List.take_append_drop]
theorem others_at {l : List Lk} (hp : l.Pairwise (fun x y => x.iface < y.iface)) {k : Nat} (hk : k < l.length) : others l l[k].iface = l.take k ++ l.drop (k + 1) := by
  have h1 : others (l.take k) l[k].iface = l.take k := others_none (fun j hj => by
    rw [List.length_take] at hj
    rw [List.getElem_take]
    exact up_ne hp (by omega) hk (by omega))
  have h2 : others (l.drop (k + 1)) l[k].iface = l.drop (k + 1) := others_none (fun j hj => by
    rw [List.length_drop] at hj
    rw [List.getElem_drop]
    exact up_ne hp (by omega) hk (by omega))
  have h3 : others (l.drop k) l[k].iface = others (l.drop (k + 1)) l[k].iface := by
    rw [List.drop_eq_getElem_cons hk]
    unfold others
    rw [List.filter_cons_of_neg (by simp)]
  rw [others_cut l k, h1, h3, h2]
/-- the row while it is shifted -/
def shift (l : List Lk) (k t : Nat) : List Lk := l.take k ++ ((l.drop (k + 1)).take t ++ l.drop (k + t))
theorem shift_zero (l : List Lk) (k : Nat) : shift l k 0 = l := by unfold shift; simp
theorem shift_len (l : List Lk) (k t : Nat) (h : k + 1 + t ≤ l.length) : (shift l k t).length = l.length := by
  unfold shift
  rw [List.length_append, List.length_append, List.length_take, List.length_take, List.length_drop, List.length_drop]
  omega
theorem shift_get (l : List Lk) (k t : Nat) (h : k + 1 + t ≤ l.length) (j : Nat) : (shift l k t)[j]? = if j < k then l[j]? else if j < k + t then l[j + 1]? else l[j]? := by
  unfold shift
  rw [List.getElem?_append, List.length_take, Nat.min_eq_left (by omega)]
  by_cases h1 : j < k
  · rw [if_pos h1, if_pos h1, List.getElem?_take_of_lt h1]
  · rw [if_neg h1, if_neg h1, List.getElem?_append, List.length_take, List.length_drop, Nat.min_eq_left (by omega)]
    by_cases h2 : j < k + t
    · rw [if_pos (by omega), if_pos h2, List.getElem?_take_of_lt (by omega), List.getElem?_drop]
      congr 1
      omega
    · rw [if_neg (by omega), if_neg h2, List.getElem?_drop]
      congr 1
      omega
theorem shift_at (l : List Lk) (k t : Nat) (h : k + 1 + t < l.length) (h2 : k + 1 + t < (shift l k t).length) : (shift l k t)[k + 1 + t] = l[k + 1 + t] := by
  have e := shift_get l k t (by omega) (k + 1 + t)
  rw [if_neg (by omega), if_neg (by omega), List.getElem?_eq_getElem h2, List.getElem?_eq_getElem h] at e
  exact Option.some.inj e
theorem shift_step (l : List Lk) (k t : Nat) (h : k + 1 + t < l.length) : (shift l k t).set (k + t) l[k + 1 + t] = shift l k (t + 1) := by
  apply List.ext_getElem?
  intro j
  rw [List.getElem?_set, shift_len l k t (by omega), shift_get l k t (by omega), shift_get l k (t + 1) (by omega)]
  by_cases hj : k + t = j
  · subst hj
    rw [if_pos rfl, if_pos (by omega), if_neg (by omega), if_pos (by omega), ← List.getElem?_eq_getElem h]
    congr 1
    omega
  · rw [if_neg hj]
    by_cases h1 : j < k
    · rw [if_pos h1, if_pos h1]
    · rw [if_neg h1, if_neg h1]
      by_cases h2 : j < k + t
      · rw [if_pos h2, if_pos (by omega)]
      · rw [if_neg h2, if_neg (by omega)]
theorem shift_end (l : List Lk) (k : Nat) (h : k < l.length) : (shift l k (l.length - 1 - k)).take (l.length - 1) = l.take k ++ l.drop (k + 1) := by
  unfold shift
  rw [← List.append_assoc, List.take_append_of_le_length (by rw [List.length_append, List.length_take, List.length_take, List.length_drop]; omega), List.take_of_length_le (by rw [List.length_append, List.length_take, List.length_take, List.length_drop]; omega), List.take_of_length_le (l := l.drop (k + 1)) (by rw [List.length_drop]; omega)]
theorem lkCs_set (m : List Lk) (x : Lk) : ∀ j, j < m.length → ((lkCs m).set (j * 2) (.int .i64 x.iface)).set (j * 2 + 1) (.int .i64 x.peer) = lkCs (m.set j x) := by
  induction m with
  | nil => intro j h; simp at h
  | cons s m ih =>
    intro j h
    cases j with
    | zero => rfl
    | succ j =>
      have := ih j (by simpa using h)
      show ((.int .i64 s.iface :: .int .i64 s.peer :: lkCs m : List Value).set ((j + 1) * 2) _).set ((j + 1) * 2 + 1) _ = .int .i64 s.iface :: .int .i64 s.peer :: lkCs (m.set j x)
      rw [show (j + 1) * 2 = j * 2 + 1 + 1 by omega]
      simp only [List.set_cons_succ]
      rw [this]
theorem lkCs_take (l : List Lk) : ∀ j, (lkCs l).take (j * 2) = lkCs (l.take j) := by
  induction l with
  | nil => intro j; simp [lkCs]
  | cons g l ih =>
    intro j
    cases j with
    | zero => simp [lkCs]
    | succ j =>
      show (lkC g ++ lkCs l).take ((j + 1) * 2) = lkC g ++ lkCs (l.take j)
      rw [← ih j, show (j + 1) * 2 = (lkC g).length + j * 2 by show _ = 2 + _; omega, List.take_length_add_append]
theorem rise_ok (l : List Lk) : ∀ p, rise p l = true → ∀ x ∈ l, okK x = true := by
  induction l with
  | nil => intro p h x hx; cases hx
  | cons s l ih =>
    intro p h x hx
    cases p with
    | none =>
      simp only [rise, Bool.and_eq_true] at h
      rcases List.mem_cons.1 hx with rfl | hx
      · exact h.1
      · exact ih _ h.2 x hx
    | some r =>
      simp only [rise, Bool.and_eq_true] at h
      rcases List.mem_cons.1 hx with rfl | hx
      · exact h.1.1
      · exact ih _ h.2 x hx
theorem okL_mem {l : List Lk} (h : okL l = true) {x : Lk} (hx : x ∈ l) : okK x = true := by
  unfold okL at h
  simp only [Bool.and_eq_true] at h
  exact rise_ok l none h.2 x hx
end Go.Proofs.Ytklbnnnkogghpaa.Lk
namespace Go.Proofs.Ytklbnnnkogghpaa.Lk
open Go.RowKit
open Go.Proofs.Ytklbnnnkogghpaa.Addr (RowAt below2 below_drew below_new bset RowAt.lt RowAt.cell RowAt.frozen RowAt.below RowAt.drew RowAt.new RowAt.alloc cells2)
attribute [-go_sem] Builtin.append_
theorem clear_one (w : World) (ty : TypeId) (b o c : Nat) (h0 : (w.cell? ⟨b, o, none⟩).isSome = true) (h1 : (w.cell? ⟨b, o + 1, none⟩).isSome = true) (hf : ∀ j, w.frozen? ⟨b, j, none⟩ = false) :
    (Builtin.clear_ #[23] ty #[.slice (some ⟨b, o, none⟩) 1 c]).run Try.prog w = .ok (.tuple #[]) ((w.setCell ⟨b, o, none⟩ (.int .i64 0)).setCell ⟨b, o + 1, none⟩ (.int .i64 0)) := by
  obtain ⟨i0, hi0, hz0, hz1, hz2⟩ := info_parts info_lk
  have hv : ∀ w, (zeroValue 77).run Try.prog w = .ok (.agg #[.int .i64 0, .int .i64 0]) w := fun w => by simp [zeroValue, show Try.t77.zero = some (.agg #[.int .i64 0, .int .i64 0]) from by kernel_rfl]
  have hst := run_storeCells_cells (P := Try.prog) b o [.int .i64 0, .int .i64 0] 0 w (by
    intro j hj
    simp at hj
    have : j = 0 ∨ j = 1 := by omega
    rcases this with rfl | rfl
    · simpa using h0
    · simpa using h1) (fun j _ => hf _) (by intro v hv'; simp at hv'; subst hv'; rfl)
  simp only [Nat.add_zero] at hst
  have hzc : (Builtin.zeroCells (Value.cells (.agg #[.int .i64 0, .int .i64 0])) 1).toList = [.int .i64 0, .int .i64 0] := by kernel_rfl
  simp [Builtin.clear_, run_underlying Try.underlying23, hv, hzc, hst]
  rfl
theorem own_cut {W : World} {B e sz g n cap m : Nat} {xs : List Value} (h : W.ownsRow B e sz (.slice (some ⟨g, 0, none⟩) n cap) n xs) (hm : m ≤ n) : W.ownsRow B e sz (.slice (some ⟨g, 0, none⟩) m cap) m (xs.take (m * sz)) := by
  have hmn : m * sz ≤ n * sz := Nat.mul_le_mul_right sz hm
  refine ⟨by rw [List.length_take, h.1]; omega, ?_⟩
  rcases h.2 with ⟨e0, _⟩ | ⟨g', cap', cur, e1, hg, hgb, hnc, hcm, hcs, htk⟩
  · cases e0
  · injection e1 with e1 _ e3
    injection e1 with e1
    injection e1 with e1
    subst e1 e3
    exact .inr ⟨g, cap, cur, rfl, hg, hgb, Nat.le_trans hm hnc, hcm, hcs, by rw [← htk, List.take_take, Nat.min_eq_left hmn]⟩
theorem take_set (xs : List Value) (i n : Nat) (v : Value) (h : n ≤ i) : (xs.set i v).take n = xs.take n := by
  rw [List.take_set, List.set_eq_of_length_le (by rw [List.length_take]; omega)]
set_option maxHeartbeats 8000000 in
set_option maxRecDepth 20000 in
theorem delf_at (l : List Lk) (k gr cap n g B : Nat) (i : Int) (w : World) (hn : n = l.length) (hk : k < n) (hi : ∀ h : k < l.length, l[k].iface = i) (hp : l.Pairwise (fun x y => x.iface < y.iface)) (hlen : n ≤ 1000)
    (hown : w.ownsRow B 77 2 (.slice (some ⟨gr, 0, none⟩) n cap) n (lkCs l)) (hB : B ≤ gr) (hBw : B ≤ w.heap.size) (hcap : n ≤ cap ∧ cap ≤ 9223372036854775807) (hg : w.cell? ⟨g, 0, none⟩ = some (.int .i64 i)) (hgl : g < w.heap.size) (hgg : g ≠ gr)
    (ci : ∀ W : World, Below w.heap.size w W → Calls Try.prog 61 #[.slice (some ⟨gr, 0, none⟩) n cap, .func (.func 79) #[] #[.pointer (some ⟨g, 0, none⟩)]] W fun e w' => e = .returned (.int .i64 (k : Int)) ∧ Below W.heap.size W w') :
    Calls Try.prog 59 #[.slice (some ⟨gr, 0, none⟩) n cap, .func (.func 79) #[] #[.pointer (some ⟨g, 0, none⟩)]] w fun e w' => e = .returned (.slice (some ⟨gr, 0, none⟩) (n - 1) cap) ∧ w'.ownsRow B 77 2 (.slice (some ⟨gr, 0, none⟩) (n - 1) cap) (n - 1) (lkCs (l.take k ++ l.drop (k + 1))) ∧ Below B w w' := by
  have hni : (n : Int) ≤ 1000 := by omega
  have HN : Hid (n = l.length) := hn
  have HD : Hid (∀ j (h : j < l.length), j ≠ k → decide (l[j].iface = i) = false) := fun j h hjk => decide_eq_false (fun hc => up_ne hp h (by omega) hjk (by rw [hc, hi (by omega)]))
  have HOW : Hid (w.ownsRow B 77 2 (.slice (some ⟨gr, 0, none⟩) n cap) n (lkCs (shift l k 0))) := by rw [shift_zero]; exact hown
  have hk1 : ((k : Int) == -1) = false := beq_eq_false_iff_ne.2 (by omega)
  clear hown hi hp hn
  go_enter Try.func59, Try.ntmps59
  go_wp2_with fail
  go_at_call 61; refine (ci _ (Below.refl _ _)).mono ?_; rintro e w1 ⟨rfl, hb1⟩
  replace hg : w1.cell? ⟨g, 0, none⟩ = some (.int .i64 i) := (hb1.cell (p := ⟨g, 0, none⟩) hgl).trans hg
  have hgl1 : g < w1.heap.size := Nat.lt_of_lt_of_le hgl hb1.size
  have HO1 : Hid (w1.ownsRow B 77 2 (.slice (some ⟨gr, 0, none⟩) n cap) n (lkCs (shift l k 0))) := own_below HOW.out hb1
  have hBB : Below B w w1 := Below.mono hb1 hBw
  have hBw1 : B ≤ w1.heap.size := Nat.le_trans hBw hb1.size
  clear ci hb1 HOW hgl
  go_wp2_with fail
  go_loopw [5, 6] (fun a b wr => ∃ (t j q : Nat), Hid (j = k + 1 + t ∧ q = k + t) ∧ k + 1 + t ≤ n ∧ a = .int .i64 (q : Int) ∧ b = .int .i64 (j : Int) ∧ Hid (wr.ownsRow B 77 2 (.slice (some ⟨gr, 0, none⟩) n cap) n (lkCs (shift l k t))) ∧ Below B w wr ∧ wr.cell? ⟨g, 0, none⟩ = some (.int .i64 i) ∧ g < wr.heap.size ∧ B ≤ wr.heap.size) (fun _ b _ => n - (intOf b).toNat)
  case atStart => exact ⟨0, k + 1, k, ⟨rfl, rfl⟩, by omega, rfl, by first | rfl | go_num, HO1, hBB, hg, hgl1, hBw1⟩
  case round =>
    obtain ⟨t, j, q, HJ, ht, rfl, rfl, HO, hBr, hgc, hgs, hBs⟩ := hrel
    obtain ⟨hj, hq⟩ := HJ.out
    clear hg hgl1 HO1 hBB hBw1
    have hsl := shift_len l k t (by have := HN.out; omega)
    by_cases hlt : k + 1 + t < n
    · have hjl : k + 1 + t < l.length := by have := HN.out; omega
      have hh : HasLks wr (.slice (some ⟨gr, 0, none⟩) n cap) (shift l k t) := by
        unfold HasLks
        rw [hsl, ← HN.out]
        exact hasRow_own HO.out
      obtain ⟨g1, i1, e1, hg1, a0, a1⟩ := HasLks.cell hh (k + 1 + t) (by rw [hsl]; exact hjl)
      injection e1 with e1
      injection e1 with e11 e12
      subst e11 e12
      rw [shift_at l k t hjl (by rw [hsl]; exact hjl), Nat.zero_add] at a0 a1
      have cc := fun W => of1_any l[k + 1 + t] i g W
      rw [HD.out (k + 1 + t) hjl (by omega)] at cc
      have HSS : Hid (((lkCs (shift l k t)).set ((k + t) * 2) (.int .i64 l[k + 1 + t].iface)).set ((k + t) * 2 + 1) (.int .i64 l[k + 1 + t].peer) = lkCs (shift l k (t + 1))) := by
        show _ = _
        rw [lkCs_set _ l[k + 1 + t] (k + t) (by rw [hsl]; omega), shift_step l k t hjl]
      generalize l[k + 1 + t].iface = ra at *
      generalize l[k + 1 + t].peer = rb at *
      rw [← hj] at a0 a1
      rw [← hq] at HSS
      have hji : (j : Int) < (n : Int) := by omega
      have hqi : (q : Int) < (n : Int) := by omega
      clear hh hj hq hsl hlt hjl
      go_upto_region 8 with fail
      obtain ⟨X, hX⟩ : ∃ X, X = wr.alloc (.cells #[.int .i64 ra, .int .i64 rb] 77) := ⟨_, rfl⟩
      have hbX : Below wr.heap.size wr X := by rw [hX]; exact below_new (Below.refl _ _) _
      have r0 : RowAt X wr.heap.size [.int .i64 ra, .int .i64 rb] 77 := by rw [hX]; exact RowAt.new _ _ _
      rw [← hX]
      replace HO : Hid (X.ownsRow B 77 2 (.slice (some ⟨gr, 0, none⟩) n cap) n (lkCs (shift l k t))) := own_below HO.out hbX
      replace hgc : X.cell? ⟨g, 0, none⟩ = some (.int .i64 i) := (hbX.cell (p := ⟨g, 0, none⟩) hgs).trans hgc
      have hgs2 : g < X.heap.size := Nat.lt_of_lt_of_le hgs hbX.size
      have hBX : Below B w X := hBr.trans (Below.mono hbX hBs)
      have hBs2 : B ≤ X.heap.size := Nat.le_trans hBs hbX.size
      have hne : wr.heap.size ≠ gr := by omega
      clear hX hbX a0 a1 hgs hBr hBs hg1
      generalize wr.heap.size = gs at r0 hne ⊢
      obtain ⟨y0, y1, yf⟩ := cells2 r0
      go_wp2_with fail
      go_at_call 79; refine (cc _ hgc hgs2).mono ?_; rintro e w2 ⟨rfl, hb2⟩
      replace HO : Hid (w2.ownsRow B 77 2 (.slice (some ⟨gr, 0, none⟩) n cap) n (lkCs (shift l k t))) := own_below HO.out hb2
      replace hgc : w2.cell? ⟨g, 0, none⟩ = some (.int .i64 i) := (hb2.cell (p := ⟨g, 0, none⟩) hgs2).trans hgc
      have hgs3 : g < w2.heap.size := Nat.lt_of_lt_of_le hgs2 hb2.size
      have hB2 : Below B w w2 := hBX.trans (Below.mono hb2 hBs2)
      have hBs3 : B ≤ w2.heap.size := Nat.le_trans hBs2 hb2.size
      replace r0 := RowAt.below r0 hb2
      clear y0 y1 yf hb2 hgs2 hBX hBs2 cc
      obtain ⟨y0, y1, yf⟩ := cells2 r0
      have s1 := (HO.out).stored (q * 2) (.int .i64 ra)
      have s2 := (s1.1).stored (q * 2 + 1) (.int .i64 rb)
      rw [HSS.out] at s2
      have hf : ∀ j, w2.frozen? ⟨gr, j, none⟩ = false := fun j => (HO.out).frozenAt j
      have HO5 : Hid (((w2.setCell ⟨gr, q * 2, none⟩ (.int .i64 ra)).setCell ⟨gr, q * 2 + 1, none⟩ (.int .i64 rb)).ownsRow B 77 2 (.slice (some ⟨gr, 0, none⟩) n cap) n (lkCs (shift l k (t + 1)))) := s2.1
      have hc5 : ((w2.setCell ⟨gr, q * 2, none⟩ (.int .i64 ra)).setCell ⟨gr, q * 2 + 1, none⟩ (.int .i64 rb)).cell? ⟨g, 0, none⟩ = some (.int .i64 i) := by
        have h1 := s1.2.block g hgs3 (by intro e; injection e with e; exact hgg e)
        have h2 := s2.2.block g (by simp; exact hgs3) (by intro e; injection e with e; exact hgg e)
        rw [World.cell?_of_block (h2.trans h1)]
        exact hgc
      have HC5 : Hid (((w2.setCell ⟨gr, q * 2, none⟩ (.int .i64 ra)).setCell ⟨gr, q * 2 + 1, none⟩ (.int .i64 rb)).cell? ⟨g, 0, none⟩ = some (.int .i64 i)) := hc5
      have hB5 : Below B w ((w2.setCell ⟨gr, q * 2, none⟩ (.int .i64 ra)).setCell ⟨gr, q * 2 + 1, none⟩ (.int .i64 rb)) := bset (bset hB2 hB) hB
      have HB5 : Hid (Below B w ((w2.setCell ⟨gr, q * 2, none⟩ (.int .i64 ra)).setCell ⟨gr, q * 2 + 1, none⟩ (.int .i64 rb)) ∧ g < ((w2.setCell ⟨gr, q * 2, none⟩ (.int .i64 ra)).setCell ⟨gr, q * 2 + 1, none⟩ (.int .i64 rb)).heap.size ∧ B ≤ ((w2.setCell ⟨gr, q * 2, none⟩ (.int .i64 ra)).setCell ⟨gr, q * 2 + 1, none⟩ (.int .i64 rb)).heap.size) := ⟨hB5, by simp; exact hgs3, by simp; exact hBs3⟩
      have hgrl : gr < w2.heap.size := by
        have := (HO.out).lt gr rfl
        exact this.2
      have hcq : ∃ z, w2.cell? ⟨gr, q * 2, none⟩ = some z := ⟨_, (HO.out).cellAt (q * 2) (by omega) |>.trans (List.getElem?_eq_getElem (by rw [(HO.out).1]; omega))⟩
      have hcq2 : ∃ z, w2.cell? ⟨gr, q * 2 + 1, none⟩ = some z := ⟨_, (HO.out).cellAt (q * 2 + 1) (by omega) |>.trans (List.getElem?_eq_getElem (by rw [(HO.out).1]; omega))⟩
      obtain ⟨z1, hz1⟩ := hcq
      obtain ⟨z2, hz2⟩ := hcq2
      clear s1 s2 HO HSS hc5 hB5 r0
      go_wp2_with fail
      go_roundw
      case rel => exact ⟨t + 1, j + 1, q + 1, by have := HJ.out; exact ⟨by omega, by omega⟩, by have := HJ.out; omega, by go_num, by go_num, HO5, HB5.out.1, HC5.out, HB5.out.2⟩
      case measure => simp [intOf]; omega
    · have hjn : j = n := by omega
      subst hjn
      have hqn : q < j := by omega
      have hnq : j - q = 1 := by omega
      have hcq : ¬ cap = q := by omega
      have hqi : (q : Int) ≤ (j : Int) := by omega
      have hqc : (q : Int) ≤ (cap : Int) := by omega
      have HQ : Hid (q = j - 1) := by show _ = _; omega
      have hjd : decide ((j : Int) < (j : Int)) = false := decide_eq_false (by omega)
      have hcells : ∀ x, x < j * 2 → ∃ z, wr.cell? ⟨gr, x, none⟩ = some z := fun x hx => ⟨_, (HO.out).cellAt x hx |>.trans (List.getElem?_eq_getElem (by rw [(HO.out).1]; exact hx))⟩
      obtain ⟨z1, hz1⟩ := hcells (q * 2) (by omega)
      obtain ⟨z2, hz2⟩ := hcells (q * 2 + 1) (by omega)
      have hf : ∀ x, wr.frozen? ⟨gr, x, none⟩ = false := fun x => (HO.out).frozenAt x
      clear hcells hlt ht hsl hgc hgs
      have hcl := fun ty => clear_one wr ty gr (q * 2) (cap - q) (by rw [hz1]; rfl) (by rw [hz2]; rfl) hf
      have s1 := (HO.out).stored (q * 2) (.int .i64 0)
      have s2 := (s1.1).stored (q * 2 + 1) (.int .i64 0)
      obtain ⟨Z, hZ⟩ : ∃ Z, Z = (wr.setCell ⟨gr, q * 2, none⟩ (.int .i64 0)).setCell ⟨gr, q * 2 + 1, none⟩ (.int .i64 0) := ⟨_, rfl⟩
      rw [← hZ] at s2
      simp only [← hZ] at hcl
      have hBZ : Below B w Z := by rw [hZ]; exact bset (bset hBr hB) hB
      have HF : Hid (Z.ownsRow B 77 2 (.slice (some ⟨gr, 0, none⟩) (j - 1) cap) (j - 1) (lkCs (l.take k ++ l.drop (k + 1)))) := by
        have h1 := own_cut s2.1 (m := j - 1) (by omega)
        have hlj := HN.out
        have ht2 : t = l.length - 1 - k := by omega
        rw [take_set _ _ _ _ (by omega), take_set _ _ _ _ (by omega), lkCs_take, hlj, ht2, shift_end l k (by omega), ← hlj] at h1
        exact h1
      clear s1 s2 hZ HO hz1 hz2 hf hj hq HJ
      go_wp2_with fail
      go_ret
      exact ⟨by have h := HQ.out; subst h; rfl, HF.out, hBZ⟩
end Go.Proofs.Ytklbnnnkogghpaa.Lk
namespace Go.Proofs.Ytklbnnnkogghpaa.Lk
open Go.RowKit
open Go.Proofs.Ytklbnnnkogghpaa.Addr (RowAt below2 below_drew below_new bset RowAt.lt RowAt.cell RowAt.frozen RowAt.below RowAt.drew RowAt.new RowAt.alloc cells2)
attribute [-go_sem] Builtin.append_
set_option maxHeartbeats 2000000 in
theorem delf_none (v : Value) (g : Nat) (w : World) (o : Option Addr) (n c : Nat) (hv : v = .slice o n c)
    (ci : ∀ W : World, Below w.heap.size w W → Calls Try.prog 61 #[v, .func (.func 79) #[] #[.pointer (some ⟨g, 0, none⟩)]] W fun e w' => e = .returned (.int .i64 (-1)) ∧ Below W.heap.size W w') :
    Calls Try.prog 59 #[v, .func (.func 79) #[] #[.pointer (some ⟨g, 0, none⟩)]] w fun e w' => e = .returned v ∧ Below w.heap.size w w' := by
  subst hv
  go_enter Try.func59, Try.ntmps59
  go_wp2_with fail
  go_at_call 61; refine (ci _ (Below.refl _ _)).mono ?_; rintro e w1 ⟨rfl, hb1⟩
  go_wp2_with fail
  go_ret
  exact ⟨rfl, hb1⟩
theorem delf_any (l : List Lk) (v : Value) (i : Int) (g B : Nat) (w : World) (hok : okL l = true) (hown : w.ownsRow B 77 2 v l.length (lkCs l)) (hBw : B ≤ w.heap.size) (hg : w.cell? ⟨g, 0, none⟩ = some (.int .i64 i)) (hgl : g < w.heap.size) (hgr : v.ownBlock ≠ some g) :
    Calls Try.prog 59 #[v, .func (.func 79) #[] #[.pointer (some ⟨g, 0, none⟩)]] w fun e w' => ∃ u, e = .returned u ∧ w'.ownsRow B 77 2 u (others l i).length (lkCs (others l i)) ∧ u.ownBlock = v.ownBlock ∧ Below B w w' := by
  have hl : HasLks w v l := hasRow_own hown
  have hlen := okL_len2 hok
  rcases find_idx l i with ⟨h1, h2⟩ | ⟨k, hk, h1, h2⟩
  · have hot : others l i = l := others_none (fun j hj hc => by
      have := List.find?_eq_none.1 h1 l[j] (List.getElem_mem hj)
      simp [hc] at this)
    obtain ⟨o, c, hv, _, _⟩ := HasRow.slice hl
    rw [hot]
    refine (delf_none v g w o _ c hv (fun W hb => ?_)).mono ?_
    · have := idxOf_any l v i g W (hl.keep hb) ((hb.cell (p := ⟨g, 0, none⟩) hgl).trans hg) (Nat.lt_of_lt_of_le hgl hb.size)
      rw [h2] at this
      exact this
    · rintro e w' ⟨rfl, hb⟩
      exact ⟨v, rfl, own_below hown hb, rfl, Below.mono hb hBw⟩
  · have hi : l[k].iface = i := by have := List.find?_some h1; simpa using this
    rcases hown.2 with ⟨_, h0⟩ | ⟨gr, cap, cur, rfl, hgb, hgc, hnc, hcm, hcs, htk⟩
    · omega
    · have hgg : g ≠ gr := fun e => hgr (by rw [e]; rfl)
      refine (delf_at l k gr cap l.length g B i w rfl hk (fun _ => hi) (okL_up hok) (by omega) hown hgb hBw ⟨hnc, by unfold maxLen at hcm; exact hcm⟩ hg hgl hgg (fun W hb => ?_)).mono ?_
      · have := idxOf_any l _ i g W (hl.keep hb) ((hb.cell (p := ⟨g, 0, none⟩) hgl).trans hg) (Nat.lt_of_lt_of_le hgl hb.size)
        rw [h2] at this
        exact this
      · rintro e w' ⟨rfl, ho, hb⟩
        have hot : others l i = l.take k ++ l.drop (k + 1) := by rw [← hi]; exact others_at (okL_up hok) hk
        have hol : (others l i).length = l.length - 1 := by rw [hot, List.length_append, List.length_take, List.length_drop]; omega
        refine ⟨_, rfl, ?_, rfl, hb⟩
        rw [hol, hot]
        exact ho
set_option maxHeartbeats 4000000 in
set_option maxRecDepth 20000 in
theorem del_any (l : List Lk) (v : Value) (i : Int) (w : World) (hl : HasLks w v l) :
    Calls Try.prog 38 #[v, .int .i64 i] w fun e w' => ∃ u, e = .returned (.tuple #[u, .int .i64 (delL l i).2]) ∧ HasLks w' u (delL l i).1 ∧ Below w.heap.size w w' := by
  obtain ⟨o, c, rfl, hc1, hc2⟩ := HasRow.slice hl
  have cc := fun W (hb : Below w.heap.size w W) => check_any l _ W (hl.keep hb)
  have co := fun W => of_any i W
  have hck : checkL l = if okL l then 0 else 2 := rfl
  rw [hck] at cc
  cases hok : okL l
  · have hP : delL l i = ([], 2) := by unfold delL; rw [hok]; rfl
    rw [hok] at cc
    simp only [Bool.false_eq_true, if_false] at cc
    rw [hP]
    go_enter Try.func38, Try.ntmps38
    go_wp2_with fail
    go_at_call 25; refine (cc _ (Below.refl _ _)).mono ?_; rintro e w1 ⟨rfl, hb1⟩
    go_wp2_with fail
    go_ret2
    exact ⟨_, rfl, hasRow_nil _ 2, hb1⟩
  · have hlen := okL_len2 hok
    have hP : delL l i = (others l i, if (others l i).length = l.length then 3 else 0) := by unfold delL; rw [hok]; rfl
    rw [hP]
    rw [hok] at cc
    simp only [if_true] at cc
    have cl := fun W (hb : Below w.heap.size w W) => clone_any l _ W (hl.keep hb) (by omega)
    have cd := fun (W : World) (v : Value) (g B : Nat) => delf_any l v i g B W hok
    obtain ⟨m, hm⟩ : ∃ m, m = (others l i).length := ⟨_, rfl⟩
    obtain ⟨n, hn⟩ : ∃ n, n = l.length := ⟨_, rfl⟩
    have HMN : Hid (m = (others l i).length ∧ n = l.length) := ⟨hm, hn⟩
    have HOT : Hid (∀ (W : World) (u : Value) (B : Nat), W.ownsRow B 77 2 u (others l i).length (lkCs (others l i)) → HasLks W u (others l i) ∧ ∃ ou cu, u = .slice ou m cu) := fun W u B h => ⟨hasRow_own h, by obtain ⟨ou, cu, e, _, _⟩ := HasRow.slice (hasRow_own h); exact ⟨ou, cu, by rw [hm]; exact e⟩⟩
    rw [← hn] at hlen hc1 cl cc ⊢
    have hmn : (m : Int) ≤ 32 := by
      have : m ≤ n := by rw [hm, hn]; exact List.length_filter_le _ _
      omega
    have hni : (n : Int) ≤ 32 := by omega
    rw [show (if (others l i).length = n then (3 : Int) else 0) = if m = n then 3 else 0 by rw [hm]]
    obtain ⟨yy, hyy⟩ : ∃ yy : Int, yy = if m = n then 3 else 0 := ⟨_, rfl⟩
    have HY : Hid (yy = if m = n then 3 else 0) := hyy
    rw [← hyy]
    clear hP hck hm hn hl hyy
    go_enter Try.func38, Try.ntmps38
    go_wp2_with fail
    go_at_call 25; refine (cc _ (Below.refl _ _)).mono ?_; rintro e w1 ⟨rfl, hb1⟩
    go_wp2_with fail
    go_at_call 29; refine (cl _ hb1).mono ?_; rintro e w2 ⟨u2, rfl, ho2, hb2⟩
    go_wp2_with fail
    go_at_call 60; refine (co _).mono ?_; rintro e w3 ⟨rfl, hw3⟩
    have hb3 : Below w2.heap.size w2 w3 := by rw [hw3]; exact below_new (Below.refl _ _) _
    have r3 : RowAt w3 w2.heap.size [.int .i64 i] 3 := by rw [hw3]; exact RowAt.new _ _ _
    have hgr : u2.ownBlock ≠ some w2.heap.size := fun e => by have := (ho2.lt _ e).2; omega
    have ho3 := own_below ho2 hb3
    have hBw : w1.heap.size ≤ w3.heap.size := Nat.le_trans hb2.size hb3.size
    clear hw3 ho2
    generalize w2.heap.size = g at r3 hgr ⊢
    go_wp2_with fail
    go_at_call 59; refine (cd _ _ g w1.heap.size (by rw [← HMN.out.2]; exact ho3) hBw (r3.cell 0) r3.lt hgr).mono ?_; rintro e w4 ⟨u4, rfl, ho4, _, hb4⟩
    obtain ⟨hh, ou, cu, rfl⟩ := HOT.out _ _ _ ho4
    have hbw : Below w.heap.size w w4 := hb1.trans ((Below.mono ((below2 hb2 hb3).trans hb4) hb1.size))
    by_cases hmn2 : m = n
    · have hmm : ((m : Int) == (n : Int)) = true := by rw [hmn2]; simp
      have HV : Hid (yy = 3) := by show _ = _; rw [HY.out, if_pos hmn2]
      clear cd cl cc co ho3 ho4 hb2 hb3 hb4 hb1 hmn2 HY
      go_wp2_with fail
      go_ret2
      exact ⟨_, by have h := HV.out; subst h; rfl, hh, hbw⟩
    · have hmm : ((m : Int) == (n : Int)) = false := beq_eq_false_iff_ne.2 (by omega)
      have HV : Hid (yy = 0) := by show _ = _; rw [HY.out, if_neg hmn2]
      clear cd cl cc co ho3 ho4 hb2 hb3 hb4 hb1 hmn2 HY
      go_wp2_with fail
      go_ret2
      exact ⟨_, by have h := HV.out; subst h; rfl, hh, hbw⟩
end Go.Proofs.Ytklbnnnkogghpaa.Lk
namespace Go.Proofs.Ytklbnnnkogghpaa.Lk
open Go.RowKit
open Go.Proofs.Ytklbnnnkogghpaa.Addr (RowAt below2 below_drew below_new bset RowAt.lt RowAt.cell RowAt.frozen RowAt.below RowAt.drew RowAt.new RowAt.alloc cells2)
attribute [-go_sem] Builtin.append_
/-- copy, as one step of a region whose order is drawn -/
theorem copy_step {ops : Array Oper} {o : Oper} {a : Act} {w : World} {K : Act → World → Prop} {Q : Exit → Act → World → Prop} {E : Prop} (hg : o.guard = none) (d s : Operand) (t t' : TypeId)
    (ho : o.op = .call { callee := .builtin .copy, args := #[d, s], argTypes := #[t, t'] }) {v u : Value} (hd : a.eval d = v) (hs : a.eval s = u) {v' : Value} {w' : World}
    (hr : (Builtin.copy_ #[t, t'] o.type #[v, u]).run Try.prog w = .ok v' w') (hK : K (a.put o.dst v') w') : if Region.wanted o (yielded ops a.tmps) = true then Oper.wp Try.prog o a w K Q else E := by
  rw [if_pos (by simp [Region.wanted, hg])]
  simp [Oper.wp, execOp, ho, resolve, invoke, builtin, hd, hs, hr, Result.andThen]
  exact hK
/-- a row that is copied into a row that is owned -/
theorem own_copy {e sz : Nat} {dT : TypeId} (hu : Try.prog.underlying dT = some (.slice e)) (hs : (Try.prog.info? e).map (·.size) = some sz) {W : World} {B g n cap : Nat} {xs : List Value} (h : W.ownsRow B e sz (.slice (some ⟨g, 0, none⟩) n cap) n xs)
    (o dLen dCap : Nat) (a : Addr) (sLen sCap k : Nat) (cs : List Value) (hk : Nat.min sLen dLen = k) (hl : cs.length = k * sz) (hok : o * sz + k * sz ≤ n * sz) (hsrc : ∀ j v, cs[j]? = some v → W.cell? (a.add j) = some v) (h1 : ∀ v ∈ cs, v.oneCell' = true) :
    ∃ W', (∀ sT ty, (Builtin.copy_ #[dT, sT] ty #[.slice (some ⟨g, o * sz, none⟩) dLen dCap, .slice (some a) sLen sCap]).run Try.prog W = .ok (goInt k) W') ∧ W'.ownsRow B e sz (.slice (some ⟨g, 0, none⟩) n cap) n (xs.take (o * sz) ++ cs ++ xs.drop (o * sz + k * sz)) ∧ W.grownBy W' (some g) := by
  rcases h.2 with ⟨e0, _⟩ | ⟨g', cap', cur, e1, hg, hgb, hnc, hcm, hcs, htk⟩
  · cases e0
  · injection e1 with e1 _ e3
    injection e1 with e1
    injection e1 with e1
    subst e1 e3
    have hnn : n * sz ≤ cur.size := by rw [hcs]; exact Nat.mul_le_mul_right _ hnc
    have hld := run_loadCells_list (P := Try.prog) W a cs hsrc
    have hst := run_storeCells_at Try.prog g (o * sz) e cs 0 cur W hgb (by omega) h1
    refine ⟨W.setRow g (cur.toList.take (o * sz) ++ cs ++ cur.toList.drop (o * sz + cs.length)).toArray, fun sT ty => ?_, ?_, ?_⟩
    · cases hq : Try.prog.info? e with
      | none => simp [hq] at hs
      | some i =>
        have hi : i.size = sz := by simpa [hq] using hs
        rw [hl] at hld
        simp only [Nat.add_zero] at hst
        simp [Builtin.copy_, run_underlying hu, Builtin.lenOf, Builtin.firstCells, sizeOf, typeInfo, hq, hi, hk, hld, hst]
    · refine ⟨?_, .inr ⟨g, cap, _, rfl, hg, setRow_heap W g cur _ e _ hgb, hnc, hcm, ?_, ?_⟩⟩
      · have := h.1
        simp only [List.length_append, List.length_take, List.length_drop]
        omega
      · simp only [List.size_toArray, List.length_append, List.length_take, List.length_drop, Array.length_toList]
        omega
      · rw [← htk]
        simp only [List.take_append, List.length_append, List.length_take, Array.length_toList, List.take_take, List.drop_take]
        rw [Nat.min_eq_left (show o * sz ≤ cur.size by omega), Nat.min_eq_right (show o * sz ≤ n * sz by omega), Nat.min_eq_left (show o * sz ≤ n * sz by omega), List.take_of_length_le (show cs.length ≤ n * sz - o * sz by omega), hl]
    · exact ⟨rfl, rfl, rfl, by simp [World.setRow], fun k _ hk => by simp only [World.setRow]; rw [Array.getElem?_modify]; split; (rename_i h0; exact absurd (by rw [h0]) hk); rfl⟩
/-- one element more of a row that has room -/
theorem own_more {W : World} {B e sz g n cap : Nat} {xs : List Value} (h : W.ownsRow B e sz (.slice (some ⟨g, 0, none⟩) n cap) n xs) (hr : n + 1 ≤ cap) : ∃ ys, ys.length = sz ∧ W.ownsRow B e sz (.slice (some ⟨g, 0, none⟩) (n + 1) cap) (n + 1) (xs ++ ys) := by
  rcases h.2 with ⟨e0, _⟩ | ⟨g', cap', cur, e1, hg, hgb, hnc, hcm, hcs, htk⟩
  · cases e0
  · injection e1 with e1 _ e3
    injection e1 with e1
    injection e1 with e1
    subst e1 e3
    have h1 : (n + 1) * sz ≤ cur.size := by rw [hcs]; exact Nat.mul_le_mul_right _ hr
    have h2 : (n + 1) * sz = n * sz + sz := Nat.succ_mul _ _
    have h3 : cur.toList.take ((n + 1) * sz) = xs ++ (cur.toList.drop (n * sz)).take sz := by rw [h2, List.take_add, htk]
    refine ⟨(cur.toList.drop (n * sz)).take sz, ?_, ?_, .inr ⟨g, cap, cur, rfl, hg, hgb, hr, hcm, hcs, h3⟩⟩
    · rw [List.length_take, List.length_drop, Array.length_toList]; omega
    · rw [← h3, List.length_take, Array.length_toList]; omega
end Go.Proofs.Ytklbnnnkogghpaa.Lk
namespace Go.Proofs.Ytklbnnnkogghpaa.Lk
open Go.RowKit
open Go.Proofs.Ytklbnnnkogghpaa.Addr (RowAt below2 below_drew below_new bset RowAt.lt RowAt.cell RowAt.frozen RowAt.below RowAt.drew RowAt.new RowAt.alloc cells2)
attribute [-go_sem] Builtin.append_
theorem size_lk : (Try.prog.info? 77).map (·.size) = some 2 := by kernel_rfl
theorem row_one {w : World} {vb : Nat} {x : Lk} (h : RowAt w vb (lkC x) 77) : HasRow w (.slice (some ⟨vb, 0, none⟩) 1 1) 2 1 (lkC x) :=
  ⟨rfl, .inr ⟨_, 1, rfl, Nat.le_refl _, by omega, fun _ => ⟨rfl, h.lt⟩, fun j _ => by rw [addr_add, Nat.zero_add]; exact h.cell j⟩⟩
set_option maxRecDepth 20000 in
theorem overl {w : World} {vb g : Nat} {x : Lk} {B n cap o lb cb : Nat} {xs : List Value} (h : RowAt w vb (lkC x) 77) (ho : w.ownsRow B 77 2 (.slice (some ⟨g, 0, none⟩) n cap) n xs) (hn : 0 < cap) (hne : vb ≠ g) :
    (callFunc 80 #[.slice (some ⟨vb, 0, none⟩) 1 1, .slice (some ⟨g, o, none⟩) lb cb]).run Try.prog w = .ok (.value (.bool false)) w := by
  rcases ho.2 with ⟨e0, _⟩ | ⟨g', cap', cur, e1, hg, hgb, hnc, hcm, hcs, htk⟩
  · cases e0
  · injection e1 with e1 _ e3
    injection e1 with e1
    injection e1 with e1
    subst e1 e3
    obtain ⟨i0, hi0, hz0, hz1, hz2⟩ := info_parts info_lk
    have hz : ∀ w, (Go.sizeOf 77).run Try.prog w = .ok 2 w := fun w => by simp [sizeOf, typeInfo, hi0, hz1]
    have hr : w.heap[vb]? = some (.cells (lkC x).toArray 77 (0, 0)) := h
    rw [run_callFunc_extern Try.func80 (by kernel_rfl) (by kernel_rfl) (by kernel_rfl) (e := Extern.SlicesOverlaps.overlaps #[23, 23] #[4]) (by kernel_rfl),
      Lib.run_overlaps_apart w 23 4 77 Try.underlying23 2 hz ⟨vb, 0, none⟩ ⟨g, o, none⟩ 1 1 lb cb hne 77 77 2 cur.size (by unfold World.shape?; rw [hr]; rfl) (by unfold World.shape?; rw [hgb]) (by omega) (h.frozen 0) (h.frozen 2)]
    rfl
set_option maxHeartbeats 4000000 in
set_option maxRecDepth 20000 in
theorem ins_end (l : List Lk) (v : Value) (x : Lk) (vb B : Nat) (w : World) (hown : w.ownsRow B 77 2 v l.length (lkCs l)) (hB : B ≤ w.heap.size) (hlen : l.length ≤ 1000) (rv : RowAt w vb (lkC x) 77) :
    Calls Try.prog 63 #[v, .int .i64 (l.length : Int), .slice (some ⟨vb, 0, none⟩) 1 1] w fun e w' => ∃ u, e = .returned u ∧ HasLks w' u (l ++ [x]) ∧ Below B w w' := by
  obtain ⟨v', w3, hrun, h1, h2⟩ := append_row info_lk Try.underlying23 rfl (by decide) hown (row_one rv) (by have := one_links [x]; simpa [lkCs] using this) (by omega) (by omega) hB
  have HH : Hid (HasLks w3 v' (l ++ [x])) := by
    show HasRow _ _ _ _ _
    rw [lkCs_app, List.length_append]
    exact hasRow_own h1
  have hBB : Below B w w3 := (Below.refl _ w).grown h2 hB (fun k e => (hown.lt k e).1)
  obtain ⟨o, c, rfl, hc1, hc2⟩ := HasRow.slice (hasRow_own hown)
  have hni : (l.length : Int) ≤ 1000 := by omega
  clear h1 h2 hown rv
  generalize l.length = n at *
  by_cases hcn : c = n
  · subst hcn
    go_enter Try.func63, Try.ntmps63
    go_wp2
    go_ret
    exact ⟨_, rfl, HH.out, hBB⟩
  · go_enter Try.func63, Try.ntmps63
    go_wp2
    go_ret
    exact ⟨_, rfl, HH.out, hBB⟩
theorem lkCs_drop (l : List Lk) (k : Nat) : (lkCs l).drop (k * 2) = lkCs (l.drop k) := by
  induction k generalizing l with
  | zero => simp
  | succ k ih =>
    cases l with
    | nil => simp [lkCs]
    | cons y l =>
      rw [show (k + 1) * 2 = k * 2 + 1 + 1 by omega, show lkCs (y :: l) = .int .i64 y.iface :: .int .i64 y.peer :: lkCs l from rfl, List.drop_succ_cons, List.drop_succ_cons, List.drop_succ_cons]
      exact ih l
/-- what stands in the row behind both copies, in place -/
theorem ins_cells (l : List Lk) (x : Lk) (k : Nat) (hk : k ≤ l.length) (ys : List Value) (hy : ys.length = 2) :
    let a := (lkCs l ++ ys).take ((k + 1) * 2) ++ lkCs (l.drop k) ++ (lkCs l ++ ys).drop ((k + 1) * 2 + (l.length - k) * 2)
    a.take (k * 2) ++ lkC x ++ a.drop (k * 2 + 1 * 2) = lkCs (l.take k ++ ([x] ++ l.drop k)) := by
  intro a
  have hll := lkCs_len l
  have h1 : a.take (k * 2) = lkCs (l.take k) := by
    show List.take _ (_ ++ _ ++ _) = _
    rw [List.append_assoc, List.take_append_of_le_length (by rw [List.length_take, List.length_append, hll, hy]; omega), List.take_take, Nat.min_eq_left (by omega), List.take_append_of_le_length (by omega), lkCs_take]
  have h2 : a.drop (k * 2 + 1 * 2) = lkCs (l.drop k) := by
    show List.drop _ (_ ++ _ ++ _) = _
    have e : (List.take ((k + 1) * 2) (lkCs l ++ ys)).length = k * 2 + 1 * 2 := by rw [List.length_take, List.length_append, hll, hy]; omega
    rw [List.append_assoc, List.drop_append_of_le_length (by omega), List.drop_of_length_le (by omega), List.drop_of_length_le (l := lkCs l ++ ys) (by rw [List.length_append, hll, hy]; omega), List.nil_append, List.append_nil]
  rw [h1, h2, lkCs_app, lkCs_app, List.append_assoc]
  simp [lkCs]
end Go.Proofs.Ytklbnnnkogghpaa.Lk
namespace Go.Proofs.Ytklbnnnkogghpaa.Lk
open Go.RowKit
open Go.Proofs.Ytklbnnnkogghpaa.Addr (RowAt below2 below_drew below_new bset RowAt.lt RowAt.cell RowAt.frozen RowAt.below RowAt.drew RowAt.new RowAt.alloc cells2 RowAt.gkeep)
attribute [-go_sem] Builtin.append_
set_option maxHeartbeats 8000000 in
set_option maxRecDepth 20000 in
theorem ins_room (l : List Lk) (x : Lk) (k g cap vb B : Nat) (w : World) (hown : w.ownsRow B 77 2 (.slice (some ⟨g, 0, none⟩) l.length cap) l.length (lkCs l)) (hB : B ≤ w.heap.size) (hlen : l.length ≤ 1000) (hk : k < l.length) (hr : l.length + 1 ≤ cap) (hc9 : cap ≤ 9223372036854775807) (rv : RowAt w vb (lkC x) 77) (hne : vb ≠ g) :
    Calls Try.prog 63 #[.slice (some ⟨g, 0, none⟩) l.length cap, .int .i64 (k : Int), .slice (some ⟨vb, 0, none⟩) 1 1] w fun e w' => ∃ u, e = .returned u ∧ HasLks w' u (l.take k ++ ([x] ++ l.drop k)) ∧ Below B w w' := by
  have hBg : B ≤ g := (hown.lt g rfl).1
  obtain ⟨ys, hy, ho1⟩ := own_more hown hr
  have hll := lkCs_len l
  have hov : ∀ o lb cb, (callFunc 80 #[.slice (some ⟨vb, 0, none⟩) 1 1, .slice (some ⟨g, o, none⟩) lb cb]).run Try.prog w = .ok (.value (.bool false)) w := fun o lb cb => overl rv hown (by omega) hne
  obtain ⟨W1, hr1, ho2, hg1⟩ := own_copy Try.underlying23 size_lk (W := w.drew) ho1 (k + 1) (l.length + 1 - (k + 1)) (cap - (k + 1)) ⟨g, k * 2, none⟩ (l.length + 1 - k) (cap - k) (l.length - k) (lkCs (l.drop k)) (by simp only [Nat.min_def]; split <;> omega) (by rw [lkCs_len, List.length_drop]) (by omega)
    (fun j v hj => by
      have hjl := (List.getElem?_eq_some_iff.1 hj).1
      rw [lkCs_len, List.length_drop] at hjl
      rw [addr_add, show w.drew.cell? ⟨g, k * 2 + j, none⟩ = w.cell? ⟨g, k * 2 + j, none⟩ from rfl, hown.cellAt _ (by omega), ← List.getElem?_drop, lkCs_drop]
      exact hj) (one_links _)
  have rv1 : RowAt W1 vb (lkC x) 77 := RowAt.gkeep (X := w.drew) rv hg1 (by intro e; injection e with e; exact hne e)
  obtain ⟨W2, hr2, ho3, hg2⟩ := own_copy Try.underlying23 size_lk ho2 k (l.length + 1 - k) (cap - k) ⟨vb, 0, none⟩ 1 1 1 (lkC x) (by simp only [Nat.min_def]; split <;> omega) rfl (by omega)
    (fun j v hj => by rw [addr_add, Nat.zero_add, rv1.cell]; exact hj) (by have := one_links [x]; simpa [lkCs] using this)
  have hc := ins_cells l x k (by omega) ys hy
  simp only at hc
  rw [hc] at ho3
  have HH : Hid (HasLks W2 (.slice (some ⟨g, 0, none⟩) (l.length + 1) cap) (l.take k ++ ([x] ++ l.drop k))) := by
    show HasRow _ _ _ _ _
    rw [show (l.take k ++ ([x] ++ l.drop k)).length = l.length + 1 by simp; omega]
    exact hasRow_own ho3
  have hBB : Below B w W2 := ((below_drew (Below.refl _ w)).grown hg1 hB (fun q e => by injection e with e; omega)).grown hg2 (Nat.le_trans hB hg1.size) (fun q e => by injection e with e; omega)
  have hki : (k : Int) < (l.length : Int) := by omega
  have hni : (l.length : Int) ≤ 1000 := by omega
  clear hc ho3 ho2 ho1 hown rv rv1 hy hll hg1 hg2
  generalize l.length = n at *
  have hz2 : ¬ ((k : Int) = (n : Int)) := by omega
  have hck : ¬ cap = k := by omega
  have hck1 : ¬ cap = k + 1 := by omega
  have hgt : ¬ ((cap : Int) < (n : Int) + 1) := by omega
  have mixed : Try.prog.follows Departure.mixedOrders = true := by kernel_rfl
  have hw1 : IntKind.i64.wrap ((k : Int) + 1) = (k : Int) + 1 := by rw [IntKind.wrap_i64]; omega
  have hb1 : (0 : Int) ≤ (k : Int) + 1 := by omega
  have hkn : k ≤ n := by omega
  have htn : ((k : Int) + 1).toNat = k + 1 := by omega
  have hb3 : (k : Int) ≤ (n : Int) + 1 := by omega
  go_enter Try.func63, Try.ntmps63
  go_wp2_with (simp only [hov])
  go_region_law_o (refine copy_step rfl _ _ 23 23 rfl (by simp [Act.eval, Act.put]) (by simp [Act.eval, Act.put]) (hr1 _ _) ?_)
  go_wp2_with (at_builtin; refine Lib.wpList_copy_run _ rfl _ _ 23 23 rfl _ _ rfl rfl (hr2 _ _) ?_)
  go_ret
  exact ⟨_, rfl, HH.out, hBB⟩
end Go.Proofs.Ytklbnnnkogghpaa.Lk
namespace Go.Proofs.Ytklbnnnkogghpaa.Lk
open Go.RowKit
open Go.Proofs.Ytklbnnnkogghpaa.Addr (RowAt below2 below_drew below_new bset RowAt.lt RowAt.cell RowAt.frozen RowAt.below RowAt.drew RowAt.new RowAt.alloc cells2 RowAt.gkeep)
attribute [-go_sem] Builtin.append_
/-- what stands in the new row behind both copies -/
theorem grow_cells (l : List Lk) (x : Lk) (k : Nat) (hk : k ≤ l.length) (ys : List Value) (hy : ys.length = (l.length + 1 - k) * 2) :
    let a := (lkCs (l.take k) ++ ys).take (k * 2) ++ lkC x ++ (lkCs (l.take k) ++ ys).drop (k * 2 + 1 * 2)
    a.take ((k + 1) * 2) ++ lkCs (l.drop k) ++ a.drop ((k + 1) * 2 + (l.length - k) * 2) = lkCs (l.take k ++ ([x] ++ l.drop k)) := by
  intro a
  have hll := lkCs_len (l.take k)
  rw [List.length_take, Nat.min_eq_left hk] at hll
  have e1 : (lkCs (l.take k) ++ ys).take (k * 2) = lkCs (l.take k) := by rw [List.take_append_of_le_length (by omega), List.take_of_length_le (by omega)]
  have e2 : (lkCs (l.take k) ++ lkC x).length = (k + 1) * 2 := by rw [List.length_append, hll]; show _ + 2 = _; omega
  have h1 : a.take ((k + 1) * 2) = lkCs (l.take k) ++ lkC x := by
    show List.take _ (_ ++ _) = _
    rw [e1, List.take_append_of_le_length (by omega), List.take_of_length_le (by omega)]
  have h2 : a.drop ((k + 1) * 2 + (l.length - k) * 2) = [] := by
    apply List.drop_of_length_le
    show (List.length (_ ++ _)) ≤ _
    rw [e1, List.length_append, e2, List.length_drop, List.length_append, hll, hy]
    omega
  rw [h1, h2, List.append_nil, lkCs_app, lkCs_app, List.append_assoc]
  simp [lkCs]
theorem zeros_len (k : Nat) : (Builtin.zeroCells (Value.cells (.agg #[.int .i64 0, .int .i64 0])) k).size = k * 2 := by
  simp [Builtin.zeroCells, Value.cells]
set_option maxHeartbeats 8000000 in
set_option maxRecDepth 20000 in
theorem ins_grow (l : List Lk) (x : Lk) (k g cap vb B : Nat) (w : World) (hown : w.ownsRow B 77 2 (.slice (some ⟨g, 0, none⟩) l.length cap) l.length (lkCs l)) (hB : B ≤ w.heap.size) (hlen : l.length ≤ 1000) (hk : k < l.length) (hnc : l.length ≤ cap) (hr : cap < l.length + 1) (rv : RowAt w vb (lkC x) 77) :
    Calls Try.prog 63 #[.slice (some ⟨g, 0, none⟩) l.length cap, .int .i64 (k : Int), .slice (some ⟨vb, 0, none⟩) 1 1] w fun e w' => ∃ u, e = .returned u ∧ HasLks w' u (l.take k ++ ([x] ++ l.drop k)) ∧ Below B w w' := by
  obtain ⟨i0, hi0, hz0, hzs, hzb⟩ := info_parts info_lk
  have hll := lkCs_len l
  have hik : k + (l.length + 1 - k) = l.length + 1 := by omega
  have hgw : g < w.heap.size := (hown.lt g rfl).2
  have hold : (Builtin.firstCells i0.size k (.slice (some ⟨g, 0, none⟩) k cap)).run Try.prog w.drew = .ok (lkCs (l.take k)).toArray w.drew := by
    rw [hzs]
    exact run_firstCells_some w.drew 2 k ⟨g, 0, none⟩ k cap (lkCs (l.take k)) (by rw [lkCs_len, List.length_take]; omega) (fun j v hj => by
      have hjl := (List.getElem?_eq_some_iff.1 hj).1
      rw [lkCs_len, List.length_take] at hjl
      rw [addr_add, Nat.zero_add, show w.drew.cell? ⟨g, j, none⟩ = w.cell? ⟨g, j, none⟩ from rfl, hown.cellAt _ (by omega), ← hj, ← lkCs_take, List.getElem?_take, if_pos (by omega)])
  obtain ⟨G, hG⟩ : ∃ G, G = grownCap w (l.length + 1) cap 77 := ⟨_, rfl⟩
  have hGn : l.length + 1 ≤ G := by rw [hG]; exact grownCap_ge w _ _ _
  have hGm : G ≤ maxLen := by rw [hG]; exact grownCap_le_maxLen w (l.length + 1) cap 77 (by unfold maxLen; omega)
  obtain ⟨ZS, hZS⟩ : ∃ ZS, ZS = Builtin.zeroCells (Value.cells (.agg #[.int .i64 0, .int .i64 0])) (l.length + 1 - k) := ⟨_, rfl⟩
  obtain ⟨ZR, hZR⟩ : ∃ ZR, ZR = Builtin.zeroCells (Value.cells (.agg #[.int .i64 0, .int .i64 0])) (G - (l.length + 1)) := ⟨_, rfl⟩
  have hZl : ZS.size = (l.length + 1 - k) * 2 := by rw [hZS, zeros_len]
  have hZT : ZS.toList.length = (l.length + 1 - k) * 2 := by rw [Array.length_toList, hZl]
  have hZr : ZR.size = (G - (l.length + 1)) * 2 := by rw [hZR, zeros_len]
  obtain ⟨W1, hW1⟩ : ∃ W1, W1 = w.drew.alloc (.cells ((lkCs (l.take k)).toArray ++ ZS ++ ZR) 77) := ⟨_, rfl⟩
  have hrz : ∀ ty, (Builtin.append_ #[23, 3] ty #[.slice (some ⟨g, 0, none⟩) k cap, .int .i64 ((l.length : Int) + 1 - (k : Int))]).run Try.prog w = .ok (.slice (some ⟨w.heap.size, 0, none⟩) (l.length + 1) G) W1 := fun ty => by
    have h := Lib.run_append_grow_zeros (P := Try.prog) w 23 3 ty 77 i0 _ .i64 .i64 Try.underlying23 Try.underlying3 hi0 hz0 (some ⟨g, 0, none⟩) k cap (lkCs (l.take k)) hold (l.length + 1 - k) (by omega) (by omega) (by omega) (by omega) (by rw [hzb]; omega) (by rw [hzb, hik]; exact growslice_fits hr (by omega))
    rw [hik, ← hG, ← hZS, ← hZR, ← hW1] at h
    rw [show (l.length : Int) + 1 - (k : Int) = ((l.length + 1 - k : Nat) : Int) by omega]
    exact h
  have htl : (lkCs (l.take k)).length = k * 2 := by rw [lkCs_len, List.length_take, Nat.min_eq_left (by omega)]
  have hb1 : Below w.heap.size w W1 := by rw [hW1]; exact below_new (below_drew (Below.refl _ w)) _
  have ho1 : W1.ownsRow B 77 2 (.slice (some ⟨w.heap.size, 0, none⟩) (l.length + 1) G) (l.length + 1) (lkCs (l.take k) ++ ZS.toList) := by
    refine ⟨by rw [List.length_append, htl, hZT]; omega, .inr ⟨w.heap.size, G, _, rfl, hB, by rw [hW1]; exact heap_alloc_new w.drew _, hGn, hGm, ?_, ?_⟩⟩
    · simp only [Array.size_append, List.size_toArray, htl, hZl, hZr]; omega
    · simp only [Array.toList_append]
      rw [List.take_append_of_le_length (by rw [List.length_append, htl, hZT]; omega), List.take_of_length_le (by rw [List.length_append, htl, hZT]; omega)]
  have rv1 := rv.below hb1
  obtain ⟨W2, hr2, ho2, hg2⟩ := own_copy Try.underlying23 size_lk ho1 k (l.length + 1 - k) (G - k) ⟨vb, 0, none⟩ 1 1 1 (lkC x) (by simp only [Nat.min_def]; split <;> omega) rfl (by omega)
    (fun j v hj => by rw [addr_add, Nat.zero_add, rv1.cell]; exact hj) (by have := one_links [x]; simpa [lkCs] using this)
  have hown1 := own_below hown hb1
  obtain ⟨W3, hr3, ho3, hg3⟩ := own_copy Try.underlying23 size_lk (W := W2.drew) ho2 (k + 1) (l.length + 1 - (k + 1)) (G - (k + 1)) ⟨g, k * 2, none⟩ (l.length - k) (cap - k) (l.length - k) (lkCs (l.drop k)) (by simp only [Nat.min_def]; split <;> omega) (by rw [lkCs_len, List.length_drop]) (by omega)
    (fun j v hj => by
      have hjl := (List.getElem?_eq_some_iff.1 hj).1
      rw [lkCs_len, List.length_drop] at hjl
      have h5 : W1.cell? ⟨g, k * 2 + j, none⟩ = some v := by rw [hown1.cellAt _ (by omega), ← List.getElem?_drop, lkCs_drop]; exact hj
      rw [addr_add]
      exact hg2.cell h5 (by intro e; injection e with e; simp only at e; omega)) (one_links _)
  have hc := grow_cells l x k (by omega) ZS.toList hZT
  simp only at hc
  rw [hc] at ho3
  have HH : Hid (HasLks W3 (.slice (some ⟨w.heap.size, 0, none⟩) (l.length + 1) G) (l.take k ++ ([x] ++ l.drop k))) := by
    show HasRow _ _ _ _ _
    rw [show (l.take k ++ ([x] ++ l.drop k)).length = l.length + 1 by simp; omega]
    exact hasRow_own ho3
  have hBB : Below B w W3 := (below_drew ((Below.mono hb1 hB).grown hg2 (Nat.le_trans hB hb1.size) (fun q e => by injection e with e; omega))).grown hg3 (Nat.le_trans hB (Nat.le_trans hb1.size hg2.size)) (fun q e => by injection e with e; omega)
  have hki : (k : Int) < (l.length : Int) := by omega
  have hni : (l.length : Int) ≤ 1000 := by omega
  have hG9 : G ≤ 9223372036854775807 := by unfold maxLen at hGm; exact hGm
  clear hZT hc ho3 ho2 ho1 hown hown1 rv rv1 hll hg2 hg3 hold hZS hZR hZl hZr hW1 hGm htl hb1 hik hG hi0 hz0 hzs hzb
  generalize l.length = n at *
  generalize w.heap.size = N at *
  have hz2 : ¬ ((k : Int) = (n : Int)) := by omega
  have hck : ¬ cap = k := by omega
  have hGk : ¬ G = k := by omega
  have hGk1 : ¬ G = k + 1 := by omega
  have hgt : (cap : Int) < (n : Int) + 1 := by omega
  have mixed : Try.prog.follows Departure.mixedOrders = true := by kernel_rfl
  have hw1 : IntKind.i64.wrap ((k : Int) + 1) = (k : Int) + 1 := by rw [IntKind.wrap_i64]; omega
  have hb1 : (0 : Int) ≤ (k : Int) + 1 := by omega
  have hkn : k ≤ n := by omega
  have hkc : (k : Int) ≤ (cap : Int) := by omega
  have htn : ((k : Int) + 1).toNat = k + 1 := by omega
  have hb3 : (k : Int) ≤ (n : Int) + 1 := by omega
  have hw2 : IntKind.i64.wrap ((n : Int) + 1 - (k : Int)) = (n : Int) + 1 - (k : Int) := by rw [IntKind.wrap_i64]; omega
  go_enter Try.func63, Try.ntmps63
  go_wp2_with (at_builtin; first | refine Lib.wpList_append_run _ rfl _ _ _ _ rfl _ _ rfl rfl _ _ (hrz _) ?_ | refine Lib.wpList_copy_run _ rfl _ _ 23 23 rfl _ _ rfl rfl (hr2 _ _) ?_)
  go_region_law_o (refine copy_step rfl _ _ 23 23 rfl (by simp [Act.eval, Act.put]) (by simp [Act.eval, Act.put]) (hr3 _ _) ?_)
  go_wp2_with fail
  go_ret
  exact ⟨_, rfl, HH.out, hBB⟩
theorem ins_any (l : List Lk) (v : Value) (x : Lk) (k vb B : Nat) (w : World) (hown : w.ownsRow B 77 2 v l.length (lkCs l)) (hB : B ≤ w.heap.size) (hlen : l.length ≤ 1000) (hk : k ≤ l.length) (rv : RowAt w vb (lkC x) 77) (hne : v.ownBlock ≠ some vb) :
    Calls Try.prog 63 #[v, .int .i64 (k : Int), .slice (some ⟨vb, 0, none⟩) 1 1] w fun e w' => ∃ u, e = .returned u ∧ HasLks w' u (l.take k ++ ([x] ++ l.drop k)) ∧ Below B w w' := by
  rcases Nat.lt_or_ge k l.length with h | h
  · rcases hown.2 with ⟨_, h0⟩ | ⟨g, cap, cur, rfl, hgb, hgc, hnc, hcm, hcs, htk⟩
    · omega
    · rcases Nat.lt_or_ge cap (l.length + 1) with h1 | h1
      · exact ins_grow l x k g cap vb B w hown hB hlen h hnc h1 rv
      · exact ins_room l x k g cap vb B w hown hB hlen h h1 (by unfold maxLen at hcm; exact hcm) rv (fun e => hne (by rw [e]; rfl))
  · obtain rfl : k = l.length := by omega
    rw [List.take_length, List.drop_length]
    exact ins_end l v x vb B w hown hB hlen rv
end Go.Proofs.Ytklbnnnkogghpaa.Lk
namespace Go.Proofs.Ytklbnnnkogghpaa.Lk
theorem all_behind {l : List Lk} {i : Int} (h : ∀ x ∈ l, i < x.iface) : aheadL l i = [] ∧ ofL l i = [] ∧ behindL l i = l ∧ others l i = l := by
  unfold aheadL ofL behindL others
  refine ⟨List.filter_eq_nil_iff.2 (fun x hx => by have := h x hx; simp; omega), List.filter_eq_nil_iff.2 (fun x hx => by have := h x hx; simp; omega), List.filter_eq_self.2 (fun x hx => by have := h x hx; simpa using this), List.filter_eq_self.2 (fun x hx => by have := h x hx; simp; omega)⟩
theorem others_split {l : List Lk} (h : l.Pairwise (fun x y => x.iface < y.iface)) (i : Int) : others l i = aheadL l i ++ behindL l i ∧ l.length = (others l i).length + (ofL l i).length := by
  induction l with
  | nil => exact ⟨rfl, rfl⟩
  | cons s t ih =>
    rw [List.pairwise_cons] at h
    obtain ⟨h1, h2⟩ := ih h.2
    have eA : aheadL (s :: t) i = (if s.iface < i then [s] else []) ++ aheadL t i := by
      unfold aheadL; by_cases q : s.iface < i <;> simp [q]
    have eB : behindL (s :: t) i = (if i < s.iface then [s] else []) ++ behindL t i := by
      unfold behindL; by_cases q : i < s.iface <;> simp [q]
    have eO : others (s :: t) i = (if s.iface = i then [] else [s]) ++ others t i := by
      unfold others; by_cases q : s.iface = i <;> simp [q]
    have eF : ofL (s :: t) i = (if s.iface = i then [s] else []) ++ ofL t i := by
      unfold ofL; by_cases q : s.iface = i <;> simp [q]
    rcases Int.lt_trichotomy s.iface i with q | q | q
    · have n1 : ¬ i < s.iface := by omega
      have n2 : ¬ s.iface = i := by omega
      rw [eA, eB, eO, eF, h1]
      simp only [if_pos q, if_neg n1, if_neg n2]
      refine ⟨by simp, ?_⟩
      rw [h1] at h2
      simp only [List.length_cons, List.length_append, List.length_nil] at h2 ⊢
      omega
    · obtain ⟨b1, b2, b3, b4⟩ := all_behind (l := t) (i := i) (fun x hx => by have := h.1 x hx; omega)
      have n1 : ¬ s.iface < i := by omega
      have n2 : ¬ i < s.iface := by omega
      rw [eA, eB, eO, eF, b1, b2, b3, b4]
      simp only [if_pos q, if_neg n1, if_neg n2]
      exact ⟨rfl, by simp⟩
    · obtain ⟨b1, b2, b3, b4⟩ := all_behind (l := t) (i := i) (fun x hx => by have := h.1 x hx; omega)
      have n1 : ¬ s.iface < i := by omega
      have n2 : ¬ s.iface = i := by omega
      rw [eA, eB, eO, eF, b1, b2, b3, b4]
      simp only [if_pos q, if_neg n1, if_neg n2]
      exact ⟨rfl, by simp⟩
end Go.Proofs.Ytklbnnnkogghpaa.Lk
namespace Go.Proofs.Ytklbnnnkogghpaa.Lk
open Go.RowKit Go.Shelf
open Go.Proofs.Ytklbnnnkogghpaa.Addr (RowAt below2 below_drew below_new bset RowAt.lt RowAt.cell RowAt.frozen RowAt.below RowAt.drew RowAt.new RowAt.alloc cells2)
attribute [-go_sem] Builtin.append_
theorem place_put {l : List Lk} (hp : l.Pairwise (fun x y => x.iface < y.iface)) (i : Int) :
    ∃ k, k ≤ (others l i).length ∧ (idxL (fun y : Lk => decide (i < y.iface)) (others l i) = (k : Int) ∨ (idxL (fun y : Lk => decide (i < y.iface)) (others l i) = -1 ∧ k = (others l i).length)) ∧ (others l i).take k = aheadL l i ∧ (others l i).drop k = behindL l i := by
  have hs := (others_split hp i).1
  refine ⟨(aheadL l i).length, by rw [hs, List.length_append]; omega, ?_, by rw [hs, List.take_left], by rw [hs, List.drop_left]⟩
  have ha : ∀ j (hj : j < (others l i).length), j < (aheadL l i).length → decide (i < (others l i)[j].iface) = false := fun j hj hja => by
    have hm : (others l i)[j] ∈ aheadL l i := by
      have : (others l i)[j] = (aheadL l i)[j] := by simp only [hs]; rw [List.getElem_append_left hja]
      rw [this]; exact List.getElem_mem _
    have := (List.mem_filter.1 hm).2
    simp only [decide_eq_true_eq] at this
    exact decide_eq_false (by omega)
  rcases Nat.eq_zero_or_pos (behindL l i).length with h0 | h0
  · right
    have hl : (others l i).length = (aheadL l i).length := by rw [hs, List.length_append]; omega
    exact ⟨idx_none (fun j hj => ha j hj (by omega)), hl.symm⟩
  · left
    have hl : (aheadL l i).length < (others l i).length := by rw [hs, List.length_append]; omega
    refine idx_at hl ha ?_
    have hm : (others l i)[(aheadL l i).length] ∈ behindL l i := by
      have : (others l i)[(aheadL l i).length] = (behindL l i)[0] := by simp only [hs]; rw [List.getElem_append_right (Nat.le_refl _)]; simp
      rw [this]; exact List.getElem_mem _
    exact (List.mem_filter.1 hm).2
theorem own_base {W : World} {m k e size n : Nat} {v : Value} {xs : List Value} (h : W.ownsRow m e size v n xs) (hk : k ≤ m) : W.ownsRow k e size v n xs := by
  refine ⟨h.1, ?_⟩
  rcases h.2 with h0 | ⟨g, cap, cur, e1, hg, rest⟩
  · exact .inl h0
  · exact .inr ⟨g, cap, cur, e1, Nat.le_trans hk hg, rest⟩
set_option maxHeartbeats 8000000 in
set_option maxRecDepth 20000 in
theorem put_any (l : List Lk) (v : Value) (x : Lk) (w : World) (hl : HasLks w v l) :
    Calls Try.prog 37 #[v, .agg #[.int .i64 x.iface, .int .i64 x.peer]] w fun e w' => ∃ u, e = .returned (.tuple #[u, .int .i64 (putL l x).2]) ∧ HasLks w' u (putL l x).1 ∧ Below w.heap.size w w' := by
  obtain ⟨o, c, rfl, hc1, hc2⟩ := HasRow.slice hl
  have cc := fun W (hb : Below w.heap.size w W) => check_any l _ W (hl.keep hb)
  have c1 := fun W => right_any x W
  have hck : checkL l = if okL l then 0 else 2 := rfl
  rw [hck] at cc
  have hPd : putL l x = if okL l && okK x then (if (others l x.iface).length = 32 then (others l x.iface, 8) else (aheadL l x.iface ++ ([x] ++ behindL l x.iface), 0)) else ([], 2) := rfl
  obtain ⟨X, hX⟩ : ∃ X, X = w.alloc (.cells #[.int .i64 x.iface, .int .i64 x.peer] 77) := ⟨_, rfl⟩
  have hB : Below w.heap.size w X := by rw [hX]; exact below_new (Below.refl _ _) _
  have r0 : RowAt X w.heap.size [.int .i64 x.iface, .int .i64 x.peer] 77 := by rw [hX]; exact RowAt.new _ _ _
  cases hok : okL l
  · rw [hok] at cc hPd
    simp only [Bool.false_eq_true, if_false, Bool.false_and] at cc hPd
    rw [hPd]
    clear hPd
    go_enter Try.func37, Try.ntmps37
    go_upto_region 1 with fail
    rw [← hX]
    clear hX
    go_wp2_with fail
    go_at_call 25; refine (cc _ hB).mono ?_; rintro e w1 ⟨rfl, hb1⟩
    go_wp2_with fail
    go_ret2
    exact ⟨_, rfl, hasRow_nil _ 2, below2 hB hb1⟩
  rw [hok] at cc hPd
  simp only [if_true, Bool.true_and] at cc hPd
  cases hox : okK x
  · rw [hox] at c1 hPd
    simp only [Bool.false_eq_true, if_false] at hPd
    rw [hPd]
    clear hPd
    obtain ⟨a, b⟩ := x
    simp only at *
    go_enter Try.func37, Try.ntmps37
    go_upto_region 1 with fail
    rw [← hX]
    clear hX
    go_wp2_with fail
    go_at_call 25; refine (cc _ hB).mono ?_; rintro e w1 ⟨rfl, hb1⟩
    replace r0 := RowAt.below r0 hb1
    obtain ⟨y0, y1, yf⟩ := cells2 r0
    go_wp2_with fail
    go_at_call 47; refine (c1 _).mono ?_; rintro e w2 ⟨rfl, hb2⟩
    go_wp2_with fail
    go_ret2
    exact ⟨_, rfl, hasRow_nil _ 2, below2 (below2 hB hb1) hb2⟩
  rw [hox] at c1 hPd
  simp only [if_true] at hPd
  have hlen := okL_len2 hok
  have hol : (others l x.iface).length ≤ l.length := List.length_filter_le _ _
  have cl := fun W (hb : Below w.heap.size w W) => clone_any l _ W (hl.keep hb) (by omega)
  have co := fun W => of_any x.iface W
  have cd := fun (W : World) (v : Value) (g B : Nat) => delf_any l v x.iface g B W hok
  have ci := fun (W : World) (v : Value) (g : Nat) => idxPut_any (others l x.iface) v x.iface g W
  have cn := fun (W : World) (v : Value) (k vb B : Nat) => ins_any (others l x.iface) v x k vb B W
  obtain ⟨k, hk1, hk2, hk3, hk4⟩ := place_put (okL_up hok) x.iface
  obtain ⟨m, hm⟩ : ∃ m, m = (others l x.iface).length := ⟨_, rfl⟩
  have HOT : Hid (∀ (W : World) (u : Value) (B : Nat), W.ownsRow B 77 2 u (others l x.iface).length (lkCs (others l x.iface)) → HasLks W u (others l x.iface) ∧ ∃ ou cu, u = .slice ou m cu) := fun W u B h => ⟨hasRow_own h, by obtain ⟨ou, cu, e, _, _⟩ := HasRow.slice (hasRow_own h); exact ⟨ou, cu, by rw [hm]; exact e⟩⟩
  have HM : Hid (m = (others l x.iface).length ∧ m ≤ 32) := ⟨hm, by omega⟩
  have HIN : Hid (∀ (W : World) (u : Value) (vb B : Nat), W.ownsRow B 77 2 u (others l x.iface).length (lkCs (others l x.iface)) → B ≤ W.heap.size → RowAt W vb [.int .i64 x.iface, .int .i64 x.peer] 77 → u.ownBlock ≠ some vb →
      Calls Try.prog 63 #[u, .int .i64 (k : Int), .slice (some ⟨vb, 0, none⟩) 1 1] W fun e w' => ∃ u, e = .returned u ∧ HasLks w' u (aheadL l x.iface ++ ([x] ++ behindL l x.iface)) ∧ Below B W w') := fun W u vb B h1 h2 h3 h4 => by
    have := cn W u k vb B h1 h2 (by omega) hk1 h3 h4
    rw [hk3, hk4] at this
    exact this
  rw [← hm] at hk1 hk2 hPd
  have hmi : (m : Int) ≤ 32 := by omega
  rw [hPd]
  obtain ⟨PL, hPL⟩ : ∃ PL, PL = (if m = 32 then (others l x.iface, 8) else (aheadL l x.iface ++ ([x] ++ behindL l x.iface), 0) : List Lk × Int) := ⟨_, rfl⟩
  have HP : Hid (PL = (if m = 32 then (others l x.iface, 8) else (aheadL l x.iface ++ ([x] ++ behindL l x.iface), 0) : List Lk × Int)) := hPL
  rw [← hPL]
  generalize idxL (fun y : Lk => decide (x.iface < y.iface)) (others l x.iface) = q at ci hk2
  obtain ⟨n, hn⟩ : ∃ n, n = l.length := ⟨_, rfl⟩
  have HN : Hid (n = l.length) := hn
  rw [← hn] at hlen hc1 cl cc ⊢
  have hni : (n : Int) ≤ 32 := by omega
  clear hPd hPL hm hn hl hk3 hk4 cn hck hol
  generalize x.iface = a at *
  generalize x.peer = b at *
  go_enter Try.func37, Try.ntmps37
  go_upto_region 1 with fail
  rw [← hX]
  clear hX
  go_wp2_with fail
  go_at_call 25; refine (cc _ hB).mono ?_; rintro e w1 ⟨rfl, hb1⟩
  replace r0 := RowAt.below r0 hb1
  have hbw1 := below2 hB hb1
  clear cc hB hb1
  have hgl : w.heap.size < w1.heap.size := r0.lt
  obtain ⟨y0, y1, yf⟩ := cells2 r0
  go_wp2_with fail
  go_at_call 47; refine (c1 _).mono ?_; rintro e w2 ⟨rfl, hb2⟩
  replace r0 := RowAt.below r0 hb2
  have hbw2 := below2 hbw1 hb2
  clear c1 y0 y1 yf hb2 hbw1 hgl
  have cl2 : ∀ W, Below w2.heap.size w2 W → Calls Try.prog 29 #[.slice o n c] W fun e w' => ∃ u, e = .returned u ∧ w'.ownsRow w2.heap.size 77 2 u n (lkCs l) ∧ Below w2.heap.size w2 w' := fun W hb => by
    refine (cl W (hbw2.trans (Below.mono hb hbw2.size))).mono ?_
    rintro e w' ⟨u, rfl, h1, h2⟩
    exact ⟨u, rfl, own_base h1 hb.size, hb.trans (Below.mono h2 hb.size)⟩
  have HSK : Hid (∀ W : World, Below w2.heap.size w2 W → W.cell? ⟨w.heap.size, 0, none⟩ = some (.int .i64 a)) := fun W hb => (RowAt.below r0 hb).cell 0
  have hbA : Below w2.heap.size w2 w2 := Below.refl _ _
  go_wp2_with fail
  go_region_held3 (fun w' => w'.cell? ⟨w.heap.size, 0, none⟩ = some (.int .i64 a))
    (first
      | (refine HSK.out _ ?_
         repeat' (first | with_reducible exact hbA | with_reducible apply below_drew)))
    (first
      | (go_at_call 29; with_reducible refine (cl2 _ (by repeat' (first | with_reducible exact hbA | with_reducible apply below_drew))).mono ?_; rintro e w3 ⟨u2, rfl, ho2, hbN⟩
         clear hbA
         have hbA := hbN
         clear hbN)
      | (go_at_call 60; with_reducible refine (co _).mono ?_; rintro e w4 ⟨rfl, hw4⟩
         have hb4 : Below w3.heap.size w3 w4 := (by rw [hw4]; exact below_new (by repeat' (first | exact Below.refl _ _ | apply below_drew)) _)
         have r4 : RowAt w4 w3.heap.size [.int .i64 a] 3 := (by rw [hw4]; exact RowAt.new _ _ _)
         have hgr : u2.ownBlock ≠ some w3.heap.size := (fun e => by have := (ho2.lt _ e).2; omega)
         have ho4 := own_below ho2 hb4
         have hbN := below2 hbA hb4
         clear hw4 hbA hb4 ho2
         have hbA := hbN
         clear hbN
         generalize w3.heap.size = g at r4 hgr ⊢
         have hc4 : w4.cell? ⟨g, 0, none⟩ = some (.int .i64 a) := r4.cell 0
         have hl4 := r4.lt
         clear r4)
      | (go_at_call 59; with_reducible refine (cd _ _ g w2.heap.size (by rw [← HN.out]; exact ho4) hbA.size hc4 hl4 hgr).mono ?_; rintro e w5 ⟨u5, rfl, ho5, _, hb5⟩
         have hbN := hbA.trans hb5
         clear hbA
         have hbA := hbN
         clear hbN
         obtain ⟨hh, ou, cu, rfl⟩ := HOT.out _ _ _ ho5))
  clear HSK cl cl2 co cd
  have hbw5 : Below w.heap.size w w5 := hbw2.trans (Below.mono hbA hbw2.size)
  have hB5 : w2.heap.size ≤ w5.heap.size := hbA.size
  have r5 := RowAt.below r0 hbA
  have hX5 : w.heap.size < w5.heap.size := r5.lt
  clear hbA hb5
  by_cases hm32 : m = 32
  · have hPv := HP.out
    rw [if_pos hm32] at hPv
    subst hm32
    clear HP ci HIN
    go_wp2_with fail
    go_ret2
    exact ⟨_, by rw [hPv]; rfl, by rw [hPv]; exact hh, hbw5⟩
  · have hPv := HP.out
    rw [if_neg hm32] at hPv
    have hmm : ((m : Int) == 32) = false := beq_eq_false_iff_ne.2 (by omega)
    have HPV : Hid (PL = (aheadL l a ++ ([x] ++ behindL l a), 0)) := hPv
    clear HP hPv hm32
    go_wp2_with fail
    go_at_call 61; refine (ci _ _ w.heap.size hh (r5.cell 0) hX5).mono ?_; rintro e w6 ⟨rfl, hb6⟩
    have ho6 := own_below ho5 hb6
    have hbw6 := below2 hbw5 hb6
    replace hB5 := Nat.le_trans hB5 hb6.size
    replace r5 := RowAt.below r5 hb6
    have hX6 : w.heap.size < w6.heap.size := r5.lt
    clear ci hb6 ho5 hbw5 hX5 hh
    obtain ⟨y0, y1, yf⟩ := cells2 r5
    have hgr6 : ∀ t, w6.heap.size ≤ t → (Value.slice ou m cu).ownBlock ≠ some t := fun t ht e => by have := (ho6.lt _ e).2; omega
    have hbN : Below w6.heap.size w6 (w6.alloc (.cells #[.int .i64 a, .int .i64 b] 77)) := below_new (Below.refl _ _) _
    have rN : RowAt (w6.alloc (.cells #[.int .i64 a, .int .i64 b] 77)) w6.heap.size [.int .i64 a, .int .i64 b] 77 := RowAt.new _ _ _
    have hbwN := below2 hbw6 hbN
    have hBN : w2.heap.size ≤ (w6.alloc (.cells #[.int .i64 a, .int .i64 b] 77)).heap.size := Nat.le_trans hB5 hbN.size
    have cn := HIN.out _ (.slice ou m cu) _ w2.heap.size (own_below ho6 hbN) hBN rN (hgr6 _ (Nat.le_refl _))
    clear HIN hgr6 hBN rN
    have HW : Hid (∀ w', Below w2.heap.size (w6.alloc (.cells #[.int .i64 a, .int .i64 b] 77)) w' → Below w.heap.size w w') := fun w' h => hbwN.trans (Below.mono h hbw2.size)
    clear hbwN hbN hbw6 ho6
    rcases hk2 with rfl | ⟨rfl, rfl⟩
    · have hk0 : ¬ ((k : Int) < 0) := by omega
      go_wp2_with fail
      go_at_call 63; refine cn.mono ?_; rintro e w7 ⟨u7, rfl, hh7, hb7⟩
      have hF := HW.out _ hb7
      have hPv := HPV.out
      clear HW hb7 y0 y1 yf
      go_wp2_with fail
      go_ret2
      exact ⟨_, by rw [hPv]; rfl, by rw [hPv]; exact hh7, hF⟩
    · go_wp2_with fail
      go_at_call 63; refine cn.mono ?_; rintro e w7 ⟨u7, rfl, hh7, hb7⟩
      have hF := HW.out _ hb7
      have hPv := HPV.out
      clear HW hb7 y0 y1 yf
      go_wp2_with fail
      go_ret2
      exact ⟨_, by rw [hPv]; rfl, by rw [hPv]; exact hh7, hF⟩
end Go.Proofs.Ytklbnnnkogghpaa.Lk
namespace Go.Proofs.Ytklbnnnkogghpaa.Lk
abbrev Up (l : List Lk) : Prop := l.Pairwise (fun x y => x.iface < y.iface)
theorem ext_up : ∀ (a b : List Lk), Up a → Up b → (∀ z, z ∈ a ↔ z ∈ b) → a = b := by
  intro a
  induction a with
  | nil =>
    intro b _ _ h
    cases b with
    | nil => rfl
    | cons y b => exact absurd ((h y).2 List.mem_cons_self) (by simp)
  | cons x a ih =>
    intro b ha hb h
    cases b with
    | nil => exact absurd ((h x).1 List.mem_cons_self) (by simp)
    | cons y b =>
      have h1 := List.pairwise_cons.1 ha
      have h2 := List.pairwise_cons.1 hb
      have hxy : x = y := by
        rcases List.mem_cons.1 ((h x).1 List.mem_cons_self) with e | e
        · exact e
        · rcases List.mem_cons.1 ((h y).2 List.mem_cons_self) with e2 | e2
          · exact e2.symm
          · have := h2.1 x e; have := h1.1 y e2; omega
      subst hxy
      congr 1
      refine ih b h1.2 h2.2 (fun z => ?_)
      constructor
      · intro hz
        rcases List.mem_cons.1 ((h z).1 (List.mem_cons_of_mem _ hz)) with e | e
        · subst e; have := h1.1 z hz; omega
        · exact e
      · intro hz
        rcases List.mem_cons.1 ((h z).2 (List.mem_cons_of_mem _ hz)) with e | e
        · subst e; have := h2.1 z hz; omega
        · exact e
theorem rise_of (l : List Lk) : ∀ p, (∀ x ∈ l, okK x = true) → Up l → (∀ r, p = some r → ∀ x ∈ l, r < x.iface) → rise p l = true := by
  induction l with
  | nil => intro p _ _ _; cases p <;> rfl
  | cons s l ih =>
    intro p h1 h2 h3
    have hp := List.pairwise_cons.1 h2
    have hr := ih (some s.iface) (fun x hx => h1 x (List.mem_cons_of_mem _ hx)) hp.2 (fun r e x hx => by injection e with e; subst e; exact hp.1 x hx)
    have hs := h1 s List.mem_cons_self
    cases p with
    | none => simp only [rise, hs, hr, Bool.and_self]
    | some r => simp only [rise, hs, hr, Bool.and_true, Bool.true_and, decide_eq_true_eq]; exact h3 r rfl s List.mem_cons_self
theorem okL_iff (l : List Lk) : okL l = true ↔ l.length ≤ 32 ∧ (∀ x ∈ l, okK x = true) ∧ Up l :=
  ⟨fun h => ⟨okL_len2 h, fun x hx => okL_mem h hx, okL_up h⟩, fun h => by
    unfold okL
    rw [rise_of l none h.2.1 h.2.2 (fun r e => by cases e), decide_eq_true h.1]
    rfl⟩
def insL (l : List Lk) (x : Lk) : List Lk := aheadL l x.iface ++ ([x] ++ behindL l x.iface)
theorem mem_others (l : List Lk) (i : Int) (z : Lk) : z ∈ others l i ↔ z ∈ l ∧ z.iface ≠ i := by
  unfold others
  rw [List.mem_filter]
  simp
theorem mem_insL (l : List Lk) (x z : Lk) : z ∈ insL l x ↔ z = x ∨ (z ∈ l ∧ z.iface ≠ x.iface) := by
  unfold insL aheadL behindL
  simp only [List.mem_append, List.mem_filter, List.mem_cons, List.not_mem_nil, or_false, decide_eq_true_eq]
  constructor
  · rintro (⟨h1, h2⟩ | h | ⟨h1, h2⟩)
    · exact .inr ⟨h1, by omega⟩
    · exact .inl h
    · exact .inr ⟨h1, by omega⟩
  · rintro (h | ⟨h1, h2⟩)
    · exact .inr (.inl h)
    · rcases Int.lt_or_gt_of_ne h2 with h3 | h3
      · exact .inl ⟨h1, h3⟩
      · exact .inr (.inr ⟨h1, h3⟩)
theorem up_insL {l : List Lk} (h : Up l) (x : Lk) : Up (insL l x) := by
  unfold insL
  refine List.pairwise_append.2 ⟨h.sublist List.filter_sublist, List.pairwise_cons.2 ⟨fun z hz => ?_, h.sublist List.filter_sublist⟩, fun a ha b hb => ?_⟩
  · have := (List.mem_filter.1 hz).2
    simpa using this
  · have h1 := (List.mem_filter.1 ha).2
    simp only [decide_eq_true_eq] at h1
    rcases List.mem_append.1 hb with hb | hb
    · simp at hb; subst hb; exact h1
    · have h2 := (List.mem_filter.1 hb).2
      simp only [decide_eq_true_eq] at h2
      omega
theorem len_insL {l : List Lk} (h : Up l) (x : Lk) : (insL l x).length = (others l x.iface).length + 1 := by
  rw [(others_split h x.iface).1]
  unfold insL
  simp only [List.length_append, List.length_cons, List.length_nil]
  omega
theorem up_others {l : List Lk} (h : Up l) (i : Int) : Up (others l i) := h.sublist List.filter_sublist
theorem others_le (l : List Lk) (i : Int) : (others l i).length ≤ l.length := List.length_filter_le _ _
theorem others_all {l : List Lk} {i : Int} (h : (others l i).length = l.length) : others l i = l := List.filter_sublist.eq_of_length h
theorem find_mem {l : List Lk} (h : Up l) {z : Lk} (hz : z ∈ l) : findL l z.iface = some z := by
  unfold findL
  cases hf : l.find? (fun s => decide (s.iface = z.iface)) with
  | none => exact absurd (List.find?_eq_none.1 hf z hz) (by simp)
  | some s =>
    have h1 := List.mem_of_find?_eq_some hf
    have h2 := List.find?_some hf
    simp only [decide_eq_true_eq] at h2
    obtain ⟨j, hj, rfl⟩ := List.getElem_of_mem h1
    obtain ⟨k, hk, rfl⟩ := List.getElem_of_mem hz
    by_cases e : j = k
    · subst e; rfl
    · exact absurd h2 (up_ne h hj hk e)
theorem find_none {l : List Lk} {i : Int} (h : ∀ z ∈ l, z.iface ≠ i) : findL l i = none := by
  unfold findL
  rw [List.find?_eq_none]
  intro z hz
  simpa using h z hz
theorem find_cases (l : List Lk) (i : Int) : (findL l i = none ∧ ∀ z ∈ l, z.iface ≠ i) ∨ ∃ z ∈ l, z.iface = i ∧ findL l i = some z := by
  cases hf : findL l i with
  | none => exact .inl ⟨rfl, fun z hz => by have := List.find?_eq_none.1 hf z hz; simpa using this⟩
  | some s => exact .inr ⟨s, List.mem_of_find?_eq_some hf, by have := List.find?_some hf; simpa using this, rfl⟩
theorem put_ok {l : List Lk} {x : Lk} (h : (putL l x).2 = 0) : okL l = true ∧ okK x = true ∧ (others l x.iface).length ≤ 31 ∧ (putL l x).1 = insL l x := by
  unfold putL at h ⊢
  split at h
  · rename_i hc
    rw [if_pos hc]
    simp only [Bool.and_eq_true] at hc
    split at h
    · cases h
    · rename_i h3
      have := okL_len2 hc.1
      have := others_le l x.iface
      rw [if_neg h3]
      exact ⟨hc.1, hc.2, by omega, rfl⟩
  · cases h
theorem put_not {l : List Lk} {x : Lk} (h : ¬ (putL l x).2 = 0) : (putL l x).2 = 2 ∨ ((putL l x).2 = 8 ∧ (putL l x).1 = l) := by
  unfold putL at h ⊢
  split at h
  · rename_i hc
    rw [if_pos hc]
    simp only [Bool.and_eq_true] at hc
    split at h
    · rename_i h3
      have := okL_len2 hc.1
      have := others_le l x.iface
      rw [if_pos h3]
      exact .inr ⟨rfl, others_all (by omega)⟩
    · exact absurd rfl h
  · rename_i hc
    rw [if_neg hc]
    exact .inl rfl
theorem ok_ins {l : List Lk} {x : Lk} (h1 : okL l = true) (h2 : okK x = true) (h3 : (others l x.iface).length ≤ 31) : okL (insL l x) = true := by
  have hl := (okL_iff l).1 h1
  refine (okL_iff _).2 ⟨by rw [len_insL hl.2.2]; omega, fun z hz => ?_, up_insL hl.2.2 x⟩
  rcases (mem_insL l x z).1 hz with rfl | ⟨hz, _⟩
  · exact h2
  · exact hl.2.1 z hz
theorem peer_ins {l : List Lk} {x : Lk} (h1 : okL l = true) (h2 : okK x = true) (h3 : (others l x.iface).length ≤ 31) : peerL (insL l x) x.iface = (x.peer, 0) := by
  unfold peerL
  rw [ok_ins h1 h2 h3, if_pos rfl, find_mem (up_insL (okL_up h1) x) ((mem_insL l x x).2 (.inl rfl))]
theorem peer_other {l : List Lk} {x : Lk} (h1 : okL l = true) (h2 : okK x = true) (h3 : (others l x.iface).length ≤ 31) {i : Int} (hi : i ≠ x.iface) : peerL (insL l x) i = peerL l i := by
  unfold peerL
  rw [ok_ins h1 h2 h3, h1, if_pos rfl, if_pos rfl]
  rcases find_cases l i with ⟨e, hn⟩ | ⟨z, hz, rfl, e⟩
  · rw [e, find_none (fun z hz => ?_)]
    rcases (mem_insL l x z).1 hz with rfl | ⟨hz, _⟩
    · exact fun h => hi h.symm
    · exact hn z hz
  · rw [e, find_mem (up_insL (okL_up h1) x) ((mem_insL l x z).2 (.inr ⟨hz, hi⟩))]
theorem others_ins {l : List Lk} (h : Up l) (x : Lk) : others (insL l x) x.iface = others l x.iface := by
  refine ext_up _ _ (up_others (up_insL h x) _) (up_others h _) (fun z => ?_)
  rw [mem_others, mem_insL, mem_others]
  constructor
  · rintro ⟨rfl | h1, h2⟩
    · exact absurd rfl h2
    · exact h1
  · rintro ⟨h1, h2⟩
    exact ⟨.inr ⟨h1, h2⟩, h2⟩
theorem del_ins {l : List Lk} {x : Lk} (h1 : okL l = true) (h2 : okK x = true) (h3 : (others l x.iface).length ≤ 31) : delL (insL l x) x.iface = (others l x.iface, 0) := by
  unfold delL
  rw [ok_ins h1 h2 h3, if_pos rfl, others_ins (okL_up h1), len_insL (okL_up h1), if_neg (by omega)]
theorem had_none {l : List Lk} {i : Int} (h : (peerL l i).2 = 3) : others l i = l := by
  unfold peerL at h
  split at h
  · rcases find_cases l i with ⟨e, hn⟩ | ⟨z, hz, _, e⟩
    · unfold others
      rw [List.filter_eq_self]
      intro z hz
      simpa using hn z hz
    · rw [e] at h; cases h
  · cases h
theorem ins_swap {l : List Lk} (h : Up l) {x y : Lk} (hne : x.iface ≠ y.iface) : insL (insL l x) y = insL (insL l y) x := by
  refine ext_up _ _ (up_insL (up_insL h x) y) (up_insL (up_insL h y) x) (fun z => ?_)
  simp only [mem_insL]
  constructor
  · rintro (rfl | ⟨rfl | ⟨h1, h2⟩, h3⟩)
    · exact .inr ⟨.inl rfl, fun e => hne e.symm⟩
    · exact .inl rfl
    · exact .inr ⟨.inr ⟨h1, h3⟩, h2⟩
  · rintro (rfl | ⟨rfl | ⟨h1, h2⟩, h3⟩)
    · exact .inr ⟨.inl rfl, hne⟩
    · exact .inl rfl
    · exact .inr ⟨.inr ⟨h1, h3⟩, h2⟩
theorem put_swap {l : List Lk} {x y : Lk} (h1 : (putL l x).2 = 0) (h2 : (putL (putL l x).1 y).2 = 0) (h3 : (putL l y).2 = 0) (hne : x.iface ≠ y.iface) : (putL (putL l y).1 x).2 = 0 ∧ (putL (putL l x).1 y).1 = (putL (putL l y).1 x).1 := by
  obtain ⟨a1, a2, a3, a4⟩ := put_ok h1
  obtain ⟨b1, b2, b3, b4⟩ := put_ok h3
  obtain ⟨c1, c2, c3, c4⟩ := put_ok h2
  rw [a4] at c1 c3 c4
  have hu := okL_up a1
  have hs := ins_swap hu hne
  have hl : (others (insL l y) x.iface).length ≤ 31 := by
    have e1 := len_insL (up_insL hu x) y
    have e2 := len_insL (up_insL hu y) x
    rw [hs] at e1
    omega
  have hok := ok_ins b1 b2 b3
  have hP : putL (insL l y) x = (insL (insL l y) x, 0) := by
    unfold putL
    rw [hok, a2]
    simp only [Bool.and_self, if_true]
    rw [if_neg (by omega)]
    rfl
  rw [b4, hP]
  exact ⟨rfl, by rw [a4, c4, hs]⟩
end Go.Proofs.Ytklbnnnkogghpaa.Lk
namespace Go.Proofs.Ytklbnnnkogghpaa.Lk
open Go.ChangeShapes Go.WideShapes Go.ChangeAt Go.RowKit
section
variable {H : Type} {enc : TypeId × Value → H} {W : World} {base : Nat} {spare : Nat → Bool} {held : Bool}
theorem wfi {n : Int} (h : Lit.wf (.int .i64 n)) : -9223372036854775808 ≤ n ∧ n ≤ 9223372036854775807 := by simpa [Lit.wf, IntKind.min, IntKind.max, IntKind.signed, IntKind.bits] using h
set_option maxRecDepth 100000 in
theorem open_lk2 {x y : Value} {fuel : Nat} {d : DataW H × List MemPlace} (h : DataW.trod enc Try.prog W base spare held fuel 77 [x, y] = some d) : ∃ a : Lk, [x, y] = lkC a ∧ FitL a := by
  obtain ⟨xs, n, _, _, hlen, hxl, hfs⟩ := DataW.trod_struct Try.underlying77 h
  have g0 : DataW.trod enc Try.prog W base spare held n 3 ((([x, y] : List Value).drop 0).take (Try.prog.cellsOf 3)) = xs[0]? := hfs 0 _ rfl
  have g1 : DataW.trod enc Try.prog W base spare held n 3 ((([x, y] : List Value).drop 1).take (Try.prog.cellsOf 3)) = xs[1]? := hfs 1 _ rfl
  have hx2 : xs.length = 2 := hxl
  rw [List.getElem?_eq_getElem (by omega)] at g0 g1
  rw [show Try.prog.cellsOf 3 = 1 from by kernel_rfl] at g0 g1
  obtain ⟨a, e2, _, hw⟩ := DataW.trod_int Try.underlying3 g0
  obtain ⟨b, e3, _, hw2⟩ := DataW.trod_int Try.underlying3 g1
  have e2' : x = .int .i64 a := by injection e2
  have e3' : y = .int .i64 b := by injection e3
  subst e2' e3'
  exact ⟨⟨a, b⟩, rfl, wfi hw, wfi hw2⟩
set_option maxRecDepth 100000 in
theorem open_link {v : Value} {d : DataW H} {ps : List MemPlace} {r : Reach} {b0 : Nat} (hval : Value.okWide Try.prog W r b0 77 v) (h : DataW.Trod enc Try.prog W base spare held 77 v d ps) : ∃ a : Lk, v = lkV a ∧ FitL a := by
  obtain ⟨cs, rfl, hsz⟩ := okWide_struct Try.underlying77 hval
  obtain ⟨fuel, hf⟩ := h
  rw [show Try.prog.cellsOf 77 = 2 from by kernel_rfl] at hsz
  obtain ⟨x, y, rfl⟩ : ∃ x y, cs = #[x, y] := by
    obtain ⟨l⟩ := cs
    match l, hsz with
    | [x, y], _ => exact ⟨x, y, rfl⟩
  obtain ⟨a, e, fa⟩ := open_lk2 hf
  exact ⟨a, by unfold lkV; rw [← e], fa⟩
theorem spot_of {W : World} {a : Addr} {v : Value} (h : W.cell? a = some v) : a.spot = none ∧ a.block < W.heap.size := by
  refine ⟨World.cell?_spot h, ?_⟩
  rcases Nat.lt_or_ge a.block W.heap.size with h' | h'
  · exact h'
  · simp [World.cell?, Array.getElem?_eq_none h'] at h
theorem row_of {a : Addr} {len cap sz : Nat} {cs : List Value} (hsz : 0 < sz) (hl : len ≤ cap) (hm : cap ≤ maxLen) (hlen : cs.length = len * sz) (h : ∀ j, j < len * sz → W.cell? (a.add j) = cs[j]?) : HasRow W (.slice (some a) len cap) sz len cs := by
  refine ⟨hlen, .inr ⟨a, cap, rfl, hl, by unfold maxLen at hm; exact hm, fun hn => ?_, h⟩⟩
  have h0 := h 0 (Nat.mul_pos hn hsz)
  rw [List.getElem?_eq_getElem (by rw [hlen]; exact Nat.mul_pos hn hsz)] at h0
  have := spot_of h0
  simpa [Addr.add] using this
/-- cells of a list of rows of m cells each -/
theorem flat_get {α : Type} (f : α → List Value) (m : Nat) (hm : 0 < m) (hf : ∀ x, (f x).length = m) : ∀ (l : List α) (j : Nat) (hj : j < l.length * m), (l.flatMap f)[j]? = (f (l[j / m]'(Nat.div_lt_of_lt_mul (by rw [Nat.mul_comm]; exact hj))))[j % m]? := by
  intro l
  induction l with
  | nil => intro j hj; simp at hj
  | cons x t ih =>
    intro j hj
    rw [List.flatMap_cons]
    by_cases h : j < m
    · rw [List.getElem?_append_left (by rw [hf]; exact h)]
      have e1 : j / m = 0 := Nat.div_eq_of_lt h
      have e2 : j % m = j := Nat.mod_eq_of_lt h
      simp only [e1, e2, List.getElem_cons_zero]
    · have h' : m ≤ j := by omega
      rw [List.getElem?_append_right (by rw [hf]; exact h'), hf]
      have hj2 : j - m < t.length * m := by rw [List.length_cons, Nat.add_mul, Nat.one_mul] at hj; omega
      rw [ih (j - m) hj2]
      have e1 : j / m = (j - m) / m + 1 := by rw [Nat.div_eq_sub_div hm h']
      have e2 : j % m = (j - m) % m := Nat.mod_eq_sub_mod h'
      simp only [e1, e2, List.getElem_cons_succ]
set_option maxRecDepth 100000 in
theorem open_links {v : Value} {fuel : Nat} {x : DataW H × List MemPlace} (h : DataW.trod enc Try.prog W base spare held fuel 23 [v] = some x) : ∃ l : List Lk, HasLks W v l ∧ ∀ s ∈ l, FitL s := by
  rcases Go.Deep.open_slice Try.underlying23 h with ⟨hcs, _⟩ | ⟨a, l, c, m, n, D, Pl, hcs, _, hl, hm, hmm, _, hx⟩
  · injection hcs with e; subst e
    exact ⟨[], hasRow_nil _ _, by simp⟩
  · injection hcs with e; subst e
    have hlm : l ≤ m := by rw [hmm]; split <;> omega
    have hA : ∀ i, ∃ p : Lk, i < l → (∀ j, j < 2 → W.cell? (a.add (i * 2 + j)) = (lkC p)[j]?) ∧ FitL p := fun i => by
      by_cases hi : i < l
      · obtain ⟨cs', h1, h2⟩ := hx i (by omega)
        rw [show Try.prog.cellsOf 77 = 2 from by kernel_rfl] at h1
        obtain ⟨_, hlen, hcell⟩ := World.cells?_some h1
        obtain ⟨v0, v1, rfl⟩ : ∃ v0 v1, cs' = [v0, v1] := by
          match cs', hlen with
          | [v0, v1], _ => exact ⟨v0, v1, rfl⟩
        obtain ⟨s, es, fs⟩ := open_lk2 h2
        refine ⟨s, fun _ => ⟨fun j hj => ?_, fs⟩⟩
        rw [← es]
        have := hcell j hj
        rw [Go.Deep.add_add] at this
        rw [this]
      · exact ⟨⟨0, 0⟩, fun h => absurd h hi⟩
    obtain ⟨F, hF⟩ := Classical.axiomOfChoice hA
    refine ⟨(List.range l).map F, ?_, fun p hp => ?_⟩
    · unfold HasLks
      rw [List.length_map, List.length_range]
      refine row_of (by decide) hl hm (by rw [lkCs_len]; simp) (fun j hj => ?_)
      have hj2 : j / 2 < l := by omega
      obtain ⟨hc, _⟩ := hF (j / 2) hj2
      show _ = (((List.range l).map F).flatMap lkC)[j]?
      rw [flat_get lkC 2 (by decide) (fun x => rfl) _ j (by simp; omega)]
      simp only [List.getElem_map, List.getElem_range]
      rw [← hc (j % 2) (by omega)]
      congr 2
      omega
    · obtain ⟨i, hi, rfl⟩ := List.mem_map.1 hp
      exact (hF i (List.mem_range.1 hi)).2
end
end Go.Proofs.Ytklbnnnkogghpaa.Lk
namespace Go.Proofs.Ytklbnnnkogghpaa.Lk
open Go.RowKit
open Go.Proofs.Ytklbnnnkogghpaa.Addr (RowAt below2 below_drew below_new bset RowAt.lt RowAt.cell RowAt.frozen RowAt.below RowAt.drew RowAt.new RowAt.alloc cells2)
attribute [-go_sem] Builtin.append_
theorem lk_neq (a b : Int) (w : World) : (binOp .neq 77 (.agg #[.int .i64 a, .int .i64 b]) (.agg #[.int .i64 a, .int .i64 b])).run Try.prog w = .ok (.bool false) w := by
  have u3 := Try.underlying3
  have a3 := Try.isAgg3
  have z3 := Try.sizeOf3
  have hS : Try.prog.underlying 77 = some (.struct (Try.prog.fieldsOf 77)) := by kernel_rfl
  have hp : Try.prog.stoodInHeld 77 = false := by kernel_rfl
  rw [run_neq_struct, show (10000 : Nat) = 9999 + 1 from rfl, run_equalIn_agg w 9999 77 _ _ hS hp]
  simp only [Program.fieldsOf, Try.underlying77]
  go_simp
theorem lk_guard : Try.prog.eqGuardType Try.prog.depth 77 = false := by kernel_rfl
/-- rows of numbers -/
def intCs (l : List Int) : List Value := l.map (fun n => .int .i64 n)
def HasInts (W : World) (v : Value) (l : List Int) : Prop := HasRow W v 1 l.length (intCs l)
theorem HasInts.keep {W W' : World} {v : Value} {l : List Int} (h : HasInts W v l) (hb : Below W.heap.size W W') : HasInts W' v l := HasRow.keep h hb
theorem HasInts.cell {W : World} {o : Option Addr} {m cap : Nat} {l : List Int} (h : HasInts W (.slice o m cap) l) (j : Nat) (hj : j < l.length) : ∃ b i, o = some ⟨b, i, none⟩ ∧ b < W.heap.size ∧ W.cell? ⟨b, i + j, none⟩ = some (.int .i64 l[j]) := by
  obtain ⟨_, b, i, e, hb, hc⟩ := HasRow.at h (by omega)
  refine ⟨b, i, e, hb, ?_⟩
  rw [hc j (by omega)]
  unfold intCs
  rw [List.getElem?_map, List.getElem?_eq_getElem hj]
  rfl
end Go.Proofs.Ytklbnnnkogghpaa.Lk
