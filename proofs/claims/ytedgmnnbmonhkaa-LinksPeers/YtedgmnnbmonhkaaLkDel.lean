/- slices.DeleteFunc, of the links of an interface, in a row that the caller owns. -/
import Derived.Test.YtedgmnnbmonhkaaLkDelM
import Derived.Laws.OwnMore
import Derived.Lib.SliceRun
set_option linter.unusedVariables false
namespace Go.Proofs.Ytedgmnnbmonhkaa.Lk
open Go.RowKit
open Go.Proofs.Ytedgmnnbmonhkaa.Addr (RowAt below2 below_drew below_new bset RowAt.lt RowAt.cell RowAt.frozen RowAt.below RowAt.drew RowAt.new RowAt.alloc cells2)
attribute [-go_sem] Builtin.append_
theorem clear_one (w : World) (ty : TypeId) (b o c : Nat) (h0 : (w.cell? ⟨b, o, none⟩).isSome = true) (h1 : (w.cell? ⟨b, o + 1, none⟩).isSome = true) (hf : ∀ j, w.frozen? ⟨b, j, none⟩ = false) :
    (Builtin.clear_ #[22] ty #[.slice (some ⟨b, o, none⟩) 1 c]).run Try.prog w = .ok (.tuple #[]) ((w.setCell ⟨b, o, none⟩ (.int .i64 0)).setCell ⟨b, o + 1, none⟩ (.int .i64 0)) := by
  obtain ⟨i0, hi0, hz0, hz1, hz2⟩ := info_parts info_lk
  have hv : ∀ w, (zeroValue 24).run Try.prog w = .ok (.agg #[.int .i64 0, .int .i64 0]) w := fun w => by simp [zeroValue, show Try.t24.zero = some (.agg #[.int .i64 0, .int .i64 0]) from by kernel_rfl]
  have hst := run_storeCells_cells (P := Try.prog) b o [.int .i64 0, .int .i64 0] 0 w (by
    intro j hj
    simp at hj
    have : j = 0 ∨ j = 1 := by omega
    rcases this with rfl | rfl
    · simpa using h0
    · simpa using h1) (fun j _ => hf _) (by intro v hv'; simp at hv'; subst hv'; rfl)
  simp only [Nat.add_zero] at hst
  have hzc : (Builtin.zeroCells (Value.cells (.agg #[.int .i64 0, .int .i64 0])) 1).toList = [.int .i64 0, .int .i64 0] := by kernel_rfl
  simp [Builtin.clear_, run_underlying Try.underlying22, hv, hzc, hst]
  rfl
theorem own_cut {W : World} {B e sz g n cap m : Nat} {xs : List Value} (h : W.ownsRow B e sz (.slice (some ⟨g, 0, none⟩) n cap) n xs) (hm : m ≤ n) : W.ownsRow B e sz (.slice (some ⟨g, 0, none⟩) m cap) m (xs.take (m * sz)) := by
  have hmn : m * sz ≤ n * sz := Nat.mul_le_mul_right sz hm
  refine ⟨by rw [List.length_take, h.1]; omega, ?_⟩
  rcases h.2 with ⟨e0, _⟩ | ⟨g', cap', cur, e1, hg, hgb, hnc, hcm, hcs, htk⟩
  · cases e0
  · injection e1 with e1 _ e3
    injection e1 with e1
    injection e1 with e1
    subst e1 e3
    exact .inr ⟨g, cap, cur, rfl, hg, hgb, Nat.le_trans hm hnc, hcm, hcs, by rw [← htk, List.take_take, Nat.min_eq_left hmn]⟩
theorem take_set (xs : List Value) (i n : Nat) (v : Value) (h : n ≤ i) : (xs.set i v).take n = xs.take n := by
  rw [List.take_set, List.set_eq_of_length_le (by rw [List.length_take]; omega)]
set_option maxHeartbeats 8000000 in
set_option maxRecDepth 20000 in
theorem delf_at (l : List Lk) (k gr cap n g B : Nat) (i : Int) (w : World) (hn : n = l.length) (hk : k < n) (hi : ∀ h : k < l.length, l[k].iface = i) (hp : l.Pairwise (fun x y => x.iface < y.iface)) (hlen : n ≤ 1000)
    (hown : w.ownsRow B 24 2 (.slice (some ⟨gr, 0, none⟩) n cap) n (lkCs l)) (hB : B ≤ gr) (hBw : B ≤ w.heap.size) (hcap : n ≤ cap ∧ cap ≤ 9223372036854775807) (hg : w.cell? ⟨g, 0, none⟩ = some (.int .i64 i)) (hgl : g < w.heap.size) (hgg : g ≠ gr)
    (ci : ∀ W : World, Below w.heap.size w W → Calls Try.prog 24 #[.slice (some ⟨gr, 0, none⟩) n cap, .func (.func 31) #[] #[.pointer (some ⟨g, 0, none⟩)]] W fun e w' => e = .returned (.int .i64 (k : Int)) ∧ Below W.heap.size W w') :
    Calls Try.prog 21 #[.slice (some ⟨gr, 0, none⟩) n cap, .func (.func 31) #[] #[.pointer (some ⟨g, 0, none⟩)]] w fun e w' => e = .returned (.slice (some ⟨gr, 0, none⟩) (n - 1) cap) ∧ w'.ownsRow B 24 2 (.slice (some ⟨gr, 0, none⟩) (n - 1) cap) (n - 1) (lkCs (l.take k ++ l.drop (k + 1))) ∧ Below B w w' := by
  have hni : (n : Int) ≤ 1000 := by omega
  have HN : Hid (n = l.length) := hn
  have HD : Hid (∀ j (h : j < l.length), j ≠ k → decide (l[j].iface = i) = false) := fun j h hjk => decide_eq_false (fun hc => up_ne hp h (by omega) hjk (by rw [hc, hi (by omega)]))
  have HOW : Hid (w.ownsRow B 24 2 (.slice (some ⟨gr, 0, none⟩) n cap) n (lkCs (shift l k 0))) := by rw [shift_zero]; exact hown
  have hk1 : ((k : Int) == -1) = false := beq_eq_false_iff_ne.2 (by omega)
  clear hown hi hp hn
  go_enter Try.func21, Try.ntmps21
  go_wp2_with fail
  go_at_call 24; refine (ci _ (Below.refl _ _)).mono ?_; rintro e w1 ⟨rfl, hb1⟩
  replace hg : w1.cell? ⟨g, 0, none⟩ = some (.int .i64 i) := (hb1.cell (p := ⟨g, 0, none⟩) hgl).trans hg
  have hgl1 : g < w1.heap.size := Nat.lt_of_lt_of_le hgl hb1.size
  have HO1 : Hid (w1.ownsRow B 24 2 (.slice (some ⟨gr, 0, none⟩) n cap) n (lkCs (shift l k 0))) := own_below HOW.out hb1
  have hBB : Below B w w1 := Below.mono hb1 hBw
  have hBw1 : B ≤ w1.heap.size := Nat.le_trans hBw hb1.size
  clear ci hb1 HOW hgl
  go_wp2_with fail
  go_loopw [5, 6] (fun a b wr => ∃ (t j q : Nat), Hid (j = k + 1 + t ∧ q = k + t) ∧ k + 1 + t ≤ n ∧ a = .int .i64 (q : Int) ∧ b = .int .i64 (j : Int) ∧ Hid (wr.ownsRow B 24 2 (.slice (some ⟨gr, 0, none⟩) n cap) n (lkCs (shift l k t))) ∧ Below B w wr ∧ wr.cell? ⟨g, 0, none⟩ = some (.int .i64 i) ∧ g < wr.heap.size ∧ B ≤ wr.heap.size) (fun _ b _ => n - (intOf b).toNat)
  case atStart => exact ⟨0, k + 1, k, ⟨rfl, rfl⟩, by omega, rfl, by first | rfl | go_num, HO1, hBB, hg, hgl1, hBw1⟩
  case round =>
    obtain ⟨t, j, q, HJ, ht, rfl, rfl, HO, hBr, hgc, hgs, hBs⟩ := hrel
    obtain ⟨hj, hq⟩ := HJ.out
    clear hg hgl1 HO1 hBB hBw1
    have hsl := shift_len l k t (by have := HN.out; omega)
    by_cases hlt : k + 1 + t < n
    · have hjl : k + 1 + t < l.length := by have := HN.out; omega
      have hh : HasLks wr (.slice (some ⟨gr, 0, none⟩) n cap) (shift l k t) := by
        unfold HasLks
        rw [hsl, ← HN.out]
        exact hasRow_own HO.out
      obtain ⟨g1, i1, e1, hg1, a0, a1⟩ := HasLks.cell hh (k + 1 + t) (by rw [hsl]; exact hjl)
      injection e1 with e1
      injection e1 with e11 e12
      subst e11 e12
      rw [shift_at l k t hjl (by rw [hsl]; exact hjl), Nat.zero_add] at a0 a1
      have cc := fun W => of1_any l[k + 1 + t] i g W
      rw [HD.out (k + 1 + t) hjl (by omega)] at cc
      have HSS : Hid (((lkCs (shift l k t)).set ((k + t) * 2) (.int .i64 l[k + 1 + t].iface)).set ((k + t) * 2 + 1) (.int .i64 l[k + 1 + t].peer) = lkCs (shift l k (t + 1))) := by
        show _ = _
        rw [lkCs_set _ l[k + 1 + t] (k + t) (by rw [hsl]; omega), shift_step l k t hjl]
      generalize l[k + 1 + t].iface = ra at *
      generalize l[k + 1 + t].peer = rb at *
      rw [← hj] at a0 a1
      rw [← hq] at HSS
      have hji : (j : Int) < (n : Int) := by omega
      have hqi : (q : Int) < (n : Int) := by omega
      clear hh hj hq hsl hlt hjl
      go_upto_region 8 with fail
      obtain ⟨X, hX⟩ : ∃ X, X = wr.alloc (.cells #[.int .i64 ra, .int .i64 rb] 24) := ⟨_, rfl⟩
      have hbX : Below wr.heap.size wr X := by rw [hX]; exact below_new (Below.refl _ _) _
      have r0 : RowAt X wr.heap.size [.int .i64 ra, .int .i64 rb] 24 := by rw [hX]; exact RowAt.new _ _ _
      rw [← hX]
      replace HO : Hid (X.ownsRow B 24 2 (.slice (some ⟨gr, 0, none⟩) n cap) n (lkCs (shift l k t))) := own_below HO.out hbX
      replace hgc : X.cell? ⟨g, 0, none⟩ = some (.int .i64 i) := (hbX.cell (p := ⟨g, 0, none⟩) hgs).trans hgc
      have hgs2 : g < X.heap.size := Nat.lt_of_lt_of_le hgs hbX.size
      have hBX : Below B w X := hBr.trans (Below.mono hbX hBs)
      have hBs2 : B ≤ X.heap.size := Nat.le_trans hBs hbX.size
      have hne : wr.heap.size ≠ gr := by omega
      clear hX hbX a0 a1 hgs hBr hBs hg1
      generalize wr.heap.size = gs at r0 hne ⊢
      obtain ⟨y0, y1, yf⟩ := cells2 r0
      go_wp2_with fail
      go_at_call 31; refine (cc _ hgc hgs2).mono ?_; rintro e w2 ⟨rfl, hb2⟩
      replace HO : Hid (w2.ownsRow B 24 2 (.slice (some ⟨gr, 0, none⟩) n cap) n (lkCs (shift l k t))) := own_below HO.out hb2
      replace hgc : w2.cell? ⟨g, 0, none⟩ = some (.int .i64 i) := (hb2.cell (p := ⟨g, 0, none⟩) hgs2).trans hgc
      have hgs3 : g < w2.heap.size := Nat.lt_of_lt_of_le hgs2 hb2.size
      have hB2 : Below B w w2 := hBX.trans (Below.mono hb2 hBs2)
      have hBs3 : B ≤ w2.heap.size := Nat.le_trans hBs2 hb2.size
      replace r0 := RowAt.below r0 hb2
      clear y0 y1 yf hb2 hgs2 hBX hBs2 cc
      obtain ⟨y0, y1, yf⟩ := cells2 r0
      have s1 := (HO.out).stored (q * 2) (.int .i64 ra)
      have s2 := (s1.1).stored (q * 2 + 1) (.int .i64 rb)
      rw [HSS.out] at s2
      have hf : ∀ j, w2.frozen? ⟨gr, j, none⟩ = false := fun j => (HO.out).frozenAt j
      have HO5 : Hid (((w2.setCell ⟨gr, q * 2, none⟩ (.int .i64 ra)).setCell ⟨gr, q * 2 + 1, none⟩ (.int .i64 rb)).ownsRow B 24 2 (.slice (some ⟨gr, 0, none⟩) n cap) n (lkCs (shift l k (t + 1)))) := s2.1
      have hc5 : ((w2.setCell ⟨gr, q * 2, none⟩ (.int .i64 ra)).setCell ⟨gr, q * 2 + 1, none⟩ (.int .i64 rb)).cell? ⟨g, 0, none⟩ = some (.int .i64 i) := by
        have h1 := s1.2.block g hgs3 (by intro e; injection e with e; exact hgg e)
        have h2 := s2.2.block g (by simp; exact hgs3) (by intro e; injection e with e; exact hgg e)
        rw [World.cell?_of_block (h2.trans h1)]
        exact hgc
      have HC5 : Hid (((w2.setCell ⟨gr, q * 2, none⟩ (.int .i64 ra)).setCell ⟨gr, q * 2 + 1, none⟩ (.int .i64 rb)).cell? ⟨g, 0, none⟩ = some (.int .i64 i)) := hc5
      have hB5 : Below B w ((w2.setCell ⟨gr, q * 2, none⟩ (.int .i64 ra)).setCell ⟨gr, q * 2 + 1, none⟩ (.int .i64 rb)) := bset (bset hB2 hB) hB
      have HB5 : Hid (Below B w ((w2.setCell ⟨gr, q * 2, none⟩ (.int .i64 ra)).setCell ⟨gr, q * 2 + 1, none⟩ (.int .i64 rb)) ∧ g < ((w2.setCell ⟨gr, q * 2, none⟩ (.int .i64 ra)).setCell ⟨gr, q * 2 + 1, none⟩ (.int .i64 rb)).heap.size ∧ B ≤ ((w2.setCell ⟨gr, q * 2, none⟩ (.int .i64 ra)).setCell ⟨gr, q * 2 + 1, none⟩ (.int .i64 rb)).heap.size) := ⟨hB5, by simp; exact hgs3, by simp; exact hBs3⟩
      have hgrl : gr < w2.heap.size := by
        have := (HO.out).lt gr rfl
        exact this.2
      have hcq : ∃ z, w2.cell? ⟨gr, q * 2, none⟩ = some z := ⟨_, (HO.out).cellAt (q * 2) (by omega) |>.trans (List.getElem?_eq_getElem (by rw [(HO.out).1]; omega))⟩
      have hcq2 : ∃ z, w2.cell? ⟨gr, q * 2 + 1, none⟩ = some z := ⟨_, (HO.out).cellAt (q * 2 + 1) (by omega) |>.trans (List.getElem?_eq_getElem (by rw [(HO.out).1]; omega))⟩
      obtain ⟨z1, hz1⟩ := hcq
      obtain ⟨z2, hz2⟩ := hcq2
      clear s1 s2 HO HSS hc5 hB5 r0
      go_wp2_with fail
      go_roundw
      case rel => exact ⟨t + 1, j + 1, q + 1, by have := HJ.out; exact ⟨by omega, by omega⟩, by have := HJ.out; omega, by go_num, by go_num, HO5, HB5.out.1, HC5.out, HB5.out.2⟩
      case measure => simp [intOf]; omega
    · have hjn : j = n := by omega
      subst hjn
      have hqn : q < j := by omega
      have hnq : j - q = 1 := by omega
      have hcq : ¬ cap = q := by omega
      have hqi : (q : Int) ≤ (j : Int) := by omega
      have hqc : (q : Int) ≤ (cap : Int) := by omega
      have HQ : Hid (q = j - 1) := by show _ = _; omega
      have hjd : decide ((j : Int) < (j : Int)) = false := decide_eq_false (by omega)
      have hcells : ∀ x, x < j * 2 → ∃ z, wr.cell? ⟨gr, x, none⟩ = some z := fun x hx => ⟨_, (HO.out).cellAt x hx |>.trans (List.getElem?_eq_getElem (by rw [(HO.out).1]; exact hx))⟩
      obtain ⟨z1, hz1⟩ := hcells (q * 2) (by omega)
      obtain ⟨z2, hz2⟩ := hcells (q * 2 + 1) (by omega)
      have hf : ∀ x, wr.frozen? ⟨gr, x, none⟩ = false := fun x => (HO.out).frozenAt x
      clear hcells hlt ht hsl hgc hgs
      have hcl := fun ty => clear_one wr ty gr (q * 2) (cap - q) (by rw [hz1]; rfl) (by rw [hz2]; rfl) hf
      have s1 := (HO.out).stored (q * 2) (.int .i64 0)
      have s2 := (s1.1).stored (q * 2 + 1) (.int .i64 0)
      obtain ⟨Z, hZ⟩ : ∃ Z, Z = (wr.setCell ⟨gr, q * 2, none⟩ (.int .i64 0)).setCell ⟨gr, q * 2 + 1, none⟩ (.int .i64 0) := ⟨_, rfl⟩
      rw [← hZ] at s2
      simp only [← hZ] at hcl
      have hBZ : Below B w Z := by rw [hZ]; exact bset (bset hBr hB) hB
      have HF : Hid (Z.ownsRow B 24 2 (.slice (some ⟨gr, 0, none⟩) (j - 1) cap) (j - 1) (lkCs (l.take k ++ l.drop (k + 1)))) := by
        have h1 := own_cut s2.1 (m := j - 1) (by omega)
        have hlj := HN.out
        have ht2 : t = l.length - 1 - k := by omega
        rw [take_set _ _ _ _ (by omega), take_set _ _ _ _ (by omega), lkCs_take, hlj, ht2, shift_end l k (by omega), ← hlj] at h1
        exact h1
      clear s1 s2 hZ HO hz1 hz2 hf hj hq HJ
      go_wp2_with fail
      go_ret
      exact ⟨by have h := HQ.out; subst h; rfl, HF.out, hBZ⟩
end Go.Proofs.Ytedgmnnbmonhkaa.Lk
