/- slices.Insert of one link, in place. -/
import Derived.Test.YtkjhnefbcnnjlaaGreatNv08
import Derived.Laws.OwnMore
import Derived.Lib.SliceRun
import Derived.Test.YtkjhnefbcnnjlaaGreatNv07
import Derived.Lib.Overlaps
import Derived.Lib.AppendZerosOnto
import Derived.Lib.SlBuf
import Derived.Shelf.RegionOpen
set_option linter.unusedVariables false
namespace Go.Proofs.YtkjhnefbcnnjlaaGreat.Lk
open Go.RowKit
open Go.Proofs.YtkjhnefbcnnjlaaGreat.Addr (RowAt below_new bset RowAt.lt RowAt.cell RowAt.below RowAt.new RowAt.alloc cells2)
attribute [-go_sem] Builtin.append_
theorem clear_one (w : World) (ty : TypeId) (b o c : Nat) (h0 : (w.cell? ⟨b, o, none⟩).isSome = true) (h1 : (w.cell? ⟨b, o + 1, none⟩).isSome = true) (hf : ∀ j, w.frozen? ⟨b, j, none⟩ = false) :
    (Builtin.clear_ #[49] ty #[.slice (some ⟨b, o, none⟩) 1 c]).run Tryz.prog w = .ok (.tuple #[]) ((w.setCell ⟨b, o, none⟩ (.int .i64 0)).setCell ⟨b, o + 1, none⟩ (.int .i64 0)) := by
  obtain ⟨i0, hi0, hz0, hz1, hz2⟩ := info_parts info_lk
  have hv : ∀ w, (zeroValue 101).run Tryz.prog w = .ok (.agg #[.int .i64 0, .int .i64 0]) w := fun w => by simp [zeroValue, show Tryz.t101.zero = some (.agg #[.int .i64 0, .int .i64 0]) from by kernel_rfl]
  have hst := run_storeCells_cells (P := Tryz.prog) b o [.int .i64 0, .int .i64 0] 0 w (by
    intro j hj
    simp at hj
    have : j = 0 ∨ j = 1 := by omega
    rcases this with rfl | rfl
    · simpa using h0
    · simpa using h1) (fun j _ => hf _) (by intro v hv'; simp at hv'; subst hv'; rfl)
  simp only [Nat.add_zero] at hst
  have hzc : (Builtin.zeroCells (Value.cells (.agg #[.int .i64 0, .int .i64 0])) 1).toList = [.int .i64 0, .int .i64 0] := by kernel_rfl
  simp [Builtin.clear_, run_underlying Tryz.underlying49, hv, hzc, hst]
  rfl
theorem own_cut {W : World} {B e sz g n cap m : Nat} {xs : List Value} (h : W.ownsRow B e sz (.slice (some ⟨g, 0, none⟩) n cap) n xs) (hm : m ≤ n) : W.ownsRow B e sz (.slice (some ⟨g, 0, none⟩) m cap) m (xs.take (m * sz)) := by
  have hmn : m * sz ≤ n * sz := Nat.mul_le_mul_right sz hm
  refine ⟨by rw [List.length_take, h.1]; omega, ?_⟩
  rcases h.2 with ⟨e0, _⟩ | ⟨g', cap', cur, e1, hg, hgb, hnc, hcm, hcs, htk⟩
  · cases e0
  · injection e1 with e1 _ e3
    injection e1 with e1
    injection e1 with e1
    subst e1 e3
    exact .inr ⟨g, cap, cur, rfl, hg, hgb, Nat.le_trans hm hnc, hcm, hcs, by rw [← htk, List.take_take, Nat.min_eq_left hmn]⟩
theorem take_set (xs : List Value) (i n : Nat) (v : Value) (h : n ≤ i) : (xs.set i v).take n = xs.take n := by
  rw [List.take_set, List.set_eq_of_length_le (by rw [List.length_take]; omega)]
set_option maxHeartbeats 8000000 in
set_option maxRecDepth 20000 in
theorem delf_at (l : List Lk) (k gr cap n g B : Nat) (i : Int) (w : World) (hn : n = l.length) (hk : k < n) (hi : ∀ h : k < l.length, l[k].iface = i) (hp : l.Pairwise (fun x y => x.iface < y.iface)) (hlen : n ≤ 1000)
    (hown : w.ownsRow B 101 2 (.slice (some ⟨gr, 0, none⟩) n cap) n (lkCs l)) (hB : B ≤ gr) (hBw : B ≤ w.heap.size) (hcap : n ≤ cap ∧ cap ≤ 9223372036854775807) (hg : w.cell? ⟨g, 0, none⟩ = some (.int .i64 i)) (hgl : g < w.heap.size) (hgg : g ≠ gr)
    (ci : ∀ W : World, Below w.heap.size w W → Calls Tryz.prog 120 #[.slice (some ⟨gr, 0, none⟩) n cap, .func (.func 138) #[] #[.pointer (some ⟨g, 0, none⟩)]] W fun e w' => e = .returned (.int .i64 (k : Int)) ∧ Below W.heap.size W w') :
    Calls Tryz.prog 118 #[.slice (some ⟨gr, 0, none⟩) n cap, .func (.func 138) #[] #[.pointer (some ⟨g, 0, none⟩)]] w fun e w' => e = .returned (.slice (some ⟨gr, 0, none⟩) (n - 1) cap) ∧ w'.ownsRow B 101 2 (.slice (some ⟨gr, 0, none⟩) (n - 1) cap) (n - 1) (lkCs (l.take k ++ l.drop (k + 1))) ∧ Below B w w' := by
  have hni : (n : Int) ≤ 1000 := by omega
  have HN : Hid (n = l.length) := hn
  have HD : Hid (∀ j (h : j < l.length), j ≠ k → decide (l[j].iface = i) = false) := fun j h hjk => decide_eq_false (fun hc => up_ne hp h (by omega) hjk (by rw [hc, hi (by omega)]))
  have HOW : Hid (w.ownsRow B 101 2 (.slice (some ⟨gr, 0, none⟩) n cap) n (lkCs (shift l k 0))) := by rw [shift_zero]; exact hown
  have hk1 : ((k : Int) == -1) = false := beq_eq_false_iff_ne.2 (by omega)
  clear hown hi hp hn
  go_enter Tryz.func118, Tryz.ntmps118
  go_wp2_with fail
  go_at_call 120; refine (ci _ (Below.refl _ _)).mono ?_; rintro e w1 ⟨rfl, hb1⟩
  replace hg : w1.cell? ⟨g, 0, none⟩ = some (.int .i64 i) := (hb1.cell (p := ⟨g, 0, none⟩) hgl).trans hg
  have hgl1 : g < w1.heap.size := Nat.lt_of_lt_of_le hgl hb1.size
  have HO1 : Hid (w1.ownsRow B 101 2 (.slice (some ⟨gr, 0, none⟩) n cap) n (lkCs (shift l k 0))) := own_below HOW.out hb1
  have hBB : Below B w w1 := Below.mono hb1 hBw
  have hBw1 : B ≤ w1.heap.size := Nat.le_trans hBw hb1.size
  clear ci hb1 HOW hgl
  go_wp2_with fail
  go_loopw [5, 6] (fun a b wr => ∃ (t j q : Nat), Hid (j = k + 1 + t ∧ q = k + t) ∧ k + 1 + t ≤ n ∧ a = .int .i64 (q : Int) ∧ b = .int .i64 (j : Int) ∧ Hid (wr.ownsRow B 101 2 (.slice (some ⟨gr, 0, none⟩) n cap) n (lkCs (shift l k t))) ∧ Below B w wr ∧ wr.cell? ⟨g, 0, none⟩ = some (.int .i64 i) ∧ g < wr.heap.size ∧ B ≤ wr.heap.size) (fun _ b _ => n - (intOf b).toNat)
  case atStart => exact ⟨0, k + 1, k, ⟨rfl, rfl⟩, by omega, rfl, by first | rfl | go_num, HO1, hBB, hg, hgl1, hBw1⟩
  case round =>
    obtain ⟨t, j, q, HJ, ht, rfl, rfl, HO, hBr, hgc, hgs, hBs⟩ := hrel
    obtain ⟨hj, hq⟩ := HJ.out
    clear hg hgl1 HO1 hBB hBw1
    have hsl := shift_len l k t (by have := HN.out; omega)
    by_cases hlt : k + 1 + t < n
    · have hjl : k + 1 + t < l.length := by have := HN.out; omega
      have hh : HasLks wr (.slice (some ⟨gr, 0, none⟩) n cap) (shift l k t) := by
        unfold HasLks
        rw [hsl, ← HN.out]
        exact hasRow_own HO.out
      obtain ⟨g1, i1, e1, hg1, a0, a1⟩ := HasLks.cell hh (k + 1 + t) (by rw [hsl]; exact hjl)
      injection e1 with e1
      injection e1 with e11 e12
      subst e11 e12
      rw [shift_at l k t hjl (by rw [hsl]; exact hjl), Nat.zero_add] at a0 a1
      have cc := fun W => of1_any l[k + 1 + t] i g W
      rw [HD.out (k + 1 + t) hjl (by omega)] at cc
      have HSS : Hid (((lkCs (shift l k t)).set ((k + t) * 2) (.int .i64 l[k + 1 + t].iface)).set ((k + t) * 2 + 1) (.int .i64 l[k + 1 + t].peer) = lkCs (shift l k (t + 1))) := by
        show _ = _
        rw [lkCs_set _ l[k + 1 + t] (k + t) (by rw [hsl]; omega), shift_step l k t hjl]
      generalize l[k + 1 + t].iface = ra at *
      generalize l[k + 1 + t].peer = rb at *
      rw [← hj] at a0 a1
      rw [← hq] at HSS
      have hji : (j : Int) < (n : Int) := by omega
      have hqi : (q : Int) < (n : Int) := by omega
      clear hh hj hq hsl hlt hjl
      go_upto_region 8 with fail
      obtain ⟨X, hX⟩ : ∃ X, X = wr.alloc (.cells #[.int .i64 ra, .int .i64 rb] 101) := ⟨_, rfl⟩
      have hbX : Below wr.heap.size wr X := by rw [hX]; exact below_new (Below.refl _ _) _
      have r0 : RowAt X wr.heap.size [.int .i64 ra, .int .i64 rb] 101 := by rw [hX]; exact RowAt.new _ _ _
      rw [← hX]
      replace HO : Hid (X.ownsRow B 101 2 (.slice (some ⟨gr, 0, none⟩) n cap) n (lkCs (shift l k t))) := own_below HO.out hbX
      replace hgc : X.cell? ⟨g, 0, none⟩ = some (.int .i64 i) := (hbX.cell (p := ⟨g, 0, none⟩) hgs).trans hgc
      have hgs2 : g < X.heap.size := Nat.lt_of_lt_of_le hgs hbX.size
      have hBX : Below B w X := hBr.trans (Below.mono hbX hBs)
      have hBs2 : B ≤ X.heap.size := Nat.le_trans hBs hbX.size
      have hne : wr.heap.size ≠ gr := by omega
      clear hX hbX a0 a1 hgs hBr hBs hg1
      generalize wr.heap.size = gs at r0 hne ⊢
      obtain ⟨y0, y1, yf⟩ := cells2 r0
      go_wp2_with fail
      go_at_call 138; refine (cc _ hgc hgs2).mono ?_; rintro e w2 ⟨rfl, hb2⟩
      replace HO : Hid (w2.ownsRow B 101 2 (.slice (some ⟨gr, 0, none⟩) n cap) n (lkCs (shift l k t))) := own_below HO.out hb2
      replace hgc : w2.cell? ⟨g, 0, none⟩ = some (.int .i64 i) := (hb2.cell (p := ⟨g, 0, none⟩) hgs2).trans hgc
      have hgs3 : g < w2.heap.size := Nat.lt_of_lt_of_le hgs2 hb2.size
      have hB2 : Below B w w2 := hBX.trans (Below.mono hb2 hBs2)
      have hBs3 : B ≤ w2.heap.size := Nat.le_trans hBs2 hb2.size
      replace r0 := RowAt.below r0 hb2
      clear y0 y1 yf hb2 hgs2 hBX hBs2 cc
      obtain ⟨y0, y1, yf⟩ := cells2 r0
      have s1 := (HO.out).stored (q * 2) (.int .i64 ra)
      have s2 := (s1.1).stored (q * 2 + 1) (.int .i64 rb)
      rw [HSS.out] at s2
      have hf : ∀ j, w2.frozen? ⟨gr, j, none⟩ = false := fun j => (HO.out).frozenAt j
      have HO5 : Hid (((w2.setCell ⟨gr, q * 2, none⟩ (.int .i64 ra)).setCell ⟨gr, q * 2 + 1, none⟩ (.int .i64 rb)).ownsRow B 101 2 (.slice (some ⟨gr, 0, none⟩) n cap) n (lkCs (shift l k (t + 1)))) := s2.1
      have hc5 : ((w2.setCell ⟨gr, q * 2, none⟩ (.int .i64 ra)).setCell ⟨gr, q * 2 + 1, none⟩ (.int .i64 rb)).cell? ⟨g, 0, none⟩ = some (.int .i64 i) := by
        have h1 := s1.2.block g hgs3 (by intro e; injection e with e; exact hgg e)
        have h2 := s2.2.block g (by simp; exact hgs3) (by intro e; injection e with e; exact hgg e)
        rw [World.cell?_of_block (h2.trans h1)]
        exact hgc
      have HC5 : Hid (((w2.setCell ⟨gr, q * 2, none⟩ (.int .i64 ra)).setCell ⟨gr, q * 2 + 1, none⟩ (.int .i64 rb)).cell? ⟨g, 0, none⟩ = some (.int .i64 i)) := hc5
      have hB5 : Below B w ((w2.setCell ⟨gr, q * 2, none⟩ (.int .i64 ra)).setCell ⟨gr, q * 2 + 1, none⟩ (.int .i64 rb)) := bset (bset hB2 hB) hB
      have HB5 : Hid (Below B w ((w2.setCell ⟨gr, q * 2, none⟩ (.int .i64 ra)).setCell ⟨gr, q * 2 + 1, none⟩ (.int .i64 rb)) ∧ g < ((w2.setCell ⟨gr, q * 2, none⟩ (.int .i64 ra)).setCell ⟨gr, q * 2 + 1, none⟩ (.int .i64 rb)).heap.size ∧ B ≤ ((w2.setCell ⟨gr, q * 2, none⟩ (.int .i64 ra)).setCell ⟨gr, q * 2 + 1, none⟩ (.int .i64 rb)).heap.size) := ⟨hB5, by simp; exact hgs3, by simp; exact hBs3⟩
      have hgrl : gr < w2.heap.size := by
        have := (HO.out).lt gr rfl
        exact this.2
      have hcq : ∃ z, w2.cell? ⟨gr, q * 2, none⟩ = some z := ⟨_, (HO.out).cellAt (q * 2) (by omega) |>.trans (List.getElem?_eq_getElem (by rw [(HO.out).1]; omega))⟩
      have hcq2 : ∃ z, w2.cell? ⟨gr, q * 2 + 1, none⟩ = some z := ⟨_, (HO.out).cellAt (q * 2 + 1) (by omega) |>.trans (List.getElem?_eq_getElem (by rw [(HO.out).1]; omega))⟩
      obtain ⟨z1, hz1⟩ := hcq
      obtain ⟨z2, hz2⟩ := hcq2
      clear s1 s2 HO HSS hc5 hB5 r0
      go_wp2_with fail
      go_roundw
      case rel => exact ⟨t + 1, j + 1, q + 1, by have := HJ.out; exact ⟨by omega, by omega⟩, by have := HJ.out; omega, by go_num, by go_num, HO5, HB5.out.1, HC5.out, HB5.out.2⟩
      case measure => simp [intOf]; omega
    · have hjn : j = n := by omega
      subst hjn
      have hqn : q < j := by omega
      have hnq : j - q = 1 := by omega
      have hcq : ¬ cap = q := by omega
      have hqi : (q : Int) ≤ (j : Int) := by omega
      have hqc : (q : Int) ≤ (cap : Int) := by omega
      have HQ : Hid (q = j - 1) := by show _ = _; omega
      have hjd : decide ((j : Int) < (j : Int)) = false := decide_eq_false (by omega)
      have hcells : ∀ x, x < j * 2 → ∃ z, wr.cell? ⟨gr, x, none⟩ = some z := fun x hx => ⟨_, (HO.out).cellAt x hx |>.trans (List.getElem?_eq_getElem (by rw [(HO.out).1]; exact hx))⟩
      obtain ⟨z1, hz1⟩ := hcells (q * 2) (by omega)
      obtain ⟨z2, hz2⟩ := hcells (q * 2 + 1) (by omega)
      have hf : ∀ x, wr.frozen? ⟨gr, x, none⟩ = false := fun x => (HO.out).frozenAt x
      clear hcells hlt ht hsl hgc hgs
      have hcl := fun ty => clear_one wr ty gr (q * 2) (cap - q) (by rw [hz1]; rfl) (by rw [hz2]; rfl) hf
      have s1 := (HO.out).stored (q * 2) (.int .i64 0)
      have s2 := (s1.1).stored (q * 2 + 1) (.int .i64 0)
      obtain ⟨Z, hZ⟩ : ∃ Z, Z = (wr.setCell ⟨gr, q * 2, none⟩ (.int .i64 0)).setCell ⟨gr, q * 2 + 1, none⟩ (.int .i64 0) := ⟨_, rfl⟩
      rw [← hZ] at s2
      simp only [← hZ] at hcl
      have hBZ : Below B w Z := by rw [hZ]; exact bset (bset hBr hB) hB
      have HF : Hid (Z.ownsRow B 101 2 (.slice (some ⟨gr, 0, none⟩) (j - 1) cap) (j - 1) (lkCs (l.take k ++ l.drop (k + 1)))) := by
        have h1 := own_cut s2.1 (m := j - 1) (by omega)
        have hlj := HN.out
        have ht2 : t = l.length - 1 - k := by omega
        rw [take_set _ _ _ _ (by omega), take_set _ _ _ _ (by omega), lkCs_take, hlj, ht2, shift_end l k (by omega), ← hlj] at h1
        exact h1
      clear s1 s2 hZ HO hz1 hz2 hf hj hq HJ
      go_wp2_with fail
      go_ret
      exact ⟨by have h := HQ.out; subst h; rfl, HF.out, hBZ⟩
end Go.Proofs.YtkjhnefbcnnjlaaGreat.Lk
namespace Go.Proofs.YtkjhnefbcnnjlaaGreat.Lk
open Go.RowKit
open Go.Proofs.YtkjhnefbcnnjlaaGreat.Addr (RowAt below2 below_new RowAt.lt RowAt.cell RowAt.new)
attribute [-go_sem] Builtin.append_
set_option maxHeartbeats 2000000 in
theorem delf_none (v : Value) (g : Nat) (w : World) (o : Option Addr) (n c : Nat) (hv : v = .slice o n c)
    (ci : ∀ W : World, Below w.heap.size w W → Calls Tryz.prog 120 #[v, .func (.func 138) #[] #[.pointer (some ⟨g, 0, none⟩)]] W fun e w' => e = .returned (.int .i64 (-1)) ∧ Below W.heap.size W w') :
    Calls Tryz.prog 118 #[v, .func (.func 138) #[] #[.pointer (some ⟨g, 0, none⟩)]] w fun e w' => e = .returned v ∧ Below w.heap.size w w' := by
  subst hv
  go_enter Tryz.func118, Tryz.ntmps118
  go_wp2_with fail
  go_at_call 120; refine (ci _ (Below.refl _ _)).mono ?_; rintro e w1 ⟨rfl, hb1⟩
  go_wp2_with fail
  go_ret
  exact ⟨rfl, hb1⟩
theorem delf_any (l : List Lk) (v : Value) (i : Int) (g B : Nat) (w : World) (hok : okL l = true) (hown : w.ownsRow B 101 2 v l.length (lkCs l)) (hBw : B ≤ w.heap.size) (hg : w.cell? ⟨g, 0, none⟩ = some (.int .i64 i)) (hgl : g < w.heap.size) (hgr : v.ownBlock ≠ some g) :
    Calls Tryz.prog 118 #[v, .func (.func 138) #[] #[.pointer (some ⟨g, 0, none⟩)]] w fun e w' => ∃ u, e = .returned u ∧ w'.ownsRow B 101 2 u (others l i).length (lkCs (others l i)) ∧ u.ownBlock = v.ownBlock ∧ Below B w w' := by
  have hl : HasLks w v l := hasRow_own hown
  have hlen := okL_len2 hok
  rcases find_idx l i with ⟨h1, h2⟩ | ⟨k, hk, h1, h2⟩
  · have hot : others l i = l := others_none (fun j hj hc => by
      have := List.find?_eq_none.1 h1 l[j] (List.getElem_mem hj)
      simp [hc] at this)
    obtain ⟨o, c, hv, _, _⟩ := HasRow.slice hl
    rw [hot]
    refine (delf_none v g w o _ c hv (fun W hb => ?_)).mono ?_
    · have := idxOf_any l v i g W (hl.keep hb) ((hb.cell (p := ⟨g, 0, none⟩) hgl).trans hg) (Nat.lt_of_lt_of_le hgl hb.size)
      rw [h2] at this
      exact this
    · rintro e w' ⟨rfl, hb⟩
      exact ⟨v, rfl, own_below hown hb, rfl, Below.mono hb hBw⟩
  · have hi : l[k].iface = i := by have := List.find?_some h1; simpa using this
    rcases hown.2 with ⟨_, h0⟩ | ⟨gr, cap, cur, rfl, hgb, hgc, hnc, hcm, hcs, htk⟩
    · omega
    · have hgg : g ≠ gr := fun e => hgr (by rw [e]; rfl)
      refine (delf_at l k gr cap l.length g B i w rfl hk (fun _ => hi) (okL_up hok) (by omega) hown hgb hBw ⟨hnc, by unfold maxLen at hcm; exact hcm⟩ hg hgl hgg (fun W hb => ?_)).mono ?_
      · have := idxOf_any l _ i g W (hl.keep hb) ((hb.cell (p := ⟨g, 0, none⟩) hgl).trans hg) (Nat.lt_of_lt_of_le hgl hb.size)
        rw [h2] at this
        exact this
      · rintro e w' ⟨rfl, ho, hb⟩
        have hot : others l i = l.take k ++ l.drop (k + 1) := by rw [← hi]; exact others_at (okL_up hok) hk
        have hol : (others l i).length = l.length - 1 := by rw [hot, List.length_append, List.length_take, List.length_drop]; omega
        refine ⟨_, rfl, ?_, rfl, hb⟩
        rw [hol, hot]
        exact ho
set_option maxHeartbeats 4000000 in
set_option maxRecDepth 20000 in
theorem del_any (l : List Lk) (v : Value) (i : Int) (w : World) (hl : HasLks w v l) :
    Calls Tryz.prog 92 #[v, .int .i64 i] w fun e w' => ∃ u, e = .returned (.tuple #[u, .int .i64 (delL l i).2]) ∧ HasLks w' u (delL l i).1 ∧ Below w.heap.size w w' := by
  obtain ⟨o, c, rfl, hc1, hc2⟩ := HasRow.slice hl
  have cc := fun W (hb : Below w.heap.size w W) => check_any l _ W (hl.keep hb)
  have co := fun W => of_any i W
  have hck : checkL l = if okL l then 0 else 2 := rfl
  rw [hck] at cc
  cases hok : okL l
  · have hP : delL l i = ([], 2) := by unfold delL; rw [hok]; rfl
    rw [hok] at cc
    simp only [Bool.false_eq_true, if_false] at cc
    rw [hP]
    go_enter Tryz.func92, Tryz.ntmps92
    go_wp2_with fail
    go_at_call 48; refine (cc _ (Below.refl _ _)).mono ?_; rintro e w1 ⟨rfl, hb1⟩
    go_wp2_with fail
    go_ret2
    exact ⟨_, rfl, hasRow_nil _ 2, hb1⟩
  · have hlen := okL_len2 hok
    have hP : delL l i = (others l i, if (others l i).length = l.length then 3 else 0) := by unfold delL; rw [hok]; rfl
    rw [hP]
    rw [hok] at cc
    simp only [if_true] at cc
    have cl := fun W (hb : Below w.heap.size w W) => clone_any l _ W (hl.keep hb) (by omega)
    have cd := fun (W : World) (v : Value) (g B : Nat) => delf_any l v i g B W hok
    obtain ⟨m, hm⟩ : ∃ m, m = (others l i).length := ⟨_, rfl⟩
    obtain ⟨n, hn⟩ : ∃ n, n = l.length := ⟨_, rfl⟩
    have HMN : Hid (m = (others l i).length ∧ n = l.length) := ⟨hm, hn⟩
    have HOT : Hid (∀ (W : World) (u : Value) (B : Nat), W.ownsRow B 101 2 u (others l i).length (lkCs (others l i)) → HasLks W u (others l i) ∧ ∃ ou cu, u = .slice ou m cu) := fun W u B h => ⟨hasRow_own h, by obtain ⟨ou, cu, e, _, _⟩ := HasRow.slice (hasRow_own h); exact ⟨ou, cu, by rw [hm]; exact e⟩⟩
    rw [← hn] at hlen hc1 cl cc ⊢
    have hmn : (m : Int) ≤ 32 := by
      have : m ≤ n := by rw [hm, hn]; exact List.length_filter_le _ _
      omega
    have hni : (n : Int) ≤ 32 := by omega
    rw [show (if (others l i).length = n then (3 : Int) else 0) = if m = n then 3 else 0 by rw [hm]]
    obtain ⟨yy, hyy⟩ : ∃ yy : Int, yy = if m = n then 3 else 0 := ⟨_, rfl⟩
    have HY : Hid (yy = if m = n then 3 else 0) := hyy
    rw [← hyy]
    clear hP hck hm hn hl hyy
    go_enter Tryz.func92, Tryz.ntmps92
    go_wp2_with fail
    go_at_call 48; refine (cc _ (Below.refl _ _)).mono ?_; rintro e w1 ⟨rfl, hb1⟩
    go_wp2_with fail
    go_at_call 53; refine (cl _ hb1).mono ?_; rintro e w2 ⟨u2, rfl, ho2, hb2⟩
    go_wp2_with fail
    go_at_call 119; refine (co _).mono ?_; rintro e w3 ⟨rfl, hw3⟩
    have hb3 : Below w2.heap.size w2 w3 := by rw [hw3]; exact below_new (Below.refl _ _) _
    have r3 : RowAt w3 w2.heap.size [.int .i64 i] 3 := by rw [hw3]; exact RowAt.new _ _ _
    have hgr : u2.ownBlock ≠ some w2.heap.size := fun e => by have := (ho2.lt _ e).2; omega
    have ho3 := own_below ho2 hb3
    have hBw : w1.heap.size ≤ w3.heap.size := Nat.le_trans hb2.size hb3.size
    clear hw3 ho2
    generalize w2.heap.size = g at r3 hgr ⊢
    go_wp2_with fail
    go_at_call 118; refine (cd _ _ g w1.heap.size (by rw [← HMN.out.2]; exact ho3) hBw (r3.cell 0) r3.lt hgr).mono ?_; rintro e w4 ⟨u4, rfl, ho4, _, hb4⟩
    obtain ⟨hh, ou, cu, rfl⟩ := HOT.out _ _ _ ho4
    have hbw : Below w.heap.size w w4 := hb1.trans ((Below.mono ((below2 hb2 hb3).trans hb4) hb1.size))
    by_cases hmn2 : m = n
    · have hmm : ((m : Int) == (n : Int)) = true := by rw [hmn2]; simp
      have HV : Hid (yy = 3) := by show _ = _; rw [HY.out, if_pos hmn2]
      clear cd cl cc co ho3 ho4 hb2 hb3 hb4 hb1 hmn2 HY
      go_wp2_with fail
      go_ret2
      exact ⟨_, by have h := HV.out; subst h; rfl, hh, hbw⟩
    · have hmm : ((m : Int) == (n : Int)) = false := beq_eq_false_iff_ne.2 (by omega)
      have HV : Hid (yy = 0) := by show _ = _; rw [HY.out, if_neg hmn2]
      clear cd cl cc co ho3 ho4 hb2 hb3 hb4 hb1 hmn2 HY
      go_wp2_with fail
      go_ret2
      exact ⟨_, by have h := HV.out; subst h; rfl, hh, hbw⟩
end Go.Proofs.YtkjhnefbcnnjlaaGreat.Lk
namespace Go.Proofs.YtkjhnefbcnnjlaaGreat.Lk
open Go.RowKit
/-- copy, as one step of a region whose order is drawn -/
theorem copy_step {ops : Array Oper} {o : Oper} {a : Act} {w : World} {K : Act → World → Prop} {Q : Exit → Act → World → Prop} {E : Prop} (hg : o.guard = none) (d s : Operand) (t t' : TypeId)
    (ho : o.op = .call { callee := .builtin .copy, args := #[d, s], argTypes := #[t, t'] }) {v u : Value} (hd : a.eval d = v) (hs : a.eval s = u) {v' : Value} {w' : World}
    (hr : (Builtin.copy_ #[t, t'] o.type #[v, u]).run Tryz.prog w = .ok v' w') (hK : K (a.put o.dst v') w') : if Region.wanted o (yielded ops a.tmps) = true then Oper.wp Tryz.prog o a w K Q else E := by
  rw [if_pos (by simp [Region.wanted, hg])]
  simp [Oper.wp, execOp, ho, resolve, invoke, builtin, hd, hs, hr, Result.andThen]
  exact hK
/-- a row that is copied into a row that is owned -/
theorem own_copy {e sz : Nat} {dT : TypeId} (hu : Tryz.prog.underlying dT = some (.slice e)) (hs : (Tryz.prog.info? e).map (·.size) = some sz) {W : World} {B g n cap : Nat} {xs : List Value} (h : W.ownsRow B e sz (.slice (some ⟨g, 0, none⟩) n cap) n xs)
    (o dLen dCap : Nat) (a : Addr) (sLen sCap k : Nat) (cs : List Value) (hk : Nat.min sLen dLen = k) (hl : cs.length = k * sz) (hok : o * sz + k * sz ≤ n * sz) (hsrc : ∀ j v, cs[j]? = some v → W.cell? (a.add j) = some v) (h1 : ∀ v ∈ cs, v.oneCell' = true) :
    ∃ W', (∀ sT ty, (Builtin.copy_ #[dT, sT] ty #[.slice (some ⟨g, o * sz, none⟩) dLen dCap, .slice (some a) sLen sCap]).run Tryz.prog W = .ok (goInt k) W') ∧ W'.ownsRow B e sz (.slice (some ⟨g, 0, none⟩) n cap) n (xs.take (o * sz) ++ cs ++ xs.drop (o * sz + k * sz)) ∧ W.grownBy W' (some g) := by
  rcases h.2 with ⟨e0, _⟩ | ⟨g', cap', cur, e1, hg, hgb, hnc, hcm, hcs, htk⟩
  · cases e0
  · injection e1 with e1 _ e3
    injection e1 with e1
    injection e1 with e1
    subst e1 e3
    have hnn : n * sz ≤ cur.size := by rw [hcs]; exact Nat.mul_le_mul_right _ hnc
    have hld := run_loadCells_list (P := Tryz.prog) W a cs hsrc
    have hst := run_storeCells_at Tryz.prog g (o * sz) e cs 0 cur W hgb (by omega) h1
    refine ⟨W.setRow g (cur.toList.take (o * sz) ++ cs ++ cur.toList.drop (o * sz + cs.length)).toArray, fun sT ty => ?_, ?_, ?_⟩
    · cases hq : Tryz.prog.info? e with
      | none => simp [hq] at hs
      | some i =>
        have hi : i.size = sz := by simpa [hq] using hs
        rw [hl] at hld
        simp only [Nat.add_zero] at hst
        simp [Builtin.copy_, run_underlying hu, Builtin.lenOf, Builtin.firstCells, sizeOf, typeInfo, hq, hi, hk, hld, hst]
    · refine ⟨?_, .inr ⟨g, cap, _, rfl, hg, setRow_heap W g cur _ e _ hgb, hnc, hcm, ?_, ?_⟩⟩
      · have := h.1
        simp only [List.length_append, List.length_take, List.length_drop]
        omega
      · simp only [List.size_toArray, List.length_append, List.length_take, List.length_drop, Array.length_toList]
        omega
      · rw [← htk]
        simp only [List.take_append, List.length_append, List.length_take, Array.length_toList, List.take_take, List.drop_take]
        rw [Nat.min_eq_left (show o * sz ≤ cur.size by omega), Nat.min_eq_right (show o * sz ≤ n * sz by omega), Nat.min_eq_left (show o * sz ≤ n * sz by omega), List.take_of_length_le (show cs.length ≤ n * sz - o * sz by omega), hl]
    · exact ⟨rfl, rfl, rfl, by simp [World.setRow], fun k _ hk => by simp only [World.setRow]; rw [Array.getElem?_modify]; split; (rename_i h0; exact absurd (by rw [h0]) hk); rfl⟩
end Go.Proofs.YtkjhnefbcnnjlaaGreat.Lk
namespace Go.Proofs.YtkjhnefbcnnjlaaGreat.Lk
open Go.RowKit
attribute [-go_sem] Builtin.append_
/-- one element more of a row that has room -/
theorem own_more {W : World} {B e sz g n cap : Nat} {xs : List Value} (h : W.ownsRow B e sz (.slice (some ⟨g, 0, none⟩) n cap) n xs) (hr : n + 1 ≤ cap) : ∃ ys, ys.length = sz ∧ W.ownsRow B e sz (.slice (some ⟨g, 0, none⟩) (n + 1) cap) (n + 1) (xs ++ ys) := by
  rcases h.2 with ⟨e0, _⟩ | ⟨g', cap', cur, e1, hg, hgb, hnc, hcm, hcs, htk⟩
  · cases e0
  · injection e1 with e1 _ e3
    injection e1 with e1
    injection e1 with e1
    subst e1 e3
    have h1 : (n + 1) * sz ≤ cur.size := by rw [hcs]; exact Nat.mul_le_mul_right _ hr
    have h2 : (n + 1) * sz = n * sz + sz := Nat.succ_mul _ _
    have h3 : cur.toList.take ((n + 1) * sz) = xs ++ (cur.toList.drop (n * sz)).take sz := by rw [h2, List.take_add, htk]
    refine ⟨(cur.toList.drop (n * sz)).take sz, ?_, ?_, .inr ⟨g, cap, cur, rfl, hg, hgb, hr, hcm, hcs, h3⟩⟩
    · rw [List.length_take, List.length_drop, Array.length_toList]; omega
    · rw [← h3, List.length_take, Array.length_toList]; omega
end Go.Proofs.YtkjhnefbcnnjlaaGreat.Lk
namespace Go.Proofs.YtkjhnefbcnnjlaaGreat.Lk
open Go.RowKit
open Go.Proofs.YtkjhnefbcnnjlaaGreat.Addr (RowAt RowAt.lt RowAt.cell RowAt.frozen)
attribute [-go_sem] Builtin.append_
theorem size_lk : (Tryz.prog.info? 101).map (·.size) = some 2 := by kernel_rfl
theorem row_one {w : World} {vb : Nat} {x : Lk} (h : RowAt w vb (lkC x) 101) : HasRow w (.slice (some ⟨vb, 0, none⟩) 1 1) 2 1 (lkC x) :=
  ⟨rfl, .inr ⟨_, 1, rfl, Nat.le_refl _, by omega, fun _ => ⟨rfl, h.lt⟩, fun j _ => by rw [addr_add, Nat.zero_add]; exact h.cell j⟩⟩
set_option maxRecDepth 20000 in
theorem overl {w : World} {vb g : Nat} {x : Lk} {B n cap o lb cb : Nat} {xs : List Value} (h : RowAt w vb (lkC x) 101) (ho : w.ownsRow B 101 2 (.slice (some ⟨g, 0, none⟩) n cap) n xs) (hn : 0 < cap) (hne : vb ≠ g) :
    (callFunc 139 #[.slice (some ⟨vb, 0, none⟩) 1 1, .slice (some ⟨g, o, none⟩) lb cb]).run Tryz.prog w = .ok (.value (.bool false)) w := by
  rcases ho.2 with ⟨e0, _⟩ | ⟨g', cap', cur, e1, hg, hgb, hnc, hcm, hcs, htk⟩
  · cases e0
  · injection e1 with e1 _ e3
    injection e1 with e1
    injection e1 with e1
    subst e1 e3
    obtain ⟨i0, hi0, hz0, hz1, hz2⟩ := info_parts info_lk
    have hz : ∀ w, (Go.sizeOf 101).run Tryz.prog w = .ok 2 w := fun w => by simp [sizeOf, typeInfo, hi0, hz1]
    have hr : w.heap[vb]? = some (.cells (lkC x).toArray 101 (0, 0)) := h
    rw [run_callFunc_extern Tryz.func139 (by kernel_rfl) (by kernel_rfl) (by kernel_rfl) (e := Extern.SlicesOverlaps.overlaps #[49, 49] #[4]) (by kernel_rfl),
      Lib.run_overlaps_apart w 49 4 101 Tryz.underlying49 2 hz ⟨vb, 0, none⟩ ⟨g, o, none⟩ 1 1 lb cb hne 101 101 2 cur.size (by unfold World.shape?; rw [hr]; rfl) (by unfold World.shape?; rw [hgb]) (by omega) (h.frozen 0) (h.frozen 2)]
    rfl
set_option maxHeartbeats 4000000 in
set_option maxRecDepth 20000 in
theorem ins_end (l : List Lk) (v : Value) (x : Lk) (vb B : Nat) (w : World) (hown : w.ownsRow B 101 2 v l.length (lkCs l)) (hB : B ≤ w.heap.size) (hlen : l.length ≤ 1000) (rv : RowAt w vb (lkC x) 101) :
    Calls Tryz.prog 122 #[v, .int .i64 (l.length : Int), .slice (some ⟨vb, 0, none⟩) 1 1] w fun e w' => ∃ u, e = .returned u ∧ HasLks w' u (l ++ [x]) ∧ Below B w w' := by
  obtain ⟨v', w3, hrun, h1, h2⟩ := append_row info_lk Tryz.underlying49 rfl (by decide) hown (row_one rv) (by have := one_links [x]; simpa [lkCs] using this) (by omega) (by omega) hB
  have HH : Hid (HasLks w3 v' (l ++ [x])) := by
    show HasRow _ _ _ _ _
    rw [lkCs_app, List.length_append]
    exact hasRow_own h1
  have hBB : Below B w w3 := (Below.refl _ w).grown h2 hB (fun k e => (hown.lt k e).1)
  obtain ⟨o, c, rfl, hc1, hc2⟩ := HasRow.slice (hasRow_own hown)
  have hni : (l.length : Int) ≤ 1000 := by omega
  clear h1 h2 hown rv
  generalize l.length = n at *
  by_cases hcn : c = n
  · subst hcn
    go_enter Tryz.func122, Tryz.ntmps122
    go_wp2
    go_ret
    exact ⟨_, rfl, HH.out, hBB⟩
  · go_enter Tryz.func122, Tryz.ntmps122
    go_wp2
    go_ret
    exact ⟨_, rfl, HH.out, hBB⟩
theorem lkCs_drop (l : List Lk) (k : Nat) : (lkCs l).drop (k * 2) = lkCs (l.drop k) := by
  induction k generalizing l with
  | zero => simp
  | succ k ih =>
    cases l with
    | nil => simp [lkCs]
    | cons y l =>
      rw [show (k + 1) * 2 = k * 2 + 1 + 1 by omega, show lkCs (y :: l) = .int .i64 y.iface :: .int .i64 y.peer :: lkCs l from rfl, List.drop_succ_cons, List.drop_succ_cons, List.drop_succ_cons]
      exact ih l
/-- what stands in the row behind both copies, in place -/
theorem ins_cells (l : List Lk) (x : Lk) (k : Nat) (hk : k ≤ l.length) (ys : List Value) (hy : ys.length = 2) :
    let a := (lkCs l ++ ys).take ((k + 1) * 2) ++ lkCs (l.drop k) ++ (lkCs l ++ ys).drop ((k + 1) * 2 + (l.length - k) * 2)
    a.take (k * 2) ++ lkC x ++ a.drop (k * 2 + 1 * 2) = lkCs (l.take k ++ ([x] ++ l.drop k)) := by
  intro a
  have hll := lkCs_len l
  have h1 : a.take (k * 2) = lkCs (l.take k) := by
    show List.take _ (_ ++ _ ++ _) = _
    rw [List.append_assoc, List.take_append_of_le_length (by rw [List.length_take, List.length_append, hll, hy]; omega), List.take_take, Nat.min_eq_left (by omega), List.take_append_of_le_length (by omega), lkCs_take]
  have h2 : a.drop (k * 2 + 1 * 2) = lkCs (l.drop k) := by
    show List.drop _ (_ ++ _ ++ _) = _
    have e : (List.take ((k + 1) * 2) (lkCs l ++ ys)).length = k * 2 + 1 * 2 := by rw [List.length_take, List.length_append, hll, hy]; omega
    rw [List.append_assoc, List.drop_append_of_le_length (by omega), List.drop_of_length_le (by omega), List.drop_of_length_le (l := lkCs l ++ ys) (by rw [List.length_append, hll, hy]; omega), List.nil_append, List.append_nil]
  rw [h1, h2, lkCs_app, lkCs_app, List.append_assoc]
  simp [lkCs]
end Go.Proofs.YtkjhnefbcnnjlaaGreat.Lk
namespace Go.Proofs.YtkjhnefbcnnjlaaGreat.Lk
open Go.RowKit
open Go.Proofs.YtkjhnefbcnnjlaaGreat.Addr (RowAt below_drew RowAt.lt RowAt.cell RowAt.drew RowAt.gkeep)
attribute [-go_sem] Builtin.append_
set_option maxHeartbeats 8000000 in
set_option maxRecDepth 20000 in
theorem ins_room (l : List Lk) (x : Lk) (k g cap vb B : Nat) (w : World) (hown : w.ownsRow B 101 2 (.slice (some ⟨g, 0, none⟩) l.length cap) l.length (lkCs l)) (hB : B ≤ w.heap.size) (hlen : l.length ≤ 1000) (hk : k < l.length) (hr : l.length + 1 ≤ cap) (hc9 : cap ≤ 9223372036854775807) (rv : RowAt w vb (lkC x) 101) (hne : vb ≠ g) :
    Calls Tryz.prog 122 #[.slice (some ⟨g, 0, none⟩) l.length cap, .int .i64 (k : Int), .slice (some ⟨vb, 0, none⟩) 1 1] w fun e w' => ∃ u, e = .returned u ∧ HasLks w' u (l.take k ++ ([x] ++ l.drop k)) ∧ Below B w w' := by
  have hBg : B ≤ g := (hown.lt g rfl).1
  obtain ⟨ys, hy, ho1⟩ := own_more hown hr
  have hll := lkCs_len l
  have hov : ∀ o lb cb, (callFunc 139 #[.slice (some ⟨vb, 0, none⟩) 1 1, .slice (some ⟨g, o, none⟩) lb cb]).run Tryz.prog w = .ok (.value (.bool false)) w := fun o lb cb => overl rv hown (by omega) hne
  obtain ⟨W1, hr1, ho2, hg1⟩ := own_copy Tryz.underlying49 size_lk (W := w.drew) ho1 (k + 1) (l.length + 1 - (k + 1)) (cap - (k + 1)) ⟨g, k * 2, none⟩ (l.length + 1 - k) (cap - k) (l.length - k) (lkCs (l.drop k)) (by simp only [Nat.min_def]; split <;> omega) (by rw [lkCs_len, List.length_drop]) (by omega)
    (fun j v hj => by
      have hjl := (List.getElem?_eq_some_iff.1 hj).1
      rw [lkCs_len, List.length_drop] at hjl
      rw [addr_add, show w.drew.cell? ⟨g, k * 2 + j, none⟩ = w.cell? ⟨g, k * 2 + j, none⟩ from rfl, hown.cellAt _ (by omega), ← List.getElem?_drop, lkCs_drop]
      exact hj) (one_links _)
  have rv1 : RowAt W1 vb (lkC x) 101 := RowAt.gkeep (X := w.drew) rv hg1 (by intro e; injection e with e; exact hne e)
  obtain ⟨W2, hr2, ho3, hg2⟩ := own_copy Tryz.underlying49 size_lk ho2 k (l.length + 1 - k) (cap - k) ⟨vb, 0, none⟩ 1 1 1 (lkC x) (by simp only [Nat.min_def]; split <;> omega) rfl (by omega)
    (fun j v hj => by rw [addr_add, Nat.zero_add, rv1.cell]; exact hj) (by have := one_links [x]; simpa [lkCs] using this)
  have hc := ins_cells l x k (by omega) ys hy
  simp only at hc
  rw [hc] at ho3
  have HH : Hid (HasLks W2 (.slice (some ⟨g, 0, none⟩) (l.length + 1) cap) (l.take k ++ ([x] ++ l.drop k))) := by
    show HasRow _ _ _ _ _
    rw [show (l.take k ++ ([x] ++ l.drop k)).length = l.length + 1 by simp; omega]
    exact hasRow_own ho3
  have hBB : Below B w W2 := ((below_drew (Below.refl _ w)).grown hg1 hB (fun q e => by injection e with e; omega)).grown hg2 (Nat.le_trans hB hg1.size) (fun q e => by injection e with e; omega)
  have hki : (k : Int) < (l.length : Int) := by omega
  have hni : (l.length : Int) ≤ 1000 := by omega
  clear hc ho3 ho2 ho1 hown rv rv1 hy hll hg1 hg2
  generalize l.length = n at *
  have hz2 : ¬ ((k : Int) = (n : Int)) := by omega
  have hck : ¬ cap = k := by omega
  have hck1 : ¬ cap = k + 1 := by omega
  have hgt : ¬ ((cap : Int) < (n : Int) + 1) := by omega
  have mixed : Tryz.prog.follows Departure.mixedOrders = true := by kernel_rfl
  have hw1 : IntKind.i64.wrap ((k : Int) + 1) = (k : Int) + 1 := by rw [IntKind.wrap_i64]; omega
  have hb1 : (0 : Int) ≤ (k : Int) + 1 := by omega
  have hkn : k ≤ n := by omega
  have htn : ((k : Int) + 1).toNat = k + 1 := by omega
  have hb3 : (k : Int) ≤ (n : Int) + 1 := by omega
  go_enter Tryz.func122, Tryz.ntmps122
  go_wp2_with (simp only [hov])
  go_region_law_o (refine copy_step rfl _ _ 49 49 rfl (by simp [Act.eval, Act.put]) (by simp [Act.eval, Act.put]) (hr1 _ _) ?_)
  go_wp2_with (at_builtin; refine Lib.wpList_copy_run _ rfl _ _ 49 49 rfl _ _ rfl rfl (hr2 _ _) ?_)
  go_ret
  exact ⟨_, rfl, HH.out, hBB⟩
end Go.Proofs.YtkjhnefbcnnjlaaGreat.Lk
