/- slices.Insert of one link, in place. -/
import Derived.Test.YtedgmnnbmonhkaaLkIns2
import Derived.Shelf.RegionOpen
set_option linter.unusedVariables false
namespace Go.Proofs.Ytedgmnnbmonhkaa.Lk
open Go.RowKit
open Go.Proofs.Ytedgmnnbmonhkaa.Addr (RowAt below2 below_drew below_new bset RowAt.lt RowAt.cell RowAt.frozen RowAt.below RowAt.drew RowAt.new RowAt.alloc cells2 RowAt.gkeep)
attribute [-go_sem] Builtin.append_
set_option maxHeartbeats 8000000 in
set_option maxRecDepth 20000 in
theorem ins_room (l : List Lk) (x : Lk) (k g cap vb B : Nat) (w : World) (hown : w.ownsRow B 24 2 (.slice (some ⟨g, 0, none⟩) l.length cap) l.length (lkCs l)) (hB : B ≤ w.heap.size) (hlen : l.length ≤ 1000) (hk : k < l.length) (hr : l.length + 1 ≤ cap) (hc9 : cap ≤ 9223372036854775807) (rv : RowAt w vb (lkC x) 24) (hne : vb ≠ g) :
    Calls Try.prog 26 #[.slice (some ⟨g, 0, none⟩) l.length cap, .int .i64 (k : Int), .slice (some ⟨vb, 0, none⟩) 1 1] w fun e w' => ∃ u, e = .returned u ∧ HasLks w' u (l.take k ++ ([x] ++ l.drop k)) ∧ Below B w w' := by
  have hBg : B ≤ g := (hown.lt g rfl).1
  obtain ⟨ys, hy, ho1⟩ := own_more hown hr
  have hll := lkCs_len l
  have hov : ∀ o lb cb, (callFunc 32 #[.slice (some ⟨vb, 0, none⟩) 1 1, .slice (some ⟨g, o, none⟩) lb cb]).run Try.prog w = .ok (.value (.bool false)) w := fun o lb cb => overl rv hown (by omega) hne
  obtain ⟨W1, hr1, ho2, hg1⟩ := own_copy Try.underlying22 size_lk (W := w.drew) ho1 (k + 1) (l.length + 1 - (k + 1)) (cap - (k + 1)) ⟨g, k * 2, none⟩ (l.length + 1 - k) (cap - k) (l.length - k) (lkCs (l.drop k)) (by simp only [Nat.min_def]; split <;> omega) (by rw [lkCs_len, List.length_drop]) (by omega)
    (fun j v hj => by
      have hjl := (List.getElem?_eq_some_iff.1 hj).1
      rw [lkCs_len, List.length_drop] at hjl
      rw [addr_add, show w.drew.cell? ⟨g, k * 2 + j, none⟩ = w.cell? ⟨g, k * 2 + j, none⟩ from rfl, hown.cellAt _ (by omega), ← List.getElem?_drop, lkCs_drop]
      exact hj) (one_links _)
  have rv1 : RowAt W1 vb (lkC x) 24 := RowAt.gkeep (X := w.drew) rv hg1 (by intro e; injection e with e; exact hne e)
  obtain ⟨W2, hr2, ho3, hg2⟩ := own_copy Try.underlying22 size_lk ho2 k (l.length + 1 - k) (cap - k) ⟨vb, 0, none⟩ 1 1 1 (lkC x) (by simp only [Nat.min_def]; split <;> omega) rfl (by omega)
    (fun j v hj => by rw [addr_add, Nat.zero_add, rv1.cell]; exact hj) (by have := one_links [x]; simpa [lkCs] using this)
  have hc := ins_cells l x k (by omega) ys hy
  simp only at hc
  rw [hc] at ho3
  have HH : Hid (HasLks W2 (.slice (some ⟨g, 0, none⟩) (l.length + 1) cap) (l.take k ++ ([x] ++ l.drop k))) := by
    show HasRow _ _ _ _ _
    rw [show (l.take k ++ ([x] ++ l.drop k)).length = l.length + 1 by simp; omega]
    exact hasRow_own ho3
  have hBB : Below B w W2 := ((below_drew (Below.refl _ w)).grown hg1 hB (fun q e => by injection e with e; omega)).grown hg2 (Nat.le_trans hB hg1.size) (fun q e => by injection e with e; omega)
  have hki : (k : Int) < (l.length : Int) := by omega
  have hni : (l.length : Int) ≤ 1000 := by omega
  clear hc ho3 ho2 ho1 hown rv rv1 hy hll hg1 hg2
  generalize l.length = n at *
  have hz2 : ¬ ((k : Int) = (n : Int)) := by omega
  have hck : ¬ cap = k := by omega
  have hck1 : ¬ cap = k + 1 := by omega
  have hgt : ¬ ((cap : Int) < (n : Int) + 1) := by omega
  have mixed : Try.prog.follows Departure.mixedOrders = true := by kernel_rfl
  have hw1 : IntKind.i64.wrap ((k : Int) + 1) = (k : Int) + 1 := by rw [IntKind.wrap_i64]; omega
  have hb1 : (0 : Int) ≤ (k : Int) + 1 := by omega
  have hkn : k ≤ n := by omega
  have htn : ((k : Int) + 1).toNat = k + 1 := by omega
  have hb3 : (k : Int) ≤ (n : Int) + 1 := by omega
  go_enter Try.func26, Try.ntmps26
  go_wp2_with (simp only [hov])
  go_region_law_o (refine copy_step rfl _ _ 22 22 rfl (by simp [Act.eval, Act.put]) (by simp [Act.eval, Act.put]) (hr1 _ _) ?_)
  go_wp2_with (at_builtin; refine Lib.wpList_copy_run _ rfl _ _ 22 22 rfl _ _ rfl rfl (hr2 _ _) ?_)
  go_ret
  exact ⟨_, rfl, HH.out, hBB⟩
end Go.Proofs.Ytedgmnnbmonhkaa.Lk
