/- slices.Insert of one link: its three roads. -/
import Derived.Test.YtedgmnnbmonhkaaLkIns
set_option linter.unusedVariables false
namespace Go.Proofs.Ytedgmnnbmonhkaa.Lk
open Go.RowKit
open Go.Proofs.Ytedgmnnbmonhkaa.Addr (RowAt below2 below_drew below_new bset RowAt.lt RowAt.cell RowAt.frozen RowAt.below RowAt.drew RowAt.new RowAt.alloc cells2)
attribute [-go_sem] Builtin.append_
theorem size_lk : (Try.prog.info? 24).map (·.size) = some 2 := by kernel_rfl
theorem row_one {w : World} {vb : Nat} {x : Lk} (h : RowAt w vb (lkC x) 24) : HasRow w (.slice (some ⟨vb, 0, none⟩) 1 1) 2 1 (lkC x) :=
  ⟨rfl, .inr ⟨_, 1, rfl, Nat.le_refl _, by omega, fun _ => ⟨rfl, h.lt⟩, fun j _ => by rw [addr_add, Nat.zero_add]; exact h.cell j⟩⟩
set_option maxRecDepth 20000 in
theorem overl {w : World} {vb g : Nat} {x : Lk} {B n cap o lb cb : Nat} {xs : List Value} (h : RowAt w vb (lkC x) 24) (ho : w.ownsRow B 24 2 (.slice (some ⟨g, 0, none⟩) n cap) n xs) (hn : 0 < cap) (hne : vb ≠ g) :
    (callFunc 32 #[.slice (some ⟨vb, 0, none⟩) 1 1, .slice (some ⟨g, o, none⟩) lb cb]).run Try.prog w = .ok (.value (.bool false)) w := by
  rcases ho.2 with ⟨e0, _⟩ | ⟨g', cap', cur, e1, hg, hgb, hnc, hcm, hcs, htk⟩
  · cases e0
  · injection e1 with e1 _ e3
    injection e1 with e1
    injection e1 with e1
    subst e1 e3
    obtain ⟨i0, hi0, hz0, hz1, hz2⟩ := info_parts info_lk
    have hz : ∀ w, (Go.sizeOf 24).run Try.prog w = .ok 2 w := fun w => by simp [sizeOf, typeInfo, hi0, hz1]
    have hr : w.heap[vb]? = some (.cells (lkC x).toArray 24 (0, 0)) := h
    rw [run_callFunc_extern Try.func32 (by kernel_rfl) (by kernel_rfl) (by kernel_rfl) (e := Extern.SlicesOverlaps.overlaps #[22, 22] #[4]) (by kernel_rfl),
      Lib.run_overlaps_apart w 22 4 24 Try.underlying22 2 hz ⟨vb, 0, none⟩ ⟨g, o, none⟩ 1 1 lb cb hne 24 24 2 cur.size (by unfold World.shape?; rw [hr]; rfl) (by unfold World.shape?; rw [hgb]) (by omega) (h.frozen 0) (h.frozen 2)]
    rfl
set_option maxHeartbeats 4000000 in
set_option maxRecDepth 20000 in
theorem ins_end (l : List Lk) (v : Value) (x : Lk) (vb B : Nat) (w : World) (hown : w.ownsRow B 24 2 v l.length (lkCs l)) (hB : B ≤ w.heap.size) (hlen : l.length ≤ 1000) (rv : RowAt w vb (lkC x) 24) :
    Calls Try.prog 26 #[v, .int .i64 (l.length : Int), .slice (some ⟨vb, 0, none⟩) 1 1] w fun e w' => ∃ u, e = .returned u ∧ HasLks w' u (l ++ [x]) ∧ Below B w w' := by
  obtain ⟨v', w3, hrun, h1, h2⟩ := append_row info_lk Try.underlying22 rfl (by decide) hown (row_one rv) (by have := one_links [x]; simpa [lkCs] using this) (by omega) (by omega) hB
  have HH : Hid (HasLks w3 v' (l ++ [x])) := by
    show HasRow _ _ _ _ _
    rw [lkCs_app, List.length_append]
    exact hasRow_own h1
  have hBB : Below B w w3 := (Below.refl _ w).grown h2 hB (fun k e => (hown.lt k e).1)
  obtain ⟨o, c, rfl, hc1, hc2⟩ := HasRow.slice (hasRow_own hown)
  have hni : (l.length : Int) ≤ 1000 := by omega
  clear h1 h2 hown rv
  generalize l.length = n at *
  by_cases hcn : c = n
  · subst hcn
    go_enter Try.func26, Try.ntmps26
    go_wp2
    go_ret
    exact ⟨_, rfl, HH.out, hBB⟩
  · go_enter Try.func26, Try.ntmps26
    go_wp2
    go_ret
    exact ⟨_, rfl, HH.out, hBB⟩
theorem lkCs_drop (l : List Lk) (k : Nat) : (lkCs l).drop (k * 2) = lkCs (l.drop k) := by
  induction k generalizing l with
  | zero => simp
  | succ k ih =>
    cases l with
    | nil => simp [lkCs]
    | cons y l =>
      rw [show (k + 1) * 2 = k * 2 + 1 + 1 by omega, show lkCs (y :: l) = .int .i64 y.iface :: .int .i64 y.peer :: lkCs l from rfl, List.drop_succ_cons, List.drop_succ_cons, List.drop_succ_cons]
      exact ih l
/-- what stands in the row behind both copies, in place -/
theorem ins_cells (l : List Lk) (x : Lk) (k : Nat) (hk : k ≤ l.length) (ys : List Value) (hy : ys.length = 2) :
    let a := (lkCs l ++ ys).take ((k + 1) * 2) ++ lkCs (l.drop k) ++ (lkCs l ++ ys).drop ((k + 1) * 2 + (l.length - k) * 2)
    a.take (k * 2) ++ lkC x ++ a.drop (k * 2 + 1 * 2) = lkCs (l.take k ++ ([x] ++ l.drop k)) := by
  intro a
  have hll := lkCs_len l
  have h1 : a.take (k * 2) = lkCs (l.take k) := by
    show List.take _ (_ ++ _ ++ _) = _
    rw [List.append_assoc, List.take_append_of_le_length (by rw [List.length_take, List.length_append, hll, hy]; omega), List.take_take, Nat.min_eq_left (by omega), List.take_append_of_le_length (by omega), lkCs_take]
  have h2 : a.drop (k * 2 + 1 * 2) = lkCs (l.drop k) := by
    show List.drop _ (_ ++ _ ++ _) = _
    have e : (List.take ((k + 1) * 2) (lkCs l ++ ys)).length = k * 2 + 1 * 2 := by rw [List.length_take, List.length_append, hll, hy]; omega
    rw [List.append_assoc, List.drop_append_of_le_length (by omega), List.drop_of_length_le (by omega), List.drop_of_length_le (l := lkCs l ++ ys) (by rw [List.length_append, hll, hy]; omega), List.nil_append, List.append_nil]
  rw [h1, h2, lkCs_app, lkCs_app, List.append_assoc]
  simp [lkCs]
end Go.Proofs.Ytedgmnnbmonhkaa.Lk
