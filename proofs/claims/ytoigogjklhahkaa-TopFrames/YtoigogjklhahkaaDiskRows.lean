/- Rows that are cloned, put together, copied. -/
import Derived.Test.YtoigogjklhahkaaDiskCheck
import Derived.RangeFuncBox
import Derived.Laws.Cover3
set_option linter.unusedVariables false
namespace Go.Proofs.Ytoigogjklhahkaa.Disk
open Go.RowKit Go.Shelf
attribute [-go_sem] Builtin.append_

theorem info_str : (Try.prog.info? 9).map (fun i => (i.zero, i.size, i.bytes)) = some (some (.string ⟨#[]⟩), 1, 16) := by kernel_rfl
theorem info_put : (Try.prog.info? 76).map (fun i => (i.zero, i.size, i.bytes)) = some (some (.agg #[.int .i64 0, .string ⟨#[]⟩]), 2, 24) := by kernel_rfl
theorem append_row {e tS sz bytes : Nat} {z : Value} (hi : (Try.prog.info? e).map (fun i => (i.zero, i.size, i.bytes)) = some (some z, sz, bytes)) (hu : Try.prog.underlying tS = some (.slice e)) (hz : z.cells.size = sz) (hsz : 0 < sz)
    {W : World} {n₀ k m : Nat} {v u : Value} {xs news : List Value} (hown : W.ownsRow n₀ e sz v k xs) (hsrc : HasRow W u sz m news) (h1 : ∀ x ∈ news, x.oneCell' = true) (hb : (k + m) * bytes ≤ 140737488355328) (hkm : k + m ≤ 9223372036854775807) (hn : n₀ ≤ W.heap.size) :
    ∃ v' w3, (∀ ty, (Builtin.append_ #[tS, tS] ty #[v, u]).run Try.prog W = .ok v' w3) ∧ w3.ownsRow n₀ e sz v' (k + m) (xs ++ news) ∧ W.grownBy w3 v.ownBlock := by
  obtain ⟨i0, hi0, hz0, hz1, hz2⟩ := info_parts hi
  rcases hsrc.2 with ⟨rfl, rfl⟩ | ⟨a, cap, rfl, g1, g2, g3, g4⟩
  · obtain rfl : news = [] := List.eq_nil_of_length_eq_zero (by rw [hsrc.1]; simp)
    have := fun ty => run_append_owned_none (P := Try.prog) W n₀ tS ty e i0 sz hu hi0 v k xs hown
    exact ⟨v, W, this, by simpa using hown, World.grownBy.refl _ _⟩
  · have h := run_append_own (P := Try.prog) W n₀ tS 0 e i0 z sz bytes hu hi0 hz0 hz1 hz2 hz hsz v k xs hown a m cap news hsrc.1
      (fun j x hj => by rw [g4 j (by rw [← hsrc.1]; exact (List.getElem?_eq_some_iff.1 hj).1)]; exact hj) h1 (by unfold maxLen; omega) hb hn
    obtain ⟨v', w3, hrun, k1, k2, _⟩ := h
    exact ⟨v', w3, fun ty => hrun, k1, k2⟩
theorem one_strs (zs : List (List UInt8)) : ∀ x ∈ zs.map strV, x.oneCell' = true := by
  intro x hx; obtain ⟨z, _, rfl⟩ := List.mem_map.1 hx; rfl
theorem one_puts (ps : List PutT) : ∀ x ∈ putCs ps, x.oneCell' = true := by
  intro x hx
  obtain ⟨p, _, h⟩ := List.mem_flatMap.1 hx
  simp only [putC, List.mem_cons, List.not_mem_nil, or_false] at h
  rcases h with rfl | rfl <;> rfl

theorem empty_own (w : World) (e sz : Nat) : (w.alloc (.cells #[] e)).ownsRow w.heap.size e sz (.slice (some ⟨w.heap.size, 0, none⟩) 0 0) 0 [] := by
  have := World.ownsRow_made (base := w.heap.size) (e := e) (size := sz) w #[] 0 (Nat.le_refl _) (by decide) (by simp)
  exact this
theorem eql_slice_nil {t e : Nat} (h : Try.prog.underlying t = some (.slice e)) (a : Option Addr) (l c : Nat) (w : World) : (binOp .eql t (.slice a l c) (.slice none 0 0)).run Try.prog w = .ok (.bool a.isNone) w := by
  simp only [binOp]
  simp [run_equal_slice_nil w t e a l c h]
set_option maxRecDepth 20000 in
set_option maxHeartbeats 400000 in
theorem clone_strs (zs : List (List UInt8)) (v : Value) (w : World) (h : HasStrs w v zs) (hz : zs.length ≤ 1000000000) :
    Calls Try.prog 40 #[v] w fun e w' => ∃ u, e = .returned u ∧ w'.ownsRow w.heap.size 9 1 u zs.length (zs.map strV) ∧ Below w.heap.size w w' := by
  have hk := h.keep ((Below.refl _ w).alloc (Nat.le_refl _) (.cells #[] 9))
  have he := eql_slice_nil Try.underlying22
  rcases h.2 with ⟨rfl, h0⟩ | ⟨a, cap, rfl, g1, g2, g3, g4⟩
  · obtain rfl : zs = [] := List.eq_nil_of_length_eq_zero h0
    clear h hk h0 hz
    go_enter Try.func40, Try.ntmps40
    go_wp2
    go_ret
    exact ⟨_, rfl, World.ownsRow_nil _ _ _ _, Below.refl _ _⟩
  · obtain ⟨v', w3, hrun, h1, h2⟩ := append_row info_str Try.underlying22 rfl (by decide) (empty_own w 9 1) hk (one_strs zs) (by omega) (by omega) (by simp)
    rw [Nat.zero_add, List.nil_append] at h1
    have hB : Below w.heap.size w w3 := ((Below.refl _ w).alloc (Nat.le_refl _) _).grown h2 (by simp) (fun k e => by simp [Value.ownBlock] at e; omega)
    have H1 : Hid (w3.ownsRow w.heap.size 9 1 v' zs.length (zs.map strV)) := h1
    have hn9 : zs.length ≤ 9223372036854775807 := by omega
    clear h hk h1 h2 g3 g4 hz
    generalize zs.length = n at *
    go_enter Try.func40, Try.ntmps40
    go_wp2
    go_ret
    exact ⟨_, rfl, H1.out, hB⟩
set_option maxRecDepth 20000 in
set_option maxHeartbeats 400000 in
theorem clone_puts (zs : List PutT) (v : Value) (w : World) (h : HasPuts w v zs) (hz : zs.length ≤ 1000000000) :
    Calls Try.prog 52 #[v] w fun e w' => ∃ u, e = .returned u ∧ w'.ownsRow w.heap.size 76 2 u zs.length (putCs zs) ∧ Below w.heap.size w w' := by
  have hk := h.keep ((Below.refl _ w).alloc (Nat.le_refl _) (.cells #[] 76))
  have he := eql_slice_nil Try.underlying28
  rcases h.2 with ⟨rfl, h0⟩ | ⟨a, cap, rfl, g1, g2, g3, g4⟩
  · obtain rfl : zs = [] := List.eq_nil_of_length_eq_zero h0
    clear h hk h0 hz
    go_enter Try.func52, Try.ntmps52
    go_wp2
    go_ret
    exact ⟨_, rfl, World.ownsRow_nil _ _ _ _, Below.refl _ _⟩
  · obtain ⟨v', w3, hrun, h1, h2⟩ := append_row info_put Try.underlying28 rfl (by decide) (empty_own w 76 2) hk (one_puts zs) (by omega) (by omega) (by simp)
    rw [Nat.zero_add, List.nil_append] at h1
    have hB : Below w.heap.size w w3 := ((Below.refl _ w).alloc (Nat.le_refl _) _).grown h2 (by simp) (fun k e => by simp [Value.ownBlock] at e; omega)
    have H1 : Hid (w3.ownsRow w.heap.size 76 2 v' zs.length (putCs zs)) := h1
    have hn9 : zs.length ≤ 9223372036854775807 := by omega
    clear h hk h1 h2 g3 g4 hz
    generalize zs.length = n at *
    go_enter Try.func52, Try.ntmps52
    go_wp2
    go_ret
    exact ⟨_, rfl, H1.out, hB⟩
end Go.Proofs.Ytoigogjklhahkaa.Disk
