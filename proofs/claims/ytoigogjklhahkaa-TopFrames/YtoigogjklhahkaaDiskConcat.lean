/- What slices.Concat makes of two rows of writes. -/
import Derived.Test.YtoigogjklhahkaaDiskRows
import Derived.Deep.DeepCutAuto
import Derived.Lib.AppendZeros
set_option linter.unusedVariables false
namespace Go.Proofs.Ytoigogjklhahkaa.Disk
open Go.RowKit Go.Shelf
attribute [-go_sem] Builtin.append_

theorem zeros_run (n : Nat) (w : World) (h0 : 0 < n) (hn : n ≤ 10000) : ∃ C W', (∀ ty, (Builtin.append_ #[28, 3] ty #[.slice none 0 0, .int .i64 (n : Int)]).run Try.prog w = .ok (.slice (some ⟨w.heap.size, 0, none⟩) n C) W') ∧ n ≤ C ∧ C ≤ 9223372036854775807 ∧
    W'.ownsRow w.heap.size 76 2 (.slice (some ⟨w.heap.size, 0, none⟩) 0 C) 0 [] ∧ Below w.heap.size w W' := by
  obtain ⟨i0, hi, hz0, hz1, hz2⟩ := info_parts info_put
  have hr := fun ty => Lib.run_append_nil_zeros w 28 3 ty 76 i0 _ .i64 .i64 Try.underlying28 Try.underlying3 hi hz0 n h0 (by rw [hz1]; decide) (by omega) (by rw [hz2]; omega)
  refine ⟨_, _, hr, grownCap_ge _ _ _ _, ?_, ?_, ?_⟩
  · have := grownCap_le_maxLen w n 0 76 (by unfold maxLen; omega)
    unfold maxLen at this
    exact this
  · have := World.ownsRow_made (base := w.heap.size) (e := 76) (size := 2) w.drew (Builtin.zeroCells (Value.agg #[.int .i64 0, .string ⟨#[]⟩]).cells n ++ Builtin.zeroCells (Value.agg #[.int .i64 0, .string ⟨#[]⟩]).cells (grownCap w n 0 76 - n)) (grownCap w n 0 76) (Nat.le_refl _) (grownCap_le_maxLen w n 0 _ (by unfold maxLen; omega)) (by
      have := grownCap_ge w n 0 76
      rw [Array.size_append, size_zeroCells, size_zeroCells, show (Value.agg #[.int .i64 0, .string ⟨#[]⟩]).cells.size = 2 from rfl]
      omega)
    exact this
  · exact ((Below.refl _ w).drew).alloc (Nat.le_refl _) _
set_option maxHeartbeats 1000000 in
set_option maxRecDepth 20000 in
theorem grow_any (n : Nat) (w : World) (hn : n ≤ 10000) :
    Calls Try.prog 53 #[.slice none 0 0, .int .i64 (n : Int)] w fun e w' => ∃ u, e = .returned u ∧ w'.ownsRow w.heap.size 76 2 u 0 [] ∧ Below w.heap.size w w' := by
  by_cases h0 : n = 0
  · subst h0
    go_enter Try.func53, Try.ntmps53
    go_wp2
    go_ret
    exact ⟨_, rfl, World.ownsRow_nil _ _ _ _, Below.refl _ _⟩
  · obtain ⟨C, W', hr, hC1, hC2, ho, hB⟩ := zeros_run n w (by omega) hn
    have h1 : (0 : Int) < (n : Int) := by omega
    have h1' : decide ((0 : Int) < (n : Int)) = true := by simp; omega
    have hz : 0 ≤ C := by omega
    have HO : Hid (W'.ownsRow w.heap.size 76 2 (.slice (some ⟨w.heap.size, 0, none⟩) 0 C) 0 []) := ho
    clear ho
    go_enter Try.func53, Try.ntmps53
    go_wp2
    go_ret
    exact ⟨_, rfl, HO.out, hB⟩

theorem puts_one (W : World) (b : Nat) (p : PutT) (h0 : W.cell? ⟨b, 0, none⟩ = some (.int .i64 p.1)) (h1 : W.cell? ⟨b, 1, none⟩ = some (strV p.2)) (hb : b < W.heap.size) : HasPuts W (.slice (some ⟨b, 0, none⟩) 1 1) [p] := by
  refine ⟨rfl, .inr ⟨⟨b, 0, none⟩, 1, rfl, Nat.le_refl _, by decide, fun _ => ⟨rfl, hb⟩, fun j hj => ?_⟩⟩
  rw [addr_add, Nat.zero_add]
  match j, hj with
  | 0, _ => exact h0
  | 1, _ => exact h1
set_option maxHeartbeats 2000000 in
set_option maxRecDepth 20000 in
theorem concat_any (b m cc : Nat) (co : Option Addr) (u : Nat) (cache : List PutT) (p : PutT) (w : World) (hb : b < w.heap.size) (h0 : w.cell? ⟨b, 0, none⟩ = some (.slice co m cc)) (h1 : w.cell? ⟨b, 1, none⟩ = some (.slice (some ⟨u, 0, none⟩) 1 1)) (hm : m = cache.length)
    (hc : HasPuts w (.slice co m cc) cache) (hp : HasPuts w (.slice (some ⟨u, 0, none⟩) 1 1) [p]) (hl : m ≤ 4096) :
    Calls Try.prog 39 #[.slice (some ⟨b, 0, none⟩) 2 2] w fun e w' => ∃ v, e = .returned v ∧ w'.ownsRow w.heap.size 76 2 v (cache.length + 1) (putCs (cache ++ [p])) ∧ Below w.heap.size w w' := by
  have HM : Hid (m = cache.length) := hm
  have hml : (m : Int) ≤ 4096 := by omega
  have cg := fun w => grow_any (m + 1) w (by omega)
  rw [show ((m + 1 : Nat) : Int) = (m : Int) + 1 by omega] at cg
  have HC : Hid (HasPuts w (.slice co m cc) cache) := hc
  have HP : Hid (HasPuts w (.slice (some ⟨u, 0, none⟩) 1 1) [p]) := hp
  have hn0 : decide ((m : Int) < 0) = false := by simp
  have hn1 : decide ((m : Int) + 1 < 0) = false := by simp; omega
  clear hm hc hp
  go_enter Try.func39, Try.ntmps39
  go_wp2_with fail
  refine wp_loop_rounds 3 ?_
  repeat any_goals (rw [rounds_succ]; go_wp2_with fail)
  go_at_call 53; refine (cg _).mono ?_; rintro e w1 ⟨v0, rfl, ho1, hb1⟩
  obtain ⟨v1, w2, hr1, ho2, hg1⟩ := append_row info_put Try.underlying28 rfl (by decide) ho1 (HC.out.keep hb1) (one_puts cache) (by rw [← HM.out]; omega) (by rw [← HM.out]; omega) hb1.size
  have hb2 : Below w.heap.size w w2 := hb1.grown hg1 hb1.size (fun k e => (ho1.lt k e).1)
  obtain ⟨v2, w3, hr2, ho3, hg2⟩ := append_row info_put Try.underlying28 rfl (by decide) ho2 (HP.out.keep hb2) (one_puts [p]) (by rw [← HM.out]; simp; omega) (by rw [← HM.out]; simp; omega) hb2.size
  have hb3 : Below w.heap.size w w3 := hb2.grown hg2 hb2.size (fun k e => (ho2.lt k e).1)
  have HO : Hid (w3.ownsRow w.heap.size 76 2 v2 (cache.length + 1) (putCs (cache ++ [p]))) := by
    show w3.ownsRow _ _ _ _ _ _
    rw [putCs_app]
    simpa using ho3
  have y0 := ((bcell hb1).1 b 0 hb).trans h0
  have y1 := ((bcell hb2).1 b 1 hb).trans h1
  clear ho1 ho2 ho3 hg1 hg2 hb1 hb2
  go_wp2_with fail
  refine wp_loop_rounds 3 ?_
  repeat any_goals (rw [rounds_succ]; go_wp2_with fail)
  go_ret
  exact ⟨_, rfl, HO.out, hb3⟩
end Go.Proofs.Ytoigogjklhahkaa.Disk
