/- slices.Concat of two rows of spans. -/
import Derived.Test.YtmkbijnndbgjgaaSpGath
import Derived.Laws.AppendOwn
import Derived.OwnWalk
import Derived.Shelf.Slices.Clone
import Derived.RangeFuncBox
import Derived.Laws.Cover3
import Derived.Deep.DeepCutAuto
import Derived.Lib.AppendZeros
set_option linter.unusedVariables false
namespace Go.Proofs.Ytmkbijnndbgjgaa.Sp
open Go.RowKit Go.Shelf
open Go.Proofs.Ytmkbijnndbgjgaa.Lk (HasRow)
open Go.Proofs.Ytmkbijnndbgjgaa.Addr (RowAt below2 below_drew below_new bset RowAt.lt RowAt.cell RowAt.frozen RowAt.below RowAt.drew RowAt.new RowAt.alloc)
attribute [-go_sem] Builtin.append_
theorem append_row {e tS sz bytes : Nat} {z : Value} (hi : (Try.prog.info? e).map (fun i => (i.zero, i.size, i.bytes)) = some (some z, sz, bytes)) (hu : Try.prog.underlying tS = some (.slice e)) (hz : z.cells.size = sz) (hsz : 0 < sz)
    {W : World} {n₀ k m : Nat} {v u : Value} {xs news : List Value} (hown : W.ownsRow n₀ e sz v k xs) (hsrc : HasRow W u sz m news) (h1 : ∀ x ∈ news, x.oneCell' = true) (hb : (k + m) * bytes ≤ 140737488355328) (hkm : k + m ≤ 9223372036854775807) (hn : n₀ ≤ W.heap.size) :
    ∃ v' w3, (∀ ty, (Builtin.append_ #[tS, tS] ty #[v, u]).run Try.prog W = .ok v' w3) ∧ w3.ownsRow n₀ e sz v' (k + m) (xs ++ news) ∧ W.grownBy w3 v.ownBlock := by
  obtain ⟨i0, hi0, hz0, hz1, hz2⟩ := info_parts hi
  rcases hsrc.2 with ⟨rfl, rfl⟩ | ⟨a, cap, rfl, g1, g2, g3, g4⟩
  · obtain rfl : news = [] := List.eq_nil_of_length_eq_zero (by rw [hsrc.1]; simp)
    have := fun ty => run_append_owned_none (P := Try.prog) W n₀ tS ty e i0 sz hu hi0 v k xs hown
    exact ⟨v, W, this, by simpa using hown, World.grownBy.refl _ _⟩
  · have h := run_append_own (P := Try.prog) W n₀ tS 0 e i0 z sz bytes hu hi0 hz0 hz1 hz2 hz hsz v k xs hown a m cap news hsrc.1
      (fun j x hj => by rw [g4 j (by rw [← hsrc.1]; exact (List.getElem?_eq_some_iff.1 hj).1)]; exact hj) h1 (by unfold maxLen; omega) hb hn
    obtain ⟨v', w3, hrun, k1, k2, _⟩ := h
    exact ⟨v', w3, fun ty => hrun, k1, k2⟩
set_option maxHeartbeats 1000000 in
set_option maxRecDepth 20000 in
theorem zeros_run (n : Nat) (w : World) (h0 : 0 < n) (hn : n ≤ 10000) : ∃ C W', (∀ ty, (Builtin.append_ #[88, 3] ty #[.slice none 0 0, .int .i64 (n : Int)]).run Try.prog w = .ok (.slice (some ⟨w.heap.size, 0, none⟩) n C) W') ∧ n ≤ C ∧ C ≤ 9223372036854775807 ∧
    W'.ownsRow w.heap.size 115 4 (.slice (some ⟨w.heap.size, 0, none⟩) 0 C) 0 [] ∧ Below w.heap.size w W' := by
  obtain ⟨i0, hi, hz0, hz1, hz2⟩ := info_parts info_S
  have hr := fun ty => Lib.run_append_nil_zeros w 88 3 ty 115 i0 _ .i64 .i64 Try.underlying88 Try.underlying3 hi hz0 n h0 (by rw [hz1]; decide) (by omega) (by rw [hz2]; omega)
  refine ⟨_, _, hr, grownCap_ge _ _ _ _, ?_, ?_, ?_⟩
  · have := grownCap_le_maxLen w n 0 115 (by unfold maxLen; omega)
    unfold maxLen at this
    exact this
  · have := World.ownsRow_made (base := w.heap.size) (e := 115) (size := 4) w.drew (Builtin.zeroCells (Value.cells (.agg #[.int .u64 0, .int .u64 0, .int .u64 0, .int .u64 0])) n ++ Builtin.zeroCells (Value.cells (.agg #[.int .u64 0, .int .u64 0, .int .u64 0, .int .u64 0])) (grownCap w n 0 115 - n)) (grownCap w n 0 115) (Nat.le_refl _) (grownCap_le_maxLen w n 0 _ (by unfold maxLen; omega)) (by
      have := grownCap_ge w n 0 115
      rw [Array.size_append, size_zeroCells, size_zeroCells, show (Value.cells (.agg #[.int .u64 0, .int .u64 0, .int .u64 0, .int .u64 0])).size = 4 from rfl]
      omega)
    exact this
  · exact ((Below.refl _ w).drew).alloc (Nat.le_refl _) _
set_option maxHeartbeats 1000000 in
set_option maxRecDepth 20000 in
theorem grow_any (n : Nat) (w : World) (hn : n ≤ 10000) :
    Calls Try.prog 98 #[.slice none 0 0, .int .i64 (n : Int)] w fun e w' => ∃ u, e = .returned u ∧ w'.ownsRow w.heap.size 115 4 u 0 [] ∧ Below w.heap.size w w' := by
  by_cases h0 : n = 0
  · subst h0
    go_enter Try.func98, Try.ntmps98
    go_wp2
    go_ret
    exact ⟨_, rfl, World.ownsRow_nil _ _ _ _, Below.refl _ _⟩
  · obtain ⟨C, W', hr, hC1, hC2, ho, hB⟩ := zeros_run n w (by omega) hn
    have h1 : (0 : Int) < (n : Int) := by omega
    have h1' : decide ((0 : Int) < (n : Int)) = true := by simp; omega
    have hz : 0 ≤ C := by omega
    have HO : Hid (W'.ownsRow w.heap.size 115 4 (.slice (some ⟨w.heap.size, 0, none⟩) 0 C) 0 []) := ho
    clear ho
    go_enter Try.func98, Try.ntmps98
    go_wp2
    go_ret
    exact ⟨_, rfl, HO.out, hB⟩
set_option maxHeartbeats 4000000 in
set_option maxRecDepth 20000 in
theorem concat2_any (b : Nat) (la lb : List Sp) (oa ob : Option Addr) (na nb ca cb : Nat) (w : World) (hb : b < w.heap.size) (h0 : w.cell? ⟨b, 0, none⟩ = some (.slice oa na ca)) (h1 : w.cell? ⟨b, 1, none⟩ = some (.slice ob nb cb))
    (ea : na = la.length) (eb : nb = lb.length)
    (ha : HasSps w (.slice oa na ca) la) (hbb : HasSps w (.slice ob nb cb) lb) (hla : na ≤ 1100) (hlb : nb ≤ 1100) :
    Calls Try.prog 74 #[.slice (some ⟨b, 0, none⟩) 2 2] w fun e w' => ∃ v, e = .returned v ∧ w'.ownsRow w.heap.size 115 4 v (la ++ lb).length (spCs (la ++ lb)) ∧ Below w.heap.size w w' := by
  have EA : Hid (na = la.length) := ea
  have EB : Hid (nb = lb.length) := eb
  have cg := fun w => grow_any (na + nb) w (by omega)
  rw [show ((na + nb : Nat) : Int) = (na : Int) + (nb : Int) by omega] at cg
  have HA : Hid (HasSps w (.slice oa na ca) la) := ha
  have HB : Hid (HasSps w (.slice ob nb cb) lb) := hbb
  have hia : (na : Int) ≤ 1100 := by omega
  have hib : (nb : Int) ≤ 1100 := by omega
  have hn0 : decide ((na : Int) < 0) = false := by simp
  have hn1 : decide ((na : Int) + (nb : Int) < 0) = false := by simp; omega
  clear ea eb ha hbb
  go_enter Try.func74, Try.ntmps74
  go_wp2_with fail
  refine wp_loop_rounds 3 ?_
  repeat any_goals (rw [rounds_succ]; go_wp2_with fail)
  go_at_call 98; refine (cg _).mono ?_; rintro e w1 ⟨v0, rfl, ho1, hb1⟩
  obtain ⟨v1, w2, hr1, ho2, hg1⟩ := append_row info_S Try.underlying88 rfl (by decide) ho1 (HA.out.keep hb1) (one_sps la) (by rw [← EA.out]; omega) (by rw [← EA.out]; omega) hb1.size
  have hb2 : Below w.heap.size w w2 := hb1.grown hg1 hb1.size (fun k e => (ho1.lt k e).1)
  obtain ⟨v2, w3, hr2, ho3, hg2⟩ := append_row info_S Try.underlying88 rfl (by decide) ho2 (HB.out.keep hb2) (one_sps lb) (by rw [← EA.out, ← EB.out]; omega) (by rw [← EA.out, ← EB.out]; omega) hb2.size
  have hb3 : Below w.heap.size w w3 := hb2.grown hg2 hb2.size (fun k e => (ho2.lt k e).1)
  have HO : Hid (w3.ownsRow w.heap.size 115 4 v2 (la ++ lb).length (spCs (la ++ lb))) := by
    show w3.ownsRow _ _ _ _ _ _
    rw [spCs_app, List.length_append]
    simp only [Nat.zero_add, List.nil_append] at ho3
    exact ho3
  have y0 := (hb1.cell (p := ⟨b, 0, none⟩) hb).trans h0
  have y1 := (hb2.cell (p := ⟨b, 1, none⟩) hb).trans h1
  clear ho1 ho2 ho3 hg1 hg2 hb1 hb2
  go_wp2_with fail
  refine wp_loop_rounds 3 ?_
  repeat any_goals (rw [rounds_succ]; go_wp2_with fail)
  go_ret
  exact ⟨_, rfl, HO.out, hb3⟩
end Go.Proofs.Ytmkbijnndbgjgaa.Sp
