/- Rows of seats that are cloned, and put together. -/
import Derived.Test.YtkjhnefbcnnjlaaTv11
import Derived.Test.YtkjhnefbcnnjlaaTv12
import Derived.RangeFuncBox
import Derived.Laws.Cover3
import Derived.Deep.DeepCutAuto
import Derived.Lib.AppendZeros
set_option linter.unusedVariables false
namespace Go.Proofs.Ytkjhnefbcnnjlaa.Fib
open Go.RowKit
open Go.Proofs.Ytkjhnefbcnnjlaa.Addr (RowAt below2 below_new RowAt.lt RowAt.below RowAt.drew RowAt.new RowAt.alloc RowAt.set1 RowAt.far1 cells4 gset grefl bset results_cell)
open Go.Proofs.Ytkjhnefbcnnjlaa.Lk (Lk HasLks HasLks.keep hasRow_own)
open Go.Proofs.Ytkjhnefbcnnjlaa.Tr (HasRts HasRts.keep)
/-- a row of a block that was not there -/
def NewV (B : Nat) (v : Value) : Prop := ∀ b, v.ownBlock = some b → B ≤ b
theorem NewV.mono {A B : Nat} {v : Value} (h : NewV B v) (hab : A ≤ B) : NewV A v := fun b e => Nat.le_trans hab (h b e)
set_option maxHeartbeats 2000000 in
theorem fresh_new (R : Ro) (a b : Value) (w : World) (ha : HasRts w a R.rts) (hb : HasLks w b R.lks) (h1 : R.rts.length ≤ 1000) (h2 : R.lks.length ≤ 1000) :
    Calls Try.prog 19 #[.agg #[.int .i64 R.id, .bool R.up, a, b]] w fun e w' => ∃ o1 n1 m1 o2 n2 m2, e = .returned (.agg #[.int .i64 R.id, .bool R.up, .slice o1 n1 m1, .slice o2 n2 m2]) ∧ HasRts w' (.slice o1 n1 m1) R.rts ∧ HasLks w' (.slice o2 n2 m2) R.lks ∧ NewV w.heap.size (.slice o1 n1 m1) ∧ NewV w.heap.size (.slice o2 n2 m2) ∧ Below w.heap.size w w' := by
  have C1 : Hid (∀ W, HasRts W a R.rts → Calls Try.prog 40 #[a] W fun e w' => ∃ o n m, e = .returned (.slice o n m) ∧ HasRts w' (.slice o n m) R.rts ∧ NewV W.heap.size (.slice o n m) ∧ Below W.heap.size W w') := by
    intro W hW
    refine (Tr.clone_any R.rts a W hW (by omega)).mono ?_
    rintro e w' ⟨u, rfl, ho, hb'⟩
    have hh : HasRts w' u R.rts := hasRow_own ho
    obtain ⟨o, c, rfl, _⟩ := Lk.HasRow.slice hh
    exact ⟨_, _, _, rfl, hh, fun b e => (ho.lt b e).1, hb'⟩
  have C2 : Hid (∀ W, HasLks W b R.lks → Calls Try.prog 41 #[b] W fun e w' => ∃ o n m, e = .returned (.slice o n m) ∧ HasLks w' (.slice o n m) R.lks ∧ NewV W.heap.size (.slice o n m) ∧ Below W.heap.size W w') := by
    intro W hW
    refine (Lk.clone_any R.lks b W hW (by omega)).mono ?_
    rintro e w' ⟨u, rfl, ho, hb'⟩
    have hh : HasLks w' u R.lks := hasRow_own ho
    obtain ⟨o, c, rfl, _⟩ := Lk.HasRow.slice hh
    exact ⟨_, _, _, rfl, hh, fun b e => (ho.lt b e).1, hb'⟩
  obtain ⟨o1, n1, m1, rfl⟩ : ∃ o n m, a = .slice o n m := by obtain ⟨o, c, rfl, _⟩ := Lk.HasRow.slice ha; exact ⟨_, _, _, rfl⟩
  obtain ⟨o2, n2, m2, rfl⟩ : ∃ o n m, b = .slice o n m := by obtain ⟨o, c, rfl, _⟩ := Lk.HasRow.slice hb; exact ⟨_, _, _, rfl⟩
  obtain ⟨X, hX⟩ : ∃ X, X = (w.alloc (.cells #[.int .i64 R.id, .bool R.up, .slice o1 n1 m1, .slice o2 n2 m2] 37)).alloc (.cells #[.int .i64 0, .bool false, .slice none 0 0, .slice none 0 0] 37) := ⟨_, rfl⟩
  have hB : Below w.heap.size w X := by rw [hX]; exact below_new (below_new (Below.refl _ _) _) _
  have r0 : RowAt X w.heap.size [.int .i64 R.id, .bool R.up, .slice o1 n1 m1, .slice o2 n2 m2] 37 := by rw [hX]; exact (RowAt.new _ _ _).alloc _
  have r1 : RowAt X (w.heap.size + 1) [.int .i64 0, .bool false, .slice none 0 0, .slice none 0 0] 37 := by rw [hX, ← World.size_alloc w (.cells #[.int .i64 R.id, .bool R.up, .slice o1 n1 m1, .slice o2 n2 m2] 37)]; exact RowAt.new _ _ _
  have HA : Hid (HasRts X (.slice o1 n1 m1) R.rts ∧ HasLks X (.slice o2 n2 m2) R.lks) := ⟨ha.keep hB, hb.keep hB⟩
  clear ha hb h1 h2
  go_enter Try.func19, Try.ntmps19
  go_upto_region 1 with fail
  rw [← hX]
  clear hX
  obtain ⟨p0, p1, p2, p3, pf⟩ := cells4 r0
  go_region_with (first
    | (go_at_call 40
       refine (C1.out _ (HA.out.1.keep (Below.refl _ _).drew)).mono ?_
       rintro e w1 ⟨o3, n3, m3, rfl, hh1, hn1', hb1'⟩
       have hb1 : Below X.heap.size X w1 := below2 (Below.refl _ _).drew hb1'
       have hn1 : NewV w.heap.size (.slice o3 n3 m3) := hn1'.mono (by have := hB.size; exact this)
       obtain ⟨p0, p1, p2, p3, pf⟩ := cells4 (RowAt.below r0 hb1))
    | (go_at_call 41
       refine (C2.out _ (HA.out.2.keep hb1)).mono ?_
       rintro e w2 ⟨o4, n4, m4, rfl, hh2, hn2', hb2⟩
       have hb3 : Below X.heap.size X w2 := below2 hb1 hb2
       have hn2 : NewV w.heap.size (.slice o4 n4 m4) := hn2'.mono (by have := hB.size; have := hb1.size; omega)
       obtain ⟨p0, p1, p2, p3, pf⟩ := cells4 (RowAt.below r0 hb3)))
  all_goals
    have R2 := RowAt.below r0 hb3
    have R1 := RowAt.below r1 hb3
    have hh3 := hh1.keep hb2
    obtain ⟨Y, hY⟩ : ∃ Y, Y = (w2.setCell ⟨w.heap.size, 2, none⟩ (.slice o3 n3 m3)).setCell ⟨w.heap.size, 3, none⟩ (.slice o4 n4 m4) := ⟨_, rfl⟩
    have g2 : w2.grownBy Y (some w.heap.size) := by rw [hY]; exact gset (gset (grefl _ _))
    have HR : Hid (HasRts Y (.slice o3 n3 m3) R.rts ∧ HasLks Y (.slice o4 n4 m4) R.lks) := ⟨rts_apart hh3 R2 g2, lks_apart hh2 R2 g2⟩
    have y0 : RowAt Y w.heap.size [.int .i64 R.id, .bool R.up, .slice o3 n3 m3, .slice o4 n4 m4] 37 := by rw [hY]; exact (R2.set1 2 _).set1 3 _
    have y1 : RowAt Y (w.heap.size + 1) [.int .i64 0, .bool false, .slice none 0 0, .slice none 0 0] 37 := by rw [hY]; exact (R1.far1 (by omega) _ _).far1 (by omega) _ _
    have hBY : Below w.heap.size w Y := by rw [hY]; exact bset (bset (below2 hB hb3) (Nat.le_refl _)) (Nat.le_refl _)
    rw [← hY]
    clear hY hh1 hh2 hh3 R2 R1 hb1 hb2 hb3 C1 C2 HA r0 r1 g2 p0 p1 p2 p3 pf hB
    obtain ⟨p0, p1, p2, p3, pf⟩ := cells4 y0
    obtain ⟨q0, q1, q2, q3, qf⟩ := cells4 y1
    go_wp2_with fail
    (try simp only [Exit.inBlock, Exit.then])
    refine bodyPost_ret (v := .agg #[.int .i64 R.id, .bool R.up, .slice o3 n3 m3, .slice o4 n4 m4]) ?_ rfl ⟨_, _, _, _, _, _, rfl, ?_, ?_, hn1, hn2, ?_⟩
    · rw [results_cell rfl]
      go_simp
    · exact rts_apart HR.out.1 y1 (set4_gr _ _ _ _ _ _)
    · exact lks_apart HR.out.2 y1 (set4_gr _ _ _ _ _ _)
    · exact set4_bl hBY (by omega) _ _ _ _
end Go.Proofs.Ytkjhnefbcnnjlaa.Fib
namespace Go.Proofs.Ytkjhnefbcnnjlaa.Ord
open Go.RowKit Go.Shelf
open Go.Proofs.Ytkjhnefbcnnjlaa.Addr (RowAt.lt RowAt.cell RowAt.drew RowAt.alloc)
attribute [-go_sem] Builtin.append_

theorem info_seat : (Try.prog.info? 33).map (fun i => (i.zero, i.size, i.bytes)) = some (some (.agg #[.int .i64 0, .int .u64 0, .int .i64 0, .bool false]), 4, 32) := by kernel_rfl
theorem append_row {e tS sz bytes : Nat} {z : Value} (hi : (Try.prog.info? e).map (fun i => (i.zero, i.size, i.bytes)) = some (some z, sz, bytes)) (hu : Try.prog.underlying tS = some (.slice e)) (hz : z.cells.size = sz) (hsz : 0 < sz)
    {W : World} {n₀ k m : Nat} {v u : Value} {xs news : List Value} (hown : W.ownsRow n₀ e sz v k xs) (hsrc : HasRow W u sz m news) (h1 : ∀ x ∈ news, x.oneCell' = true) (hb : (k + m) * bytes ≤ 140737488355328) (hkm : k + m ≤ 9223372036854775807) (hn : n₀ ≤ W.heap.size) :
    ∃ v' w3, (∀ ty, (Builtin.append_ #[tS, tS] ty #[v, u]).run Try.prog W = .ok v' w3) ∧ w3.ownsRow n₀ e sz v' (k + m) (xs ++ news) ∧ W.grownBy w3 v.ownBlock := by
  obtain ⟨i0, hi0, hz0, hz1, hz2⟩ := info_parts hi
  rcases hsrc.2 with ⟨rfl, rfl⟩ | ⟨a, cap, rfl, g1, g2, g3, g4⟩
  · obtain rfl : news = [] := List.eq_nil_of_length_eq_zero (by rw [hsrc.1]; simp)
    have := fun ty => run_append_owned_none (P := Try.prog) W n₀ tS ty e i0 sz hu hi0 v k xs hown
    exact ⟨v, W, this, by simpa using hown, World.grownBy.refl _ _⟩
  · have h := run_append_own (P := Try.prog) W n₀ tS 0 e i0 z sz bytes hu hi0 hz0 hz1 hz2 hz hsz v k xs hown a m cap news hsrc.1
      (fun j x hj => by rw [g4 j (by rw [← hsrc.1]; exact (List.getElem?_eq_some_iff.1 hj).1)]; exact hj) h1 (by unfold maxLen; omega) hb hn
    obtain ⟨v', w3, hrun, k1, k2, _⟩ := h
    exact ⟨v', w3, fun ty => hrun, k1, k2⟩
theorem empty_own (w : World) (e sz : Nat) : (w.alloc (.cells #[] e)).ownsRow w.heap.size e sz (.slice (some ⟨w.heap.size, 0, none⟩) 0 0) 0 [] :=
  World.ownsRow_made (base := w.heap.size) (e := e) (size := sz) w #[] 0 (Nat.le_refl _) (by decide) (by simp)
theorem eql_slice_nil {t e : Nat} (h : Try.prog.underlying t = some (.slice e)) (a : Option Addr) (l c : Nat) (w : World) : (binOp .eql t (.slice a l c) (.slice none 0 0)).run Try.prog w = .ok (.bool a.isNone) w := by
  simp only [binOp]
  simp [run_equal_slice_nil w t e a l c h]
set_option maxRecDepth 20000 in
set_option maxHeartbeats 400000 in
theorem clone_any (l : List St) (v : Value) (w : World) (h : HasSts w v l) (hz : l.length ≤ 1000000000) :
    Calls Try.prog 29 #[v] w fun e w' => ∃ u, e = .returned u ∧ w'.ownsRow w.heap.size 33 4 u l.length (stCs l) ∧ Below w.heap.size w w' := by
  have hk := h.keep ((Below.refl _ w).alloc (Nat.le_refl _) (.cells #[] 33))
  have he := eql_slice_nil Try.underlying24
  rcases h.2 with ⟨rfl, h0⟩ | ⟨a, cap, rfl, g1, g2, g3, g4⟩
  · obtain rfl : l = [] := List.eq_nil_of_length_eq_zero h0
    clear h hk h0 hz
    go_enter Try.func29, Try.ntmps29
    go_wp2
    go_ret
    exact ⟨_, rfl, World.ownsRow_nil _ _ _ _, Below.refl _ _⟩
  · obtain ⟨v', w3, hrun, h1, h2⟩ := append_row info_seat Try.underlying24 rfl (by decide) (empty_own w 33 4) hk (one_seats l) (by omega) (by omega) (by simp)
    rw [Nat.zero_add, List.nil_append] at h1
    have hB : Below w.heap.size w w3 := ((Below.refl _ w).alloc (Nat.le_refl _) _).grown h2 (by simp) (fun k e => by simp [Value.ownBlock] at e; omega)
    have H1 : Hid (w3.ownsRow w.heap.size 33 4 v' l.length (stCs l)) := h1
    have hn9 : l.length ≤ 9223372036854775807 := by omega
    clear h hk h1 h2 g3 g4 hz
    generalize l.length = n at *
    go_enter Try.func29, Try.ntmps29
    go_wp2
    go_ret
    exact ⟨_, rfl, H1.out, hB⟩
theorem zeros_run (n : Nat) (w : World) (h0 : 0 < n) (hn : n ≤ 10000) : ∃ C W', (∀ ty, (Builtin.append_ #[24, 3] ty #[.slice none 0 0, .int .i64 (n : Int)]).run Try.prog w = .ok (.slice (some ⟨w.heap.size, 0, none⟩) n C) W') ∧ n ≤ C ∧ C ≤ 9223372036854775807 ∧
    W'.ownsRow w.heap.size 33 4 (.slice (some ⟨w.heap.size, 0, none⟩) 0 C) 0 [] ∧ Below w.heap.size w W' := by
  obtain ⟨i0, hi, hz0, hz1, hz2⟩ := info_parts info_seat
  have hr := fun ty => Lib.run_append_nil_zeros w 24 3 ty 33 i0 _ .i64 .i64 Try.underlying24 Try.underlying3 hi hz0 n h0 (by rw [hz1]; decide) (by omega) (by rw [hz2]; omega)
  refine ⟨_, _, hr, grownCap_ge _ _ _ _, ?_, ?_, ?_⟩
  · have := grownCap_le_maxLen w n 0 33 (by unfold maxLen; omega)
    unfold maxLen at this
    exact this
  · have := World.ownsRow_made (base := w.heap.size) (e := 33) (size := 4) w.drew (Builtin.zeroCells (Value.cells (.agg #[.int .i64 0, .int .u64 0, .int .i64 0, .bool false])) n ++ Builtin.zeroCells (Value.cells (.agg #[.int .i64 0, .int .u64 0, .int .i64 0, .bool false])) (grownCap w n 0 33 - n)) (grownCap w n 0 33) (Nat.le_refl _) (grownCap_le_maxLen w n 0 _ (by unfold maxLen; omega)) (by
      have := grownCap_ge w n 0 33
      rw [Array.size_append, size_zeroCells, size_zeroCells, show (Value.cells (.agg #[.int .i64 0, .int .u64 0, .int .i64 0, .bool false])).size = 4 from rfl]
      omega)
    exact this
  · exact ((Below.refl _ w).drew).alloc (Nat.le_refl _) _
set_option maxHeartbeats 1000000 in
set_option maxRecDepth 20000 in
theorem grow_any (n : Nat) (w : World) (hn : n ≤ 10000) :
    Calls Try.prog 94 #[.slice none 0 0, .int .i64 (n : Int)] w fun e w' => ∃ u, e = .returned u ∧ w'.ownsRow w.heap.size 33 4 u 0 [] ∧ Below w.heap.size w w' := by
  by_cases h0 : n = 0
  · subst h0
    go_enter Try.func94, Try.ntmps94
    go_wp2
    go_ret
    exact ⟨_, rfl, World.ownsRow_nil _ _ _ _, Below.refl _ _⟩
  · obtain ⟨C, W', hr, hC1, hC2, ho, hB⟩ := zeros_run n w (by omega) hn
    have h1 : (0 : Int) < (n : Int) := by omega
    have h1' : decide ((0 : Int) < (n : Int)) = true := by simp; omega
    have hz : 0 ≤ C := by omega
    have HO : Hid (W'.ownsRow w.heap.size 33 4 (.slice (some ⟨w.heap.size, 0, none⟩) 0 C) 0 []) := ho
    clear ho
    go_enter Try.func94, Try.ntmps94
    go_wp2
    go_ret
    exact ⟨_, rfl, HO.out, hB⟩
set_option maxHeartbeats 4000000 in
set_option maxRecDepth 20000 in
theorem concat_any (b : Nat) (la lb lc : List St) (oa ob oc : Option Addr) (na nb nc ca cb cc : Nat) (w : World) (hb : b < w.heap.size) (h0 : w.cell? ⟨b, 0, none⟩ = some (.slice oa na ca)) (h1 : w.cell? ⟨b, 1, none⟩ = some (.slice ob nb cb)) (h2 : w.cell? ⟨b, 2, none⟩ = some (.slice oc nc cc))
    (ea : na = la.length) (eb : nb = lb.length) (ec : nc = lc.length)
    (ha : HasSts w (.slice oa na ca) la) (hbb : HasSts w (.slice ob nb cb) lb) (hc : HasSts w (.slice oc nc cc) lc) (hla : na ≤ 1000) (hlb : nb ≤ 1000) (hlc : nc ≤ 1000) :
    Calls Try.prog 76 #[.slice (some ⟨b, 0, none⟩) 3 3] w fun e w' => ∃ v, e = .returned v ∧ w'.ownsRow w.heap.size 33 4 v (la ++ (lb ++ lc)).length (stCs (la ++ (lb ++ lc))) ∧ Below w.heap.size w w' := by
  have EA : Hid (na = la.length) := ea
  have EB : Hid (nb = lb.length) := eb
  have EC : Hid (nc = lc.length) := ec
  have cg := fun w => grow_any (na + nb + nc) w (by omega)
  rw [show ((na + nb + nc : Nat) : Int) = (na : Int) + (nb : Int) + (nc : Int) by omega] at cg
  have HA : Hid (HasSts w (.slice oa na ca) la) := ha
  have HB : Hid (HasSts w (.slice ob nb cb) lb) := hbb
  have HC : Hid (HasSts w (.slice oc nc cc) lc) := hc
  have hia : (na : Int) ≤ 1000 := by omega
  have hib : (nb : Int) ≤ 1000 := by omega
  have hic : (nc : Int) ≤ 1000 := by omega
  have hn0 : decide ((na : Int) < 0) = false := by simp
  have hn1 : decide ((na : Int) + (nb : Int) < 0) = false := by simp; omega
  have hn2 : decide ((na : Int) + (nb : Int) + (nc : Int) < 0) = false := by simp; omega
  clear ea eb ec ha hbb hc
  go_enter Try.func76, Try.ntmps76
  go_wp2_with fail
  refine wp_loop_rounds 4 ?_
  repeat any_goals (rw [rounds_succ]; go_wp2_with fail)
  go_at_call 94; refine (cg _).mono ?_; rintro e w1 ⟨v0, rfl, ho1, hb1⟩
  obtain ⟨v1, w2, hr1, ho2, hg1⟩ := append_row info_seat Try.underlying24 rfl (by decide) ho1 (HA.out.keep hb1) (one_seats la) (by rw [← EA.out]; omega) (by rw [← EA.out]; omega) hb1.size
  have hb2 : Below w.heap.size w w2 := hb1.grown hg1 hb1.size (fun k e => (ho1.lt k e).1)
  obtain ⟨v2, w3, hr2, ho3, hg2⟩ := append_row info_seat Try.underlying24 rfl (by decide) ho2 (HB.out.keep hb2) (one_seats lb) (by rw [← EA.out, ← EB.out]; omega) (by rw [← EA.out, ← EB.out]; omega) hb2.size
  have hb3 : Below w.heap.size w w3 := hb2.grown hg2 hb2.size (fun k e => (ho2.lt k e).1)
  obtain ⟨v3, w4, hr3, ho4, hg3⟩ := append_row info_seat Try.underlying24 rfl (by decide) ho3 (HC.out.keep hb3) (one_seats lc) (by rw [← EA.out, ← EB.out, ← EC.out]; omega) (by rw [← EA.out, ← EB.out, ← EC.out]; omega) hb3.size
  have hb4 : Below w.heap.size w w4 := hb3.grown hg3 hb3.size (fun k e => (ho3.lt k e).1)
  have HO : Hid (w4.ownsRow w.heap.size 33 4 v3 (la ++ (lb ++ lc)).length (stCs (la ++ (lb ++ lc)))) := by
    show w4.ownsRow _ _ _ _ _ _
    rw [stCs_app, stCs_app, List.length_append, List.length_append]
    simp only [Nat.zero_add, List.nil_append, List.append_assoc, Nat.add_assoc] at ho4
    exact ho4
  have y0 := (hb1.cell (p := ⟨b, 0, none⟩) hb).trans h0
  have y1 := (hb2.cell (p := ⟨b, 1, none⟩) hb).trans h1
  have y2 := (hb3.cell (p := ⟨b, 2, none⟩) hb).trans h2
  clear ho1 ho2 ho3 ho4 hg1 hg2 hg3 hb1 hb2 hb3
  go_wp2_with fail
  refine wp_loop_rounds 4 ?_
  repeat any_goals (rw [rounds_succ]; go_wp2_with fail)
  go_ret
  exact ⟨_, rfl, HO.out, hb4⟩
end Go.Proofs.Ytkjhnefbcnnjlaa.Ord
