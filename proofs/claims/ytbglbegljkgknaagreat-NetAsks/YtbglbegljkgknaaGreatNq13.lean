/- fresh.Router. -/
import Derived.Test.YtbglbegljkgknaaGreatNq12
import Derived.Deep.DeepCutAuto
import Derived.Test.YtbglbegljkgknaaGreatNq11
set_option linter.unusedVariables false
namespace Go.Proofs.YtbglbegljkgknaaGreat.Addr
open Go.RowKit

set_option maxHeartbeats 2000000 in
theorem covers_any (p q : Pf) (w : World) (hl : -9223372036854775808 ≤ p.len ∧ p.len ≤ 9223372036854775807) (hn : p.n < 2 ^ 128) (hl2 : -9223372036854775808 ≤ q.len ∧ q.len ≤ 9223372036854775807) (hn2 : q.n < 2 ^ 128) : Calls Tryz.prog 156 #[pfV p, pfV q] w fun e w' => e = .returned (.bool (coversB p q)) ∧ Below w.heap.size w w' := by
  have cc := fun w => check_any q w hl2 hn2
  have ch := fun w => has_any p q.six q.n w hl hn hn2
  obtain ⟨X, hX⟩ : ∃ X, X = (w.alloc (.cells #[.bool p.six, .int .u64 (hiN p.n : Int), .int .u64 (loN p.n : Int), .int .i64 p.len] 33)).alloc (.cells #[.bool q.six, .int .u64 (hiN q.n : Int), .int .u64 (loN q.n : Int), .int .i64 q.len] 33) := ⟨_, rfl⟩
  have hB0 : Below w.heap.size w X := by rw [hX]; exact below_new (below_new (Below.refl _ _) _) _
  have r0 : RowAt X w.heap.size [.bool p.six, .int .u64 (hiN p.n : Int), .int .u64 (loN p.n : Int), .int .i64 p.len] 33 := by rw [hX]; exact (RowAt.new _ _ _).alloc _
  have r1 : RowAt X (w.heap.size + 1) [.bool q.six, .int .u64 (hiN q.n : Int), .int .u64 (loN q.n : Int), .int .i64 q.len] 33 := by rw [hX, ← World.size_alloc w (.cells #[.bool p.six, .int .u64 (hiN p.n : Int), .int .u64 (loN p.n : Int), .int .i64 p.len] 33)]; exact RowAt.new _ _ _
  have HH : Hid (coversB p q = (okP q && (decide (p.len ≤ q.len) && hasB p q.six q.n))) := rfl
  generalize coversB p q = R at *
  generalize hasB p q.six q.n = HB at *
  cases hok : okP q
  · rw [checkP_bad hok] at cc
    have HV : Hid (R = false) := by show _ = _; rw [HH.out, hok]; rfl
    clear HH hok ch hl hl2 hn hn2
    unfold pfV at *
    (try unfold adV at *)
    generalize hiN p.n = h at *
    generalize loN p.n = l at *
    generalize hiN q.n = qh at *
    generalize loN q.n = ql at *
    generalize p.six = sx at *
    generalize p.len = len at *
    generalize q.six = qs at *
    generalize q.len = qn at *
    go_enter Tryz.func156, Tryz.ntmps156
    go_wp2_with fail
    go_at_call 132; refine (cc _).mono ?_; rintro e w2 ⟨rfl, hb2⟩
    rw [← hX] at hb2
    have hW := below2 hB0 hb2
    clear hX cc hB0 r0 r1 hb2
    go_wp2_with fail
    go_ret
    exact ⟨by rw [HV.out]; rfl, hW⟩
  rw [checkP_ok hok] at cc
  rw [hok] at HH
  clear hok
  by_cases hs : p.len ≤ q.len
  · have HV : Hid (R = HB) := by show _ = _; rw [HH.out, decide_eq_true hs]; simp
    have hd : decide (p.len ≤ q.len) = true := decide_eq_true hs
    clear HH hl hl2 hn hn2 hs
    unfold pfV at *
    (try unfold adV at *)
    generalize hiN p.n = h at *
    generalize loN p.n = l at *
    generalize hiN q.n = qh at *
    generalize loN q.n = ql at *
    generalize p.six = sx at *
    generalize p.len = len at *
    generalize q.six = qs at *
    generalize q.len = qn at *
    go_enter Tryz.func156, Tryz.ntmps156
    go_wp2_with fail
    go_at_call 132; refine (cc _).mono ?_; rintro e w2 ⟨rfl, hb2⟩
    rw [← hX] at hb2
    have hW := below2 hB0 hb2
    obtain ⟨q0, q1, q2, q3, qf⟩ := cells4 (r0.below hb2)
    obtain ⟨p0, p1, p2, p3, pf⟩ := cells4 (r1.below hb2)
    clear hX cc hB0 r0 r1 hb2
    go_wp2_with fail
    go_at_call 147; refine (ch _).mono ?_; rintro e w3 ⟨rfl, hb3⟩
    have hW := below2 hW hb3
    clear ch
    go_wp2_with fail
    go_ret
    exact ⟨by rw [HV.out]; rfl, hW⟩
  · have HV : Hid (R = false) := by show _ = _; rw [HH.out, decide_eq_false hs]; rfl
    have hd : decide (p.len ≤ q.len) = false := decide_eq_false hs
    clear HH ch hl hl2 hn hn2 hs
    unfold pfV at *
    (try unfold adV at *)
    generalize hiN p.n = h at *
    generalize loN p.n = l at *
    generalize hiN q.n = qh at *
    generalize loN q.n = ql at *
    generalize p.six = sx at *
    generalize p.len = len at *
    generalize q.six = qs at *
    generalize q.len = qn at *
    go_enter Tryz.func156, Tryz.ntmps156
    go_wp2_with fail
    go_at_call 132; refine (cc _).mono ?_; rintro e w2 ⟨rfl, hb2⟩
    rw [← hX] at hb2
    have hW := below2 hB0 hb2
    obtain ⟨q0, q1, q2, q3, qf⟩ := cells4 (r0.below hb2)
    obtain ⟨p0, p1, p2, p3, pf⟩ := cells4 (r1.below hb2)
    clear hX cc hB0 r0 r1 hb2
    go_wp2_with fail
    go_ret
    exact ⟨by rw [HV.out]; rfl, hW⟩
theorem RowAt.set1 {W : World} {g : Nat} {cs : List Value} {t : TypeId} (h : RowAt W g cs t) (k : Nat) (v : Value) : RowAt (W.setCell ⟨g, k, none⟩ v) g (cs.set k v) t := by
  unfold RowAt at *
  simp only [World.setCell]
  rw [Array.getElem?_modify, if_pos rfl, h]
  simp
theorem RowAt.far1 {W : World} {g b : Nat} {cs : List Value} {t : TypeId} (h : RowAt W g cs t) (hne : g ≠ b) (k : Nat) (v : Value) : RowAt (W.setCell ⟨b, k, none⟩ v) g cs t := by
  unfold RowAt at *
  simp only [World.setCell]
  rw [Array.getElem?_modify, if_neg (fun e => hne e.symm)]
  exact h
theorem results_cct {fn : Func} {p q u : Tmp} {ty ty2 : TypeId} (h : fn.results = #[.cell p ty, .cell q ty2, .tmp u]) (tmps : Array Value) (P : Program) (w : World) :
    (results fn tmps).run P w =
      ((asAddr (tmps.getD p undef)).run P w).andThen fun a w₁ => ((loadVar ty a).run P w₁).andThen fun v w₂ => ((asAddr (tmps.getD q undef)).run P w₂).andThen fun b w₃ => ((loadVar ty2 b).run P w₃).andThen fun v2 w₄ => .ok (.tuple #[v, v2, tmps.getD u undef]) w₄ := by
  simp only [results, h]
  simp [Sem.run_bind, Result.andThen]
end Go.Proofs.YtbglbegljkgknaaGreat.Addr
namespace Go.Proofs.YtbglbegljkgknaaGreat.Fib
open Go.RowKit
open Go.Proofs.YtbglbegljkgknaaGreat.Addr (hiN loN RowAt below2 below_drew below_new RowAt.lt RowAt.cell RowAt.frozen RowAt.below RowAt.drew RowAt.new RowAt.alloc RowAt.set1 RowAt.far1 cells4 gset grefl bset results_cell)
open Go.Proofs.YtbglbegljkgknaaGreat.Lk (Lk HasLks HasLks.keep hasRow_own)
open Go.Proofs.YtbglbegljkgknaaGreat.Tr (Rt HasRts HasRts.keep)
theorem set4_row {W : World} {B : Nat} {c0 c1 c2 c3 : Value} {t : TypeId} (h : RowAt W B [c0, c1, c2, c3] t) (x y z u : Value) : RowAt ((((W.setCell ⟨B, 0, none⟩ x).setCell ⟨B, 1, none⟩ y).setCell ⟨B, 2, none⟩ z).setCell ⟨B, 3, none⟩ u) B [x, y, z, u] t := (((h.set1 0 x).set1 1 y).set1 2 z).set1 3 u
theorem set4_gr (W : World) (B : Nat) (x y z u : Value) : W.grownBy ((((W.setCell ⟨B, 0, none⟩ x).setCell ⟨B, 1, none⟩ y).setCell ⟨B, 2, none⟩ z).setCell ⟨B, 3, none⟩ u) (some B) := gset (gset (gset (gset (grefl _ _))))
theorem set4_bl {b0 B : Nat} {w0 W : World} (h : Below b0 w0 W) (hb : b0 ≤ B) (x y z u : Value) : Below b0 w0 ((((W.setCell ⟨B, 0, none⟩ x).setCell ⟨B, 1, none⟩ y).setCell ⟨B, 2, none⟩ z).setCell ⟨B, 3, none⟩ u) := bset (bset (bset (bset h hb) hb) hb) hb
set_option maxHeartbeats 2000000 in
theorem fresh_any (R : Ro) (a b : Value) (w : World) (ha : HasRts w a R.rts) (hb : HasLks w b R.lks) (h1 : R.rts.length ≤ 1000) (h2 : R.lks.length ≤ 1000) :
    Calls Tryz.prog 36 #[.agg #[.int .i64 R.id, .bool R.up, a, b]] w fun e w' => ∃ c d, e = .returned (.agg #[.int .i64 R.id, .bool R.up, c, d]) ∧ HasRts w' c R.rts ∧ HasLks w' d R.lks ∧ Below w.heap.size w w' := by
  have C1 : Hid (∀ W, HasRts W a R.rts → Calls Tryz.prog 63 #[a] W fun e w' => ∃ o n m, e = .returned (.slice o n m) ∧ HasRts w' (.slice o n m) R.rts ∧ Below W.heap.size W w') := by
    intro W hW
    refine (Tr.clone_any R.rts a W hW (by omega)).mono ?_
    rintro e w' ⟨u, rfl, ho, hb'⟩
    have hh : HasRts w' u R.rts := hasRow_own ho
    obtain ⟨o, c, rfl, _⟩ := Lk.HasRow.slice hh
    exact ⟨_, _, _, rfl, hh, hb'⟩
  have C2 : Hid (∀ W, HasLks W b R.lks → Calls Tryz.prog 64 #[b] W fun e w' => ∃ o n m, e = .returned (.slice o n m) ∧ HasLks w' (.slice o n m) R.lks ∧ Below W.heap.size W w') := by
    intro W hW
    refine (Lk.clone_any R.lks b W hW (by omega)).mono ?_
    rintro e w' ⟨u, rfl, ho, hb'⟩
    have hh : HasLks w' u R.lks := hasRow_own ho
    obtain ⟨o, c, rfl, _⟩ := Lk.HasRow.slice hh
    exact ⟨_, _, _, rfl, hh, hb'⟩
  obtain ⟨o1, n1, m1, rfl⟩ : ∃ o n m, a = .slice o n m := by obtain ⟨o, c, rfl, _⟩ := Lk.HasRow.slice ha; exact ⟨_, _, _, rfl⟩
  obtain ⟨o2, n2, m2, rfl⟩ : ∃ o n m, b = .slice o n m := by obtain ⟨o, c, rfl, _⟩ := Lk.HasRow.slice hb; exact ⟨_, _, _, rfl⟩
  obtain ⟨X, hX⟩ : ∃ X, X = (w.alloc (.cells #[.int .i64 R.id, .bool R.up, .slice o1 n1 m1, .slice o2 n2 m2] 51)).alloc (.cells #[.int .i64 0, .bool false, .slice none 0 0, .slice none 0 0] 51) := ⟨_, rfl⟩
  have hB : Below w.heap.size w X := by rw [hX]; exact below_new (below_new (Below.refl _ _) _) _
  have r0 : RowAt X w.heap.size [.int .i64 R.id, .bool R.up, .slice o1 n1 m1, .slice o2 n2 m2] 51 := by rw [hX]; exact (RowAt.new _ _ _).alloc _
  have r1 : RowAt X (w.heap.size + 1) [.int .i64 0, .bool false, .slice none 0 0, .slice none 0 0] 51 := by rw [hX, ← World.size_alloc w (.cells #[.int .i64 R.id, .bool R.up, .slice o1 n1 m1, .slice o2 n2 m2] 51)]; exact RowAt.new _ _ _
  have HA : Hid (HasRts X (.slice o1 n1 m1) R.rts ∧ HasLks X (.slice o2 n2 m2) R.lks) := ⟨ha.keep hB, hb.keep hB⟩
  clear ha hb h1 h2
  go_enter Tryz.func36, Tryz.ntmps36
  go_upto_region 1 with fail
  rw [← hX]
  clear hX
  obtain ⟨p0, p1, p2, p3, pf⟩ := cells4 r0
  go_region_with (first
    | (go_at_call 63
       refine (C1.out _ (HA.out.1.keep (Below.refl _ _).drew)).mono ?_
       rintro e w1 ⟨o3, n3, m3, rfl, hh1, hb1'⟩
       have hb1 : Below X.heap.size X w1 := below2 (Below.refl _ _).drew hb1'
       obtain ⟨p0, p1, p2, p3, pf⟩ := cells4 (RowAt.below r0 hb1))
    | (go_at_call 64
       refine (C2.out _ (HA.out.2.keep hb1)).mono ?_
       rintro e w2 ⟨o4, n4, m4, rfl, hh2, hb2⟩
       have hb3 : Below X.heap.size X w2 := below2 hb1 hb2
       obtain ⟨p0, p1, p2, p3, pf⟩ := cells4 (RowAt.below r0 hb3)))
  all_goals
    have R2 := RowAt.below r0 hb3
    have R1 := RowAt.below r1 hb3
    have hh3 := hh1.keep hb2
    obtain ⟨Y, hY⟩ : ∃ Y, Y = (w2.setCell ⟨w.heap.size, 2, none⟩ (.slice o3 n3 m3)).setCell ⟨w.heap.size, 3, none⟩ (.slice o4 n4 m4) := ⟨_, rfl⟩
    have g2 : w2.grownBy Y (some w.heap.size) := by rw [hY]; exact gset (gset (grefl _ _))
    have HR : Hid (HasRts Y (.slice o3 n3 m3) R.rts ∧ HasLks Y (.slice o4 n4 m4) R.lks) := ⟨rts_apart hh3 R2 g2, lks_apart hh2 R2 g2⟩
    have y0 : RowAt Y w.heap.size [.int .i64 R.id, .bool R.up, .slice o3 n3 m3, .slice o4 n4 m4] 51 := by rw [hY]; exact (R2.set1 2 _).set1 3 _
    have y1 : RowAt Y (w.heap.size + 1) [.int .i64 0, .bool false, .slice none 0 0, .slice none 0 0] 51 := by rw [hY]; exact (R1.far1 (by omega) _ _).far1 (by omega) _ _
    have hBY : Below w.heap.size w Y := by rw [hY]; exact bset (bset (below2 hB hb3) (Nat.le_refl _)) (Nat.le_refl _)
    rw [← hY]
    clear hY hh1 hh2 hh3 R2 R1 hb1 hb2 hb3 C1 C2 HA r0 r1 g2 p0 p1 p2 p3 pf hB
    obtain ⟨p0, p1, p2, p3, pf⟩ := cells4 y0
    obtain ⟨q0, q1, q2, q3, qf⟩ := cells4 y1
    go_wp2_with fail
    (try simp only [Exit.inBlock, Exit.then])
    refine bodyPost_ret (v := .agg #[.int .i64 R.id, .bool R.up, .slice o3 n3 m3, .slice o4 n4 m4]) ?_ rfl ⟨_, _, rfl, ?_, ?_, ?_⟩
    · rw [results_cell rfl]
      go_simp
    · exact rts_apart HR.out.1 y1 (set4_gr _ _ _ _ _ _)
    · exact lks_apart HR.out.2 y1 (set4_gr _ _ _ _ _ _)
    · exact set4_bl hBY (by omega) _ _ _ _
end Go.Proofs.YtbglbegljkgknaaGreat.Fib
