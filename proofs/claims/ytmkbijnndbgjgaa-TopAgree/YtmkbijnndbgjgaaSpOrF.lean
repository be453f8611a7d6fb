/- What the field's method or answers. -/
import Derived.Test.YtmkbijnndbgjgaaSpSorted
import Derived.Test.YtmkbijnndbgjgaaSpRow
set_option linter.unusedVariables false
namespace Go.Proofs.Ytmkbijnndbgjgaa.Sp
open Go.RowKit Go.Shelf
open Go.Proofs.Ytmkbijnndbgjgaa.Lk (HasRow hasRow_own addr_add)
open Go.Proofs.Ytmkbijnndbgjgaa.Addr (wideN rightB hiN loN adV cmpN cmp_any RowAt below2 below_drew below_new bset RowAt.lt RowAt.cell RowAt.frozen RowAt.below RowAt.drew RowAt.new RowAt.alloc cells2 cells4 gset grefl Bl bl_ne wp_region_bl bl_call bl_same)
attribute [-go_sem] Builtin.append_
theorem spCs_set (P : List Sp) (q : Sp) (t : Nat) : ((spCs (P ++ [q])).set (P.length * 4 + 2) (.int .u64 (hiN t : Int))).set (P.length * 4 + 3) (.int .u64 (loN t : Int)) = spCs (P ++ [(q.1, t)]) := by
  rw [spCs_app, spCs_app, spCs_one, spCs_one]
  have hl := spCs_len P
  rw [List.set_append_right _ _ (by omega), List.set_append_right _ _ (by omega), hl, show P.length * 4 + 2 - P.length * 4 = 2 by omega, show P.length * 4 + 3 - P.length * 4 = 3 by omega]
  rfl
theorem own_shape {w W : World} {e : Nat} {u : Value} {P : List Sp} {q : Sp} (h : Own1 w W e u (P ++ [q])) : ∃ g cap, u = .slice (some ⟨g, 0, none⟩) (P.length + 1) cap ∧ P.length + 1 ≤ cap ∧ cap ≤ 9223372036854775807 ∧ w.heap.size ≤ g ∧ g < W.heap.size := by
  rcases h.ou.2 with ⟨_, h0⟩ | ⟨g, cap, cur, e1, hg, hgb, hnc, hcm, _⟩
  · simp at h0
  · unfold maxLen at hcm
    exact ⟨g, cap, by rw [e1]; simp, by simpa using hnc, hcm, hg, (Array.getElem?_eq_some_iff.1 hgb).1⟩
/-- the last run's end is stored anew -/
theorem own_put4 {w W : World} {e g cap : Nat} {P : List Sp} {q : Sp} (h : Own1 w W e (.slice (some ⟨g, 0, none⟩) (P.length + 1) cap) (P ++ [q])) (hg : w.heap.size ≤ g) (t : Nat) (Z : World) (hZ : Z = (W.setCell ⟨g, P.length * 4 + 2, none⟩ (.int .u64 (hiN t : Int))).setCell ⟨g, P.length * 4 + 3, none⟩ (.int .u64 (loN t : Int))) :
    Own1 w Z e (.slice (some ⟨g, 0, none⟩) (P.length + 1) cap) (P ++ [(q.1, t)]) := by
  have ho := h.ou
  rw [show (P ++ [q]).length = P.length + 1 by simp] at ho
  have s1 := ho.stored (P.length * 4 + 2) (.int .u64 (hiN t : Int))
  have s2 := s1.1.stored (P.length * 4 + 3) (.int .u64 (loN t : Int))
  rw [spCs_set] at s2
  refine ⟨by rw [hZ, show (P ++ [(q.1, t)]).length = P.length + 1 by simp]; exact s2.1, ?_⟩
  rw [hZ]
  exact bset (bset h.bl hg) hg
theorem or_last {P : List Sp} {z q : Sp} (h : (P ++ [z]).getLast? = some q) : q = z := by simpa using h.symm
set_option maxHeartbeats 8000000 in
set_option maxRecDepth 20000 in
theorem orF_any (six : Bool) (l : List Sp) (v : Value) (g : Nat) (w : World) (h : HasSps w v l) (hok : ∀ s ∈ l, okS six s = true) (hg : SixAt w g six) (hlen : l.length ≤ 2048) :
    Calls Try.prog 72 #[fdV g, v] w fun e w' => ∃ u R, e = .returned u ∧ Own1 w w' 130 u R ∧ Row six R ∧ (∀ x, inB R x = inB l x) ∧ R.length ≤ l.length := by
  obtain ⟨o, c, rfl, hc1, hc2⟩ := HasRow.slice h
  obtain ⟨X0, hX0⟩ : ∃ X, X = w.alloc (.cells #[f0 g, f1, f2 g, f3 g] 123) := ⟨_, rfl⟩
  have hB0 : Below w.heap.size w X0 := by rw [hX0]; exact below_new (Below.refl _ _) _
  have rf : RowAt X0 w.heap.size (fieldRow g) 123 := by rw [hX0]; exact RowAt.new _ _ _
  replace hg := hg.keep hB0
  replace h := h.keep hB0
  have hfit : ∀ x ∈ l, FitS x := fun x hx => ok_fit (hok x hx)
  obtain ⟨X1, hX1⟩ : ∃ X, X = X0.alloc (.cells #[.slice o l.length c] 118) := ⟨_, rfl⟩
  have hB1 : Below X0.heap.size X0 X1 := by rw [hX1]; exact below_new (Below.refl _ _) _
  have rb : RowAt X1 X0.heap.size [.slice o l.length c] 118 := by rw [hX1]; exact RowAt.new _ _ _
  have cv := values_any (.slice o l.length c) X0 ⟨_, _, _, rfl⟩
  rw [← hX1] at cv
  have cs := sortedF_any l (.slice o l.length c) X0.heap.size w.heap.size g X1 (h.keep hB1) hfit (rb.cell 0) rb.lt (by omega) (rf.below hB1)
  replace hg := hg.keep hB1
  replace rf := rf.below hB1
  have hB := below2 hB0 hB1
  have HOK : Hid (∀ s ∈ l, okS six s = true) := hok
  have HMEM : Hid (∀ d : List Sp, (∀ z, z ∈ d ↔ z ∈ l) → ∀ x, inB d x = inB l x) := fun d hd x => inB_perm hd x
  obtain ⟨gf, hgf⟩ : ∃ q, q = w.heap.size := ⟨_, rfl⟩
  obtain ⟨gb, hgb⟩ : ∃ q, q = X0.heap.size := ⟨_, rfl⟩
  have HW : Hid (Below w.heap.size w X1) := hB
  rw [← hgf] at rf cs
  rw [← hgb] at cs cv
  unfold fdV
  unfold fieldRow at rf
  unfold f0 f1 f2 f3 at *
  clear h rb hX1 hB0 hB1 hok hfit hB
  generalize hn : l.length = n at *
  have HN : Hid (l.length = n) := hn
  clear hn
  go_enter Try.func72, Try.ntmps72
  go_upto_region 1 with fail
  rw [← hX0, ← hgf]
  clear hX0 hgf
  go_wp2_with fail
  go_at_call 95; refine cv.mono ?_; rintro e w2 ⟨rfl, rfl⟩
  clear cv hgb
  go_wp2_with fail
  go_at_call 94; refine cs.mono ?_; rintro e w2 ⟨v, D, rfl, hO, hD1, hD2, hD3⟩
  clear cs
  have hBD := hO.bl
  replace hg := hg.keep hBD
  replace rf := rf.below hBD
  have HW2 : Hid (Below w.heap.size w w2) := below2 HW.out hBD
  have hh := hO.has
  obtain ⟨o2, c2, rfl, hc3, hc4⟩ := HasRow.slice hh
  have HR : Hid (∀ wr : World, Below w2.heap.size w2 wr → HasSps wr (.slice o2 D.length c2) D ∧ SixAt wr g six ∧ RowAt wr gf (fieldRow g) 123) := fun wr hb => ⟨hh.keep hb, hg.keep hb, rf.below hb⟩
  have HD : Hid (Ris D ∧ D.length = n ∧ (∀ s ∈ D, okS six s = true) ∧ ∀ x, inB D x = inB l x) := ⟨hD1, hD2, fun s hs => HOK.out s ((hD3 s).1 hs), HMEM.out D hD3⟩
  rw [hD2] at HR hc3 ⊢
  have hni : (n : Int) ≤ 2048 := by omega
  clear hO hD1 hD2 hD3 hBD hg rf hh HOK HMEM HW
  have H0 : Hid (Own1 w2 w2 130 (.slice none 0 0) [] ∧ OrI six D 0 []) := ⟨Own1.nil _ _, or_start _ _⟩
  go_wp2_with fail
  go_loopw [5, 16] (fun u q wr => ∃ (k : Nat) (R : List Sp), k ≤ n ∧ q = .int .i64 k ∧ Hid (Own1 w2 wr 130 u R ∧ OrI six D k R)) (fun _ q _ => n - (Go.RowKit.intOf q).toNat)
  case atStart => exact ⟨0, [], by omega, rfl, H0⟩
  case round =>
    obtain ⟨k, R, hk, rfl, HI⟩ := hrel
    obtain ⟨hO, hI⟩ := HI.out
    obtain ⟨hh, hg, rf⟩ := HR.out _ hO.bl
    by_cases hlt : k < n
    · have hkz : k < D.length := by rw [HD.out.2.1]; exact hlt
      obtain ⟨g1, i1, rfl, hg1, a0, a1, a2, a3⟩ := HasSps.cell hh k hkz
      have hokk := HD.out.2.2.1 _ (List.getElem_mem hkz)
      have hki : (k : Int) < (n : Int) := by omega
      have hRl : R.length ≤ 2048 := by have := hI.2.2.2; omega
      have cr0 : Hid (∀ (z : Nat) (W : World), z ≤ topN six → SixAt W g six → Calls Try.prog 97 #[fdV g, adV z, adV D[k].1] W fun e w' => e = .returned (.bool (apartB six z D[k].1)) ∧ Below W.heap.size W w') := fun z W hz hq => apartF_any six z D[k].1 g W (by have := top_big six; omega) (ok_fit hokk).1 hq
      have cc0 : Hid (∀ (z : Nat) (W : World), z ≤ topN six → Calls Try.prog 89 #[adV z, adV D[k].2] W fun e w' => e = .returned (.int .i64 (cmpN z D[k].2)) ∧ Below W.heap.size W w') := fun z W hz => cmp_any z D[k].2 W (by have := top_big six; omega) (ok_fit hokk).2
      have HNEW : Hid ((∀ q, R.getLast? = some q → q.2 + 1 < D[k].1) → OrI six D (k + 1) (R ++ [D[k]])) := fun h => or_new hI HD.out.1 hkz hokk h
      have HOLD : Hid (∀ P z t, R = P ++ [z] → ¬ z.2 + 1 < D[k].1 → t = (if z.2 < D[k].2 then D[k].2 else z.2) → OrI six D (k + 1) (P ++ [(z.1, t)])) := fun P z t hR hn ht => by subst hR; exact or_old hI HD.out.1 hkz hokk hn t ht
      have HROW : Hid (∀ P z, R = P ++ [z] → z.1 ≤ z.2 ∧ z.2 ≤ topN six) := fun P z hR => by subst hR; exact okS_iff.1 (row_front hI.1).2.1
      have hxk := okS_iff.1 hokk
      unfold fdV f0 f1 f2 f3 adV at cr0
      unfold adV at cc0
      generalize D[k] = x at *
      obtain ⟨xa, xb⟩ := x
      simp only at a0 a1 a2 a3 cr0 cc0 HNEW HOLD hxk
      clear hokk hI HI hg1 hkz
      go_upto_region 6 with fail
      obtain ⟨X, hX⟩ : ∃ X, X = wr.alloc (.cells #[.int .u64 (hiN xa : Int), .int .u64 (loN xa : Int), .int .u64 (hiN xb : Int), .int .u64 (loN xb : Int)] 130) := ⟨_, rfl⟩
      have hbX : Below wr.heap.size wr X := by rw [hX]; exact below_new (Below.refl _ _) _
      have rx : RowAt X wr.heap.size [.int .u64 (hiN xa : Int), .int .u64 (loN xa : Int), .int .u64 (hiN xb : Int), .int .u64 (loN xb : Int)] 130 := by rw [hX]; exact RowAt.new _ _ _
      rw [← hX]
      replace hO := hO.below hbX
      replace hg := hg.keep hbX
      replace rf := rf.below hbX
      clear hX hbX a0 a1 a2 a3 hh
      obtain ⟨gs, hgs⟩ : ∃ g, g = wr.heap.size := ⟨_, rfl⟩
      rw [← hgs] at rx ⊢
      clear hgs
      obtain ⟨x1, hx1⟩ : ∃ q, q = hiN xa := ⟨_, rfl⟩
      obtain ⟨x2, hx2⟩ : ∃ q, q = loN xa := ⟨_, rfl⟩
      obtain ⟨x3, hx3⟩ : ∃ q, q = hiN xb := ⟨_, rfl⟩
      obtain ⟨x4, hx4⟩ : ∃ q, q = loN xb := ⟨_, rfl⟩
      have HE1 : Hid (hiN xa = x1) := hx1.symm
      have HE2 : Hid (loN xa = x2) := hx2.symm
      have HE3 : Hid (hiN xb = x3) := hx3.symm
      have HE4 : Hid (loN xb = x4) := hx4.symm
      rw [← hx1, ← hx2, ← hx3, ← hx4] at rx
      rw [← hx1, ← hx2] at cr0
      rw [← hx3, ← hx4] at cc0
      clear hx1 hx2 hx3 hx4
      have m0 : ∀ p : Bl X, p.W.cell? ⟨gs, 0, none⟩ = some (.int .u64 (x1 : Int)) := fun p => (rx.below p.h).cell 0
      have m1 : ∀ p : Bl X, p.W.cell? ⟨gs, 1, none⟩ = some (.int .u64 (x2 : Int)) := fun p => (rx.below p.h).cell 1
      have t0 := fun p : Bl X => (rf.below p.h).cell 0
      have t1 := fun p : Bl X => (rf.below p.h).cell 1
      have t2 := fun p : Bl X => (rf.below p.h).cell 2
      have t3 := fun p : Bl X => (rf.below p.h).cell 3
      simp only [List.getElem?_cons_succ, List.getElem?_cons_zero] at t0 t1 t2 t3
      haveI := bl_ne X
      rcases List.eq_nil_or_concat R with hR | ⟨P, z, hR⟩
      · subst hR
        obtain ⟨o5, c5, rfl, hc5, _⟩ := HasRow.slice hO.has
        simp only [List.length_nil] at hc5 hO ⊢
        have HA : Hid (OrI six D (k + 1) ([] ++ [(xa, xb)])) := HNEW.out (by simp)
        clear HNEW HOLD HROW cr0 cc0 hg rf
        go_upto_region 7 with fail
        refine wp_region_bl (by kernel_rfl) (by kernel_rfl) ?_
        repeat (go_big_quiet_step (fail))
        refine wpQuiet_nil ?_
        intro wq hw'
        obtain ⟨⟨wz, hq⟩, hw2⟩ := hw'
        subst hw2
        clear m0 m1 t0 t1 t2 t3 this
        replace hO := hO.below hq
        replace rx := rx.below hq
        obtain ⟨y0, y1, y2, y3, yf⟩ := cells4 rx
        obtain ⟨g3, cap3, w3, hrun, hO3, _⟩ := app_R hO (xa, xb) (by simp)
        have HO : Hid (Own1 w2 w3 130 (.slice (some ⟨g3, 0, none⟩) ([] ++ [(xa, xb)]).length cap3) ([] ++ [(xa, xb)]) ∧ OrI six D (k + 1) ([] ++ [(xa, xb)])) := ⟨hO3, HA.out⟩
        clear hO3 hO HA rx
        simp only [HE1.out, HE2.out, HE3.out, HE4.out] at hrun
        generalize hmm : ([] ++ [(xa, xb)]).length = m at hrun HO
        clear hmm
        go_wp2_with fail
        go_roundw
        case rel => exact ⟨k + 1, [] ++ [(xa, xb)], by omega, by go_num, HO⟩
        case measure => simp [Go.RowKit.intOf]; omega
      · rw [List.concat_eq_append] at hR
        subst hR
        obtain ⟨gr, c5, rfl, hc5, hc6, hg5, hg6⟩ := own_shape hO
        obtain ⟨zb1, zb2⟩ := HROW.out P z rfl
        obtain ⟨b9, i9, e9, hb9, _, _, z2, z3⟩ := HasSps.cell (W := X) (o := some ⟨gr, 0, none⟩) (m := P.length + 1) (cap := c5) hO.has P.length (by simp)
        injection e9 with e9
        injection e9 with e91 e92
        subst e91 e92
        have hgz : (P ++ [z])[P.length]'(by simp) = z := List.getElem_concat_length rfl _
        rw [Nat.zero_add, hgz] at z2 z3
        clear hgz
        have ca := fun p : Bl X => cr0.out z.2 p.W zb2 (hg.keep p.h)
        have cc := fun W => cc0.out z.2 W zb2
        have hap := apart_iff (six := six) (t := z.2) (f := xa) zb2 (by omega)
        have HN1 : Hid (apartB six z.2 xa = true → OrI six D (k + 1) (P ++ [z] ++ [(xa, xb)])) := fun h => HNEW.out (fun q hq => by rw [or_last hq]; rw [hap] at h; exact of_decide_eq_true h)
        have HN2 : Hid (apartB six z.2 xa = false → cmpN z.2 xb < 0 → OrI six D (k + 1) (P ++ [(z.1, xb)])) := fun h h2 => HOLD.out P z xb rfl (by rw [hap] at h; exact of_decide_eq_false h) (by
          have := of_decide_eq_true ((cmp_lt0 (n := z.2) (m := xb)).symm.trans (decide_eq_true h2)); rw [if_pos this])
        have HN3 : Hid (apartB six z.2 xa = false → ¬ cmpN z.2 xb < 0 → OrI six D (k + 1) (P ++ [z])) := fun h h2 => HOLD.out P z z.2 rfl (by rw [hap] at h; exact of_decide_eq_false h) (by
          have := of_decide_eq_false ((cmp_lt0 (n := z.2) (m := xb)).symm.trans (decide_eq_false h2)); rw [if_neg this])
        clear HNEW HOLD HROW cr0 cc0 hap hg
        generalize apartB six z.2 xa = C at *
        generalize cmpN z.2 xb = cz at *
        have HZ : Hid (∀ (W Y : World) (t : Nat), Own1 w2 W 130 (.slice (some ⟨gr, 0, none⟩) (P.length + 1) c5) (P ++ [z]) → Y = (W.setCell ⟨gr, P.length * 4 + 2, none⟩ (.int .u64 (hiN t : Int))).setCell ⟨gr, P.length * 4 + 3, none⟩ (.int .u64 (loN t : Int)) → Own1 w2 Y 130 (.slice (some ⟨gr, 0, none⟩) (P.length + 1) c5) (P ++ [(z.1, t)])) := fun W Y t h hY => own_put4 h hg5 t Y hY
        obtain ⟨p, hp⟩ : ∃ p, p = P.length := ⟨_, rfl⟩
        have HP : Hid (p = P.length) := hp
        have hRl2 : P.length + 1 ≤ 2048 := by simpa using hRl
        rw [← hp] at z2 z3 HZ hc5 hRl2 hO ⊢
        clear hp hRl
        have u2 : ∀ q : Bl X, q.W.cell? ⟨gr, p * 4 + 2, none⟩ = some (.int .u64 (hiN z.2 : Int)) := fun q => (q.h.cell (p := ⟨gr, p * 4 + 2, none⟩) hb9).trans z2
        have u3 : ∀ q : Bl X, q.W.cell? ⟨gr, p * 4 + 3, none⟩ = some (.int .u64 (loN z.2 : Int)) := fun q => (q.h.cell (p := ⟨gr, p * 4 + 3, none⟩) hb9).trans z3
        clear z2 z3
        obtain ⟨za, hza⟩ : ∃ q, q = hiN z.2 := ⟨_, rfl⟩
        obtain ⟨zb, hzb⟩ : ∃ q, q = loN z.2 := ⟨_, rfl⟩
        have HZA : Hid (hiN z.2 = za) := hza.symm
        have HZB : Hid (loN z.2 = zb) := hzb.symm
        rw [← hza] at u2
        rw [← hzb] at u3
        rw [← hza, ← hzb] at ca cc
        clear hza hzb
        have hp0 : decide ((p : Int) < 0) = false := decide_eq_false (by omega)
        have hpi : (p : Int) ≤ 2048 := by omega
        go_upto_region 7 with fail
        cases C
        · clear HN1
          refine wp_region_bl (by kernel_rfl) (by kernel_rfl) ?_
          repeat (go_big_quiet_step (first | (go_at_call 97; with_reducible exact bl_call (ca _))))
          refine wpQuiet_nil ?_
          intro wq hw'
          obtain ⟨⟨wz, hq⟩, hw2⟩ := hw'
          subst hw2
          clear m0 m1 t0 t1 t2 t3 u2 u3 this ca
          replace hO := hO.below hq
          replace rx := rx.below hq
          replace rf := rf.below hq
          obtain ⟨b9, i9, e9, hb9, _, _, z2, z3⟩ := HasSps.cell (W := wq) (o := some ⟨gr, 0, none⟩) (m := p + 1) (cap := c5) (l := P ++ [z]) (by have := hO.has; exact this) P.length (by simp)
          injection e9 with e9
          injection e9 with e91 e92
          subst e91 e92
          have hgz : (P ++ [z])[P.length]'(by simp) = z := List.getElem_concat_length rfl _
          rw [Nat.zero_add, hgz, ← HP.out] at z2 z3
          clear hgz
          have m2 : ∀ q : Bl wq, q.W.cell? ⟨gs, 2, none⟩ = some (.int .u64 (x3 : Int)) := fun q => (rx.below q.h).cell 2
          have m3 : ∀ q : Bl wq, q.W.cell? ⟨gs, 3, none⟩ = some (.int .u64 (x4 : Int)) := fun q => (rx.below q.h).cell 3
          have t1 := fun q : Bl wq => (rf.below q.h).cell 1
          simp only [List.getElem?_cons_succ, List.getElem?_cons_zero] at t1
          simp only [HZA.out, HZB.out] at z2 z3
          have u2 : ∀ q : Bl wq, q.W.cell? ⟨gr, p * 4 + 2, none⟩ = some (.int .u64 (za : Int)) := fun q => (q.h.cell (p := ⟨gr, p * 4 + 2, none⟩) hb9).trans z2
          have u3 : ∀ q : Bl wq, q.W.cell? ⟨gr, p * 4 + 3, none⟩ = some (.int .u64 (zb : Int)) := fun q => (q.h.cell (p := ⟨gr, p * 4 + 3, none⟩) hb9).trans z3
          haveI := bl_ne wq
          go_upto_region 9 with fail
          refine wp_region_bl (by kernel_rfl) (by kernel_rfl) ?_
          repeat (go_big_quiet_step (first | (go_at_call 89; with_reducible exact bl_call (cc _))))
          refine wpQuiet_nil ?_
          intro wq2 hw'
          obtain ⟨⟨wz2, hq2⟩, hw2⟩ := hw'
          subst hw2
          have q2 := u2 ⟨_, hq2⟩
          have q3 := u3 ⟨_, hq2⟩
          simp only at q2 q3
          replace hO := hO.below hq2
          replace rx := rx.below hq2
          have hou := hO.ou
          rw [show (P ++ [z]).length = p + 1 by rw [HP.out]; simp] at hou
          have qf := hou.frozenAt
          clear hou
          clear m2 m3 t1 u2 u3 this z2 z3 cc
          by_cases hcz : cz < 0
          · have HA : Hid (OrI six D (k + 1) (P ++ [(z.1, xb)])) := HN2.out rfl hcz
            obtain ⟨y0, y1, y2, y3, yf⟩ := cells4 rx
            obtain ⟨Y, hY⟩ : ∃ Y, Y = (wq2.setCell ⟨gr, p * 4 + 2, none⟩ (.int .u64 (x3 : Int))).setCell ⟨gr, p * 4 + 3, none⟩ (.int .u64 (x4 : Int)) := ⟨_, rfl⟩
            have hO2 := HZ.out wq2 Y xb hO (by rw [hY, HE3.out, HE4.out])
            have HO : Hid (Own1 w2 Y 130 (.slice (some ⟨gr, 0, none⟩) (p + 1) c5) (P ++ [(z.1, xb)]) ∧ OrI six D (k + 1) (P ++ [(z.1, xb)])) := ⟨hO2, HA.out⟩
            clear hO2 HA HN2 HN3 HZ hO rx rf hq hq2
            go_upto_region 11 with fail
            rw [← hY]
            clear hY q2 q3 qf y0 y1 y2 y3 yf
            go_wp2_with fail
            go_roundw
            case rel => exact ⟨k + 1, P ++ [(z.1, xb)], by omega, by go_num, HO⟩
            case measure => simp [Go.RowKit.intOf]; omega
          · have HA : Hid (OrI six D (k + 1) (P ++ [z])) := HN3.out rfl hcz
            have HO : Hid (Own1 w2 wq2 130 (.slice (some ⟨gr, 0, none⟩) (p + 1) c5) (P ++ [z]) ∧ OrI six D (k + 1) (P ++ [z])) := ⟨hO, HA.out⟩
            have hcz2 : decide (cz < 0) = false := decide_eq_false hcz
            clear HA HN2 HN3 HZ hO rx rf hq hq2 q2 q3 qf
            go_wp2_with fail
            go_roundw
            case rel => exact ⟨k + 1, P ++ [z], by omega, by go_num, HO⟩
            case measure => simp [Go.RowKit.intOf]; omega
        · have HA : Hid (OrI six D (k + 1) (P ++ [z] ++ [(xa, xb)])) := HN1.out rfl
          clear HN1 HN2 HN3 HZ
          refine wp_region_bl (by kernel_rfl) (by kernel_rfl) ?_
          repeat (go_big_quiet_step (first | (go_at_call 97; with_reducible exact bl_call (ca _))))
          refine wpQuiet_nil ?_
          intro wq hw'
          obtain ⟨⟨wz, hq⟩, hw2⟩ := hw'
          subst hw2
          clear m0 m1 t0 t1 t2 t3 u2 u3 this ca
          replace hO := hO.below hq
          replace rx := rx.below hq
          obtain ⟨y0, y1, y2, y3, yf⟩ := cells4 rx
          obtain ⟨g3, cap3, w3, hrun, hO3, _⟩ := app_R hO (xa, xb) (by have := HP.out; simp only [List.length_append, List.length_cons, List.length_nil]; omega)
          have HO : Hid (Own1 w2 w3 130 (.slice (some ⟨g3, 0, none⟩) (P ++ [z] ++ [(xa, xb)]).length cap3) (P ++ [z] ++ [(xa, xb)]) ∧ OrI six D (k + 1) (P ++ [z] ++ [(xa, xb)])) := ⟨hO3, HA.out⟩
          clear hO3 hO HA rx
          simp only [HE1.out, HE2.out, HE3.out, HE4.out] at hrun
          generalize hmm : (P ++ [z] ++ [(xa, xb)]).length = m at hrun HO
          clear hmm
          go_wp2_with fail
          go_roundw
          case rel => exact ⟨k + 1, P ++ [z] ++ [(xa, xb)], by omega, by go_num, HO⟩
          case measure => simp [Go.RowKit.intOf]; omega
    · have hkn : decide ((k : Int) < (n : Int)) = false := decide_eq_false (by omega)
      have hke : k = D.length := by rw [HD.out.2.1]; omega
      rw [hke] at hI
      have hE := or_end hI
      have HF : Hid (Own1 w wr 130 u5 R ∧ Row six R ∧ (∀ x, inB R x = inB l x) ∧ R.length ≤ n) := ⟨hO.to HW2.out, hE.1, fun x => by rw [hE.2.1, HD.out.2.2.2], by have := hE.2.2; rw [HD.out.2.1] at this; exact this⟩
      clear hE hI hO hh hg rf hke
      go_wp2_with fail
      go_ret
      exact ⟨_, R, rfl, HF.out.1, HF.out.2.1, HF.out.2.2.1, HF.out.2.2.2⟩
end Go.Proofs.Ytmkbijnndbgjgaa.Sp
