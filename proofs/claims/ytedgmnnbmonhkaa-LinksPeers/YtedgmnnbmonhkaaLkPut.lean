/- links.Put. -/
import Derived.Test.YtedgmnnbmonhkaaLkIns4
import Derived.Test.YtedgmnnbmonhkaaLkRefM
set_option linter.unusedVariables false
namespace Go.Proofs.Ytedgmnnbmonhkaa.Lk
open Go.RowKit Go.Shelf
open Go.Proofs.Ytedgmnnbmonhkaa.Addr (RowAt below2 below_drew below_new bset RowAt.lt RowAt.cell RowAt.frozen RowAt.below RowAt.drew RowAt.new RowAt.alloc cells2)
attribute [-go_sem] Builtin.append_
theorem place_put {l : List Lk} (hp : l.Pairwise (fun x y => x.iface < y.iface)) (i : Int) :
    ∃ k, k ≤ (others l i).length ∧ (idxL (fun y : Lk => decide (i < y.iface)) (others l i) = (k : Int) ∨ (idxL (fun y : Lk => decide (i < y.iface)) (others l i) = -1 ∧ k = (others l i).length)) ∧ (others l i).take k = aheadL l i ∧ (others l i).drop k = behindL l i := by
  have hs := (others_split hp i).1
  refine ⟨(aheadL l i).length, by rw [hs, List.length_append]; omega, ?_, by rw [hs, List.take_left], by rw [hs, List.drop_left]⟩
  have ha : ∀ j (hj : j < (others l i).length), j < (aheadL l i).length → decide (i < (others l i)[j].iface) = false := fun j hj hja => by
    have hm : (others l i)[j] ∈ aheadL l i := by
      have : (others l i)[j] = (aheadL l i)[j] := by simp only [hs]; rw [List.getElem_append_left hja]
      rw [this]; exact List.getElem_mem _
    have := (List.mem_filter.1 hm).2
    simp only [decide_eq_true_eq] at this
    exact decide_eq_false (by omega)
  rcases Nat.eq_zero_or_pos (behindL l i).length with h0 | h0
  · right
    have hl : (others l i).length = (aheadL l i).length := by rw [hs, List.length_append]; omega
    exact ⟨idx_none (fun j hj => ha j hj (by omega)), hl.symm⟩
  · left
    have hl : (aheadL l i).length < (others l i).length := by rw [hs, List.length_append]; omega
    refine idx_at hl ha ?_
    have hm : (others l i)[(aheadL l i).length] ∈ behindL l i := by
      have : (others l i)[(aheadL l i).length] = (behindL l i)[0] := by simp only [hs]; rw [List.getElem_append_right (Nat.le_refl _)]; simp
      rw [this]; exact List.getElem_mem _
    exact (List.mem_filter.1 hm).2
theorem own_base {W : World} {m k e size n : Nat} {v : Value} {xs : List Value} (h : W.ownsRow m e size v n xs) (hk : k ≤ m) : W.ownsRow k e size v n xs := by
  refine ⟨h.1, ?_⟩
  rcases h.2 with h0 | ⟨g, cap, cur, e1, hg, rest⟩
  · exact .inl h0
  · exact .inr ⟨g, cap, cur, e1, Nat.le_trans hk hg, rest⟩
set_option maxHeartbeats 8000000 in
set_option maxRecDepth 20000 in
theorem put_any (l : List Lk) (v : Value) (x : Lk) (w : World) (hl : HasLks w v l) :
    Calls Try.prog 7 #[v, .agg #[.int .i64 x.iface, .int .i64 x.peer]] w fun e w' => ∃ u, e = .returned (.tuple #[u, .int .i64 (putL l x).2]) ∧ HasLks w' u (putL l x).1 ∧ Below w.heap.size w w' := by
  obtain ⟨o, c, rfl, hc1, hc2⟩ := HasRow.slice hl
  have cc := fun W (hb : Below w.heap.size w W) => check_any l _ W (hl.keep hb)
  have c1 := fun W => right_any x W
  have hck : checkL l = if okL l then 0 else 2 := rfl
  rw [hck] at cc
  have hPd : putL l x = if okL l && okK x then (if (others l x.iface).length = 32 then (others l x.iface, 8) else (aheadL l x.iface ++ ([x] ++ behindL l x.iface), 0)) else ([], 2) := rfl
  obtain ⟨X, hX⟩ : ∃ X, X = w.alloc (.cells #[.int .i64 x.iface, .int .i64 x.peer] 24) := ⟨_, rfl⟩
  have hB : Below w.heap.size w X := by rw [hX]; exact below_new (Below.refl _ _) _
  have r0 : RowAt X w.heap.size [.int .i64 x.iface, .int .i64 x.peer] 24 := by rw [hX]; exact RowAt.new _ _ _
  cases hok : okL l
  · rw [hok] at cc hPd
    simp only [Bool.false_eq_true, if_false, Bool.false_and] at cc hPd
    rw [hPd]
    clear hPd
    go_enter Try.func7, Try.ntmps7
    go_upto_region 1 with fail
    rw [← hX]
    clear hX
    go_wp2_with fail
    go_at_call 12; refine (cc _ hB).mono ?_; rintro e w1 ⟨rfl, hb1⟩
    go_wp2_with fail
    go_ret2
    exact ⟨_, rfl, hasRow_nil _ 2, below2 hB hb1⟩
  rw [hok] at cc hPd
  simp only [if_true, Bool.true_and] at cc hPd
  cases hox : okK x
  · rw [hox] at c1 hPd
    simp only [Bool.false_eq_true, if_false] at hPd
    rw [hPd]
    clear hPd
    obtain ⟨a, b⟩ := x
    simp only at *
    go_enter Try.func7, Try.ntmps7
    go_upto_region 1 with fail
    rw [← hX]
    clear hX
    go_wp2_with fail
    go_at_call 12; refine (cc _ hB).mono ?_; rintro e w1 ⟨rfl, hb1⟩
    replace r0 := RowAt.below r0 hb1
    obtain ⟨y0, y1, yf⟩ := cells2 r0
    go_wp2_with fail
    go_at_call 20; refine (c1 _).mono ?_; rintro e w2 ⟨rfl, hb2⟩
    go_wp2_with fail
    go_ret2
    exact ⟨_, rfl, hasRow_nil _ 2, below2 (below2 hB hb1) hb2⟩
  rw [hox] at c1 hPd
  simp only [if_true] at hPd
  have hlen := okL_len2 hok
  have hol : (others l x.iface).length ≤ l.length := List.length_filter_le _ _
  have cl := fun W (hb : Below w.heap.size w W) => clone_any l _ W (hl.keep hb) (by omega)
  have co := fun W => of_any x.iface W
  have cd := fun (W : World) (v : Value) (g B : Nat) => delf_any l v x.iface g B W hok
  have ci := fun (W : World) (v : Value) (g : Nat) => idxPut_any (others l x.iface) v x.iface g W
  have cn := fun (W : World) (v : Value) (k vb B : Nat) => ins_any (others l x.iface) v x k vb B W
  obtain ⟨k, hk1, hk2, hk3, hk4⟩ := place_put (okL_up hok) x.iface
  obtain ⟨m, hm⟩ : ∃ m, m = (others l x.iface).length := ⟨_, rfl⟩
  have HOT : Hid (∀ (W : World) (u : Value) (B : Nat), W.ownsRow B 24 2 u (others l x.iface).length (lkCs (others l x.iface)) → HasLks W u (others l x.iface) ∧ ∃ ou cu, u = .slice ou m cu) := fun W u B h => ⟨hasRow_own h, by obtain ⟨ou, cu, e, _, _⟩ := HasRow.slice (hasRow_own h); exact ⟨ou, cu, by rw [hm]; exact e⟩⟩
  have HM : Hid (m = (others l x.iface).length ∧ m ≤ 32) := ⟨hm, by omega⟩
  have HIN : Hid (∀ (W : World) (u : Value) (vb B : Nat), W.ownsRow B 24 2 u (others l x.iface).length (lkCs (others l x.iface)) → B ≤ W.heap.size → RowAt W vb [.int .i64 x.iface, .int .i64 x.peer] 24 → u.ownBlock ≠ some vb →
      Calls Try.prog 26 #[u, .int .i64 (k : Int), .slice (some ⟨vb, 0, none⟩) 1 1] W fun e w' => ∃ u, e = .returned u ∧ HasLks w' u (aheadL l x.iface ++ ([x] ++ behindL l x.iface)) ∧ Below B W w') := fun W u vb B h1 h2 h3 h4 => by
    have := cn W u k vb B h1 h2 (by omega) hk1 h3 h4
    rw [hk3, hk4] at this
    exact this
  rw [← hm] at hk1 hk2 hPd
  have hmi : (m : Int) ≤ 32 := by omega
  rw [hPd]
  obtain ⟨PL, hPL⟩ : ∃ PL, PL = (if m = 32 then (others l x.iface, 8) else (aheadL l x.iface ++ ([x] ++ behindL l x.iface), 0) : List Lk × Int) := ⟨_, rfl⟩
  have HP : Hid (PL = (if m = 32 then (others l x.iface, 8) else (aheadL l x.iface ++ ([x] ++ behindL l x.iface), 0) : List Lk × Int)) := hPL
  rw [← hPL]
  generalize idxL (fun y : Lk => decide (x.iface < y.iface)) (others l x.iface) = q at ci hk2
  obtain ⟨n, hn⟩ : ∃ n, n = l.length := ⟨_, rfl⟩
  have HN : Hid (n = l.length) := hn
  rw [← hn] at hlen hc1 cl cc ⊢
  have hni : (n : Int) ≤ 32 := by omega
  clear hPd hPL hm hn hl hk3 hk4 cn hck hol
  generalize x.iface = a at *
  generalize x.peer = b at *
  go_enter Try.func7, Try.ntmps7
  go_upto_region 1 with fail
  rw [← hX]
  clear hX
  go_wp2_with fail
  go_at_call 12; refine (cc _ hB).mono ?_; rintro e w1 ⟨rfl, hb1⟩
  replace r0 := RowAt.below r0 hb1
  have hbw1 := below2 hB hb1
  clear cc hB hb1
  have hgl : w.heap.size < w1.heap.size := r0.lt
  obtain ⟨y0, y1, yf⟩ := cells2 r0
  go_wp2_with fail
  go_at_call 20; refine (c1 _).mono ?_; rintro e w2 ⟨rfl, hb2⟩
  replace r0 := RowAt.below r0 hb2
  have hbw2 := below2 hbw1 hb2
  clear c1 y0 y1 yf hb2 hbw1 hgl
  have cl2 : ∀ W, Below w2.heap.size w2 W → Calls Try.prog 22 #[.slice o n c] W fun e w' => ∃ u, e = .returned u ∧ w'.ownsRow w2.heap.size 24 2 u n (lkCs l) ∧ Below w2.heap.size w2 w' := fun W hb => by
    refine (cl W (hbw2.trans (Below.mono hb hbw2.size))).mono ?_
    rintro e w' ⟨u, rfl, h1, h2⟩
    exact ⟨u, rfl, own_base h1 hb.size, hb.trans (Below.mono h2 hb.size)⟩
  have HSK : Hid (∀ W : World, Below w2.heap.size w2 W → W.cell? ⟨w.heap.size, 0, none⟩ = some (.int .i64 a)) := fun W hb => (RowAt.below r0 hb).cell 0
  have hbA : Below w2.heap.size w2 w2 := Below.refl _ _
  go_wp2_with fail
  go_region_held3 (fun w' => w'.cell? ⟨w.heap.size, 0, none⟩ = some (.int .i64 a))
    (first
      | (refine HSK.out _ ?_
         repeat' (first | with_reducible exact hbA | with_reducible apply below_drew)))
    (first
      | (go_at_call 22; with_reducible refine (cl2 _ (by repeat' (first | with_reducible exact hbA | with_reducible apply below_drew))).mono ?_; rintro e w3 ⟨u2, rfl, ho2, hbN⟩
         clear hbA
         have hbA := hbN
         clear hbN)
      | (go_at_call 23; with_reducible refine (co _).mono ?_; rintro e w4 ⟨rfl, hw4⟩
         have hb4 : Below w3.heap.size w3 w4 := (by rw [hw4]; exact below_new (by repeat' (first | exact Below.refl _ _ | apply below_drew)) _)
         have r4 : RowAt w4 w3.heap.size [.int .i64 a] 3 := (by rw [hw4]; exact RowAt.new _ _ _)
         have hgr : u2.ownBlock ≠ some w3.heap.size := (fun e => by have := (ho2.lt _ e).2; omega)
         have ho4 := own_below ho2 hb4
         have hbN := below2 hbA hb4
         clear hw4 hbA hb4 ho2
         have hbA := hbN
         clear hbN
         generalize w3.heap.size = g at r4 hgr ⊢
         have hc4 : w4.cell? ⟨g, 0, none⟩ = some (.int .i64 a) := r4.cell 0
         have hl4 := r4.lt
         clear r4)
      | (go_at_call 21; with_reducible refine (cd _ _ g w2.heap.size (by rw [← HN.out]; exact ho4) hbA.size hc4 hl4 hgr).mono ?_; rintro e w5 ⟨u5, rfl, ho5, _, hb5⟩
         have hbN := hbA.trans hb5
         clear hbA
         have hbA := hbN
         clear hbN
         obtain ⟨hh, ou, cu, rfl⟩ := HOT.out _ _ _ ho5))
  clear HSK cl cl2 co cd
  have hbw5 : Below w.heap.size w w5 := hbw2.trans (Below.mono hbA hbw2.size)
  have hB5 : w2.heap.size ≤ w5.heap.size := hbA.size
  have r5 := RowAt.below r0 hbA
  have hX5 : w.heap.size < w5.heap.size := r5.lt
  clear hbA hb5
  by_cases hm32 : m = 32
  · have hPv := HP.out
    rw [if_pos hm32] at hPv
    subst hm32
    clear HP ci HIN
    go_wp2_with fail
    go_ret2
    exact ⟨_, by rw [hPv]; rfl, by rw [hPv]; exact hh, hbw5⟩
  · have hPv := HP.out
    rw [if_neg hm32] at hPv
    have hmm : ((m : Int) == 32) = false := beq_eq_false_iff_ne.2 (by omega)
    have HPV : Hid (PL = (aheadL l a ++ ([x] ++ behindL l a), 0)) := hPv
    clear HP hPv hm32
    go_wp2_with fail
    go_at_call 24; refine (ci _ _ w.heap.size hh (r5.cell 0) hX5).mono ?_; rintro e w6 ⟨rfl, hb6⟩
    have ho6 := own_below ho5 hb6
    have hbw6 := below2 hbw5 hb6
    replace hB5 := Nat.le_trans hB5 hb6.size
    replace r5 := RowAt.below r5 hb6
    have hX6 : w.heap.size < w6.heap.size := r5.lt
    clear ci hb6 ho5 hbw5 hX5 hh
    obtain ⟨y0, y1, yf⟩ := cells2 r5
    have hgr6 : ∀ t, w6.heap.size ≤ t → (Value.slice ou m cu).ownBlock ≠ some t := fun t ht e => by have := (ho6.lt _ e).2; omega
    have hbN : Below w6.heap.size w6 (w6.alloc (.cells #[.int .i64 a, .int .i64 b] 24)) := below_new (Below.refl _ _) _
    have rN : RowAt (w6.alloc (.cells #[.int .i64 a, .int .i64 b] 24)) w6.heap.size [.int .i64 a, .int .i64 b] 24 := RowAt.new _ _ _
    have hbwN := below2 hbw6 hbN
    have hBN : w2.heap.size ≤ (w6.alloc (.cells #[.int .i64 a, .int .i64 b] 24)).heap.size := Nat.le_trans hB5 hbN.size
    have cn := HIN.out _ (.slice ou m cu) _ w2.heap.size (own_below ho6 hbN) hBN rN (hgr6 _ (Nat.le_refl _))
    clear HIN hgr6 hBN rN
    have HW : Hid (∀ w', Below w2.heap.size (w6.alloc (.cells #[.int .i64 a, .int .i64 b] 24)) w' → Below w.heap.size w w') := fun w' h => hbwN.trans (Below.mono h hbw2.size)
    clear hbwN hbN hbw6 ho6
    rcases hk2 with rfl | ⟨rfl, rfl⟩
    · have hk0 : ¬ ((k : Int) < 0) := by omega
      go_wp2_with fail
      go_at_call 26; refine cn.mono ?_; rintro e w7 ⟨u7, rfl, hh7, hb7⟩
      have hF := HW.out _ hb7
      have hPv := HPV.out
      clear HW hb7 y0 y1 yf
      go_wp2_with fail
      go_ret2
      exact ⟨_, by rw [hPv]; rfl, by rw [hPv]; exact hh7, hF⟩
    · go_wp2_with fail
      go_at_call 26; refine cn.mono ?_; rintro e w7 ⟨u7, rfl, hh7, hb7⟩
      have hF := HW.out _ hb7
      have hPv := HPV.out
      clear HW hb7 y0 y1 yf
      go_wp2_with fail
      go_ret2
      exact ⟨_, by rw [hPv]; rfl, by rw [hPv]; exact hh7, hF⟩
end Go.Proofs.Ytedgmnnbmonhkaa.Lk
