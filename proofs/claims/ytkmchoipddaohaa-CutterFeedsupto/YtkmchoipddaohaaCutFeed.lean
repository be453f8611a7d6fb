/- What the cutter's Feed and Wrap return. -/
import Derived.Test.YtkmchoipddaohaaCutKnife
import Derived.Test.YtkmchoipddaohaaShelf
set_option linter.unusedVariables false
namespace Go.Proofs.Ytkmchoipddaohaa.Cut
open Go.RowKit
attribute [-go_sem] Builtin.append_

theorem clone_any (s : ByteArray) (w : World) (hs : s.size ≤ 281474976710656) :
    Calls Try.prog 16 #[.string s] w fun e w' => e = .returned (.string s) ∧ Below w.heap.size w w' := by
  go_enter Try.func16, Try.ntmps16
  go_wp2_with (go_at_call 23; refine (Try.stringslite_Clone s _ hs).mono ?_; rintro e w1 ⟨rfl, hb⟩)
  go_ret
  exact ⟨rfl, hb⟩
/-- a row that lies in memory: n elements of sz cells each -/
def HasRow (W : World) (v : Value) (sz n : Nat) (cs : List Value) : Prop :=
  cs.length = n * sz ∧ ((v = .slice none 0 0 ∧ n = 0) ∨ ∃ a cap, v = .slice (some a) n cap ∧ n ≤ cap ∧ cap ≤ 9223372036854775807 ∧ (0 < n → a.spot = none ∧ a.block < W.heap.size) ∧ ∀ j, j < n * sz → W.cell? (a.add j) = cs[j]?)
theorem hasRow_own {W : World} {B e sz n : Nat} {v : Value} {cs : List Value} (h : W.ownsRow B e sz v n cs) : HasRow W v sz n cs := by
  refine ⟨h.1, ?_⟩
  rcases h.2 with h0 | ⟨g, cap, cur, rfl, hg, hgb, hnc, hcm, rest⟩
  · exact .inl h0
  · refine .inr ⟨⟨g, 0, none⟩, cap, rfl, hnc, by unfold maxLen at hcm; exact hcm, fun _ => ⟨rfl, (Array.getElem?_eq_some_iff.1 hgb).1⟩, fun j hj => ?_⟩
    rw [addr_add, Nat.zero_add, cell_of_row W g j cur e (0, 0) hgb]
    rw [← rest.2, List.getElem?_take, if_pos hj]
    simp
theorem HasRow.keep {W W' : World} {v : Value} {sz n : Nat} {cs : List Value} (h : HasRow W v sz n cs) (hb : Below W.heap.size W W') : HasRow W' v sz n cs := by
  refine ⟨h.1, ?_⟩
  rcases h.2 with h0 | ⟨a, cap, e, h1, h2, h3, h4⟩
  · exact .inl h0
  · refine .inr ⟨a, cap, e, h1, h2, fun h => ⟨(h3 h).1, Nat.lt_of_lt_of_le (h3 h).2 hb.size⟩, fun j hj => ?_⟩
    have hn : 0 < n := by rcases Nat.eq_zero_or_pos n with h0 | h0; rw [h0] at hj; omega; exact h0
    obtain ⟨b, i, s⟩ := a
    obtain ⟨hs, hlt⟩ := h3 hn
    simp only at hs hlt
    subst hs
    have h5 := h4 j hj
    rw [addr_add] at h5 ⊢
    rw [← h5]
    exact hb.cell (p := ⟨b, i + j, none⟩) hlt
def HasPcs (W : World) (v : Value) (ps : List PcT) : Prop := HasRow W v 2 ps.length (pcCs ps)
def fedC (c : Ct) (l : List UInt8) : Ct × List PcT := if okC c then feedC c l else (zeroC, [])
theorem fed_ok {c : Ct} (h : okC c = true) (l : List UInt8) : fedC c l = feedC c l ∧ checkC c = 0 := by unfold fedC checkC; rw [h]; exact ⟨rfl, rfl⟩
theorem fed_bad {c : Ct} (h : okC c = false) (l : List UInt8) : fedC c l = (zeroC, []) ∧ checkC c = 2 := by unfold fedC checkC; rw [h]; exact ⟨rfl, rfl⟩
theorem results_cell_tmp2 {fn : Func} {p u x : Tmp} {ty : TypeId} (h : fn.results = #[.cell p ty, .tmp u, .tmp x]) (tmps : Array Value) (P : Program) (w : World) :
    (results fn tmps).run P w = ((asAddr (tmps.getD p undef)).run P w).andThen fun a w₁ => ((loadVar ty a).run P w₁).andThen fun v w₂ => .ok (.tuple #[v, tmps.getD u undef, tmps.getD x undef]) w₂ := by
  simp only [results, h]
  simp [Sem.run_bind, Result.andThen]
theorem take_snoc (l : List UInt8) (k : Nat) (h : k < l.length) : l.take (k + 1) = l.take k ++ [l.getD k 0] := by
  rw [List.take_succ_eq_append_getElem h, List.getD_eq_getElem?_getD, List.getElem?_eq_getElem h]; rfl
/-- a row of memory that a call made -/
def NewIn (w : World) (v : Value) : Prop := ∀ a n c, v = .slice (some a) n c → w.heap.size ≤ a.block
theorem newIn_own {w W : World} {m e size k : Nat} {v : Value} {xs : List Value} (h : W.ownsRow m e size v k xs) (hm : w.heap.size ≤ m) : NewIn w v := by
  rcases h.2 with ⟨rfl, _⟩ | ⟨g, cap, cur, rfl, hg, _⟩
  · intro a n c e; injection e with e; cases e
  · intro a n c e; injection e with e; injection e with e; subst e; exact Nat.le_trans hm hg
set_option maxHeartbeats 2000000 in
theorem feedN_any (c : Ct) (l : List UInt8) (w : World) (hf : FitC c) (hl : l.length ≤ 1099511627776) :
    Calls Try.prog 7 #[ctV c, .string ⟨l.toArray⟩] w fun e w' => ∃ V, e = .returned (.tuple #[ctV (fedC c l).1, V, .int .i64 (checkC c)]) ∧ (HasPcs w' V (fedC c l).2 ∧ NewIn w V) ∧ Below w.heap.size w w' := by
  have cc := fun W => check_any c W hf
  cases hok : okC c
  · obtain ⟨e1, e2⟩ := fed_bad hok l
    rw [e1, e2]
    rw [e2] at cc
    obtain ⟨r, b, s⟩ := c
    unfold ctV strV at *
    simp only at *
    obtain ⟨X, hX⟩ : ∃ X, X = (w.alloc (.cells #[.string ⟨r.toArray⟩, .bool b, .int .i64 s] 23)).alloc (.cells #[.string ⟨#[]⟩, .bool false, .int .i64 0] 23) := ⟨_, rfl⟩
    have hB0 : Below w.heap.size w X := by rw [hX]; exact below_new (below_new (Below.refl _ _) _) _
    have r0 : RowAt X w.heap.size [.string ⟨r.toArray⟩, .bool b, .int .i64 s] 23 := by rw [hX]; exact (RowAt.new _ _ _).alloc _
    have r1 : RowAt X (w.heap.size + 1) [.string ⟨#[]⟩, .bool false, .int .i64 0] 23 := by rw [hX, ← World.size_alloc w (.cells #[.string ⟨r.toArray⟩, .bool b, .int .i64 s] 23)]; exact RowAt.new _ _ _
    obtain ⟨x0, x1, x2, xf⟩ := cells3 r0
    have hlt := r0.lt
    clear hok hf e1 e2
    go_enter Try.func7, Try.ntmps7
    go_upto_region 1 with fail
    rw [← hX]
    clear hX
    go_wp2_with fail
    go_at_call 12; refine (cc _).mono ?_; rintro e w1 ⟨rfl, hb1⟩
    have hB1 := below2 hB0 hb1
    obtain ⟨y0, y1, y2, yf⟩ := cells3 (r1.below hb1)
    have hlt1 := (r1.below hb1).lt
    clear hB0 x0 x1 x2 xf r0
    go_wp2_with fail
    refine bodyPost_ret (v := .tuple #[.agg #[.string ⟨#[]⟩, .bool false, .int .i64 0], .slice none 0 0, .int .i64 2]) ?_ rfl ⟨.slice none 0 0, rfl, ⟨⟨rfl, .inl ⟨rfl, rfl⟩⟩, fun a n c e => by injection e with e; cases e⟩, ?_⟩
    · rw [results_cell_tmp2 rfl]
      go_simp
    · repeat' (first | with_reducible exact hB1 | with_reducible refine bset ?_ (by omega))
  · obtain ⟨e1, e2⟩ := fed_ok hok l
    rw [e1, e2]
    rw [e2] at cc
    clear e1 e2
    obtain ⟨F, hF⟩ : ∃ F, F = feedC c l := ⟨_, rfl⟩
    rw [← hF]
    obtain ⟨⟨r, b, s⟩, ps⟩ := F
    have HF : Hid (feedC c l = (⟨r, b, s⟩, ps)) := hF.symm
    clear hF
    have hff := (okC_iff c).1 hok
    obtain ⟨X, hX⟩ : ∃ X, X = (w.alloc (.cells #[.string ⟨c.rest.toArray⟩, .bool c.bad, .int .i64 c.skip] 23)).alloc (.cells #[.string ⟨#[]⟩, .bool false, .int .i64 0] 23) := ⟨_, rfl⟩
    have hB0 : Below w.heap.size w X := by rw [hX]; exact below_new (below_new (Below.refl _ _) _) _
    have r0 : RowAt X w.heap.size [.string ⟨c.rest.toArray⟩, .bool c.bad, .int .i64 c.skip] 23 := by rw [hX]; exact (RowAt.new _ _ _).alloc _
    have r1 : RowAt X (w.heap.size + 1) [.string ⟨#[]⟩, .bool false, .int .i64 0] 23 := by rw [hX, ← World.size_alloc w (.cells #[.string ⟨c.rest.toArray⟩, .bool c.bad, .int .i64 c.skip] 23)]; exact RowAt.new _ _ _
    obtain ⟨x0, x1, x2, xf⟩ := cells3 r0
    have hlt := r0.lt
    have hR : ∀ k, okC (feedC c (l.take k)).1 = true := fun k => feed_ok _ hok
    have hL : ∀ k, (feedC c (l.take k)).2.length ≤ 4398046511104 := fun k => Nat.le_trans (feed_len (l.take k) c) (by rw [List.length_take]; omega)
    have HB : Hid (∀ k, k < l.length → ∀ h : k < (⟨l.toArray⟩ : ByteArray).size, (⟨l.toArray⟩ : ByteArray)[k] = l.getD k 0) := fun k hk h => byte_at l k h
    have HE : Hid (l.take l.length = l) := List.take_length
    have hli : (l.length : Int) ≤ 1099511627776 := by omega
    have HFS : Hid (∀ k, k < l.length → feedC c (l.take (k + 1)) = ((stepC (feedC c (l.take k)).1 (l.getD k 0)).1, (feedC c (l.take k)).2 ++ (stepC (feedC c (l.take k)).1 (l.getD k 0)).2)) := fun k hk => by rw [take_snoc l k hk, feed_snoc]
    have H0 : Hid (feedC c (l.take 0) = (c, [])) := by show _ = _; rfl
    have hcv : ctV c = .agg #[.string ⟨c.rest.toArray⟩, .bool c.bad, .int .i64 c.skip] := rfl
    rw [hcv] at *
    clear hf hok hff hcv hl
    go_enter Try.func7, Try.ntmps7
    go_upto_region 1 with fail
    rw [← hX]
    clear hX
    go_wp2_with fail
    go_at_call 12; refine (cc _).mono ?_; rintro e w1 ⟨rfl, hb1⟩
    have hB1 := below2 hB0 hb1
    have r2 := r1.below hb1
    obtain ⟨y0, y1, y2, yf⟩ := cells3 (r0.below hb1)
    have hlt1 := r2.lt
    clear hB0 x0 x1 x2 xf hb1 r1 hlt
    go_upto_region 5 with fail
    obtain ⟨Y, hY⟩ : ∃ Y, Y = w1.alloc (.cells #[.string ⟨c.rest.toArray⟩, .bool c.bad, .int .i64 c.skip, .slice none 0 0] 42) := ⟨_, rfl⟩
    rw [← hY]
    have hbY : Below w1.heap.size w1 Y := by rw [hY]; exact below_new (Below.refl _ _) _
    have kY : Kn Y w1.heap.size (w1.heap.size + 1) c [] := ⟨.slice none 0 0, by rw [hY]; exact RowAt.new _ _ _, World.ownsRow_nil _ _ _ _⟩
    have hMY : w1.heap.size + 1 ≤ Y.heap.size := by rw [hY]; simp
    obtain ⟨g, hgd⟩ : ∃ g, g = w1.heap.size := ⟨_, rfl⟩
    rw [← hgd] at kY hMY hlt1 ⊢
    have hkp : Kp g (g + 1) Y Y := Kp.refl _ _ _
    have r3 := r2.below hbY
    have hBY := below2 hB1 hbY
    clear hY y0 y1 y2 yf hbY hB1 r2 hgd cc
    go_wp2_with fail
    go_loopw [20] (fun i wr => ∃ k : Nat, k ≤ l.length ∧ i = .int .i64 k ∧ Hid (Kn wr g (g + 1) (feedC c (l.take k)).1 (feedC c (l.take k)).2 ∧ Kp g (g + 1) Y wr)) (fun i _ => l.length - (intOf i).toNat)
    case atStart => exact ⟨0, Nat.zero_le _, rfl, by rw [H0.out]; exact kY, hkp⟩
    case round =>
      obtain ⟨k, hk, rfl, HK⟩ := hrel
      obtain ⟨hkn, hkw⟩ := HK.out
      have hM3 : g + 1 ≤ wr.heap.size := Nat.le_trans hMY hkw.size
      by_cases hlt : k < l.length
      · have hb := HB.out k hlt (by rw [size_list]; exact hlt)
        have cm := come_any g (g + 1) _ _ (l.getD k 0) wr (by omega) hM3 hkn (hL k) (hR k)
        have hlti : (k : Int) < (l.length : Int) := by omega
        have HS := HFS.out k hlt
        have HS2 : Hid (feedC c (l.take (k + 1)) = _) := HS
        clear hkn HS
        generalize l.getD k 0 = x at *
        go_wp2_with fail
        go_at_call 15; refine cm.mono ?_; rintro e w2 ⟨rfl, hk2, hp2⟩
        go_wp2_with fail
        go_roundw
        case rel => exact ⟨k + 1, by omega, by go_num, by rw [HS2.out]; exact hk2, hkw.trans hp2⟩
        case measure => simp [intOf]; omega
      · obtain rfl : k = l.length := by omega
        rw [HE.out, HF.out] at hkn
        have hrl := rest_le (hR l.length)
        rw [HE.out, HF.out] at hrl
        clear HK hR hL HFS H0 HB HE hk HF
        simp only at hkn hrl ⊢
        have ccl := fun W => clone_any ⟨r.toArray⟩ W (by rw [size_list]; omega)
        obtain ⟨V, kr, ko⟩ := hkn
        obtain ⟨x0, x1, x2, x3, xf⟩ := cells4 kr
        simp only at x0 x1 x2
        unfold strV at x0
        have hltk := kr.lt
        go_wp2_with fail
        go_at_call 16; refine (ccl _).mono ?_; rintro e w2 ⟨rfl, hb2⟩
        have kr2 := (kr.below hb2).set1 0 (.string ⟨r.toArray⟩)
        have ko2 := own_set (b := g) (o := 0) (x := .string ⟨r.toArray⟩) (own_below ko hb2) (by omega)
        have r4 : RowAt w2 (w.heap.size + 1) [.string ⟨#[]⟩, .bool false, .int .i64 0] 23 := (hb2.block _ (by have := r3.lt; have := hkw.size; omega)).trans ((hkw.block _ (by omega) (by omega)).trans r3)
        have hBk : Below w.heap.size w w2 := by
          refine Below.trans ?_ (hb2.mono (by omega))
          exact ⟨hkw.os.trans hBY.os, hkw.tape.trans hBY.tape, hkw.output.trans hBY.output, Nat.le_trans hBY.size hkw.size, fun j hj => (hkw.block j (by omega) (by omega)).trans (hBY.block j hj)⟩
        have hb5 : Below w.heap.size w (w2.setCell ⟨g, 0, none⟩ (.string ⟨r.toArray⟩)) := bset hBk (by omega)
        have r5 : RowAt (w2.setCell ⟨g, 0, none⟩ (.string ⟨r.toArray⟩)) (w.heap.size + 1) [.string ⟨#[]⟩, .bool false, .int .i64 0] 23 := rowAt_kept r4 (grown_set _ _ _ _) (by intro e; injection e with e; omega)
        obtain ⟨q0, q1, q2, q3, qf⟩ := cells4 (kr.below hb2)
        have hlt2 := (kr.below hb2).lt
        clear kr x0 x1 x2 x3 xf r4 hb2 hkw r3 hBY ko
        go_upto_region 11 with fail
        obtain ⟨Z, hZ⟩ : ∃ Z, Z = w2.setCell ⟨g, 0, none⟩ (.string ⟨r.toArray⟩) := ⟨_, rfl⟩
        rw [← hZ] at kr2 ko2 hb5 r5 ⊢
        clear hZ q0 q1 q2 q3 qf hlt2 hBk
        obtain ⟨x0, x1, x2, x3, xf⟩ := cells4 kr2
        obtain ⟨z0, z1, z2, zf⟩ := cells3 r5
        have hg2 := kr2.lt
        have hg3 := r5.lt
        have HO : Hid (Z.ownsRow (g + 1) 38 2 V ps.length (pcCs ps)) := ko2
        have hne : w.heap.size + 1 ≠ g := by omega
        clear ko2 kr2 r5
        go_region
        go_wp2_with fail
        have HO2 := ((own_set (b := w.heap.size + 1) (o := 2) (x := .int .i64 s) (own_set (b := w.heap.size + 1) (o := 1) (x := .bool b) (own_set (b := w.heap.size + 1) (o := 0) (x := .string ⟨r.toArray⟩) HO.out (by omega)) (by omega)) (by omega)))
        refine bodyPost_ret (v := .tuple #[.agg #[.string ⟨r.toArray⟩, .bool b, .int .i64 s], V, .int .i64 0]) ?_ rfl ⟨V, rfl, ⟨hasRow_own (own_below HO2 (below_drew (Below.refl _ _))), newIn_own HO.out (by omega)⟩, ?_⟩
        · rw [results_cell_tmp2 rfl]
          go_simp
        · apply below_drew
          repeat' (first | with_reducible exact hb5 | with_reducible refine bset ?_ (by omega))
theorem feed_any (c : Ct) (l : List UInt8) (w : World) (hf : FitC c) (hl : l.length ≤ 1099511627776) :
    Calls Try.prog 7 #[ctV c, .string ⟨l.toArray⟩] w fun e w' => ∃ V, e = .returned (.tuple #[ctV (fedC c l).1, V, .int .i64 (checkC c)]) ∧ HasPcs w' V (fedC c l).2 ∧ Below w.heap.size w w' :=
  (feedN_any c l w hf hl).mono fun e w' ⟨V, h1, h2, h3⟩ => ⟨V, h1, h2.1, h3⟩
/-- a row lies elsewhere than what is written -/
theorem HasPcs.grown {W W' : World} {v : Value} {ps : List PcT} {B : Nat} (h : HasPcs W v ps) (hg : W.grownBy W' (some B)) (hB : ∀ a n c, v = .slice (some a) n c → a.block ≠ B) : HasPcs W' v ps := by
  refine ⟨h.1, ?_⟩
  rcases h.2 with h0 | ⟨a, cap, e, h1, h2, h3, h4⟩
  · exact .inl h0
  · refine .inr ⟨a, cap, e, h1, h2, fun h => ⟨(h3 h).1, Nat.lt_of_lt_of_le (h3 h).2 hg.size⟩, fun j hj => ?_⟩
    have hn : 0 < ps.length := by rcases Nat.eq_zero_or_pos ps.length with h0 | h0; rw [h0] at hj; omega; exact h0
    have hne := hB a _ _ e
    obtain ⟨b, i, s⟩ := a
    obtain ⟨hs, hlt⟩ := h3 hn
    simp only at hs hlt hne
    subst hs
    have h5 := h4 j hj
    rw [addr_add] at h5 ⊢
    rw [← h5]
    exact World.cell?_of_block (w := W) (hg.block b hlt (by simp; exact hne))
theorem wrap_ok (l : List UInt8) (h : fitN l.length = true) : 1 ≤ l.length ∧ l.length ≤ 64 := by unfold fitN at h; simpa using h
theorem conv3 (W : World) (n : Nat) (x : Int) (t : TypeId) (hn : n ≤ 64) (hx : x = 0) : (convert 50 9 (.slice (some ⟨W.heap.size, 0, none⟩) 3 3)).run Try.prog (W.alloc (.cells #[.int .u8 245, .int .u8 x, .int .u8 (n : Int)] t)) = .ok (.string ⟨#[245, 0, UInt8.ofNat n]⟩) (W.alloc (.cells #[.int .u8 245, .int .u8 x, .int .u8 (n : Int)] t)) := by
  have hr := RowAt.new W [.int .u8 245, .int .u8 x, .int .u8 (n : Int)] t
  subst hx
  refine run_convert_bytes_back (P := Try.prog) _ 50 9 5 ⟨W.heap.size, 0, none⟩ 3 [245, 0, UInt8.ofNat n] Try.underlying50 Try.underlying5 Try.underlying9 (fun j hj => ?_)
  have hj3 : j < 3 := by simpa using hj
  rw [addr_add, Nat.zero_add, hr.cell]
  have h3 : j = 0 ∨ j = 1 ∨ j = 2 := by omega
  rcases h3 with rfl | rfl | rfl
  · rfl
  · rfl
  · show some (Value.int .u8 (n : Int)) = some (Value.int .u8 ((UInt8.ofNat n).toNat : Int))
    rw [UInt8.toNat_ofNat_of_lt' (by show n < 256; omega)]
theorem wrap_any (l : List UInt8) (w : World) (hl : (l.length : Int) ≤ 140737488351232) :
    Calls Try.prog 9 #[.string ⟨l.toArray⟩] w fun e w' => e = .returned (.tuple #[strV (if fitN l.length then wrapL l else []), .int .i64 (if fitN l.length then 0 else 11)]) ∧ Below w.heap.size w w' := by
  have cf := fun W => isFit_any l.length W (by omega)
  have hF := wrap_ok l
  have HW : Hid (wrapL l = [245, 0, UInt8.ofNat l.length] ++ l) := rfl
  have hcat := bytes_cat [245, 0, UInt8.ofNat l.length] l
  generalize wrapL l = R at HW ⊢
  cases hb : fitN l.length
  · rw [hb] at cf
    clear hF hb hcat
    unfold strV
    go_enter Try.func9, Try.ntmps9
    go_wp2_with fail
    go_at_call 18; refine (cf _).mono ?_; rintro e w1 ⟨rfl, rfl⟩
    go_wp2_with fail
    go_ret2
    exact ⟨rfl, Below.refl _ _⟩
  · rw [hb] at cf
    have h64 := hF hb
    clear hF hb
    unfold strV
    have hi : (l.length : Int) ≤ 64 := by omega
    have hc3 := conv3 w l.length ((l.length : Int) / 256) 49 (by omega) (by omega)
    rw [← HW.out] at hcat
    have hin : l.length ≤ 64 := h64.2
    clear h64 HW
    go_enter Try.func9, Try.ntmps9
    go_wp2_with fail
    go_at_call 18; refine (cf _).mono ?_; rintro e w1 ⟨rfl, rfl⟩
    go_wp2_with fail
    go_ret2
    exact ⟨rfl, below_new (Below.refl _ _) _⟩
end Go.Proofs.Ytkmchoipddaohaa.Cut
