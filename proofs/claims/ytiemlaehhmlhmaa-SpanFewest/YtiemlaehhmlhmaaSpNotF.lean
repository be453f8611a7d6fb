/- What the field's method not answers. -/
import Derived.Test.YtiemlaehhmlhmaaSpOrF
set_option linter.unusedVariables false
namespace Go.Proofs.Ytiemlaehhmlhmaa.Sp
open Go.RowKit Go.Shelf
open Go.Proofs.Ytiemlaehhmlhmaa.Lk (HasRow hasRow_own addr_add)
open Go.Proofs.Ytiemlaehhmlhmaa.Addr (wideN rightB hiN loN adV cmpN cmp_any cmp_le nextE prevE RowAt below2 below_drew below_new bset RowAt.lt RowAt.cell RowAt.frozen RowAt.below RowAt.drew RowAt.new RowAt.alloc RowAt.gkeep cells2 cells4 gset gbelow grefl gfinal)
attribute [-go_sem] Builtin.append_
theorem next_hf {six : Bool} {b : Nat} (h : b ≤ topN six) : (b = topN six ∧ (nextE six b).1 = 0 ∧ decide ((nextE six b).2 = 0) = false) ∨ (¬ b = topN six ∧ (nextE six b).1 = b + 1 ∧ decide ((nextE six b).2 = 0) = true) := by
  unfold nextE
  rw [if_pos ((top_lt _ _).2 h)]
  by_cases e : b = topN six
  · left; unfold topN at e ⊢; rw [if_pos e]; exact ⟨e, rfl, rfl⟩
  · right; unfold topN at e ⊢; rw [if_neg e]; exact ⟨e, rfl, rfl⟩
theorem prev_hs {six : Bool} {a f : Nat} (h : a ≤ topN six) : (decide ((prevE six a).2 = 0) = true → 0 < a ∧ (prevE six a).1 = a - 1) ∧ (decide ((prevE six a).2 = 0) = false → a = 0) := by
  unfold prevE
  rw [if_pos ((top_lt _ _).2 h)]
  by_cases e : a = 0
  · rw [if_pos e]; exact ⟨fun h => by simp at h, fun _ => e⟩
  · rw [if_neg e]; exact ⟨fun _ => ⟨by omega, rfl⟩, fun h => by simp at h⟩
theorem gr_row {X W W' : World} {b e sz k : Nat} {v : Value} {xs : List Value} (h : X.grownBy W (some b)) (hr : W.ownsRow X.heap.size e sz v k xs) (hg : W.grownBy W' v.ownBlock) : X.grownBy W' (some b) :=
  ⟨hg.os.trans h.os, hg.tape.trans h.tape, hg.output.trans h.output, Nat.le_trans h.size hg.size, fun j hj hn => (hg.block j (Nat.lt_of_lt_of_le hj h.size) (fun e => by have := (hr.lt j e.symm).1; omega)).trans (h.block j hj hn)⟩
/-- the boxes of a run of not, behind some spans -/
structure NotW (w X wr : World) (gf ga gr g : Nat) (six : Bool) (u : Value) (R : List Sp) (f t1 t2 : Nat) : Prop where
  ou : wr.ownsRow X.heap.size 66 4 u R.length (spCs R)
  gw : X.grownBy wr (some gr)
  rf : RowAt wr gf (fieldRow g) 61
  ra : RowAt wr ga [.int .u64 0, .int .u64 0, .int .u64 (t1 : Int), .int .u64 (t2 : Int)] 66
  rr : RowAt wr gr [.int .u64 (hiN f : Int), .int .u64 (loN f : Int)] 25
  bl : Below w.heap.size w wr
  ge : w.heap.size ≤ gr ∧ gr < X.heap.size ∧ gf ≠ gr ∧ ga ≠ gr ∧ gf < X.heap.size ∧ ga < X.heap.size
theorem NotW.below {w X W W' : World} {gf ga gr g : Nat} {six : Bool} {u : Value} {R : List Sp} {f t1 t2 : Nat} (h : NotW w X W gf ga gr g six u R f t1 t2) (hb : Below W.heap.size W W') : NotW w X W' gf ga gr g six u R f t1 t2 := ⟨own_below h.ou hb, gbelow h.gw hb, h.rf.below hb, h.ra.below hb, h.rr.below hb, below2 h.bl hb, h.ge⟩
theorem row_set2a {W : World} {b : Nat} {x0 x1 : Value} {t : TypeId} (h : RowAt W b [x0, x1] t) (u v : Value) : RowAt ((W.setCell ⟨b, 0, none⟩ u).setCell ⟨b, 1, none⟩ v) b [u, v] t := by
  have hb : W.heap[b]? = some (.cells #[x0, x1] t (0, 0)) := h
  unfold RowAt
  simp [World.setCell, Array.getElem?_modify, hb]
theorem NotW.store {w X W Y : World} {gf ga gr g : Nat} {six : Bool} {u : Value} {R : List Sp} {f t1 t2 : Nat} (h : NotW w X W gf ga gr g six u R f t1 t2) (f2 : Nat) (hY : Y = (W.setCell ⟨gr, 0, none⟩ (.int .u64 (hiN f2 : Int))).setCell ⟨gr, 1, none⟩ (.int .u64 (loN f2 : Int))) : NotW w X Y gf ga gr g six u R f2 t1 t2 := by
  obtain ⟨h1, h2, h3, h4, h5, h6, g1, g2, g3, g4, g5, g6⟩ := h
  have hg : W.grownBy Y (some gr) := by rw [hY]; exact gset (gset (grefl _ _))
  refine ⟨h1.kept hg ?_, ?_, h3.gkeep hg (by simpa using g3), h4.gkeep hg (by simpa using g4), by rw [hY]; exact row_set2a h5 _ _, by rw [hY]; exact bset (bset h6 g1) g1, g1, g2, g3, g4, g5, g6⟩
  · exact .inr (fun e => by have := (h1.lt gr e).1; omega)
  · rw [hY]; exact gset (gset h2)
theorem NotW.app {w X W : World} {gf ga gr g : Nat} {six : Bool} {u : Value} {R : List Sp} {f t1 t2 : Nat} (h : NotW w X W gf ga gr g six u R f t1 t2) (s : Sp) (hb : R.length ≤ 1000000) :
    ∃ g3 cap w3, (∀ ty, (Builtin.append_ #[63, 63] ty #[u, .slice (some ⟨W.heap.size, 0, none⟩) 1 1]).run Try.prog (W.alloc (.cells #[.int .u64 (hiN s.1 : Int), .int .u64 (loN s.1 : Int), .int .u64 (hiN s.2 : Int), .int .u64 (loN s.2 : Int)] 66)) = .ok (.slice (some ⟨g3, 0, none⟩) (R.length + 1) cap) w3) ∧ NotW w X w3 gf ga gr g six (.slice (some ⟨g3, 0, none⟩) (R.length + 1) cap) (R ++ [s]) f t1 t2 ∧ (∀ b cs t, RowAt W b cs t → (∀ k, u.ownBlock = some k → k ≠ b) → RowAt w3 b cs t) := by
  obtain ⟨g3, cap, w3, hrun, ho, hg⟩ := app_in h.ou s hb h.gw.size
  have hk := h.below (below_new (Below.refl _ W) (.cells #[.int .u64 (hiN s.1 : Int), .int .u64 (loN s.1 : Int), .int .u64 (hiN s.2 : Int), .int .u64 (loN s.2 : Int)] 66))
  obtain ⟨h1, h2, h3, h4, h5, h6, g1, g2, g3', g4, g5, g6⟩ := hk
  have hne : ∀ b, b < X.heap.size → some b ≠ u.ownBlock := fun b hb e => by have := (h1.lt b e.symm).1; omega
  refine ⟨g3, cap, w3, hrun, ⟨by rw [show R.length + 1 = (R ++ [s]).length by simp]; rw [show R.length + 1 = (R ++ [s]).length by simp] at ho; exact ho, gr_row h2 h1 hg, h3.gkeep hg (hne _ g5), h4.gkeep hg (hne _ g6), h5.gkeep hg (hne _ g2), ?_, g1, g2, g3', g4, g5, g6⟩, fun b cs t hr hn => (hr.alloc _).gkeep hg (fun e => hn b e.symm rfl)⟩
  exact h6.grown hg h6.size (fun k e => by have := (h1.lt k e).1; omega)
set_option maxHeartbeats 8000000 in
set_option maxRecDepth 20000 in
theorem notF_any (six : Bool) (l : List Sp) (v : Value) (g : Nat) (w : World) (h : HasSps w v l) (hl : Row six l) (hg : SixAt w g six) (hlen : l.length ≤ 2048) :
    Calls Try.prog 49 #[fdV g, v, spV (0, topN six)] w fun e w' => ∃ u R, e = .returned u ∧ Own1 w w' 66 u R ∧ Row six R ∧ (∀ x, inB R x = (decide (x ≤ topN six) && !inB l x)) ∧ R.length ≤ l.length + 1 := by
  obtain ⟨o, c, rfl, hc1, hc2⟩ := HasRow.slice h
  obtain ⟨t1, ht1⟩ : ∃ q, q = hiN (topN six) := ⟨_, rfl⟩
  obtain ⟨t2, ht2⟩ : ∃ q, q = loN (topN six) := ⟨_, rfl⟩
  have HT1 : Hid (hiN (topN six) = t1 ∧ loN (topN six) = t2) := ⟨ht1.symm, ht2.symm⟩
  have hsv : spV (0, topN six) = .agg #[.int .u64 0, .int .u64 0, .int .u64 (t1 : Int), .int .u64 (t2 : Int)] := by
    rw [ht1, ht2]
    have e1 : hiN 0 = 0 := by unfold hiN; exact Nat.zero_div _
    have e2 : loN 0 = 0 := by unfold loN; exact Nat.zero_mod _
    show Value.agg #[.int .u64 (hiN 0 : Int), .int .u64 (loN 0 : Int), .int .u64 (hiN (topN six) : Int), .int .u64 (loN (topN six) : Int)] = _
    rw [e1, e2]
    rfl
  rw [hsv]
  clear hsv ht1 ht2
  obtain ⟨X, hX⟩ : ∃ X, X = ((w.alloc (.cells #[f0 g, f1, f2 g, f3 g] 61)).alloc (.cells #[.int .u64 0, .int .u64 0, .int .u64 (t1 : Int), .int .u64 (t2 : Int)] 66)).alloc (.cells #[.int .u64 0, .int .u64 0] 25) := ⟨_, rfl⟩
  have hB : Below w.heap.size w X := by rw [hX]; exact below_new (below_new (below_new (Below.refl _ _) _) _) _
  have hxs : X.heap.size = w.heap.size + 1 + 1 + 1 := by rw [hX]; simp
  have rf : RowAt X w.heap.size (fieldRow g) 61 := by rw [hX]; exact ((RowAt.new _ _ _).alloc _).alloc _
  have ra : RowAt X (w.heap.size + 1) [.int .u64 0, .int .u64 0, .int .u64 (t1 : Int), .int .u64 (t2 : Int)] 66 := by
    have h := (RowAt.new (w.alloc (.cells #[f0 g, f1, f2 g, f3 g] 61)) [.int .u64 0, .int .u64 0, .int .u64 (t1 : Int), .int .u64 (t2 : Int)] 66).alloc (.cells #[.int .u64 0, .int .u64 0] 25)
    simp only [World.size_alloc] at h
    rw [hX]; exact h
  have rr : RowAt X (w.heap.size + 1 + 1) [.int .u64 (hiN 0 : Int), .int .u64 (loN 0 : Int)] 25 := by
    have h := RowAt.new ((w.alloc (.cells #[f0 g, f1, f2 g, f3 g] 61)).alloc (.cells #[.int .u64 0, .int .u64 0, .int .u64 (t1 : Int), .int .u64 (t2 : Int)] 66)) [.int .u64 0, .int .u64 0] 25
    simp only [World.size_alloc] at h
    rw [hX]; exact h
  have H0 : Hid (NotW w X X w.heap.size (w.heap.size + 1) (w.heap.size + 1 + 1) g six (.slice none 0 0) [] 0 t1 t2 ∧ NotI six l 0 [] 0 true) := ⟨⟨World.ownsRow_nil _ _ _ _, grefl _ _, rf, ra, rr, hB, by omega, by omega, by omega, by omega, by omega, by omega⟩, not_start _ _⟩
  have HR : Hid (∀ wr : World, Below w.heap.size w wr → HasSps wr (.slice o l.length c) l) := fun wr hq => h.keep hq
  have hSix : Hid (∀ wr : World, Below w.heap.size w wr → SixAt wr g six) := fun wr hq => hg.keep hq
  have HL : Hid (Row six l) := hl
  have hXs : X.heap.size = w.heap.size + 1 + 1 + 1 := hxs
  obtain ⟨gf, hgf⟩ : ∃ q, q = w.heap.size := ⟨_, rfl⟩
  obtain ⟨ga, hga⟩ : ∃ q, q = w.heap.size + 1 := ⟨_, rfl⟩
  obtain ⟨gr, hgr⟩ : ∃ q, q = w.heap.size + 1 + 1 := ⟨_, rfl⟩
  rw [← hgr, ← hga, ← hgf] at H0
  unfold fdV
  unfold f0 f1 f2 f3 at *
  clear h hg hl rf ra rr hB hxs
  generalize hn : l.length = n at *
  have HN : Hid (l.length = n) := hn
  clear hn
  have hni : (n : Int) ≤ 2048 := by omega
  go_enter Try.func49, Try.ntmps49
  go_upto_region 3 with fail
  rw [← hX, ← hgr, ← hga, ← hgf]
  clear hX hgr hga hgf hXs
  go_wp2_with fail
  go_loopw [7, 9, 18] (fun u mo q wr => ∃ (k : Nat) (R : List Sp) (f : Nat) (more : Bool), k ≤ n ∧ q = .int .i64 k ∧ mo = .bool more ∧ Hid (NotW w X wr gf ga gr g six u R f t1 t2 ∧ NotI six l k R f more)) (fun _ _ q _ => n - (Go.RowKit.intOf q).toNat)
  case atStart => exact ⟨0, [], 0, true, by omega, rfl, rfl, H0⟩
  case round =>
    clear H0
    obtain ⟨k, R, f, more, hk, rfl, rfl, HI⟩ := hrel
    obtain ⟨hN, hI⟩ := HI.out
    by_cases hlt : k < n
    · have hkz : k < l.length := by rw [HN.out]; exact hlt
      obtain rfl : more = true := by
        cases more with
        | true => rfl
        | false => have := (hI.2.2.2.2 rfl).2; omega
      obtain ⟨g1, i1, rfl, hg1, a0, a1, a2, a3⟩ := HasSps.cell (HR.out _ hN.bl) k hkz
      have hxk := row_at HL.out hkz
      have hfl := (hI.2.2.2.1 rfl).1
      have htb := top_big six
      have cp := fun (W : World) hq => prev1_any six l[k].1 g W (by omega) hq
      have cn := fun (W : World) hq => next1_any six l[k].2 g W (by omega) hq
      have cc := fun W => cmp_any f (prevE six l[k].1).1 W (by omega) (by unfold prevE; split; split; omega; show _ - 1 < _; omega; show 0 < _; decide)
      have hps := prev_hs (six := six) (a := l[k].1) (f := f) (by omega)
      have hnx := next_hf (six := six) (b := l[k].2) hxk.2
      have hle : decide (cmpN f (prevE six l[k].1).1 ≤ 0) = decide (f ≤ (prevE six l[k].1).1) := cmp_le
      have hki : (k : Int) < (n : Int) := by omega
      have hRl : R.length ≤ 1000000 := by have := hI.2.1; omega
      have HS1 : Hid (∀ is cz, decide ((prevE six l[k].1).2 = 0) = is → decide (cmpN f (prevE six l[k].1).1 ≤ 0) = cz → (is = true → cz = true → NotI six l (k + 1) (R ++ [(f, (prevE six l[k].1).1)]) (nextE six l[k].2).1 (decide ((nextE six l[k].2).2 = 0))) ∧ ((is = false ∨ cz = false) → NotI six l (k + 1) R (nextE six l[k].2).1 (decide ((nextE six l[k].2).2 = 0)))) := fun is cz hi hc => by
        rw [hle] at hc
        constructor
        · intro h1 h2
          subst h1 h2
          obtain ⟨p1, p2⟩ := hps.1 hi
          have := of_decide_eq_true hc
          exact not_step hI HL.out hkz _ _ _ (.inl ⟨p1, by omega, by rw [p2]⟩) hnx
        · intro h1
          refine not_step hI HL.out hkz _ _ _ (.inr ⟨?_, rfl⟩) hnx
          rintro ⟨p1, p2⟩
          rcases h1 with h1 | h1
          · subst h1; have := hps.2 hi; omega
          · subst h1
            have h3 := of_decide_eq_false hc
            cases hi2 : decide ((prevE six l[k].1).2 = 0) with
            | true => have := (hps.1 hi2).2; omega
            | false => have := hps.2 hi2; omega
      clear hps hnx hle hI htb hfl
      obtain ⟨x, hx⟩ : ∃ x, x = l[k] := ⟨_, rfl⟩
      rw [← hx] at a0 a1 a2 a3 cp cn cc HS1 hxk
      clear hx HI hg1
      unfold adV at cp cn cc
      generalize decide ((prevE six x.1).2 = 0) = is at *
      generalize hpe : (prevE six x.1).1 = pv at *
      generalize (nextE six x.2).1 = nx at *
      generalize decide ((nextE six x.2).2 = 0) = md at *
      generalize cmpN f pv = cz at *
      replace HS1 : Hid ((is = true → cz ≤ 0 → NotI six l (k + 1) (R ++ [(f, pv)]) nx md) ∧ ((is = false ∨ ¬ cz ≤ 0) → NotI six l (k + 1) R nx md)) := ⟨fun h1 h2 => (HS1.out is true rfl (decide_eq_true h2)).1 h1 rfl, fun h => by
        by_cases hz : cz ≤ 0
        · exact (HS1.out is true rfl (decide_eq_true hz)).2 (by rcases h with h | h; exact .inl h; exact absurd hz h)
        · exact (HS1.out is false rfl (decide_eq_false hz)).2 (.inr rfl)⟩
      clear hpe hxk
      obtain ⟨x1, hx1⟩ : ∃ q, q = hiN x.1 := ⟨_, rfl⟩
      obtain ⟨x2, hx2⟩ : ∃ q, q = loN x.1 := ⟨_, rfl⟩
      obtain ⟨x3, hx3⟩ : ∃ q, q = hiN x.2 := ⟨_, rfl⟩
      obtain ⟨x4, hx4⟩ : ∃ q, q = loN x.2 := ⟨_, rfl⟩
      rw [← hx1] at a0 cp
      rw [← hx2] at a1 cp
      rw [← hx3] at a2 cn
      rw [← hx4] at a3 cn
      clear hx1 hx2 hx3 hx4
      obtain ⟨p1, hp1⟩ : ∃ q, q = hiN pv := ⟨_, rfl⟩
      obtain ⟨p2, hp2⟩ : ∃ q, q = loN pv := ⟨_, rfl⟩
      obtain ⟨e1, he1⟩ : ∃ q, q = hiN nx := ⟨_, rfl⟩
      obtain ⟨e2, he2⟩ : ∃ q, q = loN nx := ⟨_, rfl⟩
      obtain ⟨k1, hk1⟩ : ∃ q, q = hiN f := ⟨_, rfl⟩
      obtain ⟨k2, hk2⟩ : ∃ q, q = loN f := ⟨_, rfl⟩
      have HP : Hid (hiN pv = p1 ∧ loN pv = p2 ∧ hiN f = k1 ∧ loN f = k2) := ⟨hp1.symm, hp2.symm, hk1.symm, hk2.symm⟩
      have HM1 : Hid (hiN nx = e1) := he1.symm
      have HM2 : Hid (loN nx = e2) := he2.symm
      rw [← hp1, ← hp2] at cp cc
      rw [← hk1, ← hk2] at cc
      rw [← he1, ← he2] at cn
      clear hp1 hp2 he1 he2 hk1 hk2
      go_upto_region 6 with fail
      obtain ⟨Z, hZ⟩ : ∃ Z, Z = wr.alloc (.cells #[.int .u64 (x1 : Int), .int .u64 (x2 : Int), .int .u64 (x3 : Int), .int .u64 (x4 : Int)] 66) := ⟨_, rfl⟩
      have hbZ : Below wr.heap.size wr Z := by rw [hZ]; exact below_new (Below.refl _ _) _
      have rx : RowAt Z wr.heap.size [.int .u64 (x1 : Int), .int .u64 (x2 : Int), .int .u64 (x3 : Int), .int .u64 (x4 : Int)] 66 := by rw [hZ]; exact RowAt.new _ _ _
      rw [← hZ]
      have HU7 : Hid (∀ q, u7.ownBlock = some q → q < wr.heap.size) := fun q hq => (hN.ou.lt q hq).2
      replace hN := hN.below hbZ
      clear hZ hbZ a0 a1 a2 a3
      obtain ⟨gx, hgx⟩ : ∃ q, q = wr.heap.size := ⟨_, rfl⟩
      rw [← hgx] at rx HU7 ⊢
      clear hgx
      obtain ⟨q0, q1, q2, q3, qf⟩ := cells4 hN.rf
      obtain ⟨y0, y1, y2, y3, yf⟩ := cells4 rx
      go_wp2_with fail
      go_at_call 66; refine (cp _ (hSix.out _ hN.bl)).mono ?_; rintro e wp ⟨rfl, hb⟩
      replace hN := hN.below hb
      replace rx := rx.below hb
      clear q0 q1 q2 q3 qf y0 y1 y2 y3 yf hb cp
      obtain ⟨V, hV⟩ : ∃ V, V = wp.alloc (.cells #[.int .u64 (p1 : Int), .int .u64 (p2 : Int)] 25) := ⟨_, rfl⟩
      have hbV : Below wp.heap.size wp V := by rw [hV]; exact below_new (Below.refl _ _) _
      have rv : RowAt V wp.heap.size [.int .u64 (p1 : Int), .int .u64 (p2 : Int)] 25 := by rw [hV]; exact RowAt.new _ _ _
      go_upto_region 7 with fail
      rw [← hV]
      replace hN := hN.below hbV
      replace rx := rx.below hbV
      clear hV hbV
      obtain ⟨gv, hgv⟩ : ∃ q, q = wp.heap.size := ⟨_, rfl⟩
      rw [← hgv] at rv ⊢
      clear hgv
      have HU : Hid True := trivial
      cases is
      · have HST : Hid (NotI six l (k + 1) R nx md) := HS1.out.2 (.inl (by first | rfl | trivial))
        clear HS1 cc rv HU7
        go_upto_region 9 with fail
        obtain ⟨q0, q1, q2, q3, qf⟩ := cells4 hN.rf
        obtain ⟨y0, y1, y2, y3, yf⟩ := cells4 rx
        obtain ⟨z0, z1, zf⟩ := cells2 hN.rr
        have hsx := (hSix.out _ hN.bl)
        go_wp2_with fail
        go_at_call 65; refine (cn _ hsx).mono ?_; rintro e wn1 ⟨rfl, hb⟩
        replace hN := hN.below hb
        clear q0 q1 q2 q3 qf y0 y1 y2 y3 yf z0 z1 zf hb hsx cn
        obtain ⟨z0, z1, zf⟩ := cells2 hN.rr
        obtain ⟨Y, hY⟩ : ∃ Y, Y = (wn1.setCell ⟨gr, 0, none⟩ (.int .u64 (e1 : Int))).setCell ⟨gr, 1, none⟩ (.int .u64 (e2 : Int)) := ⟨_, rfl⟩
        have hN2 := hN.store (Y := Y) nx (by rw [hY, HM1.out, HM2.out])
        have HF : Hid (NotW w X Y gf ga gr g six u7 (R) nx t1 t2 ∧ NotI six l (k + 1) (R) nx md) := ⟨hN2, HST.out⟩
        clear hN hN2 HST rx
        go_upto_region 10 with fail
        rw [← hY]
        clear hY z0 z1 zf
        go_wp2_with fail
        go_roundw
        case rel => exact ⟨k + 1, R, nx, md, by omega, by go_num, rfl, HF⟩
        case measure => simp [Go.RowKit.intOf]; omega
      · obtain ⟨q0, q1, q2, q3, qf⟩ := cells4 hN.rf
        obtain ⟨z0, z1, zf⟩ := cells2 hN.rr
        obtain ⟨v0, v1, vf⟩ := cells2 rv
        simp only [HP.out.2.2.1, HP.out.2.2.2] at z0 z1
        go_wp2_with fail
        go_at_call 31; refine (cc _).mono ?_; rintro e wc ⟨rfl, hb⟩
        replace hN := hN.below hb
        replace rx := rx.below hb
        replace rv := rv.below hb
        clear q0 q1 q2 q3 qf z0 z1 zf v0 v1 vf hb cc
        by_cases hcz : cz ≤ 0
        · have HST : Hid (NotI six l (k + 1) (R ++ [(f, pv)]) nx md) := HS1.out.1 (by first | rfl | trivial) hcz
          clear HS1
          obtain ⟨z0, z1, zf⟩ := cells2 hN.rr
          obtain ⟨v0, v1, vf⟩ := cells2 rv
          simp only [HP.out.2.2.1, HP.out.2.2.2] at z0 z1
          obtain ⟨g3, cap3, w3, hrun, hN3, hrx⟩ := hN.app (f, pv) hRl
          replace rx := hrx _ _ _ rx (fun q hq => by have := HU7.out q hq; omega)
          simp only [HP.out.1, HP.out.2.1, HP.out.2.2.1, HP.out.2.2.2] at hrun
          clear hrx hN rv HU7
          obtain ⟨rl, hrl⟩ : ∃ q, q = R.length + 1 := ⟨_, rfl⟩
          rw [← hrl] at hrun hN3
          clear hrl
          go_upto_region 9 with fail
          have hN := hN3
          clear hN3 z0 z1 zf v0 v1 vf hrun
          obtain ⟨q0, q1, q2, q3, qf⟩ := cells4 hN.rf
          obtain ⟨y0, y1, y2, y3, yf⟩ := cells4 rx
          obtain ⟨z0, z1, zf⟩ := cells2 hN.rr
          have hsx := (hSix.out _ hN.bl)
          go_wp2_with fail
          go_at_call 65; refine (cn _ hsx).mono ?_; rintro e wn2 ⟨rfl, hb⟩
          replace hN := hN.below hb
          clear q0 q1 q2 q3 qf y0 y1 y2 y3 yf z0 z1 zf hb hsx cn
          obtain ⟨z0, z1, zf⟩ := cells2 hN.rr
          obtain ⟨Y, hY⟩ : ∃ Y, Y = (wn2.setCell ⟨gr, 0, none⟩ (.int .u64 (e1 : Int))).setCell ⟨gr, 1, none⟩ (.int .u64 (e2 : Int)) := ⟨_, rfl⟩
          have hN2 := hN.store (Y := Y) nx (by rw [hY, HM1.out, HM2.out])
          have HF : Hid (NotW w X Y gf ga gr g six (.slice (some ⟨g3, 0, none⟩) rl cap3) (R ++ [(f, pv)]) nx t1 t2 ∧ NotI six l (k + 1) (R ++ [(f, pv)]) nx md) := ⟨hN2, HST.out⟩
          clear hN hN2 HST rx
          go_upto_region 10 with fail
          rw [← hY]
          clear hY z0 z1 zf
          go_wp2_with fail
          go_roundw
          case rel => exact ⟨k + 1, R ++ [(f, pv)], nx, md, by omega, by go_num, rfl, HF⟩
          case measure => simp [Go.RowKit.intOf]; omega
        · have HST : Hid (NotI six l (k + 1) R nx md) := HS1.out.2 (.inr (by omega))
          have hcz2 : decide (cz ≤ 0) = false := decide_eq_false hcz
          clear HS1 rv HU7
          go_upto_region 9 with fail
          obtain ⟨q0, q1, q2, q3, qf⟩ := cells4 hN.rf
          obtain ⟨y0, y1, y2, y3, yf⟩ := cells4 rx
          obtain ⟨z0, z1, zf⟩ := cells2 hN.rr
          have hsx := (hSix.out _ hN.bl)
          go_wp2_with fail
          go_at_call 65; refine (cn _ hsx).mono ?_; rintro e wn3 ⟨rfl, hb⟩
          replace hN := hN.below hb
          clear q0 q1 q2 q3 qf y0 y1 y2 y3 yf z0 z1 zf hb hsx cn
          obtain ⟨z0, z1, zf⟩ := cells2 hN.rr
          obtain ⟨Y, hY⟩ : ∃ Y, Y = (wn3.setCell ⟨gr, 0, none⟩ (.int .u64 (e1 : Int))).setCell ⟨gr, 1, none⟩ (.int .u64 (e2 : Int)) := ⟨_, rfl⟩
          have hN2 := hN.store (Y := Y) nx (by rw [hY, HM1.out, HM2.out])
          have HF : Hid (NotW w X Y gf ga gr g six u7 (R) nx t1 t2 ∧ NotI six l (k + 1) (R) nx md) := ⟨hN2, HST.out⟩
          clear hN hN2 HST rx
          go_upto_region 10 with fail
          rw [← hY]
          clear hY z0 z1 zf
          go_wp2_with fail
          go_roundw
          case rel => exact ⟨k + 1, R, nx, md, by omega, by go_num, rfl, HF⟩
          case measure => simp [Go.RowKit.intOf]; omega
    · have hkn : decide ((k : Int) < (n : Int)) = false := decide_eq_false (by omega)
      have hke : k = l.length := by rw [HN.out]; omega
      rw [hke] at hI
      have hE := not_end (S := if more then R ++ [(f, topN six)] else R) hI HL.out rfl
      have hRl : R.length ≤ 1000000 := by have := hI.2.1; have := HN.out; omega
      clear hI hke HI
      have HTO : Hid (∀ (W : World) (u : Value) (S : List Sp), NotW w X W gf ga gr g six u S f t1 t2 → Own1 w W 66 u S) := fun W u S hh => by
        refine ⟨?_, hh.bl⟩
        have h9 : w.heap.size ≤ X.heap.size := by have := hh.ge; omega
        exact own_down hh.ou h9
      cases more
      · simp only [Bool.false_eq_true, if_false] at hE
        have HF : Hid (Own1 w wr 66 u7 R ∧ Row six R ∧ (∀ x, inB R x = (decide (x ≤ topN six) && !inB l x)) ∧ R.length ≤ n + 1) := ⟨HTO.out _ _ _ hN, hE.1, hE.2.1, by have := hE.2.2; rw [HN.out] at this; exact this⟩
        clear hE hN HTO
        go_wp2_with fail
        go_ret
        exact ⟨_, R, rfl, HF.out.1, HF.out.2.1, HF.out.2.2.1, HF.out.2.2.2⟩
      · simp only [if_true] at hE
        obtain ⟨z0, z1, zf⟩ := cells2 hN.rr
        obtain ⟨v0, v1, v2, v3, vf⟩ := cells4 hN.ra
        obtain ⟨k1, hk1⟩ : ∃ q, q = hiN f := ⟨_, rfl⟩
        obtain ⟨k2, hk2⟩ : ∃ q, q = loN f := ⟨_, rfl⟩
        obtain ⟨g3, cap3, w3, hrun, hN3, hrx⟩ := hN.app (f, topN six) hRl
        simp only [HT1.out.1, HT1.out.2, ← hk1, ← hk2] at hrun
        rw [← hk1] at z0
        rw [← hk2] at z1
        have HF : Hid (Own1 w w3 66 (.slice (some ⟨g3, 0, none⟩) (R.length + 1) cap3) (R ++ [(f, topN six)]) ∧ Row six (R ++ [(f, topN six)]) ∧ (∀ x, inB (R ++ [(f, topN six)]) x = (decide (x ≤ topN six) && !inB l x)) ∧ (R ++ [(f, topN six)]).length ≤ n + 1) := ⟨HTO.out _ _ _ hN3, hE.1, hE.2.1, by have := hE.2.2; rw [HN.out] at this; exact this⟩
        obtain ⟨rl, hrl⟩ : ∃ q, q = R.length + 1 := ⟨_, rfl⟩
        rw [← hrl] at hrun HF
        clear hE hN hN3 hrx HTO hk1 hk2 hrl
        go_wp2_with fail
        go_ret
        exact ⟨_, _, rfl, HF.out.1, HF.out.2.1, HF.out.2.2.1, HF.out.2.2.2⟩
end Go.Proofs.Ytiemlaehhmlhmaa.Sp
