/- What follows of links put, taken out and found, plain. -/
import Derived.Test.YtbglbegljkgknaaGreatNq31
import Derived.Deep.RegionHeld
import Derived.Test.YtbglbegljkgknaaGreatNq10
import Derived.Test.YtbglbegljkgknaaGreatNq21
import Derived.Test.YtbglbegljkgknaaGreatNq19
import Derived.Test.YtbglbegljkgknaaGreatNq18
set_option linter.unusedVariables false
namespace Go.Proofs.YtbglbegljkgknaaGreat.Ord
open Go.RowKit Go.Shelf
open Go.Proofs.YtbglbegljkgknaaGreat.Msg (Ev okE checkE evV evC FitE echeck_any cells12' gkeep gsetO results_cell_tmp1)
open Go.Proofs.YtbglbegljkgknaaGreat.Addr (hiN loN RowAt below2 below_drew below_new bset RowAt.lt RowAt.cell RowAt.frozen RowAt.below RowAt.drew RowAt.new RowAt.alloc gdrew gset gbelow galloc grefl gfinal cells2 cells4 results_cell Bl bl_ne wp_region_bl bl_call bl_same)
attribute [-go_sem] Builtin.append_

theorem own_slice {W : World} {B e sz n : Nat} {v : Value} {cs : List Value} (h : W.ownsRow B e sz v n cs) : ∃ o c, v = .slice o n c := by
  obtain ⟨o, c, e, _⟩ := HasRow.slice (hasRow_own h)
  exact ⟨o, c, e⟩
theorem seats_len (l : List St) (p : Int) : (ahead l p).length ≤ l.length ∧ (behind l p).length ≤ l.length := ⟨List.length_filter_le _ _, List.length_filter_le _ _⟩
theorem one_keep {L Y : World} (s : St) (hb : Below (L.alloc (.cells #[.int .i64 s.router, .int .u64 (s.seq : Int), .int .i64 s.time, .bool s.up] 74)).heap.size (L.alloc (.cells #[.int .i64 s.router, .int .u64 (s.seq : Int), .int .i64 s.time, .bool s.up] 74)) Y) : HasSts Y (.slice (some ⟨L.heap.size, 0, none⟩) 1 1) [s] := (one_has L s).keep hb
theorem one_keep2 {L Y : World} (s : St) (hb : Below (L.alloc (.cells #[.int .i64 s.router, .int .u64 (s.seq : Int), .int .i64 s.time, .bool s.up] 74)).drew.heap.size (L.alloc (.cells #[.int .i64 s.router, .int .u64 (s.seq : Int), .int .i64 s.time, .bool s.up] 74)).drew Y) : HasSts Y (.slice (some ⟨L.heap.size, 0, none⟩) 1 1) [s] := ((one_has L s).keep (below_drew (Below.refl _ _))).keep hb
/-- three rows put together, in a world in which a row of the three has just been made -/
theorem three (L : World) (la lb lc : List St) (oa ob oc : Option Addr) (na nb nc ca cb cc : Nat) (ea : na = la.length) (eb : nb = lb.length) (ec : nc = lc.length)
    (ha : HasSts L (.slice oa na ca) la) (hb : HasSts L (.slice ob nb cb) lb) (hc : HasSts L (.slice oc nc cc) lc) (hla : na ≤ 1000) (hlb : nb ≤ 1000) (hlc : nc ≤ 1000) (W : World)
    (hW : W = L.alloc (.cells #[.slice oa na ca, .slice ob nb cb, .slice oc nc cc] 22) ∨ W = (L.alloc (.cells #[.slice oa na ca, .slice ob nb cb, .slice oc nc cc] 22)).drew) :
    Calls Tryz.prog 101 #[.slice (some ⟨L.heap.size, 0, none⟩) 3 3] W fun e w' => ∃ v, e = .returned v ∧ (∃ B, L.heap.size ≤ B ∧ w'.ownsRow B 74 4 v (la ++ (lb ++ lc)).length (stCs (la ++ (lb ++ lc)))) ∧ Below L.heap.size L w' := by
  have hbW : Below L.heap.size L W := by
    rcases hW with rfl | rfl
    · exact below_new (Below.refl _ _) _
    · exact below_drew (below_new (Below.refl _ _) _)
  have rw1 : RowAt W L.heap.size [.slice oa na ca, .slice ob nb cb, .slice oc nc cc] 22 := by
    rcases hW with rfl | rfl
    · exact RowAt.new _ _ _
    · exact (RowAt.new _ _ _).drew
  refine (concat_any L.heap.size la lb lc oa ob oc na nb nc ca cb cc W rw1.lt (rw1.cell 0) (rw1.cell 1) (rw1.cell 2) ea eb ec (ha.keep hbW) (hb.keep hbW) (hc.keep hbW) hla hlb hlc).mono ?_
  rintro e w' ⟨v, rfl, ho, hb'⟩
  exact ⟨v, rfl, ⟨W.heap.size, hbW.size, ho⟩, below2 hbW hb'⟩
theorem three3 (L : World) (s : St) (la lc : List St) (oa oc : Option Addr) (na nc ca cc : Nat) (ea : na = la.length) (ec : nc = lc.length)
    (ha : HasSts L (.slice oa na ca) la) (hc : HasSts L (.slice oc nc cc) lc) (hla : na ≤ 1000) (hlc : nc ≤ 1000) (W : World)
    (hW : W = (L.alloc (.cells #[.int .i64 s.router, .int .u64 (s.seq : Int), .int .i64 s.time, .bool s.up] 74)).alloc (.cells #[.slice oa na ca, .slice (some ⟨L.heap.size, 0, none⟩) 1 1, .slice oc nc cc] 22) ∨ W = ((L.alloc (.cells #[.int .i64 s.router, .int .u64 (s.seq : Int), .int .i64 s.time, .bool s.up] 74)).alloc (.cells #[.slice oa na ca, .slice (some ⟨L.heap.size, 0, none⟩) 1 1, .slice oc nc cc] 22)).drew) :
    Calls Tryz.prog 101 #[.slice (some ⟨L.heap.size + 1, 0, none⟩) 3 3] W fun e w' => ∃ v, e = .returned v ∧ (∃ B, L.heap.size ≤ B ∧ w'.ownsRow B 74 4 v (la ++ ([s] ++ lc)).length (stCs (la ++ ([s] ++ lc)))) ∧ Below L.heap.size L w' := by
  have hb := below_new (Below.refl _ L) (.cells #[.int .i64 s.router, .int .u64 (s.seq : Int), .int .i64 s.time, .bool s.up] 74)
  have h := three (L.alloc (.cells #[.int .i64 s.router, .int .u64 (s.seq : Int), .int .i64 s.time, .bool s.up] 74)) la [s] lc oa _ oc na 1 nc ca 1 cc ea rfl ec (ha.keep hb) (one_has L s) (hc.keep hb) hla (by decide) hlc W hW
  have e1 : (L.alloc (.cells #[.int .i64 s.router, .int .u64 (s.seq : Int), .int .i64 s.time, .bool s.up] 74)).heap.size = L.heap.size + 1 := World.size_alloc _ _
  rw [show (⟨(L.alloc (.cells #[.int .i64 s.router, .int .u64 (s.seq : Int), .int .i64 s.time, .bool s.up] 74)).heap.size, 0, none⟩ : Addr) = ⟨L.heap.size + 1, 0, none⟩ by rw [e1]] at h
  refine h.mono ?_
  rintro e w' ⟨v, rfl, ⟨B, hB, ho⟩, hb'⟩
  exact ⟨v, rfl, ⟨B, Nat.le_trans hb.size hB, ho⟩, below2 hb hb'⟩
set_option maxHeartbeats 8000000 in
set_option maxRecDepth 20000 in
theorem seated_any (l : List St) (v : Value) (s : St) (w : World) (h : HasSts w v l) (hl : l.length ≤ 1000) :
    Calls Tryz.prog 73 #[v, stV s] w fun e w' => ∃ u, e = .returned u ∧ (∃ B, w.heap.size ≤ B ∧ w'.ownsRow B 74 4 u (seatedL l s).length (stCs (seatedL l s))) ∧ Below w.heap.size w w' := by
  show Calls Tryz.prog 73 #[v, .agg #[.int .i64 s.router, .int .u64 (s.seq : Int), .int .i64 s.time, .bool s.up]] w _
  obtain ⟨X, hX⟩ : ∃ X, X = w.alloc (.cells #[.int .i64 s.router, .int .u64 (s.seq : Int), .int .i64 s.time, .bool s.up] 74) := ⟨_, rfl⟩
  have hB : Below w.heap.size w X := by rw [hX]; exact below_new (Below.refl _ _) _
  have rx : RowAt X w.heap.size [.int .i64 s.router, .int .u64 (s.seq : Int), .int .i64 s.time, .bool s.up] 74 := by rw [hX]; exact RowAt.new _ _ _
  have hXs := h.keep hB
  have c1 : Hid (∀ W : World, Below X.heap.size X W → Calls Tryz.prog 102 #[v, .func (.func 99) #[] #[.pointer (some ⟨w.heap.size, 0, none⟩)]] W fun e w' => ∃ u, e = .returned u ∧ w'.ownsRow W.heap.size 74 4 u (ahead l s.router).length (stCs (ahead l s.router)) ∧ Below W.heap.size W w') := fun W hb => ahead_any l v w.heap.size _ _ _ _ W (hXs.keep hb) (rx.below hb) hl
  have c2 : Hid (∀ W : World, Below X.heap.size X W → Calls Tryz.prog 102 #[v, .func (.func 100) #[] #[.pointer (some ⟨w.heap.size, 0, none⟩)]] W fun e w' => ∃ u, e = .returned u ∧ w'.ownsRow W.heap.size 74 4 u (behind l s.router).length (stCs (behind l s.router)) ∧ Below W.heap.size W w') := fun W hb => behind_any l v w.heap.size _ _ _ _ W (hXs.keep hb) (rx.below hb) hl
  have HSK : Hid (∀ W : World, Below X.heap.size X W → (W.cell? ⟨w.heap.size, 0, none⟩ = some (.int .i64 s.router) ∧ W.cell? ⟨w.heap.size, 1, none⟩ = some (.int .u64 (s.seq : Int)) ∧ W.cell? ⟨w.heap.size, 2, none⟩ = some (.int .i64 s.time) ∧ W.cell? ⟨w.heap.size, 3, none⟩ = some (.bool s.up))) := fun W hb => by
    have r := RowAt.below rx hb
    exact ⟨r.cell 0, r.cell 1, r.cell 2, r.cell 3⟩
  have HL : Hid (seatedL l s = ahead l s.router ++ ([s] ++ behind l s.router)) := rfl
  generalize seatedL l s = RL at HL ⊢
  obtain ⟨hla, hlb⟩ := seats_len l s.router
  have hla1 : (ahead l s.router).length ≤ 1000 := by omega
  have hlb1 : (behind l s.router).length ≤ 1000 := by omega
  generalize ahead l s.router = LA at *
  generalize behind l s.router = LB at *
  obtain ⟨x0, x1, x2, x3, xf⟩ := cells4 rx
  have hbA : Below X.heap.size X X := Below.refl _ _
  have hone : 1 = [s].length := rfl
  have H1000 : Hid (1 ≤ 1000) := by show 1 ≤ 1000; decide
  have HONE : Hid (1 = [s].length) := hone
  clear hone
  clear h hXs rx hla hlb hl
  go_enter Tryz.func73, Tryz.ntmps73
  go_upto_region 1 with fail
  rw [← hX]
  clear hX
  go_upto_region 3 with fail
  go_region_held (fun w' => w'.cell? ⟨w.heap.size, 0, none⟩ = some (.int .i64 s.router) ∧ w'.cell? ⟨w.heap.size, 1, none⟩ = some (.int .u64 (s.seq : Int)) ∧ w'.cell? ⟨w.heap.size, 2, none⟩ = some (.int .i64 s.time) ∧ w'.cell? ⟨w.heap.size, 3, none⟩ = some (.bool s.up))
    (first
      | (refine HSK.out _ ?_
         repeat' (first | with_reducible exact hbA | with_reducible apply below_drew | with_reducible apply below_new))
      | go_keep)
    (first
      | (go_at_call 102
         with_reducible refine (c1.out _ (by repeat' (first | with_reducible exact hbA | with_reducible apply below_drew | with_reducible apply below_new))).mono ?_
         rintro e w3 ⟨u1, rfl, ho1, hb3⟩
         obtain ⟨oa, ca, rfl⟩ := own_slice ho1
         (first | (with_reducible have hlit := one_keep s hb3) | (with_reducible have hlit := one_keep2 s hb3) | skip)
         have hbN : Below X.heap.size X w3 := below2 (by repeat' (first | with_reducible exact hbA | with_reducible apply below_drew | with_reducible apply below_new)) hb3
         have hra : HasSts w3 (.slice oa LA.length ca) LA := hasRow_own ho1
         clear hbA ho1 hb3
         have hbA := hbN
         clear hbN)
      | (go_at_call 102
         with_reducible refine (c2.out _ (by repeat' (first | with_reducible exact hbA | with_reducible apply below_drew | with_reducible apply below_new))).mono ?_
         rintro e w4 ⟨u2, rfl, ho2, hb4⟩
         obtain ⟨ob, cb, rfl⟩ := own_slice ho2
         (first | (with_reducible have hlit := one_keep s hb4) | (with_reducible have hlit := one_keep2 s hb4) | skip)
         have hbN : Below X.heap.size X w4 := below2 (by repeat' (first | with_reducible exact hbA | with_reducible apply below_drew | with_reducible apply below_new)) hb4
         have h34 : Below w3.heap.size w3 w4 := below2 (by repeat' (first | with_reducible exact Below.refl _ _ | with_reducible apply below_drew | with_reducible apply below_new)) hb4
         have hrb : HasSts w4 (.slice ob LB.length cb) LB := hasRow_own ho2
         replace hra := HasSts.keep hra h34
         (first | (with_reducible replace hlit := HasSts.keep hlit h34) | skip)
         clear hbA ho2 hb4
         have hbA := hbN
         clear hbN)
      | (go_at_call 101
         (first
           | (with_reducible refine (three w4 LA [s] LB oa _ ob LA.length 1 LB.length ca 1 cb rfl HONE.out rfl hra hlit hrb hla1 H1000.out hlb1 _ (.inl rfl)).mono ?_)
           | (with_reducible refine (three w4 LA [s] LB oa _ ob LA.length 1 LB.length ca 1 cb rfl HONE.out rfl hra hlit hrb hla1 H1000.out hlb1 _ (.inr rfl)).mono ?_)
           | (with_reducible refine (three3 w4 s LA LB oa ob LA.length LB.length ca cb rfl rfl hra hrb hla1 hlb1 _ (.inl rfl)).mono ?_)
           | (with_reducible refine (three3 w4 s LA LB oa ob LA.length LB.length ca cb rfl rfl hra hrb hla1 hlb1 _ (.inr rfl)).mono ?_))
         rintro e w5 ⟨u3, rfl, ⟨B5, hB5, ho5⟩, hb5⟩
         have hB6 : X.heap.size ≤ B5 := Nat.le_trans (Below.size (by repeat' (first | with_reducible exact hbA | with_reducible apply below_drew | with_reducible apply below_new))) hB5
         have hbN : Below X.heap.size X w5 := below2 (by repeat' (first | with_reducible exact hbA | with_reducible apply below_drew | with_reducible apply below_new)) hb5
         clear hbA hB5
         have hbA := hbN
         clear hbN))
  all_goals go_wp2_with fail
  all_goals go_ret
  all_goals exact ⟨_, rfl, ⟨B5, Nat.le_trans hB.size hB6, by rw [HL.out]; exact ho5⟩, below2 hB hbA⟩
end Go.Proofs.YtbglbegljkgknaaGreat.Ord
namespace Go.Proofs.YtbglbegljkgknaaGreat.Ord
open Go.RowKit Go.Shelf
open Go.Proofs.YtbglbegljkgknaaGreat.Msg (Ev okE checkE evV evC FitE echeck_any cells12' gkeep gsetO results_cell_tmp1)
open Go.Proofs.YtbglbegljkgknaaGreat.Addr (hiN loN RowAt below2 below_drew below_new bset RowAt.lt RowAt.cell RowAt.frozen RowAt.below RowAt.drew RowAt.new RowAt.alloc gdrew gset gbelow galloc grefl gfinal cells2 cells4 results_cell Bl bl_ne wp_region_bl bl_call bl_same)
attribute [-go_sem] Builtin.append_

set_option maxHeartbeats 8000000 in
set_option maxRecDepth 20000 in
theorem next_walk (v : Value) (c0 c1 c2 c3 c5 c6 c7 c8 c9 c10 c11 : Int) (cs : Bool) (h : Int) (w : World) (E1 E2 R : Int) (L : List St) (P : World → Value → Prop) (Q : World → Value → Prop)
    (k1 : ∀ W : World, Below w.heap.size w W → Calls Tryz.prog 71 #[v, .agg #[.int .u8 c0, .int .i64 c1, .int .u64 c2, .int .i64 c3, .bool cs, .int .u64 c5, .int .u64 c6, .int .i64 c7, .int .u8 c8, .int .i64 c9, .int .i64 c10, .int .i64 c11], .int .i64 h] W fun e w' => e = .returned (.int .i64 E1) ∧ Below W.heap.size W w')
    (k2 : E1 = 0 → ∀ W : World, Below w.heap.size w W → Calls Tryz.prog 72 #[v, .agg #[.int .u8 c0, .int .i64 c1, .int .u64 c2, .int .i64 c3, .bool cs, .int .u64 c5, .int .u64 c6, .int .i64 c7, .int .u8 c8, .int .i64 c9, .int .i64 c10, .int .i64 c11], .int .i64 h] W fun e w' => e = .returned (.int .i64 E2) ∧ Below W.heap.size W w')
    (k3 : E1 = 0 → E2 ≠ 0 → ∀ W : World, Below w.heap.size w W → Calls Tryz.prog 44 #[v] W fun e w' => ∃ u, e = .returned u ∧ P w' u ∧ Below W.heap.size W w')
    (k4 : E1 = 0 → E2 = 0 → ∀ W : World, Below w.heap.size w W → Calls Tryz.prog 73 #[v, .agg #[.int .i64 c1, .int .u64 c2, .int .i64 c3, .bool (c0 != 2)]] W fun e w' => ∃ u, e = .returned u ∧ Q w' u ∧ Below W.heap.size W w')
    (G : World → Value → Prop) (H1 : E1 ≠ 0 → Hid (R = E1 ∧ ∀ W : World, G W (.slice none 0 0))) (H2 : E1 = 0 → E2 ≠ 0 → Hid (R = E2 ∧ ∀ (W : World) (u : Value), P W u → G W u)) (H3 : E1 = 0 → E2 = 0 → Hid (R = 0 ∧ ∀ (W : World) (u : Value), Q W u → G W u)) :
    Calls Tryz.prog 46 #[v, .agg #[.int .u8 c0, .int .i64 c1, .int .u64 c2, .int .i64 c3, .bool cs, .int .u64 c5, .int .u64 c6, .int .i64 c7, .int .u8 c8, .int .i64 c9, .int .i64 c10, .int .i64 c11], .int .i64 h] w fun e w' => ∃ u, e = .returned (.tuple #[u, .int .i64 R]) ∧ G w' u ∧ Below w.heap.size w w' := by
  obtain ⟨X, hX⟩ : ∃ X, X = w.alloc (.cells #[.int .u8 c0, .int .i64 c1, .int .u64 c2, .int .i64 c3, .bool cs, .int .u64 c5, .int .u64 c6, .int .i64 c7, .int .u8 c8, .int .i64 c9, .int .i64 c10, .int .i64 c11] 38) := ⟨_, rfl⟩
  have hB : Below w.heap.size w X := by rw [hX]; exact below_new (Below.refl _ _) _
  have r0 : RowAt X w.heap.size [.int .u8 c0, .int .i64 c1, .int .u64 c2, .int .i64 c3, .bool cs, .int .u64 c5, .int .u64 c6, .int .i64 c7, .int .u8 c8, .int .i64 c9, .int .i64 c10, .int .i64 c11] 38 := by rw [hX]; exact RowAt.new _ _ _
  go_enter Tryz.func46, Tryz.ntmps46
  go_upto_region 1 with fail
  rw [← hX]
  clear hX
  obtain ⟨⟨y0, y1, y2, y3, y4, y5⟩, ⟨y6, y7, y8, y9, y10, y11⟩, yf, hly⟩ := cells12' r0
  by_cases h1 : E1 = 0
  · have k2' := k2 h1
    by_cases h2 : E2 = 0
    · have k4' := k4 h1 h2
      have HV := H3 h1 h2
      have HR : Hid (R = 0) := HV.out.1
      subst h1 h2
      clear H1 H2 H3 k2 k3 k4
      go_wp2_with fail
      go_at_call 71; refine (k1 _ hB).mono ?_; rintro e w1 ⟨rfl, hb⟩
      replace hB := below2 hB hb
      replace r0 := RowAt.below r0 hb
      clear hb k1 y0 y1 y2 y3 y4 y5 y6 y7 y8 y9 y10 y11 yf hly
      obtain ⟨⟨y0, y1, y2, y3, y4, y5⟩, ⟨y6, y7, y8, y9, y10, y11⟩, yf, hly⟩ := cells12' r0
      go_wp2_with fail
      go_at_call 72; refine (k2' _ hB).mono ?_; rintro e w2 ⟨rfl, hb⟩
      replace hB := below2 hB hb
      replace r0 := RowAt.below r0 hb
      clear hb k2' y0 y1 y2 y3 y4 y5 y6 y7 y8 y9 y10 y11 yf hly
      obtain ⟨⟨y0, y1, y2, y3, y4, y5⟩, ⟨y6, y7, y8, y9, y10, y11⟩, yf, hly⟩ := cells12' r0
      go_wp2_with fail
      go_at_call 73; refine (k4' _ hB).mono ?_; rintro e w3 ⟨u, rfl, hQ, hb⟩
      have hG := HV.out.2 _ _ hQ
      replace hB := below2 hB hb
      clear hb y0 y1 y2 y3 y4 y5 y6 y7 y8 y9 y10 y11 yf hly hQ HV
      have HG : Hid (G w3 u) := hG
      clear hG
      go_wp2_with fail
      go_ret2
      exact ⟨u, by rw [HR.out]; rfl, HG.out, hB⟩
    · have k3' := k3 h1 h2
      have HV := H2 h1 h2
      have HR : Hid (R = E2) := HV.out.1
      have q1 : (E2 == 0) = false := beq_eq_false_iff_ne.2 h2
      have q2 : (E2 != 0) = true := bne_iff_ne.2 h2
      subst h1
      clear H1 H2 H3 k2 k3 k4 h2
      go_wp2_with fail
      go_at_call 71; refine (k1 _ hB).mono ?_; rintro e w1 ⟨rfl, hb⟩
      replace hB := below2 hB hb
      replace r0 := RowAt.below r0 hb
      clear hb k1 y0 y1 y2 y3 y4 y5 y6 y7 y8 y9 y10 y11 yf hly
      obtain ⟨⟨y0, y1, y2, y3, y4, y5⟩, ⟨y6, y7, y8, y9, y10, y11⟩, yf, hly⟩ := cells12' r0
      go_wp2_with fail
      go_at_call 72; refine (k2' _ hB).mono ?_; rintro e w2 ⟨rfl, hb⟩
      replace hB := below2 hB hb
      replace r0 := RowAt.below r0 hb
      clear hb k2' y0 y1 y2 y3 y4 y5 y6 y7 y8 y9 y10 y11 yf hly
      obtain ⟨⟨y0, y1, y2, y3, y4, y5⟩, ⟨y6, y7, y8, y9, y10, y11⟩, yf, hly⟩ := cells12' r0
      go_wp2_with fail
      go_at_call 44; refine (k3' _ hB).mono ?_; rintro e w3 ⟨u, rfl, hQ, hb⟩
      have hG := HV.out.2 _ _ hQ
      replace hB := below2 hB hb
      clear hb y0 y1 y2 y3 y4 y5 y6 y7 y8 y9 y10 y11 yf hly hQ HV
      have HG : Hid (G w3 u) := hG
      clear hG
      go_wp2_with fail
      go_ret2
      exact ⟨u, by rw [HR.out]; rfl, HG.out, hB⟩
  · have HV := H1 h1
    have HR : Hid (R = E1) := HV.out.1
    have q1 : (E1 == 0) = false := beq_eq_false_iff_ne.2 h1
    have q2 : (E1 != 0) = true := bne_iff_ne.2 h1
    clear H1 H2 H3 k2 k3 k4 h1
    go_wp2_with fail
    go_at_call 71; refine (k1 _ hB).mono ?_; rintro e w1 ⟨rfl, hb⟩
    replace hB := below2 hB hb
    replace r0 := RowAt.below r0 hb
    clear hb k1 y0 y1 y2 y3 y4 y5 y6 y7 y8 y9 y10 y11 yf hly
    obtain ⟨⟨y0, y1, y2, y3, y4, y5⟩, ⟨y6, y7, y8, y9, y10, y11⟩, yf, hly⟩ := cells12' r0
    have HG : Hid (G w1 (.slice none 0 0)) := HV.out.2 _
    clear HV y0 y1 y2 y3 y4 y5 y6 y7 y8 y9 y10 y11 yf hly
    go_wp2_with fail
    go_ret2
    exact ⟨.slice none 0 0, by rw [HR.out]; rfl, HG.out, hB⟩
theorem newIn_own {w W : World} {m e size k : Nat} {v : Value} {xs : List Value} (h : W.ownsRow m e size v k xs) (hm : w.heap.size ≤ m) : NewIn w v := by
  intro a n c e
  subst e
  have := (h.lt a.block rfl).1
  omega
theorem newIn_nil (w : World) : NewIn w (.slice none 0 0) := fun a n c e => by injection e with e; cases e
theorem newIn_le {w W : World} {v : Value} (h : NewIn W v) (hb : w.heap.size ≤ W.heap.size) : NewIn w v := fun a n c e => Nat.le_trans hb (h a n c e)
theorem next_any (l : List St) (v : Value) (e : Ev) (h : Int) (w : World) (hl : HasSts w v l) (hf : FitE e) :
    Calls Tryz.prog 46 #[v, evV e, .int .i64 h] w fun r w' => ∃ u, r = .returned (.tuple #[u, .int .i64 (nextL l e h).2]) ∧ (HasSts w' u (nextL l e h).1 ∧ NewIn w u) ∧ Below w.heap.size w w' := by
  have hkind : ((e.kind : Int) != 2) = decide (e.kind ≠ 2) := by
    rw [Bool.eq_iff_iff, bne_iff_ne, decide_eq_true_eq]; omega
  refine next_walk v _ _ _ _ _ _ _ _ _ _ _ _ h w (askL l e h) (misL l e h) _ l (fun W u => HasSts W u l ∧ NewIn w u) (fun W u => HasSts W u (seatedL l ⟨e.router, e.seq, e.time, decide (e.kind ≠ 2)⟩) ∧ NewIn w u) (fun W hb => ask_any l v e h W (hl.keep hb) hf) (fun h1 W hb => mis_any l v e h W (hl.keep hb) (ask_ok h1).1) ?_ ?_ (fun W u => HasSts W u (nextL l e h).1 ∧ NewIn w u) ?_ ?_ ?_
  · intro h1 h2 W hb
    have := (okL_all (ask_ok h1).1).1
    refine (clone_any l v W (hl.keep hb) (by omega)).mono ?_
    rintro e w' ⟨u, rfl, ho, hb'⟩
    exact ⟨u, rfl, ⟨hasRow_own ho, newIn_own ho hb.size⟩, hb'⟩
  · intro h1 h2 W hb
    have := (okL_all (ask_ok h1).1).1
    rw [hkind]
    refine (seated_any l v ⟨e.router, e.seq, e.time, decide (e.kind ≠ 2)⟩ W (hl.keep hb) (by omega)).mono ?_
    rintro e w' ⟨u, rfl, ⟨B, hBB, ho⟩, hb'⟩
    exact ⟨u, rfl, ⟨hasRow_own ho, newIn_own ho (Nat.le_trans hb.size hBB)⟩, hb'⟩
  · intro h1
    show _ ∧ _
    unfold nextL
    rw [if_neg h1]
    exact ⟨rfl, fun W => ⟨hasRow_nil W 4, newIn_nil w⟩⟩
  · intro h1 h2
    show _ ∧ _
    unfold nextL
    rw [if_pos h1, if_neg h2]
    exact ⟨rfl, fun W u hu => hu⟩
  · intro h1 h2
    show _ ∧ _
    unfold nextL
    rw [if_pos h1, if_pos h2]
    exact ⟨rfl, fun W u hu => hu⟩
end Go.Proofs.YtbglbegljkgknaaGreat.Ord
namespace Go.Proofs.YtbglbegljkgknaaGreat.Tr
open Go.Proofs.YtbglbegljkgknaaGreat.Addr (Pf okP checkP wideN rightB hasB coversB cmpN kP hiN loN adV pfV firstN lastN freeN)
theorem othersT_len (l : List Rt) (p : Pf) : (othersT l p).length = (aheadT l p).length + (behindT l p).length := by
  unfold othersT aheadT behindT
  induction l with
  | nil => rfl
  | cons x l ih =>
    rcases Int.lt_trichotomy (ordP x.pf p) 0 with h | h | h
    · rw [List.filter_cons_of_pos (by simp; omega), List.filter_cons_of_pos (by simp; omega), List.filter_cons_of_neg (by simp; omega), List.length_cons, List.length_cons, ih]; omega
    · rw [List.filter_cons_of_neg (by simp; omega), List.filter_cons_of_neg (by simp; omega), List.filter_cons_of_neg (by simp; omega), ih]
    · rw [List.filter_cons_of_pos (by simp; omega), List.filter_cons_of_neg (by simp; omega), List.filter_cons_of_pos (by simp; omega), List.length_cons, List.length_cons, ih]; omega
theorem insT_len (l : List Rt) (r : Rt) : (insT l r).length = (othersT l r.pf).length + 1 := by
  unfold insT
  rw [othersT_len]
  simp only [List.length_append, List.length_cons, List.length_nil]
  omega
theorem insT_mem {l : List Rt} {r x : Rt} (h : x ∈ insT l r) : x = r ∨ x ∈ l := by
  unfold insT aheadT behindT at h
  simp only [List.mem_append, List.mem_filter, List.mem_singleton] at h
  rcases h with h | h | h
  · exact .inr h.1
  · exact .inl h
  · exact .inr h.1
theorem mem_insT (l : List Rt) (r : Rt) : r ∈ insT l r := by unfold insT; simp
theorem insT_up {l : List Rt} {r : Rt} (h : Up l) : Up (insT l r) := by
  unfold insT
  refine List.pairwise_append.2 ⟨h.filter _, List.pairwise_append.2 ⟨List.pairwise_singleton _ _, h.filter _, fun a ha b hb => ?_⟩, fun a ha b hb => ?_⟩
  · rw [List.mem_singleton] at ha
    subst ha
    have := (List.mem_filter.1 hb).2
    simp only [decide_eq_true_eq] at this
    exact (ordP_gt _ _).1 this
  · have h1 := (List.mem_filter.1 ha).2
    simp only [decide_eq_true_eq] at h1
    have h1 := (ordP_lt _ _).1 h1
    rcases List.mem_append.1 hb with hb | hb
    · rw [List.mem_singleton] at hb
      subst hb
      exact h1
    · have := (List.mem_filter.1 hb).2
      simp only [decide_eq_true_eq] at this
      exact ltP_trans h1 ((ordP_gt _ _).1 this)
theorem othersT_le (l : List Rt) (p : Pf) : (othersT l p).length ≤ l.length := List.length_filter_le _ _
theorem putT_ok {l : List Rt} {r : Rt} (h : (putT l r).2 = 0) : okT l = true ∧ okR r = true ∧ (putT l r).1 = insT l r ∧ okT (insT l r) = true := by
  unfold putT at h ⊢
  cases h1 : okT l && okR r with
  | false => rw [h1] at h; simp at h
  | true =>
    rw [h1] at h
    simp only [if_true] at h ⊢
    rw [Bool.and_eq_true] at h1
    by_cases h2 : (othersT l r.pf).length = 256
    · rw [if_pos h2] at h; simp at h
    · rw [if_neg h2]
      obtain ⟨k1, k2, k3⟩ := (okT_iff l).1 h1.1
      refine ⟨h1.1, h1.2, rfl, (okT_iff _).2 ⟨?_, fun x hx => ?_, insT_up k3⟩⟩
      · rw [insT_len]; have := othersT_le l r.pf; omega
      · rcases insT_mem hx with rfl | hx
        · exact h1.2
        · exact k2 x hx
/-- of two prefixes that have one address the later one is longer, and covered -/
theorem later_long {p q : Pf} {six : Bool} {a : Nat} (hl : ltP p q) (hp : hasB p six a = true) (hq : hasB q six a = true) : p.len < q.len ∧ coversB p q = true := by
  have o1 := has_ok hp
  have o2 := has_ok hq
  obtain ⟨e1, e2, e3, e4⟩ := (has_iff o1 _ _).1 hp
  obtain ⟨f1, f2, f3, f4⟩ := (has_iff o2 _ _).1 hq
  have hs : q.six = p.six := f1.trans e1.symm
  have hc : coversB p q = true := by
    cases hc : coversB p q with
    | true => rfl
    | false => have := apart_of o1 o2 hl hc hs; omega
  refine ⟨?_, hc⟩
  obtain ⟨_, c2, c3⟩ := covers_parts hc
  rcases Int.lt_or_eq_of_le c2 with h | h
  · exact h
  · exfalso
    obtain ⟨g1, g2, g3, g4⟩ := (has_iff o1 _ _).1 c3
    have hk : kP p = kP q := by unfold kP; rw [hs, h]
    have hn : p.n < q.n := by
      unfold ltP at hl
      rcases hl with ⟨h1, h2⟩ | ⟨_, h3⟩
      · rw [hs, h1] at h2; cases h2
      · rcases h3 with h3 | h3
        · exact h3
        · omega
    have := mult_apart (ok_parts o1).2.2.2 (by rw [hk]; exact (ok_parts o2).2.2.2) hn
    omega
theorem up_last {l : List Rt} (hu : Up l) {r : Rt} (hr : r ∈ l) : ∃ x, l.getLast? = some x ∧ x ∈ l ∧ (x = r ∨ ltP r.pf x.pf) := by
  have hne : l ≠ [] := fun h => by rw [h] at hr; cases hr
  refine ⟨l.getLast hne, List.getLast?_eq_some_getLast hne, List.getLast_mem hne, ?_⟩
  rw [List.getLast_eq_getElem]
  obtain ⟨j, hj, rfl⟩ := List.getElem_of_mem hr
  rcases Nat.lt_or_ge j (l.length - 1) with h | h
  · exact .inr (List.pairwise_iff_getElem.1 hu j (l.length - 1) hj (by omega) h)
  · have : j = l.length - 1 := by omega
    subst this
    exact .inl rfl
end Go.Proofs.YtbglbegljkgknaaGreat.Tr
namespace Go.Proofs.YtbglbegljkgknaaGreat.Lk
abbrev Up (l : List Lk) : Prop := l.Pairwise (fun x y => x.iface < y.iface)
theorem ext_up : ∀ (a b : List Lk), Up a → Up b → (∀ z, z ∈ a ↔ z ∈ b) → a = b := by
  intro a
  induction a with
  | nil =>
    intro b _ _ h
    cases b with
    | nil => rfl
    | cons y b => exact absurd ((h y).2 List.mem_cons_self) (by simp)
  | cons x a ih =>
    intro b ha hb h
    cases b with
    | nil => exact absurd ((h x).1 List.mem_cons_self) (by simp)
    | cons y b =>
      have h1 := List.pairwise_cons.1 ha
      have h2 := List.pairwise_cons.1 hb
      have hxy : x = y := by
        rcases List.mem_cons.1 ((h x).1 List.mem_cons_self) with e | e
        · exact e
        · rcases List.mem_cons.1 ((h y).2 List.mem_cons_self) with e2 | e2
          · exact e2.symm
          · have := h2.1 x e; have := h1.1 y e2; omega
      subst hxy
      congr 1
      refine ih b h1.2 h2.2 (fun z => ?_)
      constructor
      · intro hz
        rcases List.mem_cons.1 ((h z).1 (List.mem_cons_of_mem _ hz)) with e | e
        · subst e; have := h1.1 z hz; omega
        · exact e
      · intro hz
        rcases List.mem_cons.1 ((h z).2 (List.mem_cons_of_mem _ hz)) with e | e
        · subst e; have := h2.1 z hz; omega
        · exact e
theorem rise_of (l : List Lk) : ∀ p, (∀ x ∈ l, okK x = true) → Up l → (∀ r, p = some r → ∀ x ∈ l, r < x.iface) → rise p l = true := by
  induction l with
  | nil => intro p _ _ _; cases p <;> rfl
  | cons s l ih =>
    intro p h1 h2 h3
    have hp := List.pairwise_cons.1 h2
    have hr := ih (some s.iface) (fun x hx => h1 x (List.mem_cons_of_mem _ hx)) hp.2 (fun r e x hx => by injection e with e; subst e; exact hp.1 x hx)
    have hs := h1 s List.mem_cons_self
    cases p with
    | none => simp only [rise, hs, hr, Bool.and_self]
    | some r => simp only [rise, hs, hr, Bool.and_true, Bool.true_and, decide_eq_true_eq]; exact h3 r rfl s List.mem_cons_self
theorem okL_iff (l : List Lk) : okL l = true ↔ l.length ≤ 32 ∧ (∀ x ∈ l, okK x = true) ∧ Up l :=
  ⟨fun h => ⟨okL_len2 h, fun x hx => okL_mem h hx, okL_up h⟩, fun h => by
    unfold okL
    rw [rise_of l none h.2.1 h.2.2 (fun r e => by cases e), decide_eq_true h.1]
    rfl⟩
def insL (l : List Lk) (x : Lk) : List Lk := aheadL l x.iface ++ ([x] ++ behindL l x.iface)
theorem mem_others (l : List Lk) (i : Int) (z : Lk) : z ∈ others l i ↔ z ∈ l ∧ z.iface ≠ i := by
  unfold others
  rw [List.mem_filter]
  simp
theorem mem_insL (l : List Lk) (x z : Lk) : z ∈ insL l x ↔ z = x ∨ (z ∈ l ∧ z.iface ≠ x.iface) := by
  unfold insL aheadL behindL
  simp only [List.mem_append, List.mem_filter, List.mem_cons, List.not_mem_nil, or_false, decide_eq_true_eq]
  constructor
  · rintro (⟨h1, h2⟩ | h | ⟨h1, h2⟩)
    · exact .inr ⟨h1, by omega⟩
    · exact .inl h
    · exact .inr ⟨h1, by omega⟩
  · rintro (h | ⟨h1, h2⟩)
    · exact .inr (.inl h)
    · rcases Int.lt_or_gt_of_ne h2 with h3 | h3
      · exact .inl ⟨h1, h3⟩
      · exact .inr (.inr ⟨h1, h3⟩)
theorem up_insL {l : List Lk} (h : Up l) (x : Lk) : Up (insL l x) := by
  unfold insL
  refine List.pairwise_append.2 ⟨h.sublist List.filter_sublist, List.pairwise_cons.2 ⟨fun z hz => ?_, h.sublist List.filter_sublist⟩, fun a ha b hb => ?_⟩
  · have := (List.mem_filter.1 hz).2
    simpa using this
  · have h1 := (List.mem_filter.1 ha).2
    simp only [decide_eq_true_eq] at h1
    rcases List.mem_append.1 hb with hb | hb
    · simp at hb; subst hb; exact h1
    · have h2 := (List.mem_filter.1 hb).2
      simp only [decide_eq_true_eq] at h2
      omega
theorem len_insL {l : List Lk} (h : Up l) (x : Lk) : (insL l x).length = (others l x.iface).length + 1 := by
  rw [(others_split h x.iface).1]
  unfold insL
  simp only [List.length_append, List.length_cons, List.length_nil]
  omega
theorem up_others {l : List Lk} (h : Up l) (i : Int) : Up (others l i) := h.sublist List.filter_sublist
theorem others_le (l : List Lk) (i : Int) : (others l i).length ≤ l.length := List.length_filter_le _ _
theorem others_all {l : List Lk} {i : Int} (h : (others l i).length = l.length) : others l i = l := List.filter_sublist.eq_of_length h
theorem find_mem {l : List Lk} (h : Up l) {z : Lk} (hz : z ∈ l) : findL l z.iface = some z := by
  unfold findL
  cases hf : l.find? (fun s => decide (s.iface = z.iface)) with
  | none => exact absurd (List.find?_eq_none.1 hf z hz) (by simp)
  | some s =>
    have h1 := List.mem_of_find?_eq_some hf
    have h2 := List.find?_some hf
    simp only [decide_eq_true_eq] at h2
    obtain ⟨j, hj, rfl⟩ := List.getElem_of_mem h1
    obtain ⟨k, hk, rfl⟩ := List.getElem_of_mem hz
    by_cases e : j = k
    · subst e; rfl
    · exact absurd h2 (up_ne h hj hk e)
theorem find_none {l : List Lk} {i : Int} (h : ∀ z ∈ l, z.iface ≠ i) : findL l i = none := by
  unfold findL
  rw [List.find?_eq_none]
  intro z hz
  simpa using h z hz
theorem find_cases (l : List Lk) (i : Int) : (findL l i = none ∧ ∀ z ∈ l, z.iface ≠ i) ∨ ∃ z ∈ l, z.iface = i ∧ findL l i = some z := by
  cases hf : findL l i with
  | none => exact .inl ⟨rfl, fun z hz => by have := List.find?_eq_none.1 hf z hz; simpa using this⟩
  | some s => exact .inr ⟨s, List.mem_of_find?_eq_some hf, by have := List.find?_some hf; simpa using this, rfl⟩
theorem put_ok {l : List Lk} {x : Lk} (h : (putL l x).2 = 0) : okL l = true ∧ okK x = true ∧ (others l x.iface).length ≤ 31 ∧ (putL l x).1 = insL l x := by
  unfold putL at h ⊢
  split at h
  · rename_i hc
    rw [if_pos hc]
    simp only [Bool.and_eq_true] at hc
    split at h
    · cases h
    · rename_i h3
      have := okL_len2 hc.1
      have := others_le l x.iface
      rw [if_neg h3]
      exact ⟨hc.1, hc.2, by omega, rfl⟩
  · cases h
theorem put_not {l : List Lk} {x : Lk} (h : ¬ (putL l x).2 = 0) : (putL l x).2 = 2 ∨ ((putL l x).2 = 8 ∧ (putL l x).1 = l) := by
  unfold putL at h ⊢
  split at h
  · rename_i hc
    rw [if_pos hc]
    simp only [Bool.and_eq_true] at hc
    split at h
    · rename_i h3
      have := okL_len2 hc.1
      have := others_le l x.iface
      rw [if_pos h3]
      exact .inr ⟨rfl, others_all (by omega)⟩
    · exact absurd rfl h
  · rename_i hc
    rw [if_neg hc]
    exact .inl rfl
theorem ok_ins {l : List Lk} {x : Lk} (h1 : okL l = true) (h2 : okK x = true) (h3 : (others l x.iface).length ≤ 31) : okL (insL l x) = true := by
  have hl := (okL_iff l).1 h1
  refine (okL_iff _).2 ⟨by rw [len_insL hl.2.2]; omega, fun z hz => ?_, up_insL hl.2.2 x⟩
  rcases (mem_insL l x z).1 hz with rfl | ⟨hz, _⟩
  · exact h2
  · exact hl.2.1 z hz
theorem peer_ins {l : List Lk} {x : Lk} (h1 : okL l = true) (h2 : okK x = true) (h3 : (others l x.iface).length ≤ 31) : peerL (insL l x) x.iface = (x.peer, 0) := by
  unfold peerL
  rw [ok_ins h1 h2 h3, if_pos rfl, find_mem (up_insL (okL_up h1) x) ((mem_insL l x x).2 (.inl rfl))]
theorem peer_other {l : List Lk} {x : Lk} (h1 : okL l = true) (h2 : okK x = true) (h3 : (others l x.iface).length ≤ 31) {i : Int} (hi : i ≠ x.iface) : peerL (insL l x) i = peerL l i := by
  unfold peerL
  rw [ok_ins h1 h2 h3, h1, if_pos rfl, if_pos rfl]
  rcases find_cases l i with ⟨e, hn⟩ | ⟨z, hz, rfl, e⟩
  · rw [e, find_none (fun z hz => ?_)]
    rcases (mem_insL l x z).1 hz with rfl | ⟨hz, _⟩
    · exact fun h => hi h.symm
    · exact hn z hz
  · rw [e, find_mem (up_insL (okL_up h1) x) ((mem_insL l x z).2 (.inr ⟨hz, hi⟩))]
theorem others_ins {l : List Lk} (h : Up l) (x : Lk) : others (insL l x) x.iface = others l x.iface := by
  refine ext_up _ _ (up_others (up_insL h x) _) (up_others h _) (fun z => ?_)
  rw [mem_others, mem_insL, mem_others]
  constructor
  · rintro ⟨rfl | h1, h2⟩
    · exact absurd rfl h2
    · exact h1
  · rintro ⟨h1, h2⟩
    exact ⟨.inr ⟨h1, h2⟩, h2⟩
theorem del_ins {l : List Lk} {x : Lk} (h1 : okL l = true) (h2 : okK x = true) (h3 : (others l x.iface).length ≤ 31) : delL (insL l x) x.iface = (others l x.iface, 0) := by
  unfold delL
  rw [ok_ins h1 h2 h3, if_pos rfl, others_ins (okL_up h1), len_insL (okL_up h1), if_neg (by omega)]
theorem had_none {l : List Lk} {i : Int} (h : (peerL l i).2 = 3) : others l i = l := by
  unfold peerL at h
  split at h
  · rcases find_cases l i with ⟨e, hn⟩ | ⟨z, hz, _, e⟩
    · unfold others
      rw [List.filter_eq_self]
      intro z hz
      simpa using hn z hz
    · rw [e] at h; cases h
  · cases h
theorem ins_swap {l : List Lk} (h : Up l) {x y : Lk} (hne : x.iface ≠ y.iface) : insL (insL l x) y = insL (insL l y) x := by
  refine ext_up _ _ (up_insL (up_insL h x) y) (up_insL (up_insL h y) x) (fun z => ?_)
  simp only [mem_insL]
  constructor
  · rintro (rfl | ⟨rfl | ⟨h1, h2⟩, h3⟩)
    · exact .inr ⟨.inl rfl, fun e => hne e.symm⟩
    · exact .inl rfl
    · exact .inr ⟨.inr ⟨h1, h3⟩, h2⟩
  · rintro (rfl | ⟨rfl | ⟨h1, h2⟩, h3⟩)
    · exact .inr ⟨.inl rfl, hne⟩
    · exact .inl rfl
    · exact .inr ⟨.inr ⟨h1, h3⟩, h2⟩
theorem put_swap {l : List Lk} {x y : Lk} (h1 : (putL l x).2 = 0) (h2 : (putL (putL l x).1 y).2 = 0) (h3 : (putL l y).2 = 0) (hne : x.iface ≠ y.iface) : (putL (putL l y).1 x).2 = 0 ∧ (putL (putL l x).1 y).1 = (putL (putL l y).1 x).1 := by
  obtain ⟨a1, a2, a3, a4⟩ := put_ok h1
  obtain ⟨b1, b2, b3, b4⟩ := put_ok h3
  obtain ⟨c1, c2, c3, c4⟩ := put_ok h2
  rw [a4] at c1 c3 c4
  have hu := okL_up a1
  have hs := ins_swap hu hne
  have hl : (others (insL l y) x.iface).length ≤ 31 := by
    have e1 := len_insL (up_insL hu x) y
    have e2 := len_insL (up_insL hu y) x
    rw [hs] at e1
    omega
  have hok := ok_ins b1 b2 b3
  have hP : putL (insL l y) x = (insL (insL l y) x, 0) := by
    unfold putL
    rw [hok, a2]
    simp only [Bool.and_self, if_true]
    rw [if_neg (by omega)]
    rfl
  rw [b4, hP]
  exact ⟨rfl, by rw [a4, c4, hs]⟩
end Go.Proofs.YtbglbegljkgknaaGreat.Lk
