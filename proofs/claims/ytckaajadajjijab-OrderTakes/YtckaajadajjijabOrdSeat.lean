/- What seated answers. -/
import Derived.Test.YtckaajadajjijabOrdThose
import Derived.Deep.RegionHeld
set_option linter.unusedVariables false
namespace Go.Proofs.Ytckaajadajjijab.Ord
open Go.RowKit Go.Shelf
open Go.Proofs.Ytckaajadajjijab.Msg (Ev okE checkE evV evC FitE echeck_any cells12' gkeep gsetO results_cell_tmp1)
open Go.Proofs.Ytckaajadajjijab.Addr (hiN loN RowAt below2 below_drew below_new bset RowAt.lt RowAt.cell RowAt.frozen RowAt.below RowAt.drew RowAt.new RowAt.alloc gdrew gset gbelow galloc grefl gfinal cells2 cells4 results_cell Bl bl_ne wp_region_bl bl_call bl_same)
attribute [-go_sem] Builtin.append_

theorem own_slice {W : World} {B e sz n : Nat} {v : Value} {cs : List Value} (h : W.ownsRow B e sz v n cs) : ∃ o c, v = .slice o n c := by
  obtain ⟨o, c, e, _⟩ := HasRow.slice (hasRow_own h)
  exact ⟨o, c, e⟩
theorem seats_len (l : List St) (p : Int) : (ahead l p).length ≤ l.length ∧ (behind l p).length ≤ l.length := ⟨List.length_filter_le _ _, List.length_filter_le _ _⟩
theorem one_keep {L Y : World} (s : St) (hb : Below (L.alloc (.cells #[.int .i64 s.router, .int .u64 (s.seq : Int), .int .i64 s.time, .bool s.up] 48)).heap.size (L.alloc (.cells #[.int .i64 s.router, .int .u64 (s.seq : Int), .int .i64 s.time, .bool s.up] 48)) Y) : HasSts Y (.slice (some ⟨L.heap.size, 0, none⟩) 1 1) [s] := (one_has L s).keep hb
theorem one_keep2 {L Y : World} (s : St) (hb : Below (L.alloc (.cells #[.int .i64 s.router, .int .u64 (s.seq : Int), .int .i64 s.time, .bool s.up] 48)).drew.heap.size (L.alloc (.cells #[.int .i64 s.router, .int .u64 (s.seq : Int), .int .i64 s.time, .bool s.up] 48)).drew Y) : HasSts Y (.slice (some ⟨L.heap.size, 0, none⟩) 1 1) [s] := ((one_has L s).keep (below_drew (Below.refl _ _))).keep hb
/-- three rows put together, in a world in which a row of the three has just been made -/
theorem three (L : World) (la lb lc : List St) (oa ob oc : Option Addr) (na nb nc ca cb cc : Nat) (ea : na = la.length) (eb : nb = lb.length) (ec : nc = lc.length)
    (ha : HasSts L (.slice oa na ca) la) (hb : HasSts L (.slice ob nb cb) lb) (hc : HasSts L (.slice oc nc cc) lc) (hla : na ≤ 1000) (hlb : nb ≤ 1000) (hlc : nc ≤ 1000) (W : World)
    (hW : W = L.alloc (.cells #[.slice oa na ca, .slice ob nb cb, .slice oc nc cc] 44) ∨ W = (L.alloc (.cells #[.slice oa na ca, .slice ob nb cb, .slice oc nc cc] 44)).drew) :
    Calls Try.prog 50 #[.slice (some ⟨L.heap.size, 0, none⟩) 3 3] W fun e w' => ∃ v, e = .returned v ∧ (∃ B, L.heap.size ≤ B ∧ w'.ownsRow B 48 4 v (la ++ (lb ++ lc)).length (stCs (la ++ (lb ++ lc)))) ∧ Below L.heap.size L w' := by
  have hbW : Below L.heap.size L W := by
    rcases hW with rfl | rfl
    · exact below_new (Below.refl _ _) _
    · exact below_drew (below_new (Below.refl _ _) _)
  have rw1 : RowAt W L.heap.size [.slice oa na ca, .slice ob nb cb, .slice oc nc cc] 44 := by
    rcases hW with rfl | rfl
    · exact RowAt.new _ _ _
    · exact (RowAt.new _ _ _).drew
  refine (concat_any L.heap.size la lb lc oa ob oc na nb nc ca cb cc W rw1.lt (rw1.cell 0) (rw1.cell 1) (rw1.cell 2) ea eb ec (ha.keep hbW) (hb.keep hbW) (hc.keep hbW) hla hlb hlc).mono ?_
  rintro e w' ⟨v, rfl, ho, hb'⟩
  exact ⟨v, rfl, ⟨W.heap.size, hbW.size, ho⟩, below2 hbW hb'⟩
theorem three3 (L : World) (s : St) (la lc : List St) (oa oc : Option Addr) (na nc ca cc : Nat) (ea : na = la.length) (ec : nc = lc.length)
    (ha : HasSts L (.slice oa na ca) la) (hc : HasSts L (.slice oc nc cc) lc) (hla : na ≤ 1000) (hlc : nc ≤ 1000) (W : World)
    (hW : W = (L.alloc (.cells #[.int .i64 s.router, .int .u64 (s.seq : Int), .int .i64 s.time, .bool s.up] 48)).alloc (.cells #[.slice oa na ca, .slice (some ⟨L.heap.size, 0, none⟩) 1 1, .slice oc nc cc] 44) ∨ W = ((L.alloc (.cells #[.int .i64 s.router, .int .u64 (s.seq : Int), .int .i64 s.time, .bool s.up] 48)).alloc (.cells #[.slice oa na ca, .slice (some ⟨L.heap.size, 0, none⟩) 1 1, .slice oc nc cc] 44)).drew) :
    Calls Try.prog 50 #[.slice (some ⟨L.heap.size + 1, 0, none⟩) 3 3] W fun e w' => ∃ v, e = .returned v ∧ (∃ B, L.heap.size ≤ B ∧ w'.ownsRow B 48 4 v (la ++ ([s] ++ lc)).length (stCs (la ++ ([s] ++ lc)))) ∧ Below L.heap.size L w' := by
  have hb := below_new (Below.refl _ L) (.cells #[.int .i64 s.router, .int .u64 (s.seq : Int), .int .i64 s.time, .bool s.up] 48)
  have h := three (L.alloc (.cells #[.int .i64 s.router, .int .u64 (s.seq : Int), .int .i64 s.time, .bool s.up] 48)) la [s] lc oa _ oc na 1 nc ca 1 cc ea rfl ec (ha.keep hb) (one_has L s) (hc.keep hb) hla (by decide) hlc W hW
  have e1 : (L.alloc (.cells #[.int .i64 s.router, .int .u64 (s.seq : Int), .int .i64 s.time, .bool s.up] 48)).heap.size = L.heap.size + 1 := World.size_alloc _ _
  rw [show (⟨(L.alloc (.cells #[.int .i64 s.router, .int .u64 (s.seq : Int), .int .i64 s.time, .bool s.up] 48)).heap.size, 0, none⟩ : Addr) = ⟨L.heap.size + 1, 0, none⟩ by rw [e1]] at h
  refine h.mono ?_
  rintro e w' ⟨v, rfl, ⟨B, hB, ho⟩, hb'⟩
  exact ⟨v, rfl, ⟨B, Nat.le_trans hb.size hB, ho⟩, below2 hb hb'⟩
set_option maxHeartbeats 8000000 in
set_option maxRecDepth 20000 in
theorem seated_any (l : List St) (v : Value) (s : St) (w : World) (h : HasSts w v l) (hl : l.length ≤ 1000) :
    Calls Try.prog 34 #[v, stV s] w fun e w' => ∃ u, e = .returned u ∧ (∃ B, w.heap.size ≤ B ∧ w'.ownsRow B 48 4 u (seatedL l s).length (stCs (seatedL l s))) ∧ Below w.heap.size w w' := by
  show Calls Try.prog 34 #[v, .agg #[.int .i64 s.router, .int .u64 (s.seq : Int), .int .i64 s.time, .bool s.up]] w _
  obtain ⟨X, hX⟩ : ∃ X, X = w.alloc (.cells #[.int .i64 s.router, .int .u64 (s.seq : Int), .int .i64 s.time, .bool s.up] 48) := ⟨_, rfl⟩
  have hB : Below w.heap.size w X := by rw [hX]; exact below_new (Below.refl _ _) _
  have rx : RowAt X w.heap.size [.int .i64 s.router, .int .u64 (s.seq : Int), .int .i64 s.time, .bool s.up] 48 := by rw [hX]; exact RowAt.new _ _ _
  have hXs := h.keep hB
  have c1 : Hid (∀ W : World, Below X.heap.size X W → Calls Try.prog 51 #[v, .func (.func 48) #[] #[.pointer (some ⟨w.heap.size, 0, none⟩)]] W fun e w' => ∃ u, e = .returned u ∧ w'.ownsRow W.heap.size 48 4 u (ahead l s.router).length (stCs (ahead l s.router)) ∧ Below W.heap.size W w') := fun W hb => ahead_any l v w.heap.size _ _ _ _ W (hXs.keep hb) (rx.below hb) hl
  have c2 : Hid (∀ W : World, Below X.heap.size X W → Calls Try.prog 51 #[v, .func (.func 49) #[] #[.pointer (some ⟨w.heap.size, 0, none⟩)]] W fun e w' => ∃ u, e = .returned u ∧ w'.ownsRow W.heap.size 48 4 u (behind l s.router).length (stCs (behind l s.router)) ∧ Below W.heap.size W w') := fun W hb => behind_any l v w.heap.size _ _ _ _ W (hXs.keep hb) (rx.below hb) hl
  have HSK : Hid (∀ W : World, Below X.heap.size X W → (W.cell? ⟨w.heap.size, 0, none⟩ = some (.int .i64 s.router) ∧ W.cell? ⟨w.heap.size, 1, none⟩ = some (.int .u64 (s.seq : Int)) ∧ W.cell? ⟨w.heap.size, 2, none⟩ = some (.int .i64 s.time) ∧ W.cell? ⟨w.heap.size, 3, none⟩ = some (.bool s.up))) := fun W hb => by
    have r := RowAt.below rx hb
    exact ⟨r.cell 0, r.cell 1, r.cell 2, r.cell 3⟩
  have HL : Hid (seatedL l s = ahead l s.router ++ ([s] ++ behind l s.router)) := rfl
  generalize seatedL l s = RL at HL ⊢
  obtain ⟨hla, hlb⟩ := seats_len l s.router
  have hla1 : (ahead l s.router).length ≤ 1000 := by omega
  have hlb1 : (behind l s.router).length ≤ 1000 := by omega
  generalize ahead l s.router = LA at *
  generalize behind l s.router = LB at *
  obtain ⟨x0, x1, x2, x3, xf⟩ := cells4 rx
  have hbA : Below X.heap.size X X := Below.refl _ _
  have hone : 1 = [s].length := rfl
  have H1000 : Hid (1 ≤ 1000) := by show 1 ≤ 1000; decide
  have HONE : Hid (1 = [s].length) := hone
  clear hone
  clear h hXs rx hla hlb hl
  go_enter Try.func34, Try.ntmps34
  go_upto_region 1 with fail
  rw [← hX]
  clear hX
  go_upto_region 3 with fail
  go_region_held (fun w' => w'.cell? ⟨w.heap.size, 0, none⟩ = some (.int .i64 s.router) ∧ w'.cell? ⟨w.heap.size, 1, none⟩ = some (.int .u64 (s.seq : Int)) ∧ w'.cell? ⟨w.heap.size, 2, none⟩ = some (.int .i64 s.time) ∧ w'.cell? ⟨w.heap.size, 3, none⟩ = some (.bool s.up))
    (first
      | (refine HSK.out _ ?_
         repeat' (first | with_reducible exact hbA | with_reducible apply below_drew | with_reducible apply below_new))
      | go_keep)
    (first
      | (go_at_call 51
         with_reducible refine (c1.out _ (by repeat' (first | with_reducible exact hbA | with_reducible apply below_drew | with_reducible apply below_new))).mono ?_
         rintro e w3 ⟨u1, rfl, ho1, hb3⟩
         obtain ⟨oa, ca, rfl⟩ := own_slice ho1
         (first | (with_reducible have hlit := one_keep s hb3) | (with_reducible have hlit := one_keep2 s hb3) | skip)
         have hbN : Below X.heap.size X w3 := below2 (by repeat' (first | with_reducible exact hbA | with_reducible apply below_drew | with_reducible apply below_new)) hb3
         have hra : HasSts w3 (.slice oa LA.length ca) LA := hasRow_own ho1
         clear hbA ho1 hb3
         have hbA := hbN
         clear hbN)
      | (go_at_call 51
         with_reducible refine (c2.out _ (by repeat' (first | with_reducible exact hbA | with_reducible apply below_drew | with_reducible apply below_new))).mono ?_
         rintro e w4 ⟨u2, rfl, ho2, hb4⟩
         obtain ⟨ob, cb, rfl⟩ := own_slice ho2
         (first | (with_reducible have hlit := one_keep s hb4) | (with_reducible have hlit := one_keep2 s hb4) | skip)
         have hbN : Below X.heap.size X w4 := below2 (by repeat' (first | with_reducible exact hbA | with_reducible apply below_drew | with_reducible apply below_new)) hb4
         have h34 : Below w3.heap.size w3 w4 := below2 (by repeat' (first | with_reducible exact Below.refl _ _ | with_reducible apply below_drew | with_reducible apply below_new)) hb4
         have hrb : HasSts w4 (.slice ob LB.length cb) LB := hasRow_own ho2
         replace hra := HasSts.keep hra h34
         (first | (with_reducible replace hlit := HasSts.keep hlit h34) | skip)
         clear hbA ho2 hb4
         have hbA := hbN
         clear hbN)
      | (go_at_call 50
         (first
           | (with_reducible refine (three w4 LA [s] LB oa _ ob LA.length 1 LB.length ca 1 cb rfl HONE.out rfl hra hlit hrb hla1 H1000.out hlb1 _ (.inl rfl)).mono ?_)
           | (with_reducible refine (three w4 LA [s] LB oa _ ob LA.length 1 LB.length ca 1 cb rfl HONE.out rfl hra hlit hrb hla1 H1000.out hlb1 _ (.inr rfl)).mono ?_)
           | (with_reducible refine (three3 w4 s LA LB oa ob LA.length LB.length ca cb rfl rfl hra hrb hla1 hlb1 _ (.inl rfl)).mono ?_)
           | (with_reducible refine (three3 w4 s LA LB oa ob LA.length LB.length ca cb rfl rfl hra hrb hla1 hlb1 _ (.inr rfl)).mono ?_))
         rintro e w5 ⟨u3, rfl, ⟨B5, hB5, ho5⟩, hb5⟩
         have hB6 : X.heap.size ≤ B5 := Nat.le_trans (Below.size (by repeat' (first | with_reducible exact hbA | with_reducible apply below_drew | with_reducible apply below_new))) hB5
         have hbN : Below X.heap.size X w5 := below2 (by repeat' (first | with_reducible exact hbA | with_reducible apply below_drew | with_reducible apply below_new)) hb5
         clear hbA hB5
         have hbA := hbN
         clear hbN))
  all_goals go_wp2_with fail
  all_goals go_ret
  all_goals exact ⟨_, rfl, ⟨B5, Nat.le_trans hB.size hB6, by rw [HL.out]; exact ho5⟩, below2 hB hbA⟩
end Go.Proofs.Ytckaajadajjijab.Ord
