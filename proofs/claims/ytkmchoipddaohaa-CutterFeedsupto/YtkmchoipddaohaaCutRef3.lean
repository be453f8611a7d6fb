/- What the document's Feed returns. -/
import Derived.Test.YtkmchoipddaohaaCutRef2
import Derived.Test.YtkmchoipddaohaaCutSame
import Derived.Deep.RegionHeld3
import Derived.Deep.DeepCutAuto
set_option linter.unusedVariables false
namespace Go.Proofs.Ytkmchoipddaohaa.Cut
open Go.RowKit
attribute [-go_sem] Builtin.append_

/-- the boxes of the document's Feed -/
structure RF (w W : World) (c : Ct) (v : Value) (ps : List PcT) : Prop where
  cc : RowAt W w.heap.size [strV c.rest, .bool c.bad, .int .i64 c.skip] 23
  rr : RowAt W (w.heap.size + 1) [.string ⟨#[]⟩, .bool false, .int .i64 0] 23
  ow : W.ownsRow (w.heap.size + 2) 38 2 v ps.length (pcCs ps)
  bl : Below w.heap.size w W
  sz : w.heap.size + 2 ≤ W.heap.size
theorem RF.below {w W W' : World} {c : Ct} {v : Value} {ps : List PcT} (h : RF w W c v ps) (hb : Below W.heap.size W W') : RF w W' c v ps :=
  ⟨h.cc.below hb, h.rr.below hb, own_below h.ow hb, below2 h.bl hb, Nat.le_trans h.sz hb.size⟩
theorem RF.store {w W : World} {c : Ct} {v : Value} {ps : List PcT} (h : RF w W c v ps) (e : Ct) :
    RF w (((W.setCell ⟨w.heap.size, 0, none⟩ (strV e.rest)).setCell ⟨w.heap.size, 1, none⟩ (.bool e.bad)).setCell ⟨w.heap.size, 2, none⟩ (.int .i64 e.skip)) e v ps := by
  have hne : some (w.heap.size + 1) ≠ some w.heap.size := by intro e; injection e with e; omega
  refine ⟨((h.cc.set1 0 _).set1 1 _).set1 2 _, rowAt_kept (rowAt_kept (rowAt_kept h.rr (grown_set _ _ _ _) hne) (grown_set _ _ _ _) hne) (grown_set _ _ _ _) hne, own_set (own_set (own_set h.ow (by omega)) (by omega)) (by omega), bset (bset (bset h.bl (by omega)) (by omega)) (by omega), by rw [size_set, size_set, size_set]; exact h.sz⟩
theorem RF.app {w W : World} {c : Ct} {v u : Value} {ps qs : List PcT} (h : RF w W c v ps) (hu : HasPcs W u qs) (hb : (ps.length + qs.length) * 24 ≤ 140737488355328) :
    ∃ o cap w3, (∀ ty, (Builtin.append_ #[24, 24] ty #[v, u]).run Try.prog W = .ok (.slice o (ps ++ qs).length cap) w3) ∧ RF w w3 c (.slice o (ps ++ qs).length cap) (ps ++ qs) := by
  obtain ⟨v', w3, hrun, ho, hg⟩ := append_pcs h.ow hu hb h.sz
  rw [← List.length_append, ← pcCs_app] at ho
  obtain ⟨o, cap, rfl, _, _⟩ := HasRow.slice (hasRow_own ho)
  refine ⟨o, cap, w3, hrun, rowAt_kept h.cc hg (own_ne h.ow (by omega)), rowAt_kept h.rr hg (own_ne h.ow (by omega)), ho, ?_, Nat.le_trans h.sz hg.size⟩
  exact h.bl.grown hg h.bl.size (fun k e => by have := own_at h.ow k e; omega)
theorem RF.cells {w W : World} {c : Ct} {v : Value} {ps : List PcT} (h : RF w W c v ps) : (W.cell? ⟨w.heap.size, 0, none⟩ = some (.string ⟨c.rest.toArray⟩) ∧ W.cell? ⟨w.heap.size, 1, none⟩ = some (.bool c.bad) ∧ W.cell? ⟨w.heap.size, 2, none⟩ = some (.int .i64 c.skip) ∧ ∀ k, W.frozen? ⟨w.heap.size, k, none⟩ = false) ∧ (W.cell? ⟨w.heap.size + 1, 0, none⟩ = some (.string ⟨#[]⟩) ∧ W.cell? ⟨w.heap.size + 1, 1, none⟩ = some (.bool false) ∧ W.cell? ⟨w.heap.size + 1, 2, none⟩ = some (.int .i64 0) ∧ ∀ k, W.frozen? ⟨w.heap.size + 1, k, none⟩ = false) ∧ w.heap.size + 1 < W.heap.size := ⟨cells3 h.cc, cells3 h.rr, h.rr.lt⟩
/-- behind a byte has come: its box, its pieces -/
structure RG (w W : World) (g : Nat) (d : Ct) (o : Option Addr) (cp : Nat) (qs : List PcT) : Prop where
  dd : RowAt W g [strV d.rest, .bool d.bad, .int .i64 d.skip] 23
  pc : HasPcs W (.slice o qs.length cp) qs
  bl : Below w.heap.size w W
  lt : w.heap.size ≤ g
  ne : ∀ a n c, (Value.slice o qs.length cp) = .slice (some a) n c → w.heap.size ≤ a.block
theorem rg_new {wr W w3 : World} {d : Ct} {o : Option Addr} {cp : Nat} {qs : List PcT} (hbA : Below wr.heap.size wr w3) (hp : HasPcs w3 (.slice o qs.length cp) qs) (hn : NewIn W (.slice o qs.length cp)) (hW : wr.heap.size ≤ W.heap.size) :
    RG wr (w3.alloc (.cells #[.string ⟨d.rest.toArray⟩, .bool d.bad, .int .i64 d.skip] 23)) w3.heap.size d o cp qs :=
  ⟨RowAt.new w3 [_, _, _] _, hp.keep (below_new (Below.refl _ _) _), below_new hbA _, hbA.size, fun a n c e => Nat.le_trans hW (hn a n c e)⟩
theorem rg_at {wr W w3 : World} {d : Ct} {o : Option Addr} {cp g : Nat} {qs : List PcT} {x y z : Value} (hbA : Below wr.heap.size wr w3) (hE : RowAt w3 g [x, y, z] 23) (hg : wr.heap.size ≤ g) (hp : HasPcs w3 (.slice o qs.length cp) qs) (hn : NewIn W (.slice o qs.length cp)) (hW : g < W.heap.size) :
    RG wr (((w3.setCell ⟨g, 0, none⟩ (.string ⟨d.rest.toArray⟩)).setCell ⟨g, 1, none⟩ (.bool d.bad)).setCell ⟨g, 2, none⟩ (.int .i64 d.skip)) g d o cp qs := by
  have hne : ∀ a n c, (Value.slice o qs.length cp) = .slice (some a) n c → a.block ≠ g := fun a n c e => by have := hn a n c e; omega
  exact ⟨((hE.set1 0 _).set1 1 _).set1 2 _, ((hp.grown (grown_set _ _ _ _) hne).grown (grown_set _ _ _ _) hne).grown (grown_set _ _ _ _) hne, bset (bset (bset hbA hg) hg) hg, hg, fun a n c e => by have := hn a n c e; omega⟩
theorem rk1 {W W' : World} {cs : List Value} {t : TypeId} (h : Below (W.alloc (.cells cs.toArray t)).heap.size (W.alloc (.cells cs.toArray t)) W') : RowAt W' W.heap.size cs t := (RowAt.new W cs t).below h
theorem rk2 {W W' : World} {cs : List Value} {t : TypeId} (h : Below (W.alloc (.cells cs.toArray t)).drew.heap.size (W.alloc (.cells cs.toArray t)).drew W') : RowAt W' W.heap.size cs t := (RowAt.new W cs t).drew.below h
theorem rk3 {W W' : World} {cs : List Value} {t : TypeId} (h : Below (W.drew.alloc (.cells cs.toArray t)).heap.size (W.drew.alloc (.cells cs.toArray t)) W') : RowAt W' W.heap.size cs t := (RowAt.new W.drew cs t).below h
set_option maxHeartbeats 4000000 in
theorem rfeed_any (c : Ct) (l : List UInt8) (w : World) (hf : FitC c) (hl : l.length ≤ 1099511627776) :
    Calls Try.prog 8 #[ctV c, .string ⟨l.toArray⟩] w fun e w' => ∃ V, e = .returned (.tuple #[ctV (fedC c l).1, V, .int .i64 (checkC c)]) ∧ HasPcs w' V (fedC c l).2 ∧ Below w.heap.size w w' := by
  have cc := fun W => rcheck_any c W hf
  have hcv : ctV c = .agg #[.string ⟨c.rest.toArray⟩, .bool c.bad, .int .i64 c.skip] := rfl
  rw [hcv] at cc ⊢
  clear hcv
  obtain ⟨X, hX⟩ : ∃ X, X = (w.alloc (.cells #[.string ⟨c.rest.toArray⟩, .bool c.bad, .int .i64 c.skip] 23)).alloc (.cells #[.string ⟨#[]⟩, .bool false, .int .i64 0] 23) := ⟨_, rfl⟩
  have hRF : RF w X c (.slice none 0 0) [] := by
    refine ⟨?_, ?_, World.ownsRow_nil _ _ _ _, ?_, ?_⟩
    · rw [hX]; exact (RowAt.new _ _ _).alloc _
    · rw [hX, ← World.size_alloc w (.cells #[.string ⟨c.rest.toArray⟩, .bool c.bad, .int .i64 c.skip] 23)]; exact RowAt.new _ _ _
    · rw [hX]; exact below_new (below_new (Below.refl _ _) _) _
    · rw [hX]; simp
  obtain ⟨⟨x0, x1, x2, xf⟩, _, _⟩ := hRF.cells
  cases hok : okC c
  · obtain ⟨e1, e2⟩ := fed_bad hok l
    rw [e1, e2]
    rw [e2] at cc
    clear hok hf e1 e2
    unfold ctV strV
    simp only
    go_enter Try.func8, Try.ntmps8
    go_upto_region 1 with fail
    rw [← hX]
    clear hX
    go_wp2_with fail
    go_at_call 13; refine (cc _).mono ?_; rintro e w1 ⟨rfl, hb1⟩
    have hR1 := hRF.below hb1
    obtain ⟨_, ⟨y0, y1, y2, yf⟩, hlt1⟩ := hR1.cells
    have hbl := hR1.bl
    clear hRF hR1 x0 x1 x2 xf
    go_wp2_with fail
    refine bodyPost_ret (v := .tuple #[.agg #[.string ⟨#[]⟩, .bool false, .int .i64 0], .slice none 0 0, .int .i64 2]) ?_ rfl ⟨.slice none 0 0, rfl, has_nil _, ?_⟩
    · rw [results_cell_tmp2 rfl]
      go_simp
    · repeat' (first | with_reducible exact hbl | with_reducible refine bset ?_ (by omega))
  · obtain ⟨e1, e2⟩ := fed_ok hok l
    rw [e1, e2]
    rw [e2] at cc
    clear e1 e2
    obtain ⟨F, hF⟩ : ∃ F, F = feedC c l := ⟨_, rfl⟩
    rw [← hF]
    obtain ⟨⟨r, b, s⟩, ps⟩ := F
    have HF : Hid (feedC c l = (⟨r, b, s⟩, ps)) := hF.symm
    clear hF
    have HR : Hid (∀ k : Nat, okC (feedC c (l.take k)).1 = true) := fun k => feed_ok _ hok
    have HL : Hid (∀ k : Nat, (feedC c (l.take k)).2.length ≤ 1099511627776) := fun k => Nat.le_trans (feed_len (l.take k) c) (by rw [List.length_take]; omega)
    have HB : Hid (∀ k : Nat, k < l.length → ∀ h : k < (⟨l.toArray⟩ : ByteArray).size, (⟨l.toArray⟩ : ByteArray)[k] = l.getD k 0) := fun k hk h => byte_at l k h
    have HE : Hid (l.take l.length = l) := List.take_length
    have hli : (l.length : Int) ≤ 1099511627776 := by omega
    have HFS : Hid (∀ k : Nat, k < l.length → feedC c (l.take (k + 1)) = ((stepC (feedC c (l.take k)).1 (l.getD k 0)).1, (feedC c (l.take k)).2 ++ (stepC (feedC c (l.take k)).1 (l.getD k 0)).2)) := fun k hk => by rw [take_snoc l k hk, feed_snoc]
    have H0 : Hid (feedC c (l.take 0) = (c, [])) := by show _ = _; rfl
    clear hf hok hl
    go_enter Try.func8, Try.ntmps8
    go_upto_region 1 with fail
    rw [← hX]
    clear hX
    go_wp2_with fail
    go_at_call 13; refine (cc _).mono ?_; rintro e w1 ⟨rfl, hb1⟩
    have hR1 := hRF.below hb1
    clear hRF x0 x1 x2 xf hb1 cc
    have HR1 : Hid (RF w w1 c (.slice none 0 0) []) := hR1
    clear hR1
    go_wp2_with fail
    go_loopw [7, 8] (fun o7 i wr => ∃ (k : Nat) (o : Option Addr) (cp : Nat), k ≤ l.length ∧ i = .int .i64 k ∧ o7 = .slice o (feedC c (l.take k)).2.length cp ∧ Hid (RF w wr (feedC c (l.take k)).1 (.slice o (feedC c (l.take k)).2.length cp) (feedC c (l.take k)).2)) (fun _ i _ => l.length - (intOf i).toNat)
    case atStart => exact ⟨0, none, 0, Nat.zero_le _, rfl, by rw [H0.out]; rfl, by rw [H0.out]; exact HR1.out⟩
    case round =>
      obtain ⟨k, o, cp, hk, rfl, rfl, HI⟩ := hrel
      have hI := HI.out
      obtain ⟨⟨x0, x1, x2, xf⟩, ⟨y0, y1, y2, yf⟩, hlw⟩ := hI.cells
      by_cases hlt : k < l.length
      · have hb := HB.out k hlt (by rw [size_list]; exact hlt)
        have hlti : (k : Int) < (l.length : Int) := by omega
        have HS2 : Hid (feedC c (l.take (k + 1)) = _) := HFS.out k hlt
        have hll := HL.out k
        have hst := step_len (feedC c (l.take k)).1 (l.getD k 0)
        have cm := fun W => rcomes_any (feedC c (l.take k)).1 (l.getD k 0) W (HR.out k)
        clear HFS HI HL HR HB HE H0 HF HR1
        generalize l.getD k 0 = x at *
        generalize feedC c (l.take k) = F1 at *
        obtain ⟨⟨rd, bd, sd⟩, p1⟩ := F1
        simp only at *
        generalize stepC ⟨rd, bd, sd⟩ x = G at *
        obtain ⟨⟨r2, b2, s2⟩, qs⟩ := G
        simp only at *
        unfold ctV strV at cm
        simp only at cm
        go_wp2_with fail
        go_cut [9, 10] (fun d9 l10 wc => ∃ (g2 : Nat) (o2 : Option Addr) (cp2 : Nat), d9 = .pointer (some ⟨g2, 0, none⟩) ∧ l10 = .slice o2 qs.length cp2 ∧ Hid (RG wr wc g2 ⟨r2, b2, s2⟩ o2 cp2 qs))
        case first =>
          have hbA : Below wr.heap.size wr wr := Below.refl _ _
          have HSK : Hid (∀ W : World, Below wr.heap.size wr W → W.cell? ⟨w.heap.size, 0, none⟩ = some (.string ⟨rd.toArray⟩) ∧ W.cell? ⟨w.heap.size, 1, none⟩ = some (.bool bd) ∧ W.cell? ⟨w.heap.size, 2, none⟩ = some (.int .i64 sd)) := fun W hb => by
            obtain ⟨a, b, c, _⟩ := (hI.below hb).cells.1
            exact ⟨a, b, c⟩
          clear hI y0 y1 y2 yf
          go_region_held3 (fun w' => w'.cell? ⟨w.heap.size, 0, none⟩ = some (.string ⟨rd.toArray⟩) ∧ w'.cell? ⟨w.heap.size, 1, none⟩ = some (.bool bd) ∧ w'.cell? ⟨w.heap.size, 2, none⟩ = some (.int .i64 sd))
            (first
              | (refine HSK.out _ ?_
                 repeat' (first | with_reducible exact hbA | with_reducible apply below_drew | with_reducible apply below_new | with_reducible refine bset ?_ (by have := hbA.size; first | omega | (simp; omega))))
              | go_keep)
            (first
              | (go_at_call 17
                 refine (cm _).mono ?_
                 rintro e w3 ⟨V3, rfl, ⟨hp3, hn3⟩, hb3⟩
                 obtain ⟨o3, cp3, rfl, hq3, hq4⟩ := HasRow.slice hp3
                 have hbN : Below wr.heap.size wr w3 := below2 (by repeat' (first | with_reducible exact hbA | with_reducible apply below_drew | with_reducible apply below_new)) hb3
                 clear hbA
                 have hbA := hbN
                 clear hbN
                 (first | (have hE : RowAt w3 wr.heap.size [.string ⟨#[]⟩, .bool false, .int .i64 0] 23 := (by with_reducible first | exact rk1 hb3 | exact rk2 hb3 | exact rk3 hb3); obtain ⟨f0, f1, f2, ff⟩ := cells3 hE; have hfl := hE.lt) | skip)))
          all_goals go_wp2_with fail
          all_goals go_meet
          all_goals first
            | (refine ⟨_, _, _, rfl, rfl, ?_⟩; show RG _ _ _ _ _ _ _; with_reducible exact rg_new (d := ⟨r2, b2, s2⟩) hbA hp3 hn3 (by simp))
            | (refine ⟨_, _, _, rfl, rfl, ?_⟩; show RG _ _ _ _ _ _ _; with_reducible exact rg_at (d := ⟨r2, b2, s2⟩) hbA hE (Nat.le_refl _) hp3 hn3 (by simp))
        case rest =>
          obtain ⟨g2, o2, cp2, rfl, rfl, HG⟩ := hcut
          have hG := HG.out
          have hI2 := hI.below hG.bl
          have hg2 := hG.lt
          have hsz := hI.sz
          clear hI x0 x1 x2 xf y0 y1 y2 yf HG
          obtain ⟨⟨x0, x1, x2, xf⟩, ⟨y0, y1, y2, yf⟩, hlw2⟩ := hI2.cells
          obtain ⟨z0, z1, z2, zf⟩ := cells3 hG.dd
          unfold strV at z0
          have hI3 := hI2.store ⟨r2, b2, s2⟩
          have hnb : ∀ a n c, (Value.slice o2 qs.length cp2) = .slice (some a) n c → a.block ≠ w.heap.size := fun a n c e => by have := hG.ne a n c e; omega
          have hp3 : HasPcs (((wc.setCell ⟨w.heap.size, 0, none⟩ (strV r2)).setCell ⟨w.heap.size, 1, none⟩ (.bool b2)).setCell ⟨w.heap.size, 2, none⟩ (.int .i64 s2)) (.slice o2 qs.length cp2) qs := ((hG.pc.grown (grown_set _ _ _ _) hnb).grown (grown_set _ _ _ _) hnb).grown (grown_set _ _ _ _) hnb
          obtain ⟨o5, cp5, w5, hrun, hI5⟩ := hI3.app hp3 (by omega)
          unfold strV at hrun
          clear hI2 hI3 hp3 hG
          go_wp2_with fail
          go_roundw
          case rel => exact ⟨k + 1, o5, cp5, by omega, by go_num, by rw [HS2.out]; simp, by rw [HS2.out]; exact hI5⟩
          case measure => simp [intOf]; omega
      · obtain rfl : k = l.length := by omega
        rw [HE.out, HF.out] at hI x0 x1 x2
        rw [HE.out, HF.out]
        simp only at hI x0 x1 x2
        have hbl := hI.bl
        clear HI HR HL HB HFS H0 HF HE HR1
        go_wp2_with fail
        have HO2 := ((own_set (b := w.heap.size + 1) (o := 2) (x := .int .i64 s) (own_set (b := w.heap.size + 1) (o := 1) (x := .bool b) (own_set (b := w.heap.size + 1) (o := 0) (x := .string ⟨r.toArray⟩) hI.ow (by omega)) (by omega)) (by omega)))
        refine bodyPost_ret (v := .tuple #[.agg #[.string ⟨r.toArray⟩, .bool b, .int .i64 s], .slice o ps.length cp, .int .i64 0]) ?_ rfl ⟨_, rfl, hasRow_own HO2, ?_⟩
        · rw [results_cell_tmp2 rfl]
          go_simp
        · repeat' (first | with_reducible exact hbl | with_reducible refine bset ?_ (by omega))
end Go.Proofs.Ytkmchoipddaohaa.Cut
