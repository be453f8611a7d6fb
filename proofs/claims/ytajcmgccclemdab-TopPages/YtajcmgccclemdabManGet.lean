/- What manifest.Put and Get return. -/
import Derived.Test.YtajcmgccclemdabManTold
set_option linter.unusedVariables false
namespace Go.Proofs.Ytajcmgccclemdab.Man
open Go.RowKit
open Go.Proofs.Ytajcmgccclemdab.Page

def putM (m : ManT) : List UInt8 × Int := if okM m = true then (sectL m, 0) else ([], 2)
theorem checkM_ok {m : ManT} (h : okM m = true) : checkM m = 0 := by rw [checkM, if_pos h]
theorem checkM_bad {m : ManT} (h : okM m = false) : checkM m = 2 := by rw [checkM, h]; rfl
/-- what Get answers -/
def getM (s : List UInt8) : ManT × Int :=
  if s.length = 128 then
    (if s.take 8 = s.drop 120 ∧ s.take 8 ≠ List.replicate 8 0 then
      (if (Crc.openL (s.take 120)).2 = 0 then
        (if okM (toldM s) = true ∧ sectL (toldM s) = s then (toldM s, 0) else ((0, []), 7))
       else ((0, []), (Crc.openL (s.take 120)).2))
     else ((0, []), 3))
  else ((0, []), 11)
def ManIs (r : ManT × Int) (w : World) (e : Ending) (w' : World) : Prop := ∃ v, e = .returned (.tuple #[.agg #[.int .u64 (r.1.1 : Int), v], .int .i64 r.2]) ∧ HasParts w' v r.1.2 ∧ Below w.heap.size w w'
theorem manIs_zero {r : ManT × Int} {w w' : World} {y : Int} (h : r = ((0, []), y)) (hb : Below w.heap.size w w') : ManIs r w (.returned (.tuple #[.agg #[.int .u64 0, .slice none 0 0], .int .i64 y])) w' := by
  subst h
  exact ⟨_, rfl, Disk.hasRow_nil _ _, hb⟩
def ManOwn (r : ManT × Int) (w : World) (e : Ending) (w' : World) : Prop := ∃ v, e = .returned (.tuple #[.agg #[.int .u64 (r.1.1 : Int), v], .int .i64 r.2]) ∧ (HasParts w' v r.1.2 ∧ NewIn w v) ∧ Below w.heap.size w w'
theorem manOwn_zero {r : ManT × Int} {w w' : World} {y : Int} (h : r = ((0, []), y)) (hb : Below w.heap.size w w') : ManOwn r w (.returned (.tuple #[.agg #[.int .u64 0, .slice none 0 0], .int .i64 y])) w' := by
  subst h
  exact ⟨_, rfl, ⟨Disk.hasRow_nil _ _, fun a n c e => by injection e with e1; simp at e1⟩, hb⟩
theorem set2_below {w W : World} {b : Nat} (h : Below w.heap.size w W) (hb : w.heap.size ≤ b) (x y : Value) : Below w.heap.size w ((W.setCell ⟨b, 0, none⟩ x).setCell ⟨b, 1, none⟩ y) :=
  (h.setCell (p := ⟨b, 0, none⟩) hb x).setCell (p := ⟨b, 1, none⟩) hb y
theorem HasParts.far {W W' : World} {v : Value} {ps : List PartT} {B e n c : Nat} {o : Option Addr} (h : HasParts W v ps) (rb : MBox W B e (.slice o n c)) (hg : W.grownBy W' (some B)) : HasParts W' v ps := by
  refine ⟨h.1, ?_⟩
  rcases h.2 with hn | ⟨a, cap, rfl, h1, h2, hs, hc⟩
  · exact .inl hn
  · refine .inr ⟨a, cap, rfl, h1, h2, fun h0 => ⟨(hs h0).1, Nat.lt_of_lt_of_le (hs h0).2 hg.size⟩, fun j hj => ?_⟩
    have h0 : 0 < ps.length := by omega
    obtain ⟨b, i, sp⟩ := a
    obtain ⟨h3, h4⟩ := hs h0
    simp only at h3 h4
    subst h3
    have hne : b ≠ B := by
      intro eb
      subst eb
      have c0 := hc 0 (by omega)
      rw [addr_add, RowAt.cell rb, (partCs_at ps 0 h0).1] at c0
      match i, c0 with
      | 0, c0 => simp at c0
      | 1, c0 => simp at c0
      | i + 2, c0 => simp at c0
    have hcc := hc j hj
    rw [addr_add] at hcc ⊢
    rw [← hcc]
    have hbk := hg.block b h4 (fun e => hne (by injection e))
    simp [World.cell?, hbk]
set_option maxRecDepth 20000 in
set_option maxHeartbeats 4000000 in
theorem get_own (s : List UInt8) (w : World) (hl : s.length ≤ 9223372036854775807) :
    Calls Try.prog 54 #[.string ⟨s.toArray⟩] w (ManOwn (getM s) w) := by
  have hz : (⟨s.toArray⟩ : ByteArray).size = s.length := size_list s
  obtain ⟨X, hX⟩ : ∃ X, X = w.alloc (.cells #[.int .u64 0, .slice none 0 0] 57) := ⟨_, rfl⟩
  have hB0 : Below w.heap.size w X := by rw [hX]; exact (Below.refl _ w).alloc (Nat.le_refl _) _
  have rb : MBox X w.heap.size 0 (.slice none 0 0) := by rw [hX]; exact RowAt.new w [_, _] _
  by_cases h128 : s.length = 128
  · have x1 : (⟨s.toArray⟩ : ByteArray).extract 0 8 = ⟨(s.take 8).toArray⟩ := by have := extract_take ⟨s.toArray⟩ 8; simpa using this
    have x2 : (⟨s.toArray⟩ : ByteArray).extract 120 128 = ⟨(s.drop 120).toArray⟩ := by have := extract_drop ⟨s.toArray⟩ 120; rw [hz, h128] at this; simpa using this
    have x3 : (⟨s.toArray⟩ : ByteArray).extract 0 120 = ⟨(s.take 120).toArray⟩ := by have := extract_take ⟨s.toArray⟩ 120; simpa using this
    have hz2 : (⟨s.toArray⟩ : ByteArray).size = 128 := by omega
    by_cases he : s.take 8 = s.drop 120
    · by_cases h0 : s.take 8 = List.replicate 8 0
      · have HR : Hid (getM s = ((0, []), 3)) := by show _ = _; rw [getM, if_pos h128, if_neg (fun hc => hc.2 h0)]
        have hee : ((⟨s.toArray⟩ : ByteArray).extract 0 8).toList = ((⟨s.toArray⟩ : ByteArray).extract 120 128).toList := by rw [x1, x2, he]
        have hcv : ∀ W : World, (convert 68 9 (.slice (some ⟨W.heap.size, 0, none⟩) 8 8)).run Try.prog (W.alloc (.cells #[.int .u8 0, .int .u8 0, .int .u8 0, .int .u8 0, .int .u8 0, .int .u8 0, .int .u8 0, .int .u8 0] 5)) = .ok (.string ((⟨s.toArray⟩ : ByteArray).extract 0 8)) (W.alloc (.cells #[.int .u8 0, .int .u8 0, .int .u8 0, .int .u8 0, .int .u8 0, .int .u8 0, .int .u8 0, .int .u8 0] 5)) := by
          intro W
          rw [x1, h0]
          exact conv8 _ W.heap.size (List.replicate 8 0) (by simp) (RowAt.new W (cellsL (List.replicate 8 0)) _)
        generalize getM s = R at HR ⊢
        clear x1 x2 x3 hz he h0
        generalize (⟨s.toArray⟩ : ByteArray) = S at *
        obtain ⟨r0, r1⟩ := rb.cells
        have f0 := RowAt.frozen rb 0
        have f1 := RowAt.frozen rb 1
        go_enter Try.func54, Try.ntmps54
        go_wp2_with fail
        rw [← hX]
        clear hX
        go_quiet (fail)
        obtain ⟨Y, hY⟩ : ∃ Y, Y = X.drewN nq := ⟨_, rfl⟩
        have hBY : Below w.heap.size w Y := by rw [hY]; exact below_drewN hB0 _
        have rY : MBox Y w.heap.size 0 (.slice none 0 0) := by rw [hY]; exact rb
        rw [← hY]
        clear hY rb r0 r1 f0 f1 hB0
        have hcv := hcv Y
        have hmk := make8 Y
        have hBZ : Below w.heap.size w (Y.alloc (.cells #[.int .u8 0, .int .u8 0, .int .u8 0, .int .u8 0, .int .u8 0, .int .u8 0, .int .u8 0, .int .u8 0] 5)) := hBY.alloc hBY.size _
        have rZ : MBox (Y.alloc (.cells #[.int .u8 0, .int .u8 0, .int .u8 0, .int .u8 0, .int .u8 0, .int .u8 0, .int .u8 0, .int .u8 0] 5)) w.heap.size 0 (.slice none 0 0) := RowAt.alloc rY _
        obtain ⟨r0, r1⟩ := rZ.cells
        have f0 := RowAt.frozen rZ 0
        have f1 := RowAt.frozen rZ 1
        clear rY rZ hBY
        go_wp2
        (try simp only [Exit.inBlock, Exit.then])
        refine bodyPost_ret ?_ rfl (manOwn_zero HR.out (set2_below hBZ (Nat.le_refl _) _ _))
        rw [results_cell_tmp rfl]
        go_simp
      · have hee : ((⟨s.toArray⟩ : ByteArray).extract 0 8).toList = ((⟨s.toArray⟩ : ByteArray).extract 120 128).toList := by rw [x1, x2, he]
        have HR0 : Hid (getM s = if (Crc.openL (s.take 120)).2 = 0 then (if okM (toldM s) = true ∧ sectL (toldM s) = s then (toldM s, 0) else ((0, []), 7)) else ((0, []), (Crc.openL (s.take 120)).2)) := by
          show _ = _; rw [getM, if_pos h128, if_pos ⟨he, h0⟩]
        obtain ⟨Z8, hZ8⟩ : ∃ Z8 : ByteArray, Z8 = ⟨(List.replicate 8 0).toArray⟩ := ⟨_, rfl⟩
        have hn8 : (((⟨s.toArray⟩ : ByteArray).extract 0 8).toList == Z8.toList) = false := ne_of (fun hc => h0 (by rw [x1, hZ8] at hc; exact arr_inj hc))
        have hn9 : (((⟨s.toArray⟩ : ByteArray).extract 120 128).toList == Z8.toList) = false := ne_of (fun hc => h0 (by rw [he]; rw [x2, hZ8] at hc; exact arr_inj hc))
        have hcv : ∀ W : World, (convert 68 9 (.slice (some ⟨W.heap.size, 0, none⟩) 8 8)).run Try.prog (W.alloc (.cells #[.int .u8 0, .int .u8 0, .int .u8 0, .int .u8 0, .int .u8 0, .int .u8 0, .int .u8 0, .int .u8 0] 5)) = .ok (.string Z8) (W.alloc (.cells #[.int .u8 0, .int .u8 0, .int .u8 0, .int .u8 0, .int .u8 0, .int .u8 0, .int .u8 0, .int .u8 0] 5)) := by
          intro W
          rw [hZ8]
          exact conv8 _ W.heap.size (List.replicate 8 0) (by simp) (RowAt.new W (cellsL (List.replicate 8 0)) _)
        have co := fun W => Crc.open_any (s.take 120) W (by rw [List.length_take]; omega)
        rw [← x3] at co
        obtain ⟨⟨od, oy⟩, ho⟩ : ∃ g, Crc.openL (s.take 120) = g := ⟨_, rfl⟩
        rw [ho] at co HR0
        simp only at co HR0
        have ctl := fun W => told_own s W h128
        have hfit := toldM_fit s
        obtain ⟨tm, htm⟩ : ∃ tm, tm = toldM s := ⟨_, rfl⟩
        rw [← htm] at ctl HR0 hfit
        have cck := fun W v (h : HasParts W v tm.2) => check_any tm v W h hfit
        have cla := fun W v (h : HasParts W v tm.2) (hok : okM tm = true) => mlaid_any tm v W h hok
        have hsl : ∀ (G : ByteArray), G = ⟨(sectL tm).toArray⟩ → (sectL tm = s ↔ G = ⟨s.toArray⟩) := fun G hG => ⟨fun h => by rw [hG, h], fun h => by rw [hG] at h; exact arr_inj h⟩
        have HSL : Hid (∀ (G : ByteArray), G = ⟨(sectL tm).toArray⟩ → (sectL tm = s ↔ G = ⟨s.toArray⟩)) := hsl
        generalize getM s = R at HR0 ⊢
        clear x1 x2 x3 hz he h0 hZ8 ho htm hfit hsl
        generalize (⟨s.toArray⟩ : ByteArray) = S at *
        generalize (⟨od.toArray⟩ : ByteArray) = OD at co
        obtain ⟨r0, r1⟩ := rb.cells
        go_enter Try.func54, Try.ntmps54
        go_wp2_with fail
        rw [← hX]
        clear hX
        go_quiet (fail)
        obtain ⟨Y, hY⟩ : ∃ Y, Y = X.drewN nq := ⟨_, rfl⟩
        have hBY : Below w.heap.size w Y := by rw [hY]; exact below_drewN hB0 _
        have rY : MBox Y w.heap.size 0 (.slice none 0 0) := by rw [hY]; exact rb
        rw [← hY]
        clear hY rb r0 r1 hB0
        have hcv := hcv Y
        have hmk := make8 Y
        have hBZ : Below w.heap.size w (Y.alloc (.cells #[.int .u8 0, .int .u8 0, .int .u8 0, .int .u8 0, .int .u8 0, .int .u8 0, .int .u8 0, .int .u8 0] 5)) := hBY.alloc hBY.size _
        have rZ : MBox (Y.alloc (.cells #[.int .u8 0, .int .u8 0, .int .u8 0, .int .u8 0, .int .u8 0, .int .u8 0, .int .u8 0, .int .u8 0] 5)) w.heap.size 0 (.slice none 0 0) := RowAt.alloc rY _
        clear rY hBY
        go_wp2_with fail
        go_at_call 87; refine (co _).mono ?_; rintro e w1 ⟨rfl, hb1⟩
        have hB1 := below2 hBZ hb1
        have rb1 : MBox w1 w.heap.size 0 (.slice none 0 0) := RowAt.below rZ hb1
        clear co hcv hmk rZ hBZ hb1
        by_cases hoy : oy = 0
        · subst hoy
          rw [if_pos rfl] at HR0
          go_wp2_with fail
          go_at_call 88; refine (ctl _).mono ?_; rintro e w2 ⟨v, rfl, ⟨hp2, hni⟩, hb2⟩
          obtain ⟨oo, cc, rfl, _, _⟩ := hp2.form
          obtain ⟨V, hV⟩ : ∃ V, V = w2.alloc (.cells #[.int .u64 (tm.1 : Int), .slice oo tm.2.length cc] 57) := ⟨_, rfl⟩
          have hbV : Below w2.heap.size w2 V := by rw [hV]; exact (Below.refl _ _).alloc (Nat.le_refl _) _
          have mV : MBox V w2.heap.size tm.1 (.slice oo tm.2.length cc) := by rw [hV]; exact RowAt.new w2 [_, _] _
          have HNI : Hid (NewIn w (.slice oo tm.2.length cc)) := fun a n c e => Nat.le_trans hB1.size (hni a n c e)
          clear hni
          have hpV := hp2.keep hbV
          have hBV := below2 (below2 hB1 hb2) hbV
          have rV : MBox V w.heap.size 0 (.slice none 0 0) := RowAt.below (RowAt.below rb1 hb2) hbV
          obtain ⟨G, hG⟩ : ∃ G, G = w2.heap.size := ⟨_, rfl⟩
          rw [← hG] at mV
          clear ctl hp2 hb2 hbV rb1 hB1
          go_upto_region 10 with fail
          rw [← hV, ← hG]
          clear hV hG
          obtain ⟨m0, m1⟩ := mV.cells
          go_wp2_with fail
          go_at_call 83; refine (cck _ _ hpV).mono ?_; rintro e w3 ⟨rfl, hb3⟩
          have hB3 := below2 hBV hb3
          have mV3 : MBox w3 G tm.1 (.slice oo tm.2.length cc) := RowAt.below mV hb3
          have rV3 : MBox w3 w.heap.size 0 (.slice none 0 0) := RowAt.below rV hb3
          have hp3 := hpV.keep hb3
          clear m0 m1 mV rV hpV hb3 hBV cck
          obtain ⟨m0, m1⟩ := mV3.cells
          cases hok : okM tm
          · have HR : Hid (R = ((0, []), 7)) := by show _ = _; rw [HR0.out, hok, if_neg (by simp)]
            rw [checkM_bad hok]
            obtain ⟨r0, r1⟩ := rV3.cells
            have f0 := RowAt.frozen rV3 0
            have f1 := RowAt.frozen rV3 1
            clear cla mV3 rV3 hp3
            go_wp2
            (try simp only [Exit.inBlock, Exit.then])
            refine bodyPost_ret ?_ rfl (manOwn_zero HR.out (set2_below hB3 (Nat.le_refl _) _ _))
            rw [results_cell_tmp rfl]
            go_simp
          · rw [checkM_ok hok]
            have cl := cla w3 _ hp3 hok
            obtain ⟨GS, hGS⟩ : ∃ GS : ByteArray, GS = ⟨(sectL tm).toArray⟩ := ⟨_, rfl⟩
            have hiff := HSL.out GS hGS
            rw [← hGS] at cl
            clear hGS HSL cla
            go_wp2_with fail
            go_at_call 52; refine cl.mono ?_; rintro e w4 ⟨rfl, hb4⟩
            have hB4 := below2 hB3 hb4
            have mV4 : MBox w4 G tm.1 (.slice oo tm.2.length cc) := RowAt.below mV3 hb4
            have rV4 : MBox w4 w.heap.size 0 (.slice none 0 0) := RowAt.below rV3 hb4
            have hp4 := hp3.keep hb4
            clear m0 m1 mV3 rV3 hp3 hb4 hB3 cl
            obtain ⟨m0, m1⟩ := mV4.cells
            obtain ⟨r0, r1⟩ := rV4.cells
            have f0 := RowAt.frozen rV4 0
            have f1 := RowAt.frozen rV4 1
            by_cases hgs : GS = S
            · have HR : Hid (R = (tm, 0)) := by show _ = _; rw [HR0.out, hok, if_pos ⟨rfl, hiff.2 hgs⟩]
              have hgs2 : GS.toList = S.toList := by rw [hgs]
              have HPF : Hid (HasParts ((w4.setCell ⟨w.heap.size, 0, none⟩ (.int .u64 (tm.1 : Int))).setCell ⟨w.heap.size, 1, none⟩ (.slice oo tm.2.length cc)) (.slice oo tm.2.length cc) tm.2) := by
                have hg0 : w4.grownBy ((w4.setCell ⟨w.heap.size, 0, none⟩ (.int .u64 (tm.1 : Int))).setCell ⟨w.heap.size, 1, none⟩ (.slice oo tm.2.length cc)) (some w.heap.size) := grown2 (grown_cell _ _ _ _) (grown_cell _ _ _ _)
                exact HasParts.far hp4 rV4 hg0
              have y0 : (w4.setCell ⟨w.heap.size, 0, none⟩ (.int .u64 (tm.1 : Int))).cell? ⟨w.heap.size, 0, none⟩ = some (.int .u64 (tm.1 : Int)) := by
                have h1 : RowAt (w4.setCell ⟨w.heap.size, 0, none⟩ (.int .u64 (tm.1 : Int))) w.heap.size [.int .u64 (tm.1 : Int), .slice none 0 0] 57 := by
                  unfold MBox at rV4; rw [rV4.setCell]; exact RowAt.set rV4 _
                exact h1.cell 0
              clear hgs hiff mV4 rV4 hp4
              go_wp2
              (try simp only [Exit.inBlock, Exit.then])
              refine bodyPost_ret (v := .tuple #[.agg #[.int .u64 (tm.1 : Int), .slice oo tm.2.length cc], .int .i64 0]) ?_ rfl ⟨_, by rw [HR.out], ⟨by rw [HR.out]; exact HPF.out, HNI.out⟩, set2_below hB4 (Nat.le_refl _) _ _⟩
              rw [results_cell_tmp rfl]
              go_simp
            · have HR : Hid (R = ((0, []), 7)) := by show _ = _; rw [HR0.out, if_neg (fun hc => hgs (hiff.1 hc.2))]
              have hgs2 := ne_of hgs
              clear hgs hiff mV4 rV4 hp4
              go_wp2
              (try simp only [Exit.inBlock, Exit.then])
              refine bodyPost_ret ?_ rfl (manOwn_zero HR.out (set2_below hB4 (Nat.le_refl _) _ _))
              rw [results_cell_tmp rfl]
              go_simp
        · have HR : Hid (R = ((0, []), oy)) := by show _ = _; rw [HR0.out, if_neg hoy]
          have hoy2 : (oy != 0) = true := by simpa using hoy
          obtain ⟨r0, r1⟩ := rb1.cells
          have f0 := RowAt.frozen rb1 0
          have f1 := RowAt.frozen rb1 1
          clear ctl cck cla rb1
          go_wp2
          (try simp only [Exit.inBlock, Exit.then])
          refine bodyPost_ret ?_ rfl (manOwn_zero HR.out (set2_below hB1 (Nat.le_refl _) _ _))
          rw [results_cell_tmp rfl]
          go_simp
    · have HR : Hid (getM s = ((0, []), 3)) := by show _ = _; rw [getM, if_pos h128, if_neg (fun hc => he hc.1)]
      have hne : (((⟨s.toArray⟩ : ByteArray).extract 0 8).toList == ((⟨s.toArray⟩ : ByteArray).extract 120 128).toList) = false := ne_of (fun hc => he (by rw [x1, x2] at hc; exact arr_inj hc))
      generalize getM s = R at HR ⊢
      clear x1 x2 x3 hz he
      generalize (⟨s.toArray⟩ : ByteArray) = S at *
      obtain ⟨r0, r1⟩ := rb.cells
      have f0 := RowAt.frozen rb 0
      have f1 := RowAt.frozen rb 1
      go_enter Try.func54, Try.ntmps54
      go_wp2_with fail
      rw [← hX]
      clear hX
      go_quiet (fail)
      go_wp2
      (try simp only [Exit.inBlock, Exit.then])
      refine bodyPost_ret ?_ rfl (manOwn_zero HR.out (set2_below (below_drewN hB0 _) (Nat.le_refl _) _ _))
      rw [results_cell_tmp rfl]
      go_simp
  · have HR : Hid (getM s = ((0, []), 11)) := by show _ = _; rw [getM, if_neg h128]
    have hne : ¬ (((⟨s.toArray⟩ : ByteArray).size : Int) = 128) := by omega
    have hzl : (⟨s.toArray⟩ : ByteArray).size ≤ 9223372036854775807 := by omega
    generalize getM s = R at HR ⊢
    clear hz
    generalize (⟨s.toArray⟩ : ByteArray) = S at *
    obtain ⟨r0, r1⟩ := rb.cells
    have f0 := RowAt.frozen rb 0
    have f1 := RowAt.frozen rb 1
    go_enter Try.func54, Try.ntmps54
    go_wp2
    (try simp only [Exit.inBlock, Exit.then])
    refine bodyPost_ret ?_ rfl (manOwn_zero HR.out ((Below.refl _ w).alloc (Nat.le_refl _) _))
    rw [results_cell_tmp rfl]
    go_simp
theorem get_core (s : List UInt8) (w : World) (hl : s.length ≤ 9223372036854775807) :
    Calls Try.prog 54 #[.string ⟨s.toArray⟩] w (ManIs (getM s) w) :=
  (get_own s w hl).mono fun e w' ⟨v, h1, h2, h3⟩ => ⟨v, h1, h2.1, h3⟩
end Go.Proofs.Ytajcmgccclemdab.Man
