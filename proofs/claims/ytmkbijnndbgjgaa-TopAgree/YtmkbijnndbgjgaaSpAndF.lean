/- What the field's method and answers. -/
import Derived.Test.YtmkbijnndbgjgaaSpOrF
import Derived.Deep.RegionHeld3
import Derived.Deep.DeepCutAuto
set_option linter.unusedVariables false
namespace Go.Proofs.Ytmkbijnndbgjgaa.Sp
open Go.RowKit Go.Shelf
open Go.Proofs.Ytmkbijnndbgjgaa.Lk (HasRow hasRow_own addr_add)
open Go.Proofs.Ytmkbijnndbgjgaa.Addr (wideN rightB hiN loN adV cmpN cmp_any RowAt below2 below_drew below_new bset RowAt.lt RowAt.cell RowAt.frozen RowAt.below RowAt.drew RowAt.new RowAt.alloc RowAt.gkeep cells2 cells4 gset grefl Bl bl_ne wp_region_bl bl_call bl_same)
attribute [-go_sem] Builtin.append_
theorem set4r {W : World} {b : Nat} {x0 x1 x2 x3 : Value} {t : TypeId} (h : RowAt W b [x0, x1, x2, x3] t) (x y z u : Value) : RowAt ((((W.setCell ⟨b, 0, none⟩ x).setCell ⟨b, 1, none⟩ y).setCell ⟨b, 2, none⟩ z).setCell ⟨b, 3, none⟩ u) b [x, y, z, u] t := row_set2b (row_set2 h x y) z u
/-- a run in a new box, behind a call that laid new memory -/
def SB (X W : World) (g : Nat) (a b c d : Nat) : Prop := RowAt W g [.int .u64 (a : Int), .int .u64 (b : Int), .int .u64 (c : Int), .int .u64 (d : Int)] 130 ∧ Below X.heap.size X W ∧ X.heap.size ≤ g
theorem sb_new {X w3 : World} {a b c d : Nat} (hbA : Below X.heap.size X w3) : SB X (w3.alloc (.cells #[.int .u64 (a : Int), .int .u64 (b : Int), .int .u64 (c : Int), .int .u64 (d : Int)] 130)) w3.heap.size a b c d := ⟨RowAt.new w3 [_, _, _, _] _, below_new hbA _, hbA.size⟩
theorem sb_at {X w3 : World} {g a b c d : Nat} {x y z u : Value} (hbA : Below X.heap.size X w3) (hE : RowAt w3 g [x, y, z, u] 130) (hg : X.heap.size ≤ g) : SB X ((((w3.setCell ⟨g, 0, none⟩ (.int .u64 (a : Int))).setCell ⟨g, 1, none⟩ (.int .u64 (b : Int))).setCell ⟨g, 2, none⟩ (.int .u64 (c : Int))).setCell ⟨g, 3, none⟩ (.int .u64 (d : Int))) g a b c d := ⟨set4r hE _ _ _ _, bset (bset (bset (bset hbA hg) hg) hg) hg, hg⟩
theorem sk1 {W W' : World} {cs : List Value} {t : TypeId} (h : Below (W.alloc (.cells cs.toArray t)).heap.size (W.alloc (.cells cs.toArray t)) W') : RowAt W' W.heap.size cs t := (RowAt.new W cs t).below h
theorem sk2 {W W' : World} {cs : List Value} {t : TypeId} (h : Below (W.alloc (.cells cs.toArray t)).drew.heap.size (W.alloc (.cells cs.toArray t)).drew W') : RowAt W' W.heap.size cs t := (RowAt.new W cs t).drew.below h
theorem sk3 {W W' : World} {cs : List Value} {t : TypeId} (h : Below (W.drew.alloc (.cells cs.toArray t)).heap.size (W.drew.alloc (.cells cs.toArray t)) W') : RowAt W' W.heap.size cs t := (RowAt.new W.drew cs t).below h
theorem sps_tail {W : World} {g i n c : Nat} {l : List Sp} (h : HasSps W (.slice (some ⟨g, i, none⟩) n c) l) (hl : 0 < l.length) : n = l.length ∧ HasSps W (.slice (some ⟨g, i + 4, none⟩) (n - 1) (c - 1)) (l.drop 1) ∧ (c = 1 → HasSps W (.slice (some ⟨g, i, none⟩) 0 0) (l.drop 1)) := by
  obtain ⟨s, l, rfl⟩ : ∃ s t, l = s :: t := by cases l with | nil => simp at hl | cons s t => exact ⟨s, t, rfl⟩
  rcases h.2 with ⟨h0, h1⟩ | ⟨a, cap, e, h1, h2, h3, h4⟩
  · simp at h1
  · injection e with e1 e2 e3
    injection e1 with e1
    subst e1 e2 e3
    simp only [List.length_cons] at h1 h3 h4 hl
    refine ⟨rfl, ⟨spCs_len l, .inr ⟨⟨g, i + 4, none⟩, c - 1, rfl, by simp only [List.drop_succ_cons, List.drop_zero]; omega, by omega, fun _ => ⟨rfl, (h3 (by omega)).2⟩, fun j hj => ?_⟩⟩, fun hc => ⟨spCs_len l, .inr ⟨⟨g, i, none⟩, 0, ?_, ?_, by omega, fun _ => ⟨rfl, (h3 (by omega)).2⟩, fun j hj => ?_⟩⟩⟩
    · simp only [List.drop_succ_cons, List.drop_zero] at hj ⊢
      have h5 := h4 (j + 4) (by omega)
      rw [addr_add] at h5 ⊢
      rw [show i + 4 + j = i + (j + 4) by omega, h5]
      rfl
    · simp only [List.drop_succ_cons, List.drop_zero]
      rw [show l.length = 0 by omega]
    · simp only [List.drop_succ_cons, List.drop_zero]; omega
    · simp only [List.drop_succ_cons, List.drop_zero] at hj; omega
structure AndW (X0 wr : World) (b : List Sp) (j gs : Nat) (u v : Value) (R : List Sp) (x : Sp) : Prop where
  ow : Own1 X0 wr 130 u R
  sb : HasSps X0 v (b.drop j)
  rw' : RowAt wr gs [.int .u64 (hiN x.1 : Int), .int .u64 (loN x.1 : Int), .int .u64 (hiN x.2 : Int), .int .u64 (loN x.2 : Int)] 130
  ne : ∀ k, u.ownBlock = some k → k ≠ gs
theorem AndW.below {X0 W W' : World} {b : List Sp} {j gs : Nat} {u v : Value} {R : List Sp} {x : Sp} (h : AndW X0 W b j gs u v R x) (hb : Below W.heap.size W W') : AndW X0 W' b j gs u v R x := ⟨h.ow.below hb, h.sb, h.rw'.below hb, h.ne⟩
def lenOf : Value → Nat
  | .slice _ n _ => n
  | _ => 0
set_option maxHeartbeats 8000000 in
set_option maxRecDepth 20000 in
theorem andF_any (six : Bool) (a b : List Sp) (va vb : Value) (g : Nat) (w : World) (ha : HasSps w va a) (hb : HasSps w vb b) (hra : Row six a) (hrb : Row six b) (hg : SixAt w g six) (hla : a.length ≤ 2048) (hlb : b.length ≤ 2048) :
    Calls Try.prog 82 #[fdV g, va, vb] w fun e w' => ∃ u R, e = .returned u ∧ Own1 w w' 130 u R ∧ Row six R ∧ (∀ x, inB R x = (inB a x && inB b x)) ∧ R.length ≤ a.length + b.length := by
  obtain ⟨o, c, rfl, hc1, hc2⟩ := HasRow.slice ha
  obtain ⟨ob, cb0, rfl, hcb1, hcb2⟩ := HasRow.slice hb
  obtain ⟨X0, hX0⟩ : ∃ X, X = w.alloc (.cells #[f0 g, f1, f2 g, f3 g] 123) := ⟨_, rfl⟩
  have hB0 : Below w.heap.size w X0 := by rw [hX0]; exact below_new (Below.refl _ _) _
  have rf : RowAt X0 w.heap.size (fieldRow g) 123 := by rw [hX0]; exact RowAt.new _ _ _
  have HR : Hid (∀ wr : World, Below X0.heap.size X0 wr → HasSps wr (.slice o a.length c) a ∧ SixAt wr g six ∧ RowAt wr w.heap.size (fieldRow g) 123) := fun wr hq => ⟨(ha.keep hB0).keep hq, (hg.keep hB0).keep hq, rf.below hq⟩
  have HSB : Hid (HasSps X0 (.slice ob b.length cb0) (b.drop 0)) := hb.keep hB0
  have HA' : Hid (Row six a) := hra
  have HB : Hid (Row six b) := hrb
  have HW : Hid (Below w.heap.size w X0) := hB0
  obtain ⟨gf, hgf⟩ : ∃ q, q = w.heap.size := ⟨_, rfl⟩
  rw [← hgf] at HR
  unfold fdV
  unfold f0 f1 f2 f3 at *
  clear ha hb rf hg hra hrb hB0
  generalize hn : a.length = n at *
  have HN : Hid (a.length = n) := hn
  generalize hm : b.length = m at *
  have HM : Hid (b.length = m) := hm
  clear hn hm
  have hni : (n : Int) ≤ 2048 := by omega
  have hmi : (m : Int) ≤ 2048 := by omega
  go_enter Try.func82, Try.ntmps82
  go_wp2_with fail
  go_step3
  go_upto_region 1 with fail
  rw [← hX0, ← hgf]
  clear hX0 hgf
  have H0 : Hid (HasSps X0 (.slice ob m cb0) (b.drop 0) ∧ Own1 X0 X0 130 (.slice none 0 0) [] ∧ AndI six a b 0 0 []) := ⟨HSB.out, Own1.nil _ _, and_start _ _ _⟩
  clear HSB
  go_wp2_with fail
  go_step3
  go_wp2_with fail
  go_loopw [2, 7, 13] (fun v u q wr => ∃ (i j : Nat) (R : List Sp), i ≤ n ∧ q = .int .i64 i ∧ Hid (HasSps X0 v (b.drop j) ∧ Own1 X0 wr 130 u R ∧ AndI six a b i j R)) (fun _ _ q _ => n - (Go.RowKit.intOf q).toNat)
  case atStart => exact ⟨0, 0, [], by omega, rfl, H0⟩
  case round =>
    clear H0
    obtain ⟨i, j, R, hi, rfl, HI⟩ := hrel
    obtain ⟨hSB, hO, hI⟩ := HI.out
    by_cases hlt : i < n
    · have hiz : i < a.length := by rw [HN.out]; exact hlt
      obtain ⟨hh, hg, rf⟩ := HR.out _ hO.bl
      obtain ⟨g1, i1, rfl, hg1, a0, a1, a2, a3⟩ := HasSps.cell hh i hiz
      have hki : (i : Int) < (n : Int) := by omega
      have HXO : Hid (okS six a[i] = true) := HA'.out.1 _ (List.getElem_mem hiz)
      obtain ⟨x, hx⟩ : ∃ x, x = a[i] := ⟨_, rfl⟩
      have HX : Hid (x = a[i]) := hx
      rw [← hx] at a0 a1 a2 a3 HXO
      clear hx HI hg1 hh hg rf
      go_upto_region 5 with fail
      obtain ⟨X, hX⟩ : ∃ X, X = wr.alloc (.cells #[.int .u64 (hiN x.1 : Int), .int .u64 (loN x.1 : Int), .int .u64 (hiN x.2 : Int), .int .u64 (loN x.2 : Int)] 130) := ⟨_, rfl⟩
      have hbX : Below wr.heap.size wr X := by rw [hX]; exact below_new (Below.refl _ _) _
      have rx : RowAt X wr.heap.size [.int .u64 (hiN x.1 : Int), .int .u64 (loN x.1 : Int), .int .u64 (hiN x.2 : Int), .int .u64 (loN x.2 : Int)] 130 := by rw [hX]; exact RowAt.new _ _ _
      rw [← hX]
      have HI0 : Hid (AndW X0 X b j wr.heap.size u7 u2 R x ∧ AndI six a b i j R) := ⟨⟨hO.below hbX, hSB, rx, fun k hk => by have := (hO.ou.lt k hk).2; omega⟩, hI⟩
      clear hX hbX rx a0 a1 a2 a3 hSB hO
      obtain ⟨gs, hgs⟩ : ∃ g, g = wr.heap.size := ⟨_, rfl⟩
      rw [← hgs] at HI0 ⊢
      clear hgs
      obtain ⟨x1, hx1⟩ : ∃ q, q = hiN x.1 := ⟨_, rfl⟩
      obtain ⟨x2, hx2⟩ : ∃ q, q = loN x.1 := ⟨_, rfl⟩
      obtain ⟨x3, hx3⟩ : ∃ q, q = hiN x.2 := ⟨_, rfl⟩
      obtain ⟨x4, hx4⟩ : ∃ q, q = loN x.2 := ⟨_, rfl⟩
      have HE1 : Hid (hiN x.1 = x1) := hx1.symm
      have HE2 : Hid (loN x.1 = x2) := hx2.symm
      have HE3 : Hid (hiN x.2 = x3) := hx3.symm
      have HE4 : Hid (loN x.2 = x4) := hx4.symm
      clear hx1 hx2 hx3 hx4
      have hjm0 : j ≤ m := by have := hI.2.1; rw [HM.out] at this; exact this
      clear hI
      obtain ⟨wA, hwA⟩ : ∃ wA, wA = wr := ⟨_, rfl⟩
      subst hwA
      go_loopw [2, 7] (fun v u wi => ∃ (j : Nat) (R : List Sp), j ≤ m ∧ Hid (AndW X0 wi b j gs u v R x ∧ AndI six a b i j R)) (fun v _ _ => lenOf v)
      case atStart => exact ⟨j, R, hjm0, HI0⟩
      case round =>
        clear HI0 hjm0
        obtain ⟨j, R, hjm1, HA⟩ := hrel
        obtain ⟨hA, hAN⟩ := HA.out
        clear HA
        obtain ⟨wi, hwi⟩ : ∃ W, W = wr := ⟨_, rfl⟩
        subst hwi
        by_cases hjm : j < m
        · have hjb : j < b.length := by rw [HM.out]; exact hjm
          have hsb := hA.sb
          have hdl : (b.drop j).length = m - j := by rw [List.length_drop, HM.out]
          obtain ⟨o2, cb, rfl, hcb1, hcb2⟩ := HasRow.slice hsb
          rw [hdl] at hsb hcb1 hA ⊢
          obtain ⟨gb, ib, rfl, hgb, b0, b1, b2, b3⟩ := HasSps.cell hsb 0 (by rw [hdl]; omega)
          rw [Nat.zero_mul, Nat.add_zero, List.getElem_drop] at b0 b1 b2 b3
          obtain ⟨hnb0, HT2, HT1⟩ := sps_tail hsb (by rw [hdl]; omega)
          rw [List.drop_drop, show j + 1 = j + 1 from rfl] at HT1 HT2
          clear hnb0
          have HT1 : Hid (cb = 1 → HasSps X0 (.slice (some ⟨gb, ib, none⟩) 0 0) (b.drop (j + 1))) := HT1
          have HT2 : Hid (HasSps X0 (.slice (some ⟨gb, ib + 4, none⟩) (m - j - 1) (cb - 1)) (b.drop (j + 1))) := HT2
          have hyb : b[j + 0] = b[j] := rfl
          rw [hyb] at b0 b1 b2 b3
          have hoky := HB.out.1 _ (List.getElem_mem hjb)
          have cm := fun W => commonF_any x b[j] g W (ok_fit HXO.out) (ok_fit hoky)
          have cr := fun (W : World) (hq : SixAt W g six) => rightF_any six (comS x b[j]) g W (by have h1 := ok_fit HXO.out; have h2 := ok_fit hoky; unfold comS FitS; simp only; constructor <;> split <;> omega) hq
          have cc := fun W => cmp_any b[j].2 x.2 W (ok_fit hoky).2 (ok_fit HXO.out).2
          have hcg : decide (0 < cmpN b[j].2 x.2) = decide (x.2 < b[j].2) := cmp_gt0
          have HPUT : Hid (∀ S : List Sp, ((okS six (comS x b[j]) = true ∧ S = R ++ [comS x b[j]]) ∨ (okS six (comS x b[j]) = false ∧ S = R)) → (¬ 0 < cmpN b[j].2 x.2 → AndI six a b i (j + 1) S) ∧ (0 < cmpN b[j].2 x.2 → AndI six a b (i + 1) j S)) := fun S hS => by
            have h := and_put hAN HA'.out HB.out hiz hjb S (by rw [← HX.out]; exact hS)
            rw [← HX.out] at h
            constructor
            · intro hn; exact h.1 (by have := of_decide_eq_false (hcg.symm.trans (decide_eq_false hn)); exact this)
            · intro hn; exact h.2 (by have := of_decide_eq_true (hcg.symm.trans (decide_eq_true hn)); exact this)
          clear hcg hoky hyb
          unfold fdV spV f0 f1 f2 f3 at cm cr
          unfold adV at cc
          have hRl : R.length ≤ 1000000 := by have := hAN.2.2.2.2.2; omega
          generalize okS six (comS x b[j]) = OK at *
          generalize comS x b[j] = s at *
          generalize cmpN b[j].2 x.2 = cz at *
          obtain ⟨y1, hy1⟩ : ∃ q, q = hiN b[j].1 := ⟨_, rfl⟩
          obtain ⟨y2, hy2⟩ : ∃ q, q = loN b[j].1 := ⟨_, rfl⟩
          obtain ⟨y3, hy3⟩ : ∃ q, q = hiN b[j].2 := ⟨_, rfl⟩
          obtain ⟨y4, hy4⟩ : ∃ q, q = loN b[j].2 := ⟨_, rfl⟩
          rw [← hy1] at b0 cm
          rw [← hy2] at b1 cm
          rw [← hy3] at b2 cm cc
          rw [← hy4] at b3 cm cc
          clear hy1 hy2 hy3 hy4
          simp only [HE1.out, HE2.out, HE3.out, HE4.out] at cm cc
          obtain ⟨s1, hs1⟩ : ∃ q, q = hiN s.1 := ⟨_, rfl⟩
          obtain ⟨s2, hs2⟩ : ∃ q, q = loN s.1 := ⟨_, rfl⟩
          obtain ⟨s3, hs3⟩ : ∃ q, q = hiN s.2 := ⟨_, rfl⟩
          obtain ⟨s4, hs4⟩ : ∃ q, q = loN s.2 := ⟨_, rfl⟩
          have HS : Hid (hiN s.1 = s1 ∧ loN s.1 = s2 ∧ hiN s.2 = s3 ∧ loN s.2 = s4) := ⟨hs1.symm, hs2.symm, hs3.symm, hs4.symm⟩
          rw [← hs1, ← hs2, ← hs3, ← hs4] at cm cr
          clear hs1 hs2 hs3 hs4
          obtain ⟨nb, hnb⟩ : ∃ nb, nb = m - j := ⟨_, rfl⟩
          rw [← hnb] at HT2 hsb hcb1 hA ⊢
          have hnb1 : 1 ≤ nb := by omega
          have hnbi : decide ((0 : Int) < (nb : Int)) = true := decide_eq_true (by omega)
          have HNB : Hid (nb = m - j) := hnb
          clear hnb hsb hdl
          go_upto_region 6 with fail
          go_cut [10] (fun s9 wc => ∃ gz, s9 = .pointer (some ⟨gz, 0, none⟩) ∧ Hid (SB wi wc gz s1 s2 s3 s4))
          case first =>
            have hbA : Below wi.heap.size wi wi := Below.refl _ _
            obtain ⟨hh0, hg0, rf0⟩ := HR.out _ hA.ow.bl
            have hrw := hA.rw'
            simp only [HE1.out, HE2.out, HE3.out, HE4.out] at hrw
            have hbl := hA.ow.bl
            have HSK : Hid (∀ W : World, Below wi.heap.size wi W → W.cell? ⟨gf, 0, none⟩ = some (.func (.func 87) #[] #[.pointer (some ⟨g, 0, none⟩)]) ∧ W.cell? ⟨gf, 1, none⟩ = some (.func (.func 89) #[] #[]) ∧ W.cell? ⟨gf, 2, none⟩ = some (.func (.func 90) #[] #[.pointer (some ⟨g, 0, none⟩)]) ∧ W.cell? ⟨gf, 3, none⟩ = some (.func (.func 92) #[] #[.pointer (some ⟨g, 0, none⟩)]) ∧ W.cell? ⟨gs, 0, none⟩ = some (.int .u64 (x1 : Int)) ∧ W.cell? ⟨gs, 1, none⟩ = some (.int .u64 (x2 : Int)) ∧ W.cell? ⟨gs, 2, none⟩ = some (.int .u64 (x3 : Int)) ∧ W.cell? ⟨gs, 3, none⟩ = some (.int .u64 (x4 : Int)) ∧ W.cell? ⟨gb, ib, none⟩ = some (.int .u64 (y1 : Int)) ∧ W.cell? ⟨gb, ib + 1, none⟩ = some (.int .u64 (y2 : Int)) ∧ W.cell? ⟨gb, ib + 2, none⟩ = some (.int .u64 (y3 : Int)) ∧ W.cell? ⟨gb, ib + 3, none⟩ = some (.int .u64 (y4 : Int))) := fun W hb => by
              obtain ⟨c0, c1, c2, c3, _⟩ := cells4 (rf0.below hb)
              obtain ⟨d0, d1, d2, d3, _⟩ := cells4 (hrw.below hb)
              have hb2 := below2 hbl hb
              exact ⟨c0, c1, c2, c3, d0, d1, d2, d3, (hb2.cell (p := ⟨gb, ib, none⟩) hgb).trans b0, (hb2.cell (p := ⟨gb, ib + 1, none⟩) hgb).trans b1, (hb2.cell (p := ⟨gb, ib + 2, none⟩) hgb).trans b2, (hb2.cell (p := ⟨gb, ib + 3, none⟩) hgb).trans b3⟩
            clear hh0 hg0 rf0 hrw hbl hA b0 b1 b2 b3 cr cc
            go_region_held3 (fun w' => w'.cell? ⟨gf, 0, none⟩ = some (.func (.func 87) #[] #[.pointer (some ⟨g, 0, none⟩)]) ∧ w'.cell? ⟨gf, 1, none⟩ = some (.func (.func 89) #[] #[]) ∧ w'.cell? ⟨gf, 2, none⟩ = some (.func (.func 90) #[] #[.pointer (some ⟨g, 0, none⟩)]) ∧ w'.cell? ⟨gf, 3, none⟩ = some (.func (.func 92) #[] #[.pointer (some ⟨g, 0, none⟩)]) ∧ w'.cell? ⟨gs, 0, none⟩ = some (.int .u64 (x1 : Int)) ∧ w'.cell? ⟨gs, 1, none⟩ = some (.int .u64 (x2 : Int)) ∧ w'.cell? ⟨gs, 2, none⟩ = some (.int .u64 (x3 : Int)) ∧ w'.cell? ⟨gs, 3, none⟩ = some (.int .u64 (x4 : Int)) ∧ w'.cell? ⟨gb, ib, none⟩ = some (.int .u64 (y1 : Int)) ∧ w'.cell? ⟨gb, ib + 1, none⟩ = some (.int .u64 (y2 : Int)) ∧ w'.cell? ⟨gb, ib + 2, none⟩ = some (.int .u64 (y3 : Int)) ∧ w'.cell? ⟨gb, ib + 3, none⟩ = some (.int .u64 (y4 : Int)))
              (first
                | (refine HSK.out _ ?_
                   repeat' (first | with_reducible exact hbA | with_reducible apply below_drew | with_reducible apply below_new | with_reducible refine bset ?_ (by have := hbA.size; first | omega | (simp; omega)))))
              (first
                | (go_at_call 103
                   refine (cm _).mono ?_
                   rintro e w3 ⟨rfl, hb3⟩
                   have hbN : Below wi.heap.size wi w3 := below2 (by repeat' (first | with_reducible exact hbA | with_reducible apply below_drew | with_reducible apply below_new)) hb3
                   clear hbA
                   have hbA := hbN
                   clear hbN
                   (first | (have hE : RowAt w3 wi.heap.size [.int .u64 0, .int .u64 0, .int .u64 0, .int .u64 0] 130 := (by with_reducible first | exact sk1 hb3 | exact sk2 hb3 | exact sk3 hb3); obtain ⟨e0, e1, e2, e3, ef⟩ := cells4 hE; have hel := hE.lt) | skip)))
            all_goals go_wp2_with fail
            all_goals go_meet
            all_goals first
              | (refine ⟨_, rfl, ?_⟩; show SB _ _ _ _ _ _ _; with_reducible exact sb_new hbA)
              | (refine ⟨_, rfl, ?_⟩; show SB _ _ _ _ _ _ _; with_reducible exact sb_at hbA hE (Nat.le_refl _))
          case rest =>
            obtain ⟨gz, rfl, HG⟩ := hcut
            obtain ⟨rz, hbz, hgz⟩ := HG.out
            replace hA := hA.below hbz
            obtain ⟨hh0, hg0, rf0⟩ := HR.out _ hA.ow.bl
            clear HG cm b0 b1 hbz hh0
            obtain ⟨z0, z1, z2, z3, zf⟩ := cells4 rz
            obtain ⟨q0, q1, q2, q3, qf⟩ := cells4 rf0
            have crz := cr _ hg0
            clear cr
            go_wp2_with fail
            go_at_call 85; refine crz.mono ?_; rintro e wq ⟨rfl, hbq⟩
            replace hA := hA.below hbq
            replace rz := rz.below hbq
            clear z0 z1 z2 z3 zf q0 q1 q2 q3 qf crz hbq hg0 rf0
            cases OK
            · obtain ⟨HP1, HP2⟩ := HPUT.out R (.inr ⟨rfl, rfl⟩)
              have HP1 : Hid _ := HP1
              have HP2 : Hid _ := HP2
              clear HPUT rz
              have q1 := fun q : Bl wq => (HR.out _ (below2 hA.ow.bl q.h)).2.2
              have t1 := fun q : Bl wq => (q1 q).cell 1
              simp only [List.getElem?_cons_succ, List.getElem?_cons_zero] at t1
              have m2 := fun q : Bl wq => (hA.rw'.below q.h).cell 2
              have m3 := fun q : Bl wq => (hA.rw'.below q.h).cell 3
              simp only [List.getElem?_cons_succ, List.getElem?_cons_zero, HE3.out, HE4.out] at m2 m3
              have u2 : ∀ q : Bl wq, q.W.cell? ⟨gb, ib + 2, none⟩ = some (.int .u64 (y3 : Int)) := fun q => ((below2 hA.ow.bl q.h).cell (p := ⟨gb, ib + 2, none⟩) hgb).trans b2
              have u3 : ∀ q : Bl wq, q.W.cell? ⟨gb, ib + 3, none⟩ = some (.int .u64 (y4 : Int)) := fun q => ((below2 hA.ow.bl q.h).cell (p := ⟨gb, ib + 3, none⟩) hgb).trans b3
              haveI := bl_ne wq
              go_upto_region 9 with fail
              refine wp_region_bl (by kernel_rfl) (by kernel_rfl) ?_
              repeat (go_big_quiet_step (first | (go_at_call 89; with_reducible exact bl_call (cc _))))
              refine wpQuiet_nil ?_
              intro wq2 hw'
              obtain ⟨⟨wz2, hq2⟩, hw2⟩ := hw'
              subst hw2
              replace hA := hA.below hq2
              clear q1 t1 m2 m3 u2 u3 this cc
              by_cases hcz : 0 < cz
              · have HF : Hid (HasSps X0 (.slice (some ⟨gb, ib, none⟩) nb cb) (b.drop j) ∧ Own1 X0 wq2 130 u7 (R) ∧ AndI six a b (i + 1) j (R)) := ⟨hA.sb, hA.ow, HP2.out (by omega)⟩
                clear HP1 HP2 hA b2 b3
                go_wp2_with fail
                go_roundw
                case rel => exact ⟨i + 1, j, R, by omega, by go_num, HF⟩
                case measure => simp [Go.RowKit.intOf]; omega
              · have hcz2 : decide (0 < cz) = false := decide_eq_false hcz
                have hn1 : (1 : Int) ≤ (nb : Int) := by omega
                have hn2 : (nb : Int) ≤ (cb : Int) := by omega
                by_cases hc1 : cb = 1
                · have HF : Hid (AndW X0 wq2 b (j + 1) gs u7 (.slice (some ⟨gb, ib, none⟩) 0 0) (R) x ∧ AndI six a b i (j + 1) (R)) := ⟨⟨hA.ow, HT1.out hc1, hA.rw', hA.ne⟩, HP1.out (by omega)⟩
                  have hnb : nb = 1 := by omega
                  clear HP1 HP2 hA b2 b3
                  subst hc1 hnb
                  go_wp2_with fail
                  go_roundw
                  case rel => exact ⟨j + 1, R, by omega, HF⟩
                  case measure => simp [lenOf] <;> omega
                · have HF : Hid (AndW X0 wq2 b (j + 1) gs u7 (.slice (some ⟨gb, ib + 4, none⟩) (nb - 1) (cb - 1)) (R) x ∧ AndI six a b i (j + 1) (R)) := ⟨⟨hA.ow, HT2.out, hA.rw', hA.ne⟩, HP1.out (by omega)⟩
                  have hc2' : ¬ cb - 1 = 0 := by omega
                  have hc3' : 1 < cb := by omega
                  have hc4' : (1 : Int) < (cb : Int) := by omega
                  clear HP1 HP2 hA b2 b3
                  go_wp2_with fail
                  go_roundw
                  case rel => exact ⟨j + 1, R, by omega, HF⟩
                  case measure => simp [lenOf] <;> omega
            · obtain ⟨HP1, HP2⟩ := HPUT.out (R ++ [s]) (.inl ⟨rfl, rfl⟩)
              have HP1 : Hid _ := HP1
              have HP2 : Hid _ := HP2
              clear HPUT
              obtain ⟨z0, z1, z2, z3, zf⟩ := cells4 rz
              obtain ⟨g4, c4, w4, hrun, hO4, hl4, hlt4, hg4⟩ := app_R hA.ow s hRl
              have hgs := hA.rw'.lt
              have hrw4 := (hA.rw'.alloc (.cells #[.int .u64 (hiN s.1 : Int), .int .u64 (loN s.1 : Int), .int .u64 (hiN s.2 : Int), .int .u64 (loN s.2 : Int)] 130)).gkeep hg4 (fun h => (hA.ne gs h.symm) rfl)
              have hne4 : ∀ k, (Value.slice (some ⟨g4, 0, none⟩) (R ++ [s]).length c4).ownBlock = some k → k ≠ gs := fun k hk => by
                have hk : g4 = k := by simpa [Value.ownBlock] using hk
                subst hk
                rcases hl4 with h | h
                · exact hA.ne _ h
                · omega
              have hA4 : AndW X0 w4 b j gs (.slice (some ⟨g4, 0, none⟩) (R ++ [s]).length c4) (.slice (some ⟨gb, ib, none⟩) nb cb) (R ++ [s]) x := ⟨hO4, hA.sb, hrw4, hne4⟩
              have HA4 : Hid _ := hA4
              clear hA hA4 hO4 hl4 hlt4 hg4 hrw4 hne4 hgs rz
              simp only [HS.out.1, HS.out.2.1, HS.out.2.2.1, HS.out.2.2.2] at hrun
              generalize hmm : (R ++ [s]).length = rl at hrun HA4
              clear hmm
              go_upto_region 9 with fail
              have hA := HA4.out
              clear z0 z1 z2 z3 zf hrun HA4
              have q1 := fun q : Bl w4 => (HR.out _ (below2 hA.ow.bl q.h)).2.2
              have t1 := fun q : Bl w4 => (q1 q).cell 1
              simp only [List.getElem?_cons_succ, List.getElem?_cons_zero] at t1
              have m2 := fun q : Bl w4 => (hA.rw'.below q.h).cell 2
              have m3 := fun q : Bl w4 => (hA.rw'.below q.h).cell 3
              simp only [List.getElem?_cons_succ, List.getElem?_cons_zero, HE3.out, HE4.out] at m2 m3
              have u2 : ∀ q : Bl w4, q.W.cell? ⟨gb, ib + 2, none⟩ = some (.int .u64 (y3 : Int)) := fun q => ((below2 hA.ow.bl q.h).cell (p := ⟨gb, ib + 2, none⟩) hgb).trans b2
              have u3 : ∀ q : Bl w4, q.W.cell? ⟨gb, ib + 3, none⟩ = some (.int .u64 (y4 : Int)) := fun q => ((below2 hA.ow.bl q.h).cell (p := ⟨gb, ib + 3, none⟩) hgb).trans b3
              haveI := bl_ne w4
              refine wp_region_bl (by kernel_rfl) (by kernel_rfl) ?_
              repeat (go_big_quiet_step (first | (go_at_call 89; with_reducible exact bl_call (cc _))))
              refine wpQuiet_nil ?_
              intro wq2 hw'
              obtain ⟨⟨wz2, hq2⟩, hw2⟩ := hw'
              subst hw2
              replace hA := hA.below hq2
              clear q1 t1 m2 m3 u2 u3 this cc
              by_cases hcz : 0 < cz
              · have HF : Hid (HasSps X0 (.slice (some ⟨gb, ib, none⟩) nb cb) (b.drop j) ∧ Own1 X0 wq2 130 (.slice (some ⟨g4, 0, none⟩) rl c4) (R ++ [s]) ∧ AndI six a b (i + 1) j (R ++ [s])) := ⟨hA.sb, hA.ow, HP2.out (by omega)⟩
                clear HP1 HP2 hA b2 b3
                go_wp2_with fail
                go_roundw
                case rel => exact ⟨i + 1, j, R ++ [s], by omega, by go_num, HF⟩
                case measure => simp [Go.RowKit.intOf]; omega
              · have hcz2 : decide (0 < cz) = false := decide_eq_false hcz
                have hn1 : (1 : Int) ≤ (nb : Int) := by omega
                have hn2 : (nb : Int) ≤ (cb : Int) := by omega
                by_cases hc1 : cb = 1
                · have HF : Hid (AndW X0 wq2 b (j + 1) gs (.slice (some ⟨g4, 0, none⟩) rl c4) (.slice (some ⟨gb, ib, none⟩) 0 0) (R ++ [s]) x ∧ AndI six a b i (j + 1) (R ++ [s])) := ⟨⟨hA.ow, HT1.out hc1, hA.rw', hA.ne⟩, HP1.out (by omega)⟩
                  have hnb : nb = 1 := by omega
                  clear HP1 HP2 hA b2 b3
                  subst hc1 hnb
                  go_wp2_with fail
                  go_roundw
                  case rel => exact ⟨j + 1, R ++ [s], by omega, HF⟩
                  case measure => simp [lenOf] <;> omega
                · have HF : Hid (AndW X0 wq2 b (j + 1) gs (.slice (some ⟨g4, 0, none⟩) rl c4) (.slice (some ⟨gb, ib + 4, none⟩) (nb - 1) (cb - 1)) (R ++ [s]) x ∧ AndI six a b i (j + 1) (R ++ [s])) := ⟨⟨hA.ow, HT2.out, hA.rw', hA.ne⟩, HP1.out (by omega)⟩
                  have hc2' : ¬ cb - 1 = 0 := by omega
                  have hc3' : 1 < cb := by omega
                  have hc4' : (1 : Int) < (cb : Int) := by omega
                  clear HP1 HP2 hA b2 b3
                  go_wp2_with fail
                  go_roundw
                  case rel => exact ⟨j + 1, R ++ [s], by omega, HF⟩
                  case measure => simp [lenOf] <;> omega
        · have hje : j = b.length := by rw [HM.out]; omega
          have hsb := hA.sb
          have hdl : (b.drop j).length = 0 := by rw [List.length_drop]; omega
          obtain ⟨o2, cb2, rfl, hq1, hq2⟩ := HasRow.slice hsb
          rw [hdl] at hsb hA ⊢
          replace hAN := and_skip hAN HA'.out hiz hje
          have HF : Hid (HasSps X0 (.slice o2 0 cb2) (b.drop j) ∧ Own1 X0 wi 130 u7 R ∧ AndI six a b (i + 1) j R) := ⟨hsb, hA.ow, hAN⟩
          clear hAN hA hsb hdl hje hq1 hq2
          go_wp2_with fail
          go_roundw
          case rel => exact ⟨i + 1, j, R, by omega, by go_num, HF⟩
          case measure => simp [Go.RowKit.intOf]; omega
    · have hkn : decide ((i : Int) < (n : Int)) = false := decide_eq_false (by omega)
      have hke : i = a.length := by rw [HN.out]; omega
      rw [hke] at hI
      have hE := and_end hI
      have HF : Hid (Own1 w wr 130 u7 R ∧ Row six R ∧ (∀ x, inB R x = (inB a x && inB b x)) ∧ R.length ≤ n + m) := ⟨hO.to HW.out, hE.1, hE.2.1, by have := hE.2.2; rw [HN.out, HM.out] at this; exact this⟩
      clear hE hI hO hSB HI hke
      go_wp2_with fail
      (try rw [Exit.noGoto_ret])
      go_ret
      exact ⟨_, R, rfl, HF.out.1, HF.out.2.1, HF.out.2.2.1, HF.out.2.2.2⟩
end Go.Proofs.Ytmkbijnndbgjgaa.Sp
