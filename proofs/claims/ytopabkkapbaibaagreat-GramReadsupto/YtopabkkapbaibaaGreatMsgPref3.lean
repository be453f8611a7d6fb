/- What readPrefix reads. -/
import Derived.Test.YtopabkkapbaibaaGreatMsgPref2
set_option linter.unusedVariables false
namespace Go.Proofs.YtopabkkapbaibaaGreat.Msg
open Go.RowKit
open Go.Proofs.YtopabkkapbaibaaGreat.Addr (Pf okP checkP wideN firstN kP hiN loN adV pfV RowAt below2 below_drew below_new bset RowAt.lt RowAt.cell RowAt.frozen RowAt.below RowAt.drew RowAt.new RowAt.alloc gdrew gset gbelow galloc grefl cells2 cells4 results_cell)

theorem cells1 {W : World} {b : Nat} {x : Value} {t : TypeId} (h : RowAt W b [x] t) : W.cell? ⟨b, 0, none⟩ = some x ∧ ∀ k, W.frozen? ⟨b, k, none⟩ = false := ⟨RowAt.cell h 0, RowAt.frozen h⟩
/-- the boxes of what a prefix's last part is read by -/
structure FM (Y W : World) (bf bm : Nat) (six : Bool) (many : Nat) : Prop where
  f : RowAt W bf [.int .u8 (if six then 6 else 4), .int .i64 (if six then 0 else 12)] 137
  m : RowAt W bm [.int .i64 (many : Int)] 3
  bl : Below Y.heap.size Y W
  lf : Y.heap.size ≤ bf
  lm : Y.heap.size ≤ bm
theorem fmA {Z V : World} {six : Bool} {mn : Nat} {mk fr : Int} (hk : Hid (mk = (if six then 6 else 4) ∧ fr = (if six then 0 else 12))) (hb : Below Z.heap.size Z V) : FM Z ((V.alloc (.cells #[.int .u8 mk, .int .i64 fr] 137)).alloc (.cells #[.int .i64 (mn : Int)] 3)) V.heap.size (V.heap.size + 1) six mn := by
  obtain ⟨rfl, rfl⟩ := hk.out
  obtain ⟨h1, h2⟩ := row_new2 V [.int .u8 (if six then 6 else 4), .int .i64 (if six then 0 else 12)] [.int .i64 (mn : Int)] 137 3
  exact ⟨h1, h2, below_new (below_new hb _) _, hb.size, Nat.le_trans hb.size (Nat.le_succ _)⟩
theorem fmB {Z V : World} {six : Bool} {mn : Nat} {mk fr : Int} (hk : Hid (mk = (if six then 6 else 4) ∧ fr = (if six then 0 else 12))) (hb : Below Z.heap.size Z V) : FM Z ((V.alloc (.cells #[.int .i64 (mn : Int)] 3)).alloc (.cells #[.int .u8 mk, .int .i64 fr] 137)) (V.heap.size + 1) V.heap.size six mn := by
  obtain ⟨rfl, rfl⟩ := hk.out
  obtain ⟨h1, h2⟩ := row_new2 V [.int .i64 (mn : Int)] [.int .u8 (if six then 6 else 4), .int .i64 (if six then 0 else 12)] 3 137
  exact ⟨h2, h1, below_new (below_new hb _) _, Nat.le_trans hb.size (Nat.le_succ _), hb.size⟩
theorem size_set (W : World) (a : Go.Addr) (v : Value) : (W.setCell a v).heap.size = W.heap.size := by simp [World.setCell]
theorem fmC {Z V : World} {six : Bool} {mn : Nat} {mk fr : Int} {x y : Value} (hk : Hid (mk = (if six then 6 else 4) ∧ fr = (if six then 0 else 12))) (hb : Below Z.heap.size Z V) (hE : RowAt V Z.heap.size [x, y] 137) : FM Z (((V.setCell ⟨Z.heap.size, 0, none⟩ (.int .u8 mk)).setCell ⟨Z.heap.size, 1, none⟩ (.int .i64 fr)).alloc (.cells #[.int .i64 (mn : Int)] 3)) Z.heap.size V.heap.size six mn := by
  obtain ⟨rfl, rfl⟩ := hk.out
  have hn := RowAt.new ((V.setCell ⟨Z.heap.size, 0, none⟩ (.int .u8 (if six then 6 else 4))).setCell ⟨Z.heap.size, 1, none⟩ (.int .i64 (if six then 0 else 12))) [.int .i64 (mn : Int)] 3
  rw [size_set, size_set] at hn
  exact ⟨(set1 (set1 hE 0 _) 1 _).alloc _, hn, below_new (bset (bset hb (Nat.le_refl _)) (Nat.le_refl _)) _, Nat.le_refl _, hb.size⟩
theorem fmD {Z V : World} {six : Bool} {mn : Nat} {mk fr : Int} {x y z : Value} (hk : Hid (mk = (if six then 6 else 4) ∧ fr = (if six then 0 else 12))) (hb : Below Z.heap.size Z V) (hE : RowAt V Z.heap.size [x, y] 137) (hE3 : RowAt V (Z.heap.size + 1) [z] 3) : FM Z (((V.setCell ⟨Z.heap.size, 0, none⟩ (.int .u8 mk)).setCell ⟨Z.heap.size, 1, none⟩ (.int .i64 fr)).setCell ⟨Z.heap.size + 1, 0, none⟩ (.int .i64 (mn : Int))) Z.heap.size (Z.heap.size + 1) six mn := by
  obtain ⟨rfl, rfl⟩ := hk.out
  exact ⟨gkeep (set1 (set1 hE 0 _) 1 _) (gsetO _ _ _ _) (by omega), set1 (gkeep (gkeep hE3 (gsetO _ _ _ _) (by omega)) (gsetO _ _ _ _) (by omega)) 0 _, bset (bset (bset hb (Nat.le_refl _)) (Nat.le_refl _)) (by omega), Nat.le_refl _, by omega⟩
theorem fmE {Z V : World} {six : Bool} {mn : Nat} {mk fr : Int} {x : Value} (hk : Hid (mk = (if six then 6 else 4) ∧ fr = (if six then 0 else 12))) (hb : Below Z.heap.size Z V) (hE : RowAt V Z.heap.size [x] 3) : FM Z ((V.setCell ⟨Z.heap.size, 0, none⟩ (.int .i64 (mn : Int))).alloc (.cells #[.int .u8 mk, .int .i64 fr] 137)) V.heap.size Z.heap.size six mn := by
  obtain ⟨rfl, rfl⟩ := hk.out
  have hn := RowAt.new (V.setCell ⟨Z.heap.size, 0, none⟩ (.int .i64 (mn : Int))) [.int .u8 (if six then 6 else 4), .int .i64 (if six then 0 else 12)] 137
  rw [size_set] at hn
  exact ⟨hn, (set1 hE 0 _).alloc _, below_new (bset hb (Nat.le_refl _)) _, hb.size, Nat.le_refl _⟩
theorem fmF {Z V : World} {six : Bool} {mn : Nat} {mk fr : Int} {x y z : Value} (hk : Hid (mk = (if six then 6 else 4) ∧ fr = (if six then 0 else 12))) (hb : Below Z.heap.size Z V) (hE : RowAt V Z.heap.size [z] 3) (hE4 : RowAt V (Z.heap.size + 1) [x, y] 137) : FM Z (((V.setCell ⟨Z.heap.size + 1, 0, none⟩ (.int .u8 mk)).setCell ⟨Z.heap.size + 1, 1, none⟩ (.int .i64 fr)).setCell ⟨Z.heap.size, 0, none⟩ (.int .i64 (mn : Int))) (Z.heap.size + 1) Z.heap.size six mn := by
  obtain ⟨rfl, rfl⟩ := hk.out
  exact ⟨gkeep (set1 (set1 hE4 0 _) 1 _) (gsetO _ _ _ _) (by omega), set1 (gkeep (gkeep hE (gsetO _ _ _ _) (by omega)) (gsetO _ _ _ _) (by omega)) 0 _, bset (bset (bset hb (by omega)) (by omega)) (Nat.le_refl _), by omega, Nat.le_refl _⟩
set_option maxHeartbeats 4000000 in
theorem readPrefix_any (g : Nat) (st : Option (List UInt8)) (W : World) (h : Rds W g st) (hl : Len st 200000000000000) :
    Calls Tryz.prog 56 #[.pointer (some ⟨g, 0, none⟩)] W fun e w' => e = .returned (pfV (rdP st).1) ∧ Rds w' g (rdP st).2 ∧ W.grownBy w' (some g) := by
  have hl2 := part_len (z := false) (f := fSix) (fun l v r => fSix_len) hl
  have hl3 := part_len (z := (0 : Nat)) (f := f1) (fun l v r => f1_len) hl2
  have c1 := fun W h => part_six g st W h (fun l e => by have := hl l e; omega)
  have c2 := fun W h => part_by g (part false fSix st).2 W h (fun l e => by have := hl2 l e; omega)
  have hb255 : (part (0 : Nat) f1 (part false fSix st).2).1 ≤ 255 := by
    cases hs : (part false fSix st).2 with
    | none => simp [part]
    | some l =>
      cases l with
      | nil => simp [part, f1]
      | cons b t => have := b.toNat_lt; show b.toNat ≤ 255; omega
  have HA : Hid (rdP st = (⟨(part false fSix st).1, (part 0 (fAd (part false fSix st).1 (manyN (part 0 f1 (part false fSix st).2).1)) (part 0 f1 (part false fSix st).2).2).1, ((part 0 f1 (part false fSix st).2).1 : Int)⟩, (part 0 (fAd (part false fSix st).1 (manyN (part 0 f1 (part false fSix st).2).1)) (part 0 f1 (part false fSix st).2).2).2)) := rfl
  have c3 := fun bf bm W h hm hf h1 h2 => part_ad g bm bf (part false fSix st).1 (manyN (part 0 f1 (part false fSix st).2).1) (part 0 f1 (part false fSix st).2).2 W h hm hf h1 h2 (fun l e => by have := hl3 l e; omega) (by unfold manyN; omega)
  generalize rdP st = R at HA ⊢
  generalize part false fSix st = P at *
  obtain ⟨six, s1⟩ := P
  simp only at *
  generalize part (0 : Nat) f1 s1 = Q at *
  obtain ⟨k, s2⟩ := Q
  simp only at *
  have c4 := fun W => familyOf_any six W
  have c5 := fun W => within_any k W (by omega)
  unfold famV at c4
  generalize part 0 (fAd six (manyN k)) s2 = A at *
  obtain ⟨n, s3⟩ := A
  simp only at *
  obtain ⟨X, hX⟩ : ∃ X, X = (W.alloc (.cells #[.bool false, .int .u64 0, .int .u64 0, .int .i64 0] 30)).alloc (.cells #[.bool false, .int .u64 0, .int .u64 0, .int .i64 0] 30) := ⟨_, rfl⟩
  have hbx : Below W.heap.size W X := by rw [hX]; exact below_new (below_new (Below.refl _ _) _) _
  obtain ⟨rx, sx⟩ := row_new2 W [.bool false, .int .u64 0, .int .u64 0, .int .i64 0] [.bool false, .int .u64 0, .int .u64 0, .int .i64 0] 30 30
  rw [show (W.alloc (.cells [Value.bool false, .int .u64 0, .int .u64 0, .int .i64 0].toArray 30)).alloc (.cells [Value.bool false, .int .u64 0, .int .u64 0, .int .i64 0].toArray 30) = X from hX.symm] at rx sx
  have hg0 := rds_lt h
  have h' := rds_keep h hbx
  go_enter Tryz.func56, Tryz.ntmps56
  go_upto_region 2 with fail
  rw [← hX]
  clear hX
  go_wp2_with fail
  go_at_call 72; refine (c1 _ h').mono ?_; rintro e w1 ⟨rfl, hr1, hg1⟩
  replace rx := gkeep rx hg1 (by omega)
  replace sx := gkeep sx hg1 (by omega)
  have hG := grown2 (gof g hbx) hg1
  clear hg1 h' h c1
  have sx1 := set1 sx 0 (.bool six)
  have hr2 := rds_gkeep hr1 (gsetO w1 (W.heap.size + 1) 0 (.bool six)) (by omega)
  have rx1 := gkeep rx (gsetO w1 (W.heap.size + 1) 0 (.bool six)) (by omega)
  have hG1 := gset2 (k := 0) (v := .bool six) hG (show W.heap.size ≤ W.heap.size + 1 by omega)
  obtain ⟨y0, y1, y2, y3, yf⟩ := cells4 sx
  have hly := RowAt.lt sx
  clear hG rx sx hr1
  go_upto_region 3 with fail
  obtain ⟨Y, hY⟩ : ∃ Y, Y = w1.setCell ⟨W.heap.size + 1, 0, none⟩ (.bool six) := ⟨_, rfl⟩
  rw [← hY] at hr2 rx1 sx1 hG1 ⊢
  clear hY y0 y1 y2 y3 yf hly
  go_wp2_with fail
  go_at_call 74; refine (c2 _ hr2).mono ?_; rintro e w2 ⟨rfl, hr3, hg3⟩
  replace rx := gkeep rx1 hg3 (by omega)
  replace sx := gkeep sx1 hg3 (by omega)
  have hG := grown2 hG1 hg3
  clear hg3 hr2 hG1 c2 rx1 sx1
  have hki : (k : Int) ≤ 255 := by omega
  have sx1 := set1 sx 3 (.int .i64 (k : Int))
  have hr4 := rds_gkeep hr3 (gsetO w2 (W.heap.size + 1) 3 (.int .i64 (k : Int))) (by omega)
  have rx1 := gkeep rx (gsetO w2 (W.heap.size + 1) 3 (.int .i64 (k : Int))) (by omega)
  have hG1 := gset2 (k := 3) (v := .int .i64 (k : Int)) hG (show W.heap.size ≤ W.heap.size + 1 by omega)
  obtain ⟨y0, y1, y2, y3, yf⟩ := cells4 sx
  have hly := RowAt.lt sx
  clear hG rx sx hr3
  go_upto_region 4 with fail
  obtain ⟨Z, hZ⟩ : ∃ Z, Z = w2.setCell ⟨W.heap.size + 1, 3, none⟩ (.int .i64 (k : Int)) := ⟨_, rfl⟩
  rw [← hZ] at hr4 rx1 sx1 hG1 ⊢
  clear hZ y0 y1 y2 y3 yf hly
  have sx1 : RowAt Z (W.heap.size + 1) [.bool six, .int .u64 0, .int .u64 0, .int .i64 (k : Int)] 30 := sx1
  obtain ⟨y0, y1, y2, y3, yf⟩ := cells4 sx1
  have hly := RowAt.lt sx1
  generalize hmk : manyN k = mn at *
  go_cut [4, 5] (fun p4 p5 wc => ∃ (bf bm : Nat), p4 = .pointer (some ⟨bf, 0, none⟩) ∧ p5 = .pointer (some ⟨bm, 0, none⟩) ∧ Hid (FM Z wc bf bm six mn))
  case first =>
    generalize hmk : (if six then 6 else 4 : Int) = mk at *
    generalize hfr : (if six then 0 else 12 : Int) = fr at *
    have hbA : Below Z.heap.size Z Z := Below.refl _ _
    have HSK : Hid (∀ V : World, Below Z.heap.size Z V → V.cell? ⟨W.heap.size + 1, 0, none⟩ = some (.bool six) ∧ V.cell? ⟨W.heap.size + 1, 3, none⟩ = some (.int .i64 (k : Int))) := fun V hb => by
      obtain ⟨a, _, _, b, _⟩ := cells4 (RowAt.below sx1 hb)
      exact ⟨a, b⟩
    have HK : Hid (mk = (if six then 6 else 4) ∧ fr = (if six then 0 else 12)) := ⟨hmk.symm, hfr.symm⟩
    clear sx1 rx1 hr4 hG1 hmk hfr HA c3
    go_region_held3 (fun w' => w'.cell? ⟨W.heap.size + 1, 0, none⟩ = some (.bool six) ∧ w'.cell? ⟨W.heap.size + 1, 3, none⟩ = some (.int .i64 (k : Int)))
      (first
        | (refine HSK.out _ ?_
           repeat' (first | with_reducible exact hbA | with_reducible apply below_drew | with_reducible apply below_new | with_reducible refine bset ?_ (by have := hbA.size; first | omega | (simp; omega))))
        | go_keep)
      (first
        | (go_at_call 77
           refine (c5 _).mono ?_
           rintro e w5 ⟨rfl, rfl⟩)
        | (go_at_call 76
           refine (c4 _).mono ?_
           rintro e w3 ⟨rfl, hb3⟩
           have hbN : Below Z.heap.size Z w3 := below2 (by repeat' (first | with_reducible exact hbA | with_reducible apply below_drew | with_reducible apply below_new)) hb3
           clear hbA
           have hbA := hbN
           clear hbN
           (first | (have hE1 : RowAt w3 Z.heap.size [.int .u8 0, .int .i64 0] 137 := (by first | exact RowAt.below (RowAt.drew (RowAt.new Z [_, _] _)) hb3 | exact RowAt.below (RowAt.drew ((RowAt.new Z [_, _] _).alloc _)) hb3); obtain ⟨f0, f1, ff⟩ := cells2 hE1; have hfl := RowAt.lt hE1) | skip)
           (first | (have hE2 : RowAt w3 Z.heap.size [.int .i64 0] 3 := (by first | exact RowAt.below (RowAt.drew (RowAt.new Z [_] _)) hb3 | exact RowAt.below (RowAt.drew ((RowAt.new Z [_] _).alloc _)) hb3); obtain ⟨g0, gg⟩ := cells1 hE2; have hgl := RowAt.lt hE2) | skip)
           (first | (have hE3 : RowAt w3 (Z.heap.size + 1) [.int .i64 0] 3 := (by exact RowAt.below (RowAt.drew (row_new2 Z [_, _] [_] _ _).2) hb3); obtain ⟨i0, ig⟩ := cells1 hE3; have hil := RowAt.lt hE3) | skip)
           (first | (have hE4 : RowAt w3 (Z.heap.size + 1) [.int .u8 0, .int .i64 0] 137 := (by exact RowAt.below (RowAt.drew (row_new2 Z [_] [_, _] _ _).2) hb3); obtain ⟨j0, j1, jg⟩ := cells2 hE4; have hjl := RowAt.lt hE4) | skip)))
    all_goals go_wp2_with fail
    all_goals go_meet
    all_goals first
      | (refine ⟨_, _, rfl, rfl, ?_⟩; show FM _ _ _ _ _ _; with_reducible exact fmA HK hbA)
      | (refine ⟨_, _, rfl, rfl, ?_⟩; show FM _ _ _ _ _ _; with_reducible exact fmB HK hbA)
      | (refine ⟨_, _, rfl, rfl, ?_⟩; show FM _ _ _ _ _ _; with_reducible exact fmD HK hbA hE1 hE3)
      | (refine ⟨_, _, rfl, rfl, ?_⟩; show FM _ _ _ _ _ _; with_reducible exact fmF HK hbA hE2 hE4)
      | (refine ⟨_, _, rfl, rfl, ?_⟩; show FM _ _ _ _ _ _; with_reducible exact fmC HK hbA hE1)
      | (refine ⟨_, _, rfl, rfl, ?_⟩; show FM _ _ _ _ _ _; with_reducible exact fmE HK hbA hE2)
  case rest =>
    obtain ⟨bf, bm, rfl, rfl, HM⟩ := hcut
    have hM := HM.out
    have hZg : g < Z.heap.size := rds_lt hr4
    have hlf := hM.lf
    have hlm := hM.lm
    have cc := c3 bf bm wc (rds_keep hr4 hM.bl) hM.m hM.f (by omega) (by omega)
    replace rx1 := RowAt.below rx1 hM.bl
    replace sx1 := RowAt.below sx1 hM.bl
    have hG2 := gbelow hG1 hM.bl
    clear y0 y1 y2 y3 yf hly hr4 hG1 HM c3 c4 c5 hM
    go_wp2_with fail
    go_at_call 78; refine cc.mono ?_; rintro e w5 ⟨rfl, hr5, hg5⟩
    replace rx1 := gkeep rx1 hg5 (by omega)
    replace sx1 := gkeep sx1 hg5 (by omega)
    replace hG2 := grown2 hG2 hg5
    have HV : Hid (R = (⟨six, n, (k : Int)⟩, s3)) := HA.out
    clear hg5 HA cc
    obtain ⟨y0, y1, y2, y3, yf⟩ := cells4 sx1
    have hly := RowAt.lt sx1
    obtain ⟨z0, z1, z2, z3, zf⟩ := cells4 rx1
    have hlz := RowAt.lt rx1
    have HRD : Hid (Rds w5 g s3) := hr5
    unfold Addr.adV
    clear rx1 sx1 hr5
    go_wp2_with fail
    refine bodyPost_ret (v := .agg #[.bool six, .int .u64 (hiN n : Int), .int .u64 (loN n : Int), .int .i64 (k : Int)]) ?_ rfl ⟨by rw [HV.out]; rfl, ?_, gset2 (gset2 (gset2 (gset2 (gset2 (gset2 hG2 (by omega)) (by omega)) (Nat.le_refl _)) (Nat.le_refl _)) (Nat.le_refl _)) (Nat.le_refl _)⟩
    · rw [results_cell rfl]
      go_simp
    · rw [HV.out]
      exact rds_gkeep (rds_gkeep (rds_gkeep (rds_gkeep (rds_gkeep (rds_gkeep HRD.out (gsetO _ _ _ _) (by omega)) (gsetO _ _ _ _) (by omega)) (gsetO _ _ _ _) (by omega)) (gsetO _ _ _ _) (by omega)) (gsetO _ _ _ _) (by omega)) (gsetO _ _ _ _) (by omega)
end Go.Proofs.YtopabkkapbaibaaGreat.Msg
