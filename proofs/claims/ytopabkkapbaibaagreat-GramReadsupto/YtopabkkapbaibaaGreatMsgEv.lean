/- What readEvent reads. -/
import Derived.Test.YtopabkkapbaibaaGreatMsgPref3
set_option linter.unusedVariables false
namespace Go.Proofs.YtopabkkapbaibaaGreat.Msg
open Go.RowKit
open Go.Proofs.YtopabkkapbaibaaGreat.Addr (Pf okP checkP wideN firstN kP hiN loN adV pfV RowAt below2 below_drew below_new bset RowAt.lt RowAt.cell RowAt.frozen RowAt.below RowAt.drew RowAt.new RowAt.alloc gdrew gset gbelow galloc grefl cells2 cells4 results_cell)

/-- what is read behind an event's head -/
def rdRest (k : Nat) (a : Int) (b : Nat) (c : Int) (st : Option (List UInt8)) : Ev × Option (List UInt8) :=
  if k = 3 then (⟨k, a, b, c, (rdP st).1, (rdA (rdP st).2).1, 0, 0⟩, (rdA (rdP st).2).2)
  else if k = 4 then (⟨k, a, b, c, (rdP st).1, zeroA, 0, 0⟩, (rdP st).2)
  else if k = 5 then (⟨k, a, b, c, zeroPf, zeroA, (part (0 : Int) fI st).1, (part (0 : Int) fI (part (0 : Int) fI st).2).1⟩, (part (0 : Int) fI (part (0 : Int) fI st).2).2)
  else if k = 6 then (⟨k, a, b, c, zeroPf, zeroA, (part (0 : Int) fI st).1, 0⟩, (part (0 : Int) fI st).2)
  else (⟨k, a, b, c, zeroPf, zeroA, 0, 0⟩, st)
def rdE (st : Option (List UInt8)) : Ev × Option (List UInt8) :=
  rdRest (part (0 : Nat) f1 st).1 (part (0 : Int) fI (part (0 : Nat) f1 st).2).1 (part (0 : Nat) rdN (part (0 : Int) fI (part (0 : Nat) f1 st).2).2).1 (part (0 : Int) fI (part (0 : Nat) rdN (part (0 : Int) fI (part (0 : Nat) f1 st).2).2).2).1 (part (0 : Int) fI (part (0 : Nat) rdN (part (0 : Int) fI (part (0 : Nat) f1 st).2).2).2).2
/-- the boxes of readEvent -/
structure RE (W V : World) (g : Nat) (st : Option (List UInt8)) (cs : List Value) : Prop where
  rr : RowAt V W.heap.size (evC zeroE) 35
  ee : RowAt V (W.heap.size + 1) cs 35
  rd : Rds V g st
  gr : W.grownBy V (some g)
  gl : g < W.heap.size
theorem RE.call {W V V' : World} {g : Nat} {st st' : Option (List UInt8)} {cs : List Value} (h : RE W V g st cs) (hr : Rds V' g st') (hg : V.grownBy V' (some g)) : RE W V' g st' cs := by
  have := h.gl
  exact ⟨gkeep h.rr hg (by omega), gkeep h.ee hg (by omega), hr, grown2 h.gr hg, h.gl⟩
theorem RE.set {W V : World} {g : Nat} {st : Option (List UInt8)} {cs : List Value} (h : RE W V g st cs) (k : Nat) (v : Value) : RE W (V.setCell ⟨W.heap.size + 1, k, none⟩ v) g st (cs.set k v) := by
  have := h.gl
  exact ⟨gkeep h.rr (gsetO _ _ _ _) (by omega), set1 h.ee k v, rds_gkeep h.rd (gsetO _ _ _ _) (by omega), gset2 h.gr (by omega), h.gl⟩
theorem cells12 {W : World} {b : Nat} {a0 a1 a2 a3 a4 a5 a6 a7 a8 a9 a10 a11 : Value} {t : TypeId} (h : RowAt W b [a0, a1, a2, a3, a4, a5, a6, a7, a8, a9, a10, a11] t) :
    (W.cell? ⟨b, 0, none⟩ = some a0 ∧ W.cell? ⟨b, 1, none⟩ = some a1 ∧ W.cell? ⟨b, 2, none⟩ = some a2 ∧ W.cell? ⟨b, 3, none⟩ = some a3 ∧ W.cell? ⟨b, 4, none⟩ = some a4 ∧ W.cell? ⟨b, 5, none⟩ = some a5) ∧ (W.cell? ⟨b, 6, none⟩ = some a6 ∧ W.cell? ⟨b, 7, none⟩ = some a7 ∧ W.cell? ⟨b, 8, none⟩ = some a8 ∧ W.cell? ⟨b, 9, none⟩ = some a9 ∧ W.cell? ⟨b, 10, none⟩ = some a10 ∧ W.cell? ⟨b, 11, none⟩ = some a11) ∧ (∀ k, W.frozen? ⟨b, k, none⟩ = false) ∧ b < W.heap.size :=
  ⟨⟨RowAt.cell h 0, RowAt.cell h 1, RowAt.cell h 2, RowAt.cell h 3, RowAt.cell h 4, RowAt.cell h 5⟩, ⟨RowAt.cell h 6, RowAt.cell h 7, RowAt.cell h 8, RowAt.cell h 9, RowAt.cell h 10, RowAt.cell h 11⟩, RowAt.frozen h, RowAt.lt h⟩
theorem zeroC : evC zeroE = [.int .u8 0, .int .i64 0, .int .u64 0, .int .i64 0, .bool false, .int .u64 0, .int .u64 0, .int .i64 0, .int .u8 0, .int .i64 0, .int .i64 0, .int .i64 0] := by
  unfold evC zeroE zeroPf zeroA Addr.hiN Addr.loN; simp
theorem evV_zero : ∀ (k : Nat) (a : Int) (b : Nat) (c : Int) (ac : Ac) (i p : Int), evV ⟨k, a, b, c, zeroPf, ac, i, p⟩ = .agg #[.int .u8 (k : Int), .int .i64 a, .int .u64 (b : Int), .int .i64 c, .bool false, .int .u64 0, .int .u64 0, .int .i64 0, .int .u8 (ac.k : Int), .int .i64 ac.i, .int .i64 i, .int .i64 p] := by
  intro k a b c ac i p
  unfold evV evC zeroPf Addr.hiN Addr.loN; simp
theorem rdP_len {st : Option (List UInt8)} {m : Nat} (h : Len st m) : Len (rdP st).2 m :=
  part_len (fun l v r => fAd_len) (part_len (fun l v r => f1_len) (part_len (fun l v r => fSix_len) h))
set_option maxHeartbeats 8000000 in
theorem readEvent_any (g : Nat) (st : Option (List UInt8)) (W : World) (h : Rds W g st) (hl : Len st 200000000000000) :
    Calls Tryz.prog 31 #[.pointer (some ⟨g, 0, none⟩)] W fun e w' => e = .returned (evV (rdE st).1) ∧ Rds w' g (rdE st).2 ∧ W.grownBy w' (some g) := by
  have hl1 := part_len (z := (0 : Nat)) (f := f1) (fun l v r => f1_len) hl
  have hl2 := part_len (z := (0 : Int)) (f := fI) (fun l v r => fI_len) hl1
  have hl3 := part_len (z := (0 : Nat)) (f := rdN) (fun l v r => rdN_len) hl2
  have hl4 := part_len (z := (0 : Int)) (f := fI) (fun l v r => fI_len) hl3
  have c1 := fun W h => part_ek g st W h (fun l e => by have := hl l e; omega)
  have c2 := fun W h => part_int g (part (0 : Nat) f1 st).2 W h (fun l e => by have := hl1 l e; omega)
  have c3 := fun W h => part_u64 g (part (0 : Int) fI (part (0 : Nat) f1 st).2).2 W h (fun l e => by have := hl2 l e; omega)
  have c4 := fun W h => part_i64 g (part (0 : Nat) rdN (part (0 : Int) fI (part (0 : Nat) f1 st).2).2).2 W h (fun l e => by have := hl3 l e; omega)
  have HA : Hid (rdE st = rdRest (part (0 : Nat) f1 st).1 (part (0 : Int) fI (part (0 : Nat) f1 st).2).1 (part (0 : Nat) rdN (part (0 : Int) fI (part (0 : Nat) f1 st).2).2).1 (part (0 : Int) fI (part (0 : Nat) rdN (part (0 : Int) fI (part (0 : Nat) f1 st).2).2).2).1 (part (0 : Int) fI (part (0 : Nat) rdN (part (0 : Int) fI (part (0 : Nat) f1 st).2).2).2).2) := rfl
  generalize rdE st = R at HA ⊢
  generalize part (0 : Nat) f1 st = P1 at *
  obtain ⟨k, s1⟩ := P1
  simp only at *
  generalize part (0 : Int) fI s1 = P2 at *
  obtain ⟨a, s2⟩ := P2
  simp only at *
  generalize part (0 : Nat) rdN s2 = P3 at *
  obtain ⟨b, s3⟩ := P3
  simp only at *
  generalize part (0 : Int) fI s3 = P4 at *
  obtain ⟨c, s4⟩ := P4
  simp only at *
  clear hl1 hl2 hl3
  obtain ⟨X, hX⟩ : ∃ X, X = (W.alloc (.cells #[.int .u8 0, .int .i64 0, .int .u64 0, .int .i64 0, .bool false, .int .u64 0, .int .u64 0, .int .i64 0, .int .u8 0, .int .i64 0, .int .i64 0, .int .i64 0] 35)).alloc (.cells #[.int .u8 0, .int .i64 0, .int .u64 0, .int .i64 0, .bool false, .int .u64 0, .int .u64 0, .int .i64 0, .int .u8 0, .int .i64 0, .int .i64 0, .int .i64 0] 35) := ⟨_, rfl⟩
  have hbx : Below W.heap.size W X := by rw [hX]; exact below_new (below_new (Below.refl _ _) _) _
  obtain ⟨rx, sx⟩ := row_new2 W [.int .u8 0, .int .i64 0, .int .u64 0, .int .i64 0, .bool false, .int .u64 0, .int .u64 0, .int .i64 0, .int .u8 0, .int .i64 0, .int .i64 0, .int .i64 0] [.int .u8 0, .int .i64 0, .int .u64 0, .int .i64 0, .bool false, .int .u64 0, .int .u64 0, .int .i64 0, .int .u8 0, .int .i64 0, .int .i64 0, .int .i64 0] 35 35
  rw [show (W.alloc (.cells ([.int .u8 0, .int .i64 0, .int .u64 0, .int .i64 0, .bool false, .int .u64 0, .int .u64 0, .int .i64 0, .int .u8 0, .int .i64 0, .int .i64 0, .int .i64 0] : List Value).toArray 35)).alloc (.cells ([.int .u8 0, .int .i64 0, .int .u64 0, .int .i64 0, .bool false, .int .u64 0, .int .u64 0, .int .i64 0, .int .u8 0, .int .i64 0, .int .i64 0, .int .i64 0] : List Value).toArray 35) = X from hX.symm] at rx sx
  have hE : RE W X g st [.int .u8 0, .int .i64 0, .int .u64 0, .int .i64 0, .bool false, .int .u64 0, .int .u64 0, .int .i64 0, .int .u8 0, .int .i64 0, .int .i64 0, .int .i64 0] := ⟨by rw [zeroC]; exact rx, sx, rds_keep h hbx, gof g hbx, rds_lt h⟩
  clear h rx sx hbx
  go_enter Tryz.func31, Tryz.ntmps31
  go_upto_region 2 with fail
  rw [← hX]
  clear hX
  go_wp2_with fail
  go_at_call 48; refine (c1 _ hE.rd).mono ?_; rintro e w1 ⟨rfl, hr1, hg1⟩
  replace hE := hE.call hr1 hg1
  clear hr1 hg1
  obtain ⟨⟨y0, y1, y2, y3, y4, y5⟩, ⟨y6, y7, y8, y9, y10, y11⟩, yf, hly⟩ := cells12 hE.ee
  replace hE := hE.set 0 (.int .u8 (k : Int))
  replace hE : RE W (w1.setCell ⟨W.heap.size + 1, 0, none⟩ (.int .u8 (k : Int))) g s1 [.int .u8 (k : Int), .int .i64 0, .int .u64 0, .int .i64 0, .bool false, .int .u64 0, .int .u64 0, .int .i64 0, .int .u8 0, .int .i64 0, .int .i64 0, .int .i64 0] := hE
  go_upto_region 3 with fail
  obtain ⟨Y, hY⟩ : ∃ Y, Y = (w1.setCell ⟨W.heap.size + 1, 0, none⟩ (.int .u8 (k : Int))) := ⟨_, rfl⟩
  rw [← hY] at hE ⊢
  clear hY y0 y1 y2 y3 y4 y5 y6 y7 y8 y9 y10 y11 yf hly
  clear w1
  go_wp2_with fail
  go_at_call 50; refine (c2 _ hE.rd).mono ?_; rintro e w1 ⟨rfl, hr1, hg1⟩
  replace hE := hE.call hr1 hg1
  clear hr1 hg1
  obtain ⟨⟨y0, y1, y2, y3, y4, y5⟩, ⟨y6, y7, y8, y9, y10, y11⟩, yf, hly⟩ := cells12 hE.ee
  replace hE := hE.set 1 (.int .i64 a)
  replace hE : RE W (w1.setCell ⟨W.heap.size + 1, 1, none⟩ (.int .i64 a)) g s2 [.int .u8 (k : Int), .int .i64 a, .int .u64 0, .int .i64 0, .bool false, .int .u64 0, .int .u64 0, .int .i64 0, .int .u8 0, .int .i64 0, .int .i64 0, .int .i64 0] := hE
  go_upto_region 4 with fail
  obtain ⟨Y, hY⟩ : ∃ Y, Y = (w1.setCell ⟨W.heap.size + 1, 1, none⟩ (.int .i64 a)) := ⟨_, rfl⟩
  rw [← hY] at hE ⊢
  clear hY y0 y1 y2 y3 y4 y5 y6 y7 y8 y9 y10 y11 yf hly
  clear w1
  go_wp2_with fail
  go_at_call 52; refine (c3 _ hE.rd).mono ?_; rintro e w1 ⟨rfl, hr1, hg1⟩
  replace hE := hE.call hr1 hg1
  clear hr1 hg1
  obtain ⟨⟨y0, y1, y2, y3, y4, y5⟩, ⟨y6, y7, y8, y9, y10, y11⟩, yf, hly⟩ := cells12 hE.ee
  replace hE := hE.set 2 (.int .u64 (b : Int))
  replace hE : RE W (w1.setCell ⟨W.heap.size + 1, 2, none⟩ (.int .u64 (b : Int))) g s3 [.int .u8 (k : Int), .int .i64 a, .int .u64 (b : Int), .int .i64 0, .bool false, .int .u64 0, .int .u64 0, .int .i64 0, .int .u8 0, .int .i64 0, .int .i64 0, .int .i64 0] := hE
  go_upto_region 5 with fail
  obtain ⟨Y, hY⟩ : ∃ Y, Y = (w1.setCell ⟨W.heap.size + 1, 2, none⟩ (.int .u64 (b : Int))) := ⟨_, rfl⟩
  rw [← hY] at hE ⊢
  clear hY y0 y1 y2 y3 y4 y5 y6 y7 y8 y9 y10 y11 yf hly
  clear w1
  go_wp2_with fail
  go_at_call 54; refine (c4 _ hE.rd).mono ?_; rintro e w1 ⟨rfl, hr1, hg1⟩
  replace hE := hE.call hr1 hg1
  clear hr1 hg1
  obtain ⟨⟨y0, y1, y2, y3, y4, y5⟩, ⟨y6, y7, y8, y9, y10, y11⟩, yf, hly⟩ := cells12 hE.ee
  replace hE := hE.set 3 (.int .i64 c)
  replace hE : RE W (w1.setCell ⟨W.heap.size + 1, 3, none⟩ (.int .i64 c)) g s4 [.int .u8 (k : Int), .int .i64 a, .int .u64 (b : Int), .int .i64 c, .bool false, .int .u64 0, .int .u64 0, .int .i64 0, .int .u8 0, .int .i64 0, .int .i64 0, .int .i64 0] := hE
  go_upto_region 6 with fail
  obtain ⟨Y, hY⟩ : ∃ Y, Y = (w1.setCell ⟨W.heap.size + 1, 3, none⟩ (.int .i64 c)) := ⟨_, rfl⟩
  rw [← hY] at hE ⊢
  clear hY y0 y1 y2 y3 y4 y5 y6 y7 y8 y9 y10 y11 yf hly
  clear w1
  clear c1 c2 c3 c4
  by_cases h3 : k = 3
  · subst h3
    have hlp := rdP_len hl4
    have cP := fun W h => readPrefix_any g s4 W h hl4
    have cA := fun W h => readAction_any g (rdP s4).2 W h hlp
    have HV : Hid (R = (⟨3, a, b, c, (rdP s4).1, (rdA (rdP s4).2).1, 0, 0⟩, (rdA (rdP s4).2).2)) := by show _ = _; rw [HA.out]; rfl
    clear HA hlp
    generalize rdP s4 = P at *
    obtain ⟨⟨sx, n, ln⟩, s5⟩ := P
    simp only at *
    generalize rdA s5 = Q at *
    obtain ⟨⟨ak, ai⟩, s6⟩ := Q
    simp only at *
    unfold pfV at cP
    unfold acV at cA
    simp only at cP cA
    obtain ⟨⟨y0, y1, y2, y3, y4, y5⟩, ⟨y6, y7, y8, y9, y10, y11⟩, yf, hly⟩ := cells12 hE.ee
    have y0 : Y.cell? ⟨W.heap.size + 1, 0, none⟩ = some (.int .u8 3) := y0
    go_upto_region 8 with fail
    clear y0 y1 y2 y3 y4 y5 y6 y7 y8 y9 y10 y11 yf hly
    go_wp2_with fail
    go_at_call 56; refine (cP _ hE.rd).mono ?_; rintro e w1 ⟨rfl, hr1, hg1⟩
    replace hE := hE.call hr1 hg1
    clear hr1 hg1
    obtain ⟨⟨y0, y1, y2, y3, y4, y5⟩, ⟨y6, y7, y8, y9, y10, y11⟩, yf, hly⟩ := cells12 hE.ee
    replace hE := hE.set 4 (.bool sx)
    replace hE := hE.set 5 (.int .u64 (hiN n : Int))
    replace hE := hE.set 6 (.int .u64 (loN n : Int))
    replace hE := hE.set 7 (.int .i64 ln)
    replace hE : RE W ((((w1.setCell ⟨W.heap.size + 1, 4, none⟩ (.bool sx)).setCell ⟨W.heap.size + 1, 5, none⟩ (.int .u64 (hiN n : Int))).setCell ⟨W.heap.size + 1, 6, none⟩ (.int .u64 (loN n : Int))).setCell ⟨W.heap.size + 1, 7, none⟩ (.int .i64 ln)) g s5 [.int .u8 ((3 : Nat) : Int), .int .i64 a, .int .u64 (b : Int), .int .i64 c, .bool sx, .int .u64 (hiN n : Int), .int .u64 (loN n : Int), .int .i64 ln, .int .u8 0, .int .i64 0, .int .i64 0, .int .i64 0] := hE
    go_upto_region 9 with fail
    obtain ⟨Y, hY⟩ : ∃ Y, Y = ((((w1.setCell ⟨W.heap.size + 1, 4, none⟩ (.bool sx)).setCell ⟨W.heap.size + 1, 5, none⟩ (.int .u64 (hiN n : Int))).setCell ⟨W.heap.size + 1, 6, none⟩ (.int .u64 (loN n : Int))).setCell ⟨W.heap.size + 1, 7, none⟩ (.int .i64 ln)) := ⟨_, rfl⟩
    rw [← hY] at hE ⊢
    clear hY y0 y1 y2 y3 y4 y5 y6 y7 y8 y9 y10 y11 yf hly
    clear w1
    go_wp2_with fail
    go_at_call 57; refine (cA _ hE.rd).mono ?_; rintro e w1 ⟨rfl, hr1, hg1⟩
    replace hE := hE.call hr1 hg1
    clear hr1 hg1
    obtain ⟨⟨y0, y1, y2, y3, y4, y5⟩, ⟨y6, y7, y8, y9, y10, y11⟩, yf, hly⟩ := cells12 hE.ee
    replace hE := hE.set 8 (.int .u8 (ak : Int))
    replace hE := hE.set 9 (.int .i64 ai)
    replace hE : RE W ((w1.setCell ⟨W.heap.size + 1, 8, none⟩ (.int .u8 (ak : Int))).setCell ⟨W.heap.size + 1, 9, none⟩ (.int .i64 ai)) g s6 [.int .u8 ((3 : Nat) : Int), .int .i64 a, .int .u64 (b : Int), .int .i64 c, .bool sx, .int .u64 (hiN n : Int), .int .u64 (loN n : Int), .int .i64 ln, .int .u8 (ak : Int), .int .i64 ai, .int .i64 0, .int .i64 0] := hE
    go_upto_region 17 with fail
    obtain ⟨Y, hY⟩ : ∃ Y, Y = ((w1.setCell ⟨W.heap.size + 1, 8, none⟩ (.int .u8 (ak : Int))).setCell ⟨W.heap.size + 1, 9, none⟩ (.int .i64 ai)) := ⟨_, rfl⟩
    rw [← hY] at hE ⊢
    clear hY y0 y1 y2 y3 y4 y5 y6 y7 y8 y9 y10 y11 yf hly
    clear w1
    obtain ⟨⟨y0, y1, y2, y3, y4, y5⟩, ⟨y6, y7, y8, y9, y10, y11⟩, yf, hly⟩ := cells12 hE.ee
    have hrr := hE.rr
    rw [zeroC] at hrr
    obtain ⟨⟨z0, z1, z2, z3, z4, z5⟩, ⟨z6, z7, z8, z9, z10, z11⟩, zf, hlz⟩ := cells12 hrr
    have HRD := hE.rd
    have hG := hE.gr
    have hgl := hE.gl
    clear hrr hE
    go_wp2_with fail
    refine bodyPost_ret (v := .agg #[.int .u8 3, .int .i64 a, .int .u64 (b : Int), .int .i64 c, .bool sx, .int .u64 (hiN n : Int), .int .u64 (loN n : Int), .int .i64 ln, .int .u8 (ak : Int), .int .i64 ai, .int .i64 0, .int .i64 0]) ?_ rfl ⟨by rw [HV.out]; rfl, ?_, ?_⟩
    · rw [results_cell rfl]
      go_simp
    · rw [HV.out]
      repeat' (first | with_reducible exact HRD | with_reducible refine rds_gkeep ?_ (gsetO _ _ _ _) (by omega))
    · repeat' (first | with_reducible exact hG | with_reducible refine gset2 ?_ (by omega))
  by_cases h4 : k = 4
  · subst h4
    have cP := fun W h => readPrefix_any g s4 W h hl4
    have HV : Hid (R = (⟨4, a, b, c, (rdP s4).1, zeroA, 0, 0⟩, (rdP s4).2)) := by show _ = _; rw [HA.out]; rfl
    clear HA
    generalize rdP s4 = P at *
    obtain ⟨⟨sx, n, ln⟩, s5⟩ := P
    simp only at *
    unfold pfV at cP
    simp only at cP
    obtain ⟨⟨y0, y1, y2, y3, y4, y5⟩, ⟨y6, y7, y8, y9, y10, y11⟩, yf, hly⟩ := cells12 hE.ee
    have y0 : Y.cell? ⟨W.heap.size + 1, 0, none⟩ = some (.int .u8 4) := y0
    go_upto_region 11 with fail
    clear y0 y1 y2 y3 y4 y5 y6 y7 y8 y9 y10 y11 yf hly
    go_wp2_with fail
    go_at_call 56; refine (cP _ hE.rd).mono ?_; rintro e w1 ⟨rfl, hr1, hg1⟩
    replace hE := hE.call hr1 hg1
    clear hr1 hg1
    obtain ⟨⟨y0, y1, y2, y3, y4, y5⟩, ⟨y6, y7, y8, y9, y10, y11⟩, yf, hly⟩ := cells12 hE.ee
    replace hE := hE.set 4 (.bool sx)
    replace hE := hE.set 5 (.int .u64 (hiN n : Int))
    replace hE := hE.set 6 (.int .u64 (loN n : Int))
    replace hE := hE.set 7 (.int .i64 ln)
    replace hE : RE W ((((w1.setCell ⟨W.heap.size + 1, 4, none⟩ (.bool sx)).setCell ⟨W.heap.size + 1, 5, none⟩ (.int .u64 (hiN n : Int))).setCell ⟨W.heap.size + 1, 6, none⟩ (.int .u64 (loN n : Int))).setCell ⟨W.heap.size + 1, 7, none⟩ (.int .i64 ln)) g s5 [.int .u8 ((4 : Nat) : Int), .int .i64 a, .int .u64 (b : Int), .int .i64 c, .bool sx, .int .u64 (hiN n : Int), .int .u64 (loN n : Int), .int .i64 ln, .int .u8 0, .int .i64 0, .int .i64 0, .int .i64 0] := hE
    go_upto_region 17 with fail
    obtain ⟨Y, hY⟩ : ∃ Y, Y = ((((w1.setCell ⟨W.heap.size + 1, 4, none⟩ (.bool sx)).setCell ⟨W.heap.size + 1, 5, none⟩ (.int .u64 (hiN n : Int))).setCell ⟨W.heap.size + 1, 6, none⟩ (.int .u64 (loN n : Int))).setCell ⟨W.heap.size + 1, 7, none⟩ (.int .i64 ln)) := ⟨_, rfl⟩
    rw [← hY] at hE ⊢
    clear hY y0 y1 y2 y3 y4 y5 y6 y7 y8 y9 y10 y11 yf hly
    clear w1
    obtain ⟨⟨y0, y1, y2, y3, y4, y5⟩, ⟨y6, y7, y8, y9, y10, y11⟩, yf, hly⟩ := cells12 hE.ee
    have hrr := hE.rr
    rw [zeroC] at hrr
    obtain ⟨⟨z0, z1, z2, z3, z4, z5⟩, ⟨z6, z7, z8, z9, z10, z11⟩, zf, hlz⟩ := cells12 hrr
    have HRD := hE.rd
    have hG := hE.gr
    have hgl := hE.gl
    clear hrr hE
    go_wp2_with fail
    refine bodyPost_ret (v := .agg #[.int .u8 4, .int .i64 a, .int .u64 (b : Int), .int .i64 c, .bool sx, .int .u64 (hiN n : Int), .int .u64 (loN n : Int), .int .i64 ln, .int .u8 0, .int .i64 0, .int .i64 0, .int .i64 0]) ?_ rfl ⟨by rw [HV.out]; rfl, ?_, ?_⟩
    · rw [results_cell rfl]
      go_simp
    · rw [HV.out]
      repeat' (first | with_reducible exact HRD | with_reducible refine rds_gkeep ?_ (gsetO _ _ _ _) (by omega))
    · repeat' (first | with_reducible exact hG | with_reducible refine gset2 ?_ (by omega))
  by_cases h5 : k = 5
  · subst h5
    have hl5 := part_len (z := (0 : Int)) (f := fI) (fun l v r => fI_len) hl4
    have cI := fun W h => part_int g s4 W h (fun l e => by have := hl4 l e; omega)
    have cJ := fun W h => part_int g (part (0 : Int) fI s4).2 W h (fun l e => by have := hl5 l e; omega)
    have HV : Hid (R = (⟨5, a, b, c, zeroPf, zeroA, (part (0 : Int) fI s4).1, (part (0 : Int) fI (part (0 : Int) fI s4).2).1⟩, (part (0 : Int) fI (part (0 : Int) fI s4).2).2)) := by show _ = _; rw [HA.out]; rfl
    clear HA
    generalize part (0 : Int) fI s4 = P at *
    obtain ⟨i, s5⟩ := P
    simp only at *
    generalize part (0 : Int) fI s5 = P at *
    obtain ⟨j, s6⟩ := P
    simp only at *
    obtain ⟨⟨y0, y1, y2, y3, y4, y5⟩, ⟨y6, y7, y8, y9, y10, y11⟩, yf, hly⟩ := cells12 hE.ee
    have y0 : Y.cell? ⟨W.heap.size + 1, 0, none⟩ = some (.int .u8 5) := y0
    go_upto_region 13 with fail
    clear y0 y1 y2 y3 y4 y5 y6 y7 y8 y9 y10 y11 yf hly
    go_wp2_with fail
    go_at_call 50; refine (cI _ hE.rd).mono ?_; rintro e w1 ⟨rfl, hr1, hg1⟩
    replace hE := hE.call hr1 hg1
    clear hr1 hg1
    obtain ⟨⟨y0, y1, y2, y3, y4, y5⟩, ⟨y6, y7, y8, y9, y10, y11⟩, yf, hly⟩ := cells12 hE.ee
    replace hE := hE.set 10 (.int .i64 i)
    replace hE : RE W (w1.setCell ⟨W.heap.size + 1, 10, none⟩ (.int .i64 i)) g s5 [.int .u8 ((5 : Nat) : Int), .int .i64 a, .int .u64 (b : Int), .int .i64 c, .bool false, .int .u64 0, .int .u64 0, .int .i64 0, .int .u8 0, .int .i64 0, .int .i64 i, .int .i64 0] := hE
    go_upto_region 14 with fail
    obtain ⟨Y, hY⟩ : ∃ Y, Y = (w1.setCell ⟨W.heap.size + 1, 10, none⟩ (.int .i64 i)) := ⟨_, rfl⟩
    rw [← hY] at hE ⊢
    clear hY y0 y1 y2 y3 y4 y5 y6 y7 y8 y9 y10 y11 yf hly
    clear w1
    go_wp2_with fail
    go_at_call 50; refine (cJ _ hE.rd).mono ?_; rintro e w1 ⟨rfl, hr1, hg1⟩
    replace hE := hE.call hr1 hg1
    clear hr1 hg1
    obtain ⟨⟨y0, y1, y2, y3, y4, y5⟩, ⟨y6, y7, y8, y9, y10, y11⟩, yf, hly⟩ := cells12 hE.ee
    replace hE := hE.set 11 (.int .i64 j)
    replace hE : RE W (w1.setCell ⟨W.heap.size + 1, 11, none⟩ (.int .i64 j)) g s6 [.int .u8 ((5 : Nat) : Int), .int .i64 a, .int .u64 (b : Int), .int .i64 c, .bool false, .int .u64 0, .int .u64 0, .int .i64 0, .int .u8 0, .int .i64 0, .int .i64 i, .int .i64 j] := hE
    go_upto_region 17 with fail
    obtain ⟨Y, hY⟩ : ∃ Y, Y = (w1.setCell ⟨W.heap.size + 1, 11, none⟩ (.int .i64 j)) := ⟨_, rfl⟩
    rw [← hY] at hE ⊢
    clear hY y0 y1 y2 y3 y4 y5 y6 y7 y8 y9 y10 y11 yf hly
    clear w1
    obtain ⟨⟨y0, y1, y2, y3, y4, y5⟩, ⟨y6, y7, y8, y9, y10, y11⟩, yf, hly⟩ := cells12 hE.ee
    have hrr := hE.rr
    rw [zeroC] at hrr
    obtain ⟨⟨z0, z1, z2, z3, z4, z5⟩, ⟨z6, z7, z8, z9, z10, z11⟩, zf, hlz⟩ := cells12 hrr
    have HRD := hE.rd
    have hG := hE.gr
    have hgl := hE.gl
    clear hrr hE
    go_wp2_with fail
    refine bodyPost_ret (v := .agg #[.int .u8 5, .int .i64 a, .int .u64 (b : Int), .int .i64 c, .bool false, .int .u64 0, .int .u64 0, .int .i64 0, .int .u8 0, .int .i64 0, .int .i64 i, .int .i64 j]) ?_ rfl ⟨by rw [HV.out]; rw [evV_zero]; rfl, ?_, ?_⟩
    · rw [results_cell rfl]
      go_simp
    · rw [HV.out]
      repeat' (first | with_reducible exact HRD | with_reducible refine rds_gkeep ?_ (gsetO _ _ _ _) (by omega))
    · repeat' (first | with_reducible exact hG | with_reducible refine gset2 ?_ (by omega))
  by_cases h6 : k = 6
  · subst h6
    have cI := fun W h => part_int g s4 W h (fun l e => by have := hl4 l e; omega)
    have HV : Hid (R = (⟨6, a, b, c, zeroPf, zeroA, (part (0 : Int) fI s4).1, 0⟩, (part (0 : Int) fI s4).2)) := by show _ = _; rw [HA.out]; rfl
    clear HA
    generalize part (0 : Int) fI s4 = P at *
    obtain ⟨i, s5⟩ := P
    simp only at *
    obtain ⟨⟨y0, y1, y2, y3, y4, y5⟩, ⟨y6, y7, y8, y9, y10, y11⟩, yf, hly⟩ := cells12 hE.ee
    have y0 : Y.cell? ⟨W.heap.size + 1, 0, none⟩ = some (.int .u8 6) := y0
    go_upto_region 16 with fail
    clear y0 y1 y2 y3 y4 y5 y6 y7 y8 y9 y10 y11 yf hly
    go_wp2_with fail
    go_at_call 50; refine (cI _ hE.rd).mono ?_; rintro e w1 ⟨rfl, hr1, hg1⟩
    replace hE := hE.call hr1 hg1
    clear hr1 hg1
    obtain ⟨⟨y0, y1, y2, y3, y4, y5⟩, ⟨y6, y7, y8, y9, y10, y11⟩, yf, hly⟩ := cells12 hE.ee
    replace hE := hE.set 10 (.int .i64 i)
    replace hE : RE W (w1.setCell ⟨W.heap.size + 1, 10, none⟩ (.int .i64 i)) g s5 [.int .u8 ((6 : Nat) : Int), .int .i64 a, .int .u64 (b : Int), .int .i64 c, .bool false, .int .u64 0, .int .u64 0, .int .i64 0, .int .u8 0, .int .i64 0, .int .i64 i, .int .i64 0] := hE
    go_upto_region 17 with fail
    obtain ⟨Y, hY⟩ : ∃ Y, Y = (w1.setCell ⟨W.heap.size + 1, 10, none⟩ (.int .i64 i)) := ⟨_, rfl⟩
    rw [← hY] at hE ⊢
    clear hY y0 y1 y2 y3 y4 y5 y6 y7 y8 y9 y10 y11 yf hly
    clear w1
    obtain ⟨⟨y0, y1, y2, y3, y4, y5⟩, ⟨y6, y7, y8, y9, y10, y11⟩, yf, hly⟩ := cells12 hE.ee
    have hrr := hE.rr
    rw [zeroC] at hrr
    obtain ⟨⟨z0, z1, z2, z3, z4, z5⟩, ⟨z6, z7, z8, z9, z10, z11⟩, zf, hlz⟩ := cells12 hrr
    have HRD := hE.rd
    have hG := hE.gr
    have hgl := hE.gl
    clear hrr hE
    go_wp2_with fail
    refine bodyPost_ret (v := .agg #[.int .u8 6, .int .i64 a, .int .u64 (b : Int), .int .i64 c, .bool false, .int .u64 0, .int .u64 0, .int .i64 0, .int .u8 0, .int .i64 0, .int .i64 i, .int .i64 0]) ?_ rfl ⟨by rw [HV.out]; rw [evV_zero]; rfl, ?_, ?_⟩
    · rw [results_cell rfl]
      go_simp
    · rw [HV.out]
      repeat' (first | with_reducible exact HRD | with_reducible refine rds_gkeep ?_ (gsetO _ _ _ _) (by omega))
    · repeat' (first | with_reducible exact hG | with_reducible refine gset2 ?_ (by omega))
  have HV : Hid (R = (⟨k, a, b, c, zeroPf, zeroA, 0, 0⟩, s4)) := by show _ = _; rw [HA.out]; unfold rdRest; rw [if_neg h3, if_neg h4, if_neg h5, if_neg h6]
  have q3 : ((k : Int) == 3) = false := beq_eq_false_iff_ne.2 (by omega)
  have q4 : ((k : Int) == 4) = false := beq_eq_false_iff_ne.2 (by omega)
  have q5 : ((k : Int) == 5) = false := beq_eq_false_iff_ne.2 (by omega)
  have q6 : ((k : Int) == 6) = false := beq_eq_false_iff_ne.2 (by omega)
  clear HA h3 h4 h5 h6
  obtain ⟨⟨y0, y1, y2, y3, y4, y5⟩, ⟨y6, y7, y8, y9, y10, y11⟩, yf, hly⟩ := cells12 hE.ee
  have hrr := hE.rr
  rw [zeroC] at hrr
  obtain ⟨⟨z0, z1, z2, z3, z4, z5⟩, ⟨z6, z7, z8, z9, z10, z11⟩, zf, hlz⟩ := cells12 hrr
  have HRD := hE.rd
  have hG := hE.gr
  have hgl := hE.gl
  clear hrr hE
  go_wp2_with fail
  refine bodyPost_ret (v := .agg #[.int .u8 (k : Int), .int .i64 a, .int .u64 (b : Int), .int .i64 c, .bool false, .int .u64 0, .int .u64 0, .int .i64 0, .int .u8 0, .int .i64 0, .int .i64 0, .int .i64 0]) ?_ rfl ⟨by rw [HV.out]; rw [evV_zero]; rfl, ?_, ?_⟩
  · rw [results_cell rfl]
    go_simp
  · rw [HV.out]
    repeat' (first | with_reducible exact HRD | with_reducible refine rds_gkeep ?_ (gsetO _ _ _ _) (by omega))
  · repeat' (first | with_reducible exact hG | with_reducible refine gset2 ?_ (by omega))
end Go.Proofs.YtopabkkapbaibaaGreat.Msg
