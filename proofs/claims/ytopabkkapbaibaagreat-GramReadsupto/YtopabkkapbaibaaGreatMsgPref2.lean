/- What readPrefix and readAction read. -/
import Derived.Test.YtopabkkapbaibaaGreatMsgPref
import Derived.Test.YtopabkkapbaibaaGreatMsgChk
set_option linter.unusedVariables false
namespace Go.Proofs.YtopabkkapbaibaaGreat.Msg
open Go.RowKit
open Go.Proofs.YtopabkkapbaibaaGreat.Addr (Pf okP checkP wideN firstN kP hiN loN adV pfV RowAt below2 below_drew below_new bset RowAt.lt RowAt.cell RowAt.frozen RowAt.below RowAt.drew RowAt.new RowAt.alloc gdrew gset gbelow galloc grefl cells2 cells4 results_cell)

def rdA (st : Option (List UInt8)) : Ac × Option (List UInt8) :=
  if (part (0 : Nat) f1 st).1 = 1 then (⟨1, (part (0 : Int) fI (part (0 : Nat) f1 st).2).1⟩, (part (0 : Int) fI (part (0 : Nat) f1 st).2).2) else (⟨(part (0 : Nat) f1 st).1, 0⟩, (part (0 : Nat) f1 st).2)
/-- what is read leaves no more than there was -/
def Len (st : Option (List UInt8)) (m : Nat) : Prop := ∀ l, st = some l → l.length ≤ m
theorem f1_len {l r : List UInt8} {v : Nat} (h : f1 l = some (v, r)) : r.length ≤ l.length := by
  cases l with
  | nil => simp [f1] at h
  | cons b t => simp [f1] at h; rw [← h.2]; simp
theorem rdN_len {l r : List UInt8} {v : Nat} (h : rdN l = some (v, r)) : r.length ≤ l.length := by
  have := (rdN_back h).2; rw [this, List.length_append]; omega
theorem fI_len {l r : List UInt8} {v : Int} (h : fI l = some (v, r)) : r.length ≤ l.length := by
  unfold fI at h
  cases hr : rdN l with
  | none => rw [hr] at h; simp at h
  | some p =>
    obtain ⟨n, q⟩ := p
    rw [hr] at h
    simp only at h
    split at h
    · simp at h; rw [← h.2]; exact rdN_len hr
    · cases h
theorem fSix_len {l r : List UInt8} {v : Bool} (h : fSix l = some (v, r)) : r.length ≤ l.length := by
  cases l with
  | nil => simp [fSix] at h
  | cons b t =>
    simp only [fSix] at h
    split at h
    · simp at h; rw [← h.2]; simp
    · split at h
      · simp at h; rw [← h.2]; simp
      · cases h
theorem fAd_len {six : Bool} {k : Nat} {l r : List UInt8} {v : Nat} (h : fAd six k l = some (v, r)) : r.length ≤ l.length := by
  unfold fAd at h
  split at h
  · cases h
  · simp at h; rw [← h.2]; simp
theorem part_len {α : Type} {z : α} {f : List UInt8 → Option (α × List UInt8)} (hf : ∀ l v r, f l = some (v, r) → r.length ≤ l.length) {st : Option (List UInt8)} {m : Nat} (h : Len st m) : Len (part z f st).2 m := by
  cases st with
  | none => intro l hl; simp [part] at hl
  | some l =>
    intro r hr
    cases hs : f l with
    | none => rw [part_no hs] at hr; cases hr
    | some p =>
      obtain ⟨v, q⟩ := p
      rw [part_yes hs] at hr
      simp at hr
      subst hr
      exact Nat.le_trans (hf l v q hs) (h l rfl)
theorem rds_keep {W W' : World} {g : Nat} {st : Option (List UInt8)} (h : Rds W g st) (hb : Below W.heap.size W W') : Rds W' g st := by
  cases st with
  | none => obtain ⟨l, h⟩ := h; exact ⟨l, RowAt.below h hb⟩
  | some l => exact RowAt.below h hb
theorem rds_lt {W : World} {g : Nat} {st : Option (List UInt8)} (h : Rds W g st) : g < W.heap.size := by
  cases st with
  | none => obtain ⟨l, h⟩ := h; exact RowAt.lt h
  | some l => exact RowAt.lt h
theorem rds_gkeep {W W' : World} {g b : Nat} {st : Option (List UInt8)} (h : Rds W g st) (hg : W.grownBy W' (some b)) (hne : g ≠ b) : Rds W' g st := by
  cases st with
  | none => obtain ⟨l, h⟩ := h; exact ⟨l, gkeep h hg hne⟩
  | some l => exact gkeep h hg hne
set_option maxHeartbeats 2000000 in
theorem readAction_any (g : Nat) (st : Option (List UInt8)) (W : World) (h : Rds W g st) (hl : Len st 200000000000000) :
    Calls Tryz.prog 57 #[.pointer (some ⟨g, 0, none⟩)] W fun e w' => e = .returned (acV (rdA st).1) ∧ Rds w' g (rdA st).2 ∧ W.grownBy w' (some g) := by
  have hl2 := part_len (z := (0 : Nat)) (f := f1) (fun l v r => f1_len) hl
  have c1 := fun W h => part_ak g st W h (fun l e => by have := hl l e; omega)
  have c2 := fun W h => part_int g (part (0 : Nat) f1 st).2 W h (fun l e => by have := hl2 l e; omega)
  have HA : Hid (rdA st = if (part (0 : Nat) f1 st).1 = 1 then (⟨1, (part (0 : Int) fI (part (0 : Nat) f1 st).2).1⟩, (part (0 : Int) fI (part (0 : Nat) f1 st).2).2) else (⟨(part (0 : Nat) f1 st).1, 0⟩, (part (0 : Nat) f1 st).2)) := rfl
  generalize rdA st = R at HA ⊢
  generalize part (0 : Nat) f1 st = P at *
  obtain ⟨k, s1⟩ := P
  simp only at *
  generalize part (0 : Int) fI s1 = Q at *
  obtain ⟨i, s2⟩ := Q
  simp only at *
  obtain ⟨X, hX⟩ : ∃ X, X = (W.alloc (.cells #[.int .u8 0, .int .i64 0] 33)).alloc (.cells #[.int .u8 0, .int .i64 0] 33) := ⟨_, rfl⟩
  have hbx : Below W.heap.size W X := by rw [hX]; exact below_new (below_new (Below.refl _ _) _) _
  obtain ⟨rx, sx⟩ := row_new2 W [.int .u8 0, .int .i64 0] [.int .u8 0, .int .i64 0] 33 33
  rw [show (W.alloc (.cells [Value.int .u8 0, .int .i64 0].toArray 33)).alloc (.cells [Value.int .u8 0, .int .i64 0].toArray 33) = X from hX.symm] at rx sx
  have hg0 := rds_lt h
  have h' := rds_keep h hbx
  go_enter Tryz.func57, Tryz.ntmps57
  go_upto_region 2 with fail
  rw [← hX]
  clear hX
  go_wp2_with fail
  go_at_call 81; refine (c1 _ h').mono ?_; rintro e w1 ⟨rfl, hr1, hg1⟩
  replace rx := gkeep rx hg1 (by omega)
  replace sx := gkeep sx hg1 (by omega)
  have hG := grown2 (gof g hbx) hg1
  clear hg1 h' h c1
  have sx1 := set1 sx 0 (.int .u8 (k : Int))
  have hr2 := rds_gkeep hr1 (gsetO w1 (W.heap.size + 1) 0 (.int .u8 (k : Int))) (by omega)
  have rx1 := gkeep rx (gsetO w1 (W.heap.size + 1) 0 (.int .u8 (k : Int))) (by omega)
  have hG1 := gset2 (k := 0) (v := .int .u8 (k : Int)) hG (show W.heap.size ≤ W.heap.size + 1 by omega)
  obtain ⟨y0, y1, yf⟩ := cells2 sx
  have hly := RowAt.lt sx
  clear hG rx sx hr1
  go_upto_region 3 with fail
  obtain ⟨Y, hY⟩ : ∃ Y, Y = w1.setCell ⟨W.heap.size + 1, 0, none⟩ (.int .u8 (k : Int)) := ⟨_, rfl⟩
  rw [← hY] at hr2 rx1 sx1 hG1 ⊢
  clear hY y0 y1 yf hly
  have sx1 : RowAt Y (W.heap.size + 1) [.int .u8 (k : Int), .int .i64 0] 33 := sx1
  obtain ⟨y0, y1, yf⟩ := cells2 sx1
  have hly := RowAt.lt sx1
  by_cases hk : k = 1
  · have q : ((k : Int) == 1) = true := by rw [hk]; rfl
    have HV : Hid (R = (⟨1, i⟩, s2)) := by show _ = _; rw [HA.out, if_pos hk]
    subst hk
    clear HA q
    go_wp2_with fail
    go_at_call 50; refine (c2 _ hr2).mono ?_; rintro e w2 ⟨rfl, hr3, hg3⟩
    replace rx1 := gkeep rx1 hg3 (by omega)
    replace sx1 := gkeep sx1 hg3 (by omega)
    have hG2 := grown2 hG1 hg3
    clear hg3 hr2 hG1 y0 y1 yf hly
    obtain ⟨y0, y1, yf⟩ := cells2 sx1
    have hly := RowAt.lt sx1
    obtain ⟨z0, z1, zf⟩ := cells2 rx1
    have hlz := RowAt.lt rx1
    have HRD : Hid (Rds w2 g s2) := hr3
    clear rx1 sx1 hr3
    go_wp2_with fail
    refine bodyPost_ret (v := .agg #[.int .u8 1, .int .i64 i]) ?_ rfl ⟨by rw [HV.out]; rfl, by rw [HV.out]; exact rds_gkeep (rds_gkeep (rds_gkeep HRD.out (gsetO _ _ _ _) (by omega)) (gsetO _ _ _ _) (by omega)) (gsetO _ _ _ _) (by omega), gset2 (gset2 (gset2 hG2 (by omega)) (by omega)) (by omega)⟩
    rw [results_cell rfl]
    go_simp
  · have q : ((k : Int) == 1) = false := beq_eq_false_iff_ne.2 (by omega)
    have HV : Hid (R = (⟨k, 0⟩, s1)) := by show _ = _; rw [HA.out, if_neg hk]
    clear HA hk
    obtain ⟨z0, z1, zf⟩ := cells2 rx1
    have hlz := RowAt.lt rx1
    have HRD : Hid (Rds Y g s1) := hr2
    clear rx1 sx1 hr2
    go_wp2_with fail
    refine bodyPost_ret (v := .agg #[.int .u8 (k : Int), .int .i64 0]) ?_ rfl ⟨by rw [HV.out]; rfl, by rw [HV.out]; exact rds_gkeep (rds_gkeep HRD.out (gsetO _ _ _ _) (by omega)) (gsetO _ _ _ _) (by omega), gset2 (gset2 hG1 (by omega)) (by omega)⟩
    rw [results_cell rfl]
    go_simp
end Go.Proofs.YtopabkkapbaibaaGreat.Msg
