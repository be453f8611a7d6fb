/- What readPrefix and readAction read. -/
import Derived.Test.YtopabkkapbaibaaGreatMsgPart
set_option linter.unusedVariables false
namespace Go.Proofs.YtopabkkapbaibaaGreat.Msg
open Go.RowKit
open Go.Proofs.YtopabkkapbaibaaGreat.Addr (Pf okP checkP wideN firstN kP hiN loN adV pfV RowAt below2 below_drew below_new bset RowAt.lt RowAt.cell RowAt.frozen RowAt.below RowAt.drew RowAt.new RowAt.alloc gdrew gset gbelow galloc grefl cells2 cells4 results_cell)

theorem results_cell_tmp1 {fn : Func} {p u : Tmp} {ty : TypeId} (h : fn.results = #[.cell p ty, .tmp u]) (tmps : Array Value) (P : Program) (w : World) :
    (results fn tmps).run P w = ((asAddr (tmps.getD p undef)).run P w).andThen fun a w₁ => ((loadVar ty a).run P w₁).andThen fun v w₂ => .ok (.tuple #[v, tmps.getD u undef]) w₂ := by
  simp only [results, h]
  simp [Sem.run_bind, Result.andThen]
theorem gkeep {W W' : World} {g k : Nat} {cs : List Value} {t : TypeId} (h : RowAt W k cs t) (hg : W.grownBy W' (some g)) (hne : k ≠ g) : RowAt W' k cs t := (hg.block k (RowAt.lt h) (by intro e; injection e with e; exact hne e)).trans h
theorem gof {W W' : World} (g : Nat) (hb : Below W.heap.size W W') : W.grownBy W' (some g) := gbelow (grefl _ _) hb
theorem gset2 {X W : World} {g b k : Nat} {v : Value} (h : X.grownBy W (some g)) (hb : X.heap.size ≤ b) : X.grownBy (W.setCell ⟨b, k, none⟩ v) (some g) := by
  refine ⟨h.os, h.tape, h.output, by simp [World.setCell]; exact h.size, fun j hj hn => ?_⟩
  refine Eq.trans ?_ (h.block j hj hn)
  simp only [World.setCell, Array.getElem?_modify]
  rw [if_neg (by omega)]
theorem gsetO (W : World) (b k : Nat) (v : Value) : W.grownBy (W.setCell ⟨b, k, none⟩ v) (some b) := gset (grefl W _)
set_option maxHeartbeats 2000000 in
theorem closure_any (g m f : Nat) (six : Bool) (many : Nat) (l : List UInt8) (W : World) (h : Rd W g l false) (hm : RowAt W m [.int .i64 (many : Int)] 3) (hf : RowAt W f [.int .u8 (if six then 6 else 4), .int .i64 (if six then 0 else 12)] 137) (hmg : m ≠ g) (hfg : f ≠ g) (hl : (l.length : Int) ≤ 200000000000000) (hk : (many : Int) ≤ 1000) :
    Calls Tryz.prog 79 #[.pointer (some ⟨g, 0, none⟩), .pointer (some ⟨m, 0, none⟩), .pointer (some ⟨f, 0, none⟩)] W (RdPost adV W g (fAd six many l)) := by
  have hbx := below_new (Below.refl _ W) (.cells #[.int .u64 0, .int .u64 0] 28)
  obtain ⟨X, hX⟩ : ∃ X, X = W.alloc (.cells #[.int .u64 0, .int .u64 0] 28) := ⟨_, rfl⟩
  rw [← hX] at hbx
  have rx : RowAt X W.heap.size [.int .u64 0, .int .u64 0] 28 := by rw [hX]; exact RowAt.new _ _ _
  have hgl := RowAt.lt h
  have ct := take_any g l many X (RowAt.below h hbx) hl (by omega)
  have m0 := RowAt.cell (RowAt.below hm hbx) 0
  have hfx := RowAt.below hf hbx
  have cg0 := fun (s : List UInt8) (hs : (s.length : Int) ≤ 1000000) W => gather_any six s W hs
  unfold famV at cg0
  have hmkr : ((if six then 6 else 4 : Int)) = 6 ∨ ((if six then 6 else 4 : Int)) = 4 := by cases six; right; rfl; left; rfl
  generalize (if six then 6 else 4 : Int) = mk at *
  generalize (if six then 0 else 12 : Int) = fr at *
  clear hmkr
  by_cases hc : l.length < many
  · have HF : Hid (fAd six many l = none) := by show _ = _; unfold fAd; rw [if_pos hc]
    have cg := fun W => cg0 [] (by decide) W
    generalize fAd six many l = S at HF ⊢
    generalize gaN six [] = ga at cg
    unfold Addr.adV at cg
    clear cg0
    go_enter Tryz.func79, Tryz.ntmps79
    go_upto_region 1 with fail
    rw [← hX]
    clear hX
    go_wp2_with fail
    go_at_call 70; refine ct.mono ?_; rintro e w1 ⟨h1, h2⟩
    obtain ⟨rfl, rfl⟩ := h1 hc
    clear h1 h2
    obtain ⟨f0, f1', ff⟩ := cells2 hfx
    go_wp2_with fail
    go_at_call 80; refine (cg _).mono ?_; rintro e w2 ⟨rfl, hb2⟩
    have rx2 := RowAt.below rx hb2
    obtain ⟨y0, y1, yf⟩ := cells2 rx2
    have hly := RowAt.lt rx2
    have hB := below2 hbx hb2
    have hR : Rd w2 g l false := RowAt.below h hB
    have HR : Hid (Rd w2 g l false) := hR
    clear hR rx rx2 h hm hf hfx
    go_wp2_with fail
    refine bodyPost_ret (v := .tuple #[adV ga, .bool false]) ?_ rfl ?_
    · rw [results_cell_tmp1 rfl]
      unfold Addr.adV
      go_simp
    · rw [HF.out]
      refine ⟨ga, l, rfl, ?_, gset2 (gset2 (gof g hB) (Nat.le_refl _)) (Nat.le_refl _)⟩
      exact gkeep (gkeep HR.out (Msg.gsetO _ _ _ _) (by omega)) (Msg.gsetO _ _ _ _) (by omega)
  · have hkl : many ≤ l.length := by omega
    have HF : Hid (fAd six many l = some (gaN six (l.take many), l.drop many)) := by show _ = _; unfold fAd; rw [if_neg hc]
    have cg := fun W => cg0 (l.take many) (by rw [List.length_take]; omega) W
    generalize fAd six many l = S at HF ⊢
    generalize gaN six (l.take many) = ga at cg HF
    unfold Addr.adV at cg
    clear cg0
    go_enter Tryz.func79, Tryz.ntmps79
    go_upto_region 1 with fail
    rw [← hX]
    clear hX
    go_wp2_with fail
    go_at_call 70; refine ct.mono ?_; rintro e w1 ⟨h1, h2⟩
    obtain ⟨rfl, hr1, hg1⟩ := h2 hkl
    clear h1 h2
    have hfx1 := gkeep hfx hg1 hfg
    have rx1 := gkeep rx hg1 (by omega)
    obtain ⟨f0, f1', ff⟩ := cells2 hfx1
    go_wp2_with fail
    go_at_call 80; refine (cg _).mono ?_; rintro e w2 ⟨rfl, hb2⟩
    have rx2 := RowAt.below rx1 hb2
    obtain ⟨y0, y1, yf⟩ := cells2 rx2
    have hly := RowAt.lt rx2
    have hG : W.grownBy w2 (some g) := gbelow (grown2 (gof g hbx) hg1) hb2
    have HR : Hid (Rd w2 g (l.drop many) false) := RowAt.below hr1 hb2
    clear rx rx1 rx2 h hm hf hfx hfx1 hr1 hg1
    go_wp2_with fail
    refine bodyPost_ret (v := .tuple #[adV ga, .bool true]) ?_ rfl ?_
    · rw [results_cell_tmp1 rfl]
      unfold Addr.adV
      go_simp
    · rw [HF.out]
      refine ⟨rfl, ?_, gset2 (gset2 hG (Nat.le_refl _)) (Nat.le_refl _)⟩
      exact gkeep (gkeep HR.out (Msg.gsetO _ _ _ _) (by omega)) (Msg.gsetO _ _ _ _) (by omega)
theorem row_new2 (W : World) (cs ds : List Value) (t u : TypeId) : RowAt ((W.alloc (.cells cs.toArray t)).alloc (.cells ds.toArray u)) W.heap.size cs t ∧ RowAt ((W.alloc (.cells cs.toArray t)).alloc (.cells ds.toArray u)) (W.heap.size + 1) ds u := by
  refine ⟨(RowAt.new W cs t).alloc _, ?_⟩
  have := RowAt.new (W.alloc (.cells cs.toArray t)) ds u
  rw [World.size_alloc] at this
  exact this
theorem adV0 : adV 0 = .agg #[.int .u64 0, .int .u64 0] := by unfold Addr.adV Addr.hiN Addr.loN; simp
set_option maxHeartbeats 2000000 in
theorem part_ad (g m f : Nat) (six : Bool) (many : Nat) (st : Option (List UInt8)) (W : World) (h : Rds W g st) (hm : RowAt W m [.int .i64 (many : Int)] 3) (hf : RowAt W f [.int .u8 (if six then 6 else 4), .int .i64 (if six then 0 else 12)] 137) (hmg : m ≠ g) (hfg : f ≠ g) (hl : ∀ l, st = some l → (l.length : Int) ≤ 200000000000000) (hk : (many : Int) ≤ 1000) :
    Calls Tryz.prog 78 #[.pointer (some ⟨g, 0, none⟩), .func (.func 79) #[] #[.pointer (some ⟨m, 0, none⟩), .pointer (some ⟨f, 0, none⟩)]] W fun e w' => e = .returned (adV (part 0 (fAd six many) st).1) ∧ Rds w' g (part 0 (fAd six many) st).2 ∧ W.grownBy w' (some g) := by
  obtain ⟨X, hX⟩ : ∃ X, X = (W.alloc (.cells #[.int .u64 0, .int .u64 0] 28)).alloc (.cells #[.int .u64 0, .int .u64 0] 28) := ⟨_, rfl⟩
  have hbx : Below W.heap.size W X := by rw [hX]; exact below_new (below_new (Below.refl _ _) _) _
  obtain ⟨rx, sx⟩ := row_new2 W [.int .u64 0, .int .u64 0] [.int .u64 0, .int .u64 0] 28 28
  rw [show (W.alloc (.cells [Value.int .u64 0, .int .u64 0].toArray 28)).alloc (.cells [Value.int .u64 0, .int .u64 0].toArray 28) = X from hX.symm] at rx sx
  cases st with
  | none =>
    obtain ⟨l, h⟩ := h
    have hgl := RowAt.lt h
    have h' : Rd X g l true := RowAt.below h hbx
    obtain ⟨x0, x1, xf⟩ := cells2 h'
    obtain ⟨y0, y1, yf⟩ := cells2 rx
    obtain ⟨z0, z1, zf⟩ := cells2 sx
    have hl1 := RowAt.lt rx
    have hl2 := RowAt.lt sx
    have hl3 := RowAt.lt h'
    have HR : Hid (Rd X g l true) := h'
    clear hm hf hk hl h rx sx h'
    go_enter Tryz.func78, Tryz.ntmps78
    go_upto_region 2 with fail
    rw [← hX]
    clear hX
    go_wp2_with fail
    refine bodyPost_ret (v := .agg #[.int .u64 0, .int .u64 0]) ?_ rfl ⟨by rw [show (part 0 (fAd six many) none).1 = 0 from rfl, adV0], ⟨l, ?_⟩, gset2 (gset2 (gof g hbx) (Nat.le_refl _)) (Nat.le_refl _)⟩
    · rw [results_cell rfl]
      go_simp
    · exact gkeep (gkeep HR.out (gsetO _ _ _ _) (by omega)) (gsetO _ _ _ _) (by omega)
  | some l =>
    have h : Rd W g l false := h
    have hgl := RowAt.lt h
    have h' : Rd X g l false := RowAt.below h hbx
    have cr := closure_any g m f six many l X h' (RowAt.below hm hbx) (RowAt.below hf hbx) hmg hfg (hl l rfl) hk
    obtain ⟨x0, x1, xf⟩ := cells2 h'
    clear hm hf hk hl h
    generalize hS : fAd six many l = S at cr
    cases S with
    | none =>
      have HR : Hid (part 0 (fAd six many) (some l) = (0, none)) := part_no hS
      clear hS
      generalize part 0 (fAd six many) (some l) = R at HR ⊢
      go_enter Tryz.func78, Tryz.ntmps78
      go_upto_region 2 with fail
      rw [← hX]
      clear hX
      go_wp2_with fail
      go_at_call 79; refine cr.mono ?_; rintro e w1 ⟨v, t, rfl, hr, hg⟩
      have rx1 := gkeep rx hg (by omega)
      have sx1 := gkeep sx hg (by omega)
      have hG := grown2 (gof g hbx) hg
      clear x0 x1 xf rx sx h' hg
      unfold Addr.adV
      obtain ⟨x0, x1, xf⟩ := cells2 hr
      obtain ⟨y0, y1, yf⟩ := cells2 rx1
      obtain ⟨z0, z1, zf⟩ := cells2 sx1
      have hl1 := RowAt.lt rx1
      have hl2 := RowAt.lt sx1
      have hl3 := RowAt.lt hr
      have HRD : Hid (Rd w1 g t false) := hr
      clear hr rx1 sx1
      go_wp2_with fail
      refine bodyPost_ret (v := .agg #[.int .u64 0, .int .u64 0]) ?_ rfl ⟨by rw [HR.out, adV0], by rw [HR.out]; exact ⟨t, RowAt.alloc (gkeep (gkeep (set1 HRD.out 1 (.bool true)) (gsetO _ _ _ _) (by omega)) (gsetO _ _ _ _) (by omega)) _⟩, galloc (gset2 (gset2 (gset hG) (Nat.le_refl _)) (Nat.le_refl _)) _⟩
      rw [results_cell rfl]
      go_simp
    | some p =>
      obtain ⟨v, t⟩ := p
      have HR : Hid (part 0 (fAd six many) (some l) = (v, some t)) := part_yes hS
      clear hS
      generalize part 0 (fAd six many) (some l) = R at HR ⊢
      go_enter Tryz.func78, Tryz.ntmps78
      go_upto_region 2 with fail
      rw [← hX]
      clear hX
      go_wp2_with fail
      go_at_call 79; refine cr.mono ?_; rintro e w1 ⟨rfl, hr, hg⟩
      have rx1 := gkeep rx hg (by omega)
      have sx1 := gkeep sx hg (by omega)
      have hG := grown2 (gof g hbx) hg
      clear x0 x1 xf rx sx h' hg
      unfold Addr.adV
      obtain ⟨y0, y1, yf⟩ := cells2 rx1
      have hl1 := RowAt.lt rx1
      have HRD : Hid (Rd w1 g t false) := hr
      clear hr rx1 sx1
      go_wp2_with fail
      refine bodyPost_ret (v := .agg #[.int .u64 (hiN v : Int), .int .u64 (loN v : Int)]) ?_ rfl ⟨by rw [HR.out]; rfl, by rw [HR.out]; exact RowAt.alloc (gkeep (gkeep HRD.out (gsetO _ _ _ _) (by omega)) (gsetO _ _ _ _) (by omega)) _, galloc (gset2 (gset2 hG (Nat.le_refl _)) (Nat.le_refl _)) _⟩
      rw [results_cell rfl]
      go_simp
end Go.Proofs.YtopabkkapbaibaaGreat.Msg
