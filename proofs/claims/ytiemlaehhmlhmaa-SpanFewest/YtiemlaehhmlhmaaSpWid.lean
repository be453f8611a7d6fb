/- What span.widest answers. -/
import Derived.Test.YtiemlaehhmlhmaaSpChk
import Derived.Deep.LoopGhost
set_option linter.unusedVariables false
namespace Go.Proofs.Ytiemlaehhmlhmaa.Sp
open Go.RowKit Go.Shelf
open Go.Proofs.Ytiemlaehhmlhmaa.Lk (HasRow hasRow_own addr_add)
open Go.Proofs.Ytiemlaehhmlhmaa.Addr (Pf pfV okP lastN lastE last_any wideN rightB hiN loN adV cmpN cmp_any cmp_le RowAt below2 below_drew below_new bset RowAt.lt RowAt.cell RowAt.frozen RowAt.below RowAt.drew RowAt.new RowAt.alloc RowAt.gkeep cells2 cells4 results_cell gset gbelow grefl gfinal)
def wT (six : Bool) (f t k : Nat) : Bool := okP ⟨six, f, (k : Int)⟩ && decide (lastN ⟨six, f, (k : Int)⟩ ≤ t)
/-- the length of the widest prefix that begins at f and does not go beyond t -/
def wid (six : Bool) (f t : Nat) : Nat := ((List.range (wideN six + 1)).find? (fun k => wT six f t k)).getD (wideN six)
theorem wT_all {six : Bool} {f t : Nat} (hft : f ≤ t) (ht : t ≤ topN six) : wT six f t (wideN six) = true := by
  unfold wT
  have hk : Addr.kP ⟨six, f, (wideN six : Int)⟩ = 0 := by unfold Addr.kP; simp
  rw [Bool.and_eq_true, decide_eq_true_iff]
  constructor
  · rw [Addr.okP_iff]
    have hp := Nat.two_pow_pos (wideN six)
    unfold topN at ht
    refine ⟨⟨by simp, by simp⟩, by simp only; omega, ?_⟩
    simp [Nat.mod_one]
  · unfold lastN Addr.freeN
    rw [hk]
    simpa using hft
theorem wid_at {six : Bool} {f t k : Nat} (hk : k ≤ wideN six) (h : wT six f t k = true) (hn : ∀ j, j < k → wT six f t j = false) : wid six f t = k := by
  unfold wid
  have : (List.range (wideN six + 1)).find? (fun k => wT six f t k) = some k := by
    rw [List.find?_eq_some_iff_getElem]
    refine ⟨h, k, by simp; omega, by simp, fun j hj => ?_⟩
    simp only [List.getElem_range]
    rw [hn j hj]; rfl
  rw [this]; rfl
theorem results_cells {fn : Func} {p q : Tmp} {t1 t2 : TypeId} (h : fn.results = #[.cell p t1, .cell q t2]) (tmps : Array Value) (P : Program) (w : World) :
    (results fn tmps).run P w = ((asAddr (tmps.getD p undef)).run P w).andThen fun a w₁ => ((loadVar t1 a).run P w₁).andThen fun v1 w₂ => ((asAddr (tmps.getD q undef)).run P w₂).andThen fun b w₃ => ((loadVar t2 b).run P w₃).andThen fun v2 w₄ => .ok (.tuple #[v1, v2]) w₄ := by
  simp only [results, h]
  simp [Sem.run_bind, Result.andThen]
theorem row_set1d {W : World} {b : Nat} {x0 x1 x2 x3 : Value} {t : TypeId} (h : RowAt W b [x0, x1, x2, x3] t) (u : Value) : RowAt (W.setCell ⟨b, 3, none⟩ u) b [x0, x1, x2, u] t := by
  have hb : W.heap[b]? = some (.cells #[x0, x1, x2, x3] t (0, 0)) := h
  unfold RowAt
  simp [World.setCell, Array.getElem?_modify, hb]
set_option maxHeartbeats 4000000 in
set_option maxRecDepth 20000 in
theorem widest_any (six : Bool) (f t : Nat) (w : World) (hft : f ≤ t) (ht : t ≤ topN six) :
    Calls Try.prog 55 #[.bool six, adV f, adV t] w fun e w' => e = .returned (.tuple #[pfV ⟨six, f, (wid six f t : Int)⟩, adV (lastN ⟨six, f, (wid six f t : Int)⟩)]) ∧ Below w.heap.size w w' := by
  have htb := top_big six
  have HW : Hid (∀ k, k ≤ wideN six → wT six f t k = true → (∀ j, j < k → wT six f t j = false) → wid six f t = k) := fun k h1 h2 h3 => wid_at h1 h2 h3
  have HALL : Hid (wT six f t (wideN six) = true) := wT_all hft ht
  have HCL : Hid (∀ (k : Nat) (W : World), k ≤ 128 → Calls Try.prog 30 #[pfV ⟨six, f, (k : Int)⟩] W fun e w' => e = .returned (.tuple #[adV (lastE ⟨six, f, (k : Int)⟩).1, .int .i64 (lastE ⟨six, f, (k : Int)⟩).2]) ∧ Below W.heap.size W w') := fun k W hk => last_any ⟨six, f, (k : Int)⟩ W (by simp only; omega) (by show f < _; omega)
  have HCC : Hid (∀ (k : Nat) (W : World), okP ⟨six, f, (k : Int)⟩ = true → Calls Try.prog 31 #[adV (lastN ⟨six, f, (k : Int)⟩), adV t] W fun e w' => e = .returned (.int .i64 (cmpN (lastN ⟨six, f, (k : Int)⟩) t)) ∧ Below W.heap.size W w') := fun k W hk => cmp_any _ t W (by have h1 := Addr.last_lt hk; have h2 : (2 : Nat) ^ wideN six ≤ 2 ^ 128 := Nat.pow_le_pow_right (by decide) (Addr.wideN_le six); simp only at h1; omega) (by omega)
  have HRES : Hid (∀ k, wid six f t = k → pfV ⟨six, f, (wid six f t : Int)⟩ = pfV ⟨six, f, (k : Int)⟩ ∧ adV (lastN ⟨six, f, (wid six f t : Int)⟩) = adV (lastN ⟨six, f, (k : Int)⟩)) := fun k h => by rw [h]; exact ⟨rfl, rfl⟩
  generalize pfV ⟨six, f, (wid six f t : Int)⟩ = P1 at *
  generalize adV (lastN ⟨six, f, (wid six f t : Int)⟩) = P2 at *
  obtain ⟨fa, hfa⟩ : ∃ q, q = hiN f := ⟨_, rfl⟩
  obtain ⟨fb, hfb⟩ : ∃ q, q = loN f := ⟨_, rfl⟩
  obtain ⟨ta, hta⟩ : ∃ q, q = hiN t := ⟨_, rfl⟩
  obtain ⟨tb, htb2⟩ : ∃ q, q = loN t := ⟨_, rfl⟩
  have HAV : Hid (hiN f = fa ∧ loN f = fb ∧ hiN t = ta ∧ loN t = tb) := ⟨hfa.symm, hfb.symm, hta.symm, htb2.symm⟩
  have hwl := Addr.wideN_le six
  unfold adV
  rw [← hfa, ← hfb, ← hta, ← htb2]
  clear hft ht htb hfa hfb hta htb2
  obtain ⟨X, hX⟩ : ∃ X, X = ((((w.alloc (.cells #[.int .u64 (fa : Int), .int .u64 (fb : Int)] 25)).alloc (.cells #[.int .u64 (ta : Int), .int .u64 (tb : Int)] 25)).alloc (.cells #[.bool false, .int .u64 0, .int .u64 0, .int .i64 0] 27)).alloc (.cells #[.int .u64 0, .int .u64 0] 25)).alloc (.cells #[.bool six, .int .u64 (fa : Int), .int .u64 (fb : Int), .int .i64 0] 27) := ⟨_, rfl⟩
  have hB : Below w.heap.size w X := by rw [hX]; exact below_new (below_new (below_new (below_new (below_new (Below.refl _ _) _) _) _) _) _
  have r5 : RowAt X (w.heap.size + 1) [.int .u64 (ta : Int), .int .u64 (tb : Int)] 25 := by
    have h := (((RowAt.new (w.alloc (.cells #[.int .u64 (fa : Int), .int .u64 (fb : Int)] 25)) [.int .u64 (ta : Int), .int .u64 (tb : Int)] 25).alloc (.cells #[.bool false, .int .u64 0, .int .u64 0, .int .i64 0] 27)).alloc (.cells #[.int .u64 0, .int .u64 0] 25)).alloc (.cells #[.bool six, .int .u64 (fa : Int), .int .u64 (fb : Int), .int .i64 0] 27)
    simp only [World.size_alloc] at h
    rw [hX]; exact h
  have r6 : RowAt X (w.heap.size + 1 + 1) [.bool false, .int .u64 0, .int .u64 0, .int .i64 0] 27 := by
    have h := ((RowAt.new ((w.alloc (.cells #[.int .u64 (fa : Int), .int .u64 (fb : Int)] 25)).alloc (.cells #[.int .u64 (ta : Int), .int .u64 (tb : Int)] 25)) [.bool false, .int .u64 0, .int .u64 0, .int .i64 0] 27).alloc (.cells #[.int .u64 0, .int .u64 0] 25)).alloc (.cells #[.bool six, .int .u64 (fa : Int), .int .u64 (fb : Int), .int .i64 0] 27)
    simp only [World.size_alloc] at h
    rw [hX]; exact h
  have r7 : RowAt X (w.heap.size + 1 + 1 + 1) [.int .u64 0, .int .u64 0] 25 := by
    have h := (RowAt.new (((w.alloc (.cells #[.int .u64 (fa : Int), .int .u64 (fb : Int)] 25)).alloc (.cells #[.int .u64 (ta : Int), .int .u64 (tb : Int)] 25)).alloc (.cells #[.bool false, .int .u64 0, .int .u64 0, .int .i64 0] 27)) [.int .u64 0, .int .u64 0] 25).alloc (.cells #[.bool six, .int .u64 (fa : Int), .int .u64 (fb : Int), .int .i64 0] 27)
    simp only [World.size_alloc] at h
    rw [hX]; exact h
  have r8 : RowAt X (w.heap.size + 1 + 1 + 1 + 1) [.bool six, .int .u64 (fa : Int), .int .u64 (fb : Int), .int .i64 ((0 : Nat) : Int)] 27 := by
    have h := RowAt.new ((((w.alloc (.cells #[.int .u64 (fa : Int), .int .u64 (fb : Int)] 25)).alloc (.cells #[.int .u64 (ta : Int), .int .u64 (tb : Int)] 25)).alloc (.cells #[.bool false, .int .u64 0, .int .u64 0, .int .i64 0] 27)).alloc (.cells #[.int .u64 0, .int .u64 0] 25)) [.bool six, .int .u64 (fa : Int), .int .u64 (fb : Int), .int .i64 0] 27
    simp only [World.size_alloc] at h
    rw [hX]; exact h
  obtain ⟨g5, hg5⟩ : ∃ q, q = w.heap.size + 1 := ⟨_, rfl⟩
  obtain ⟨g6, hg6⟩ : ∃ q, q = w.heap.size + 1 + 1 := ⟨_, rfl⟩
  obtain ⟨g7, hg7⟩ : ∃ q, q = w.heap.size + 1 + 1 + 1 := ⟨_, rfl⟩
  obtain ⟨g8, hg8⟩ : ∃ q, q = w.heap.size + 1 + 1 + 1 + 1 := ⟨_, rfl⟩
  rw [← hg5] at r5
  rw [← hg6] at r6
  rw [← hg7] at r7
  rw [← hg8] at r8
  have n1 : g5 ≠ g8 := by omega
  have n2 : g6 ≠ g8 := by omega
  have n3 : g7 ≠ g8 := by omega
  have l6 : w.heap.size ≤ g6 := by omega
  have l7 : w.heap.size ≤ g7 := by omega
  have l8 : w.heap.size ≤ g8 := by omega
  have n67 : g6 ≠ g7 := by omega
  have l69 : g6 < X.heap.size := r6.lt
  have l79 : g7 < X.heap.size := r7.lt
  go_enter Try.func55, Try.ntmps55
  go_wp2_with fail
  rw [← hX, ← hg8, ← hg7, ← hg6, ← hg5]
  clear hX hg5 hg6 hg7 hg8
  have H0 : Hid (RowAt X g5 [.int .u64 (ta : Int), .int .u64 (tb : Int)] 25 ∧ RowAt X g6 [.bool false, .int .u64 0, .int .u64 0, .int .i64 0] 27 ∧ RowAt X g7 [.int .u64 0, .int .u64 0] 25 ∧ RowAt X g8 [.bool six, .int .u64 (fa : Int), .int .u64 (fb : Int), .int .i64 ((0 : Nat) : Int)] 27 ∧ Below w.heap.size w X) := ⟨r5, r6, r7, r8, hB⟩
  clear r5 r6 r7 r8 hB
  go_loopg [10] (wideN six + 1) (fun gk y wr => ∃ k : Nat, k + gk = wideN six + 1 ∧ Hid ((RowAt wr g5 [.int .u64 (ta : Int), .int .u64 (tb : Int)] 25 ∧ RowAt wr g6 [.bool false, .int .u64 0, .int .u64 0, .int .i64 0] 27 ∧ RowAt wr g7 [.int .u64 0, .int .u64 0] 25 ∧ RowAt wr g8 [.bool six, .int .u64 (fa : Int), .int .u64 (fb : Int), .int .i64 ((k : Nat) : Int)] 27 ∧ Below w.heap.size w wr) ∧ ∀ j, j < k → wT six f t j = false))
  case atStart => exact ⟨0, by omega, H0.out, fun j hj => absurd hj (Nat.not_lt_zero _)⟩
  case round =>
    clear H0
    obtain ⟨k, hkg, HI⟩ := hrel
    obtain ⟨⟨r5, r6, r7, r8, hB⟩, hF⟩ := HI.out
    have HF : Hid (∀ j, j < k → wT six f t j = false) := hF
    have hkw : k ≤ wideN six := by
      rcases Nat.lt_or_ge (wideN six) k with h | h
      · have := hF _ h; rw [HALL.out] at this; cases this
      · exact h
    have hk8 : k ≤ 128 := by omega
    have cl := HCL.out k wr hk8
    have HG : Hid (∃ g', gk = g' + 1 ∧ k + 1 + g' = wideN six + 1) := ⟨gk - 1, by omega, by omega⟩
    clear HI hF
    have hpv : pfV ⟨six, f, (k : Int)⟩ = .agg #[.bool six, .int .u64 (fa : Int), .int .u64 (fb : Int), .int .i64 (k : Int)] := by rw [← HAV.out.1, ← HAV.out.2.1]; rfl
    rw [hpv] at cl
    have HPV : Hid (pfV ⟨six, f, (k : Int)⟩ = .agg #[.bool six, .int .u64 (fa : Int), .int .u64 (fb : Int), .int .i64 (k : Int)]) := hpv
    clear hpv
    obtain ⟨p0, p1, p2, p3, pf⟩ := cells4 r8
    cases hok : okP ⟨six, f, (k : Int)⟩
    · have hle : lastE ⟨six, f, (k : Int)⟩ = (0, 2) := by unfold lastE; rw [hok]; rfl
      rw [hle] at cl
      have HNX : Hid (∀ j, j < k + 1 → wT six f t j = false) := fun j hj => by
        by_cases e : j = k
        · subst e; unfold wT; rw [hok]; rfl
        · exact HF.out j (by omega)
      have ha0 : adV 0 = .agg #[.int .u64 0, .int .u64 0] := rfl
      simp only [ha0] at cl
      clear hle hok ha0 HCC HRES HW
      go_wp2_with fail
      go_at_call 30; refine cl.mono ?_; rintro e w2 ⟨rfl, hb⟩
      replace r5 := r5.below hb
      replace r6 := r6.below hb
      replace r7 := r7.below hb
      replace r8 := r8.below hb
      replace hB := below2 hB hb
      have hl6' := r6.lt
      have hl7' := r7.lt
      clear p0 p1 p2 p3 pf hb cl
      obtain ⟨V, hV⟩ : ∃ V, V = w2.alloc (.cells #[.int .u64 0, .int .u64 0] 25) := ⟨_, rfl⟩
      have hbV : Below w2.heap.size w2 V := by rw [hV]; exact below_new (Below.refl _ _) _
      have r9 : RowAt V w2.heap.size [.int .u64 0, .int .u64 0] 25 := by rw [hV]; exact RowAt.new _ _ _
      go_upto_region 3 with fail
      rw [← hV]
      replace r5 := r5.below hbV
      replace r6 := r6.below hbV
      replace r7 := r7.below hbV
      replace r8 := r8.below hbV
      replace hB := below2 hB hbV
      clear hV hbV
      have hl6 : g6 < w2.heap.size := hl6'
      have hl7 : g7 < w2.heap.size := hl7'
      obtain ⟨g9, hg9⟩ : ∃ q, q = w2.heap.size := ⟨_, rfl⟩
      rw [← hg9] at r9 hl6 hl7 ⊢
      clear hg9
      clear r9
      obtain ⟨g', hg1, hg2⟩ := HG.out
      obtain ⟨p0, p1, p2, p3, pf⟩ := cells4 r8
      obtain ⟨Y, hY⟩ : ∃ Y, Y = V.setCell ⟨g8, 3, none⟩ (.int .i64 ((k + 1 : Nat) : Int)) := ⟨_, rfl⟩
      have hgY : V.grownBy Y (some g8) := by rw [hY]; exact gset (grefl _ _)
      have q8 := row_set1d r8 (.int .i64 ((k + 1 : Nat) : Int))
      rw [← hY] at q8
      have HF2 : Hid ((RowAt Y g5 [.int .u64 (ta : Int), .int .u64 (tb : Int)] 25 ∧ RowAt Y g6 [.bool false, .int .u64 0, .int .u64 0, .int .i64 0] 27 ∧ RowAt Y g7 [.int .u64 0, .int .u64 0] 25 ∧ RowAt Y g8 [.bool six, .int .u64 (fa : Int), .int .u64 (fb : Int), .int .i64 ((k + 1 : Nat) : Int)] 27 ∧ Below w.heap.size w Y) ∧ ∀ j, j < k + 1 → wT six f t j = false) := ⟨⟨r5.gkeep hgY (by simpa using n1), r6.gkeep hgY (by simpa using n2), r7.gkeep hgY (by simpa using n3), q8, by rw [hY]; exact bset hB l8⟩, HNX.out⟩
      have HKK : Hid (((k : Int) + 1) = ((k + 1 : Nat) : Int)) := by show _ = _; omega
      have hk128 : (k : Int) ≤ 128 := by omega
      have hwr : IntKind.i64.wrap ((k : Int) + 1) = (k : Int) + 1 := by rw [IntKind.wrap_i64]; omega
      rw [← HKK.out] at hY
      clear r5 r6 r7 r8 hB hgY q8 HNX
      go_wp2_with fail
      (try rw [hwr])
      (try rw [← hY])
      go_roundg g'
      case rel => exact ⟨k + 1, by omega, by first | exact HF2 | (rw [hY] at HF2; exact HF2)⟩
      case measure => omega
    · have hle : lastE ⟨six, f, (k : Int)⟩ = (lastN ⟨six, f, (k : Int)⟩, 0) := by unfold lastE; rw [hok]; rfl
      rw [hle] at cl
      have cc := fun W => HCC.out k W hok
      have hcl : decide (cmpN (lastN ⟨six, f, (k : Int)⟩) t ≤ 0) = decide (lastN ⟨six, f, (k : Int)⟩ ≤ t) := cmp_le
      have HT1 : Hid (cmpN (lastN ⟨six, f, (k : Int)⟩) t ≤ 0 → wid six f t = k) := fun h => by
        refine HW.out k hkw ?_ HF.out
        unfold wT
        rw [hok, ← hcl, decide_eq_true h]; rfl
      have HT2 : Hid (¬ cmpN (lastN ⟨six, f, (k : Int)⟩) t ≤ 0 → ∀ j, j < k + 1 → wT six f t j = false) := fun h j hj => by
        by_cases e : j = k
        · subst e; unfold wT; rw [hok, ← hcl, decide_eq_false h]; rfl
        · exact HF.out j (by omega)
      have HR2 : Hid (wid six f t = k → P1 = .agg #[.bool six, .int .u64 (fa : Int), .int .u64 (fb : Int), .int .i64 (k : Int)] ∧ P2 = adV (lastN ⟨six, f, (k : Int)⟩)) := fun h => by
        have := HRES.out k h
        rw [HPV.out] at this; exact this
      clear hle hok hcl HCC HRES HW HF
      generalize cmpN (lastN ⟨six, f, (k : Int)⟩) t = c at *
      unfold adV at cl cc HR2
      simp only at cl
      generalize hiN (lastN ⟨six, f, (k : Int)⟩) = la at *
      generalize loN (lastN ⟨six, f, (k : Int)⟩) = lb at *
      simp only [HAV.out.2.2.1, HAV.out.2.2.2] at cc
      go_wp2_with fail
      go_at_call 30; refine cl.mono ?_; rintro e w2 ⟨rfl, hb⟩
      replace r5 := r5.below hb
      replace r6 := r6.below hb
      replace r7 := r7.below hb
      replace r8 := r8.below hb
      replace hB := below2 hB hb
      have hl6' := r6.lt
      have hl7' := r7.lt
      clear p0 p1 p2 p3 pf hb cl
      obtain ⟨V, hV⟩ : ∃ V, V = w2.alloc (.cells #[.int .u64 (la : Int), .int .u64 (lb : Int)] 25) := ⟨_, rfl⟩
      have hbV : Below w2.heap.size w2 V := by rw [hV]; exact below_new (Below.refl _ _) _
      have r9 : RowAt V w2.heap.size [.int .u64 (la : Int), .int .u64 (lb : Int)] 25 := by rw [hV]; exact RowAt.new _ _ _
      go_upto_region 3 with fail
      rw [← hV]
      replace r5 := r5.below hbV
      replace r6 := r6.below hbV
      replace r7 := r7.below hbV
      replace r8 := r8.below hbV
      replace hB := below2 hB hbV
      clear hV hbV
      have hl6 : g6 < w2.heap.size := hl6'
      have hl7 : g7 < w2.heap.size := hl7'
      obtain ⟨g9, hg9⟩ : ∃ q, q = w2.heap.size := ⟨_, rfl⟩
      rw [← hg9] at r9 hl6 hl7 ⊢
      clear hg9
      obtain ⟨z0, z1, zf⟩ := cells2 r9
      obtain ⟨y0, y1, yf⟩ := cells2 r5
      go_wp2_with fail
      go_at_call 31; refine (cc _).mono ?_; rintro e w3 ⟨rfl, hb⟩
      replace r5 := r5.below hb
      replace r6 := r6.below hb
      replace r7 := r7.below hb
      replace r8 := r8.below hb
      replace r9 := r9.below hb
      replace hB := below2 hB hb
      clear z0 z1 zf y0 y1 yf hb cc
      obtain ⟨V, hV⟩ : ∃ V, V = w3 := ⟨_, rfl⟩
      subst hV
      by_cases hc : c ≤ 0
      · obtain ⟨e1, e2⟩ := HR2.out (HT1.out hc)
        have HP1 : Hid (P1 = .agg #[.bool six, .int .u64 (fa : Int), .int .u64 (fb : Int), .int .i64 (k : Int)]) := e1
        have HP2 : Hid (P2 = .agg #[.int .u64 (la : Int), .int .u64 (lb : Int)]) := e2
        clear e1 e2 HR2 HT1 HT2 HG r5
        have h6l := r6.lt
        have h7l := r7.lt
        obtain ⟨p0, p1, p2, p3, pf⟩ := cells4 r8
        obtain ⟨z0, z1, zf⟩ := cells2 r9
        obtain ⟨a0, a1, a2, a3, af⟩ := cells4 r6
        obtain ⟨b0, b1, bf⟩ := cells2 r7
        have n4 : g6 ≠ g7 := n67
        have n5 : g6 ≠ g9 := by omega
        have n6 : g7 ≠ g9 := by omega
        have n4' : g7 ≠ g6 := fun h => n4 h.symm
        have n5' : g9 ≠ g6 := fun h => n5 h.symm
        have n6' : g9 ≠ g7 := fun h => n6 h.symm
        have n2' : g8 ≠ g6 := fun h => n2 h.symm
        have n3' : g8 ≠ g7 := fun h => n3 h.symm
        go_wp2_with fail
        go_region
        all_goals go_wp2_with fail
        all_goals (try simp only [Exit.inBlock, Exit.then])
        all_goals refine bodyPost_ret (v := .tuple #[.agg #[.bool six, .int .u64 (fa : Int), .int .u64 (fb : Int), .int .i64 (k : Int)], .agg #[.int .u64 (la : Int), .int .u64 (lb : Int)]]) ?_ rfl ⟨by rw [HP1.out, HP2.out], ?_⟩
        all_goals first
          | (rw [results_cells rfl]; go_simp; done)
          | (repeat' (first | with_reducible exact hB | with_reducible apply below_drew | with_reducible refine bset ?_ l6 | with_reducible refine bset ?_ l7))
      · have HNX : Hid (∀ j, j < k + 1 → wT six f t j = false) := HT2.out (by omega)
        have hc2 : decide (c ≤ 0) = false := decide_eq_false hc
        clear HR2 HT1 HT2 r9
        obtain ⟨g', hg1, hg2⟩ := HG.out
        obtain ⟨p0, p1, p2, p3, pf⟩ := cells4 r8
        obtain ⟨Y, hY⟩ : ∃ Y, Y = V.setCell ⟨g8, 3, none⟩ (.int .i64 ((k + 1 : Nat) : Int)) := ⟨_, rfl⟩
        have hgY : V.grownBy Y (some g8) := by rw [hY]; exact gset (grefl _ _)
        have q8 := row_set1d r8 (.int .i64 ((k + 1 : Nat) : Int))
        rw [← hY] at q8
        have HF2 : Hid ((RowAt Y g5 [.int .u64 (ta : Int), .int .u64 (tb : Int)] 25 ∧ RowAt Y g6 [.bool false, .int .u64 0, .int .u64 0, .int .i64 0] 27 ∧ RowAt Y g7 [.int .u64 0, .int .u64 0] 25 ∧ RowAt Y g8 [.bool six, .int .u64 (fa : Int), .int .u64 (fb : Int), .int .i64 ((k + 1 : Nat) : Int)] 27 ∧ Below w.heap.size w Y) ∧ ∀ j, j < k + 1 → wT six f t j = false) := ⟨⟨r5.gkeep hgY (by simpa using n1), r6.gkeep hgY (by simpa using n2), r7.gkeep hgY (by simpa using n3), q8, by rw [hY]; exact bset hB l8⟩, HNX.out⟩
        have HKK : Hid (((k : Int) + 1) = ((k + 1 : Nat) : Int)) := by show _ = _; omega
        have hk128 : (k : Int) ≤ 128 := by omega
        have hwr : IntKind.i64.wrap ((k : Int) + 1) = (k : Int) + 1 := by rw [IntKind.wrap_i64]; omega
        rw [← HKK.out] at hY
        clear r5 r6 r7 r8 hB hgY q8 HNX
        go_wp2_with fail
        (try rw [hwr])
        (try rw [← hY])
        go_roundg g'
        case rel => exact ⟨k + 1, by omega, by first | exact HF2 | (rw [hY] at HF2; exact HF2)⟩
        case measure => omega
end Go.Proofs.Ytiemlaehhmlhmaa.Sp
