/- over, walked. -/
import Derived.Test.YteoihmoclndihabTrOver
set_option linter.unusedVariables false
namespace Go.Proofs.Yteoihmoclndihab.Tr
open Go.RowKit
open Go.Proofs.Yteoihmoclndihab.Lk (HasRow)
open Go.Proofs.Yteoihmoclndihab.Addr (Pf okP wideN kP hasB coversB cmpN hiN loN adV pfV cmp_any has_any RowAt below2 below_drew below_new bset RowAt.lt RowAt.cell RowAt.frozen RowAt.below RowAt.drew RowAt.new RowAt.alloc RowAt.set1 cells2 Bl bl_ne wp_region_bl bl_call bl_same)
theorem results_cell_tmp1 {fn : Func} {p u : Tmp} {ty : TypeId} (h : fn.results = #[.cell p ty, .tmp u]) (tmps : Array Value) (P : Program) (w : World) :
    (results fn tmps).run P w = ((asAddr (tmps.getD p undef)).run P w).andThen fun a w₁ => ((loadVar ty a).run P w₁).andThen fun v w₂ => .ok (.tuple #[v, tmps.getD u undef]) w₂ := by
  simp only [results, h]
  simp [Sem.run_bind, Result.andThen]
/-- what over answers of a row -/
def OvR (s : List Seg) (us : List Value) (six : Bool) (a : Nat) (e : Ending) : Prop := ∃ k, Cut s a k ∧ (((k = 0 ∨ ∀ h : k - 1 < s.length, hasB s[k - 1].1.pf six a = false) ∧ e = .returned (.tuple #[zeroN, .bool false])) ∨ ∃ (h : k - 1 < s.length) (h2 : k - 1 < us.length), 0 < k ∧ hasB s[k - 1].1.pf six a = true ∧ e = .returned (.tuple #[nodeV s[k - 1].1 us[k - 1], .bool true]))
set_option maxHeartbeats 8000000 in
set_option maxRecDepth 20000 in
theorem over_any {s : List Seg} {us : List Value} {v : Value} {a : Nat} {six0 : Bool} (six : Bool) (w : World) (hr : HasRow w v 11 s.length (nodeCs s us)) (hl : us.length = s.length) (hus : ∀ i (h : i < us.length), ∃ o n c, us[i] = .slice o n c) (hg : Good s six0) (ha : a < 2 ^ 128) (hs : s.length ≤ 256) :
    Calls Try.prog 52 #[v, .bool six, .agg #[.int .u64 (hiN a : Int), .int .u64 (loN a : Int)]] w fun e w' => OvR s us six a e ∧ Below w.heap.size w w' := by
  obtain ⟨o, c, rfl, hc1, hc2⟩ := Lk.HasRow.slice hr
  obtain ⟨X, hX⟩ : ∃ X, X = ((w.alloc (.cells #[.slice o s.length c] 100)).alloc (.cells #[.int .u64 (hiN a : Int), .int .u64 (loN a : Int)] 26)).alloc (.cells #[.bool false, .int .u64 0, .int .u64 0, .int .i64 0, .bool false, .int .u64 0, .int .u64 0, .int .i64 0, .int .u8 0, .int .i64 0, .slice none 0 0] 102) := ⟨_, rfl⟩
  have hB : Below w.heap.size w X := by rw [hX]; exact below_new (below_new (below_new (Below.refl _ _) _) _) _
  have e1 : (w.alloc (.cells #[.slice o s.length c] 100)).heap.size = w.heap.size + 1 := World.size_alloc _ _
  have e2 : ((w.alloc (.cells #[.slice o s.length c] 100)).alloc (.cells #[.int .u64 (hiN a : Int), .int .u64 (loN a : Int)] 26)).heap.size = w.heap.size + 1 + 1 := by rw [World.size_alloc, e1]
  have r0 : RowAt X w.heap.size [.slice o s.length c] 100 := by rw [hX]; exact ((RowAt.new _ _ _).alloc _).alloc _
  have r1 : RowAt X (w.heap.size + 1) [.int .u64 (hiN a : Int), .int .u64 (loN a : Int)] 26 := by rw [hX, ← e1]; exact (RowAt.new _ _ _).alloc _
  have r2 : RowAt X (w.heap.size + 1 + 1) [.bool false, .int .u64 0, .int .u64 0, .int .i64 0, .bool false, .int .u64 0, .int .u64 0, .int .i64 0, .int .u8 0, .int .i64 0, .slice none 0 0] 102 := by rw [hX, ← e2]; exact RowAt.new _ _ _
  have hO : OvW X s us o c a w.heap.size (w.heap.size + 1) := ⟨hr.keep hB, hl, r0, r1⟩
  have cs := searchs_any X hO hg ha hs
  have HH : Hid (∀ k (hk : k < s.length) (W : World), Calls Try.prog 7 #[.agg #[.bool s[k].1.pf.six, .int .u64 (hiN s[k].1.pf.n : Int), .int .u64 (loN s[k].1.pf.n : Int), .int .i64 s[k].1.pf.len], .bool six, .agg #[.int .u64 (hiN a : Int), .int .u64 (loN a : Int)]] W fun e w' => e = .returned (.bool (hasB s[k].1.pf six a)) ∧ Below W.heap.size W w') := fun k hk W => by
    have hf := fit_ok (hg.ok _ (List.getElem_mem hk))
    exact has_any s[k].1.pf six a W hf.1 hf.2 ha
  have q0 := r0.cell 0
  simp only [List.getElem?_cons_zero] at q0
  obtain ⟨n, hn⟩ : ∃ n, n = s.length := ⟨_, rfl⟩
  have HN : Hid (n = s.length) := hn
  have HOV : Hid (∀ W, Below X.heap.size X W → OvW W s us o c a w.heap.size (w.heap.size + 1)) := fun W hb => hO.below hb
  have HR2 : Hid (∀ W, Below X.heap.size X W → RowAt W (w.heap.size + 1 + 1) [.bool false, .int .u64 0, .int .u64 0, .int .i64 0, .bool false, .int .u64 0, .int .u64 0, .int .i64 0, .int .u8 0, .int .i64 0, .slice none 0 0] 102) := fun W hb => r2.below hb
  have HAD : Hid (∀ W, Below X.heap.size X W → RowAt W (w.heap.size + 1) [.int .u64 (hiN a : Int), .int .u64 (loN a : Int)] 26) := fun W hb => r1.below hb
  rw [← hn] at cs hs hc1 q0 hX ⊢
  have hni : (n : Int) ≤ 256 := by omega
  generalize (hiN a : Int) = z1 at *
  generalize (loN a : Int) = z2 at *
  clear e1 e2 r0 r1 r2 hr hg hn hO
  go_enter Try.func52, Try.ntmps52
  go_upto_region 1 with fail
  rw [← hX]
  clear hX
  go_wp2_with fail
  go_at_call 64; refine cs.mono ?_; rintro e w1 ⟨k, hk, rfl, hb1⟩
  have HK : Hid (Cut s a k) := hk
  have hkn : k ≤ n := by rw [HN.out]; exact hk.1
  clear cs q0 hk
  have hO1 := HOV.out _ hb1
  have hbx := below2 hB hb1
  have n0 : ∀ p : Bl w1, p.W.cell? ⟨w.heap.size, 0, none⟩ = some (.slice o n c) := fun p => by have h := (hO1.r.below p.h).cell 0; rw [← HN.out] at h; exact h
  have m0 : ∀ p : Bl w1, p.W.cell? ⟨w.heap.size + 1, 0, none⟩ = some (.int .u64 z1) := fun p => ((HAD.out _ hb1).below p.h).cell 0
  have m1 : ∀ p : Bl w1, p.W.cell? ⟨w.heap.size + 1, 1, none⟩ = some (.int .u64 z2) := fun p => ((HAD.out _ hb1).below p.h).cell 1
  haveI := bl_ne w1
  have hki : (k : Int) ≤ 256 := by omega
  by_cases hk0 : k = 0
  · subst hk0
    go_wp2_with fail
    refine wp_region_bl (by kernel_rfl) (by kernel_rfl) ?_
    repeat (go_big_quiet_step (fail))
    refine wpQuiet_nil ?_
    intro wq hw'
    obtain ⟨⟨wz, hq⟩, hw2⟩ := hw'
    subst hw2
    have hz := HR2.out _ (below2 hb1 hq)
    have hW := below2 hbx hq
    clear n0 m0 m1 hq hb1 hO1
    obtain ⟨f0, f1, f2, f3, f4, f5, f6, f7, f8, f9, f10⟩ : _ ∧ _ ∧ _ ∧ _ ∧ _ ∧ _ ∧ _ ∧ _ ∧ _ ∧ _ ∧ _ := ⟨hz.cell 0, hz.cell 1, hz.cell 2, hz.cell 3, hz.cell 4, hz.cell 5, hz.cell 6, hz.cell 7, hz.cell 8, hz.cell 9, hz.cell 10⟩
    simp only [List.getElem?_cons_zero, List.getElem?_cons_succ] at f0 f1 f2 f3 f4 f5 f6 f7 f8 f9 f10
    have ff := hz.frozen
    have hzl := hz.lt
    go_wp2_with fail
    (try simp only [Exit.inBlock, Exit.then])
    refine bodyPost_ret (v := .tuple #[.agg #[.bool false, .int .u64 0, .int .u64 0, .int .i64 0, .bool false, .int .u64 0, .int .u64 0, .int .i64 0, .int .u8 0, .int .i64 0, .slice none 0 0], .bool false]) ?_ rfl ⟨⟨0, HK.out, .inl ⟨.inl rfl, rfl⟩⟩, (bset (bset (bset (bset (bset (bset (bset (bset (bset (bset (bset hW (by omega)) (by omega)) (by omega)) (by omega)) (by omega)) (by omega)) (by omega)) (by omega)) (by omega)) (by omega)) (by omega))⟩
    rw [results_cell_tmp1 rfl]
    go_simp
  · obtain ⟨i, rfl⟩ : ∃ i, k = i + 1 := ⟨k - 1, by omega⟩
    have hil : i < s.length := by have := HN.out; omega
    have hil2 : i < us.length := by rw [hl]; exact hil
    obtain ⟨b, i1, rfl, hbl, ax⟩ := node_at hO1.row hO1.len i hil hil2
    obtain ⟨b0, b1, b2, b3, b4, b5, b6, b7, b8, b9, b10⟩ := eleven_at ax
    have ch := HH.out i hil
    have HFA : Hid (hasB s[i].1.pf six a = false → OvR s us six a (.returned (.tuple #[zeroN, .bool false]))) := fun h => ⟨i + 1, HK.out, .inl ⟨.inr (fun _ => by simpa using h), rfl⟩⟩
    have HTR : Hid (hasB s[i].1.pf six a = true → OvR s us six a (.returned (.tuple #[nodeV s[i].1 us[i], .bool true]))) := fun h => ⟨i + 1, HK.out, .inr ⟨by simpa using hil, by simpa using hil2, by omega, by simpa using h, by simp⟩⟩
    unfold nodeV at HTR
    have hsl := hus i hil2
    generalize hasB s[i].1.pf six a = HB at *
    generalize us[i] = uu at *
    obtain ⟨oo, nn, cc, rfl⟩ := hsl
    generalize s[i].1.pf.six = s0 at *
    generalize (hiN s[i].1.pf.n : Int) = s1 at *
    generalize (loN s[i].1.pf.n : Int) = s2 at *
    generalize s[i].1.pf.len = s3 at *
    generalize (s[i].1.act.k : Int) = s4 at *
    generalize s[i].1.act.i = s5 at *
    have hii : (i : Int) < (n : Int) := by omega
    have hiz : (0 : Int) ≤ (i : Int) := by omega
    have u0 : ∀ p : Bl w1, p.W.cell? ⟨b, i1 + i * 11, none⟩ = some (.bool s0) := fun p => (p.h.cell (p := ⟨b, i1 + i * 11, none⟩) hbl).trans b0
    have u1 : ∀ p : Bl w1, p.W.cell? ⟨b, i1 + i * 11 + 1, none⟩ = some (.int .u64 s1) := fun p => (p.h.cell (p := ⟨b, i1 + i * 11 + 1, none⟩) hbl).trans b1
    have u2 : ∀ p : Bl w1, p.W.cell? ⟨b, i1 + i * 11 + 2, none⟩ = some (.int .u64 s2) := fun p => (p.h.cell (p := ⟨b, i1 + i * 11 + 2, none⟩) hbl).trans b2
    have u3 : ∀ p : Bl w1, p.W.cell? ⟨b, i1 + i * 11 + 3, none⟩ = some (.int .i64 s3) := fun p => (p.h.cell (p := ⟨b, i1 + i * 11 + 3, none⟩) hbl).trans b3
    have hk1 : ((i + 1 : Nat) : Int) - 1 = (i : Int) := by omega
    have hk2 : (i : Int) + 1 - 1 = (i : Int) := by omega
    have hw1 : IntKind.i64.wrap (i : Int) = (i : Int) := by rw [IntKind.wrap_i64]; omega
    have hk3 : (((i + 1 : Nat) : Int) == 0) = false := beq_eq_false_iff_ne.2 (by omega)
    have hk4 : ((i : Int) + 1 == 0) = false := beq_eq_false_iff_ne.2 (by omega)
    cases HB
    · have HV := HFA.out rfl
      clear HTR HFA ax
      go_wp2_with fail
      refine wp_region_bl (by kernel_rfl) (by kernel_rfl) ?_
      repeat (go_big_quiet_step (first | (go_at_call 7; with_reducible exact bl_call (ch _))))
      refine wpQuiet_nil ?_
      intro wq hw'
      obtain ⟨⟨wz, hq⟩, hw2⟩ := hw'
      subst hw2
      have hz := HR2.out _ (below2 hb1 hq)
      have hW := below2 hbx hq
      clear n0 m0 m1 u0 u1 u2 u3 hq hb1 hO1 ch b0 b1 b2 b3 b4 b5 b6 b7 b8 b9 b10
      obtain ⟨f0, f1, f2, f3, f4, f5, f6, f7, f8, f9, f10⟩ : _ ∧ _ ∧ _ ∧ _ ∧ _ ∧ _ ∧ _ ∧ _ ∧ _ ∧ _ ∧ _ := ⟨hz.cell 0, hz.cell 1, hz.cell 2, hz.cell 3, hz.cell 4, hz.cell 5, hz.cell 6, hz.cell 7, hz.cell 8, hz.cell 9, hz.cell 10⟩
      simp only [List.getElem?_cons_zero, List.getElem?_cons_succ] at f0 f1 f2 f3 f4 f5 f6 f7 f8 f9 f10
      have ff := hz.frozen
      have hzl := hz.lt
      go_wp2_with fail
      (try simp only [Exit.inBlock, Exit.then])
      refine bodyPost_ret (v := .tuple #[.agg #[.bool false, .int .u64 0, .int .u64 0, .int .i64 0, .bool false, .int .u64 0, .int .u64 0, .int .i64 0, .int .u8 0, .int .i64 0, .slice none 0 0], .bool false]) ?_ rfl ⟨HV, (bset (bset (bset (bset (bset (bset (bset (bset (bset (bset (bset hW (by omega)) (by omega)) (by omega)) (by omega)) (by omega)) (by omega)) (by omega)) (by omega)) (by omega)) (by omega)) (by omega))⟩
      rw [results_cell_tmp1 rfl]
      go_simp
    · have HV := HTR.out rfl
      clear HTR HFA ax
      go_wp2_with fail
      refine wp_region_bl (by kernel_rfl) (by kernel_rfl) ?_
      repeat (go_big_quiet_step (first | (go_at_call 7; with_reducible exact bl_call (ch _))))
      refine wpQuiet_nil ?_
      intro wq hw'
      obtain ⟨⟨wz, hq⟩, hw2⟩ := hw'
      subst hw2
      have hz := HR2.out _ (below2 hb1 hq)
      have hW := below2 hbx hq
      have hOq := hO1.below hq
      have g0 : wq.cell? ⟨w.heap.size, 0, none⟩ = some (.slice (some ⟨b, i1, none⟩) n c) := by have h := hOq.r.cell 0; rw [← HN.out] at h; exact h
      replace b0 := (hq.cell (p := ⟨b, i1 + i * 11, none⟩) hbl).trans b0
      replace b1 := (hq.cell (p := ⟨b, i1 + i * 11 + 1, none⟩) hbl).trans b1
      replace b2 := (hq.cell (p := ⟨b, i1 + i * 11 + 2, none⟩) hbl).trans b2
      replace b3 := (hq.cell (p := ⟨b, i1 + i * 11 + 3, none⟩) hbl).trans b3
      replace b4 := (hq.cell (p := ⟨b, i1 + i * 11 + 4, none⟩) hbl).trans b4
      replace b5 := (hq.cell (p := ⟨b, i1 + i * 11 + 5, none⟩) hbl).trans b5
      replace b6 := (hq.cell (p := ⟨b, i1 + i * 11 + 6, none⟩) hbl).trans b6
      replace b7 := (hq.cell (p := ⟨b, i1 + i * 11 + 7, none⟩) hbl).trans b7
      replace b8 := (hq.cell (p := ⟨b, i1 + i * 11 + 8, none⟩) hbl).trans b8
      replace b9 := (hq.cell (p := ⟨b, i1 + i * 11 + 9, none⟩) hbl).trans b9
      replace b10 := (hq.cell (p := ⟨b, i1 + i * 11 + 10, none⟩) hbl).trans b10
      clear n0 m0 m1 u0 u1 u2 u3 hq hb1 hO1 hOq ch
      obtain ⟨f0, f1, f2, f3, f4, f5, f6, f7, f8, f9, f10⟩ : _ ∧ _ ∧ _ ∧ _ ∧ _ ∧ _ ∧ _ ∧ _ ∧ _ ∧ _ ∧ _ := ⟨hz.cell 0, hz.cell 1, hz.cell 2, hz.cell 3, hz.cell 4, hz.cell 5, hz.cell 6, hz.cell 7, hz.cell 8, hz.cell 9, hz.cell 10⟩
      simp only [List.getElem?_cons_zero, List.getElem?_cons_succ] at f0 f1 f2 f3 f4 f5 f6 f7 f8 f9 f10
      have ff := hz.frozen
      have hzl := hz.lt
      go_wp2_with fail
      (try simp only [Exit.inBlock, Exit.then])
      refine bodyPost_ret (v := .tuple #[.agg #[.bool s0, .int .u64 s1, .int .u64 s2, .int .i64 s3, .bool s0, .int .u64 s1, .int .u64 s2, .int .i64 s3, .int .u8 s4, .int .i64 s5, .slice oo nn cc], .bool true]) ?_ rfl ⟨HV, (bset (bset (bset (bset (bset (bset (bset (bset (bset (bset (bset hW (by omega)) (by omega)) (by omega)) (by omega)) (by omega)) (by omega)) (by omega)) (by omega)) (by omega)) (by omega)) (by omega))⟩
      rw [results_cell_tmp1 rfl]
      go_simp
end Go.Proofs.Yteoihmoclndihab.Tr
