/- What addr.Covers and addr.Halves return. -/
import Derived.Test.YtengicljipfckaaAddrHas
import Derived.Deep.DeepCutAuto
set_option linter.unusedVariables false
namespace Go.Proofs.Ytengicljipfckaa.Addr
open Go.RowKit

set_option maxHeartbeats 2000000 in
theorem covers_any (p q : Pf) (w : World) (hl : -9223372036854775808 ≤ p.len ∧ p.len ≤ 9223372036854775807) (hn : p.n < 2 ^ 128) (hl2 : -9223372036854775808 ≤ q.len ∧ q.len ≤ 9223372036854775807) (hn2 : q.n < 2 ^ 128) : Calls Try.prog 24 #[pfV p, pfV q] w fun e w' => e = .returned (.bool (coversB p q)) ∧ Below w.heap.size w w' := by
  have cc := fun w => check_any q w hl2 hn2
  have ch := fun w => has_any p q.six q.n w hl hn hn2
  obtain ⟨X, hX⟩ : ∃ X, X = (w.alloc (.cells #[.bool p.six, .int .u64 (hiN p.n : Int), .int .u64 (loN p.n : Int), .int .i64 p.len] 33)).alloc (.cells #[.bool q.six, .int .u64 (hiN q.n : Int), .int .u64 (loN q.n : Int), .int .i64 q.len] 33) := ⟨_, rfl⟩
  have hB0 : Below w.heap.size w X := by rw [hX]; exact below_new (below_new (Below.refl _ _) _) _
  have r0 : RowAt X w.heap.size [.bool p.six, .int .u64 (hiN p.n : Int), .int .u64 (loN p.n : Int), .int .i64 p.len] 33 := by rw [hX]; exact (RowAt.new _ _ _).alloc _
  have r1 : RowAt X (w.heap.size + 1) [.bool q.six, .int .u64 (hiN q.n : Int), .int .u64 (loN q.n : Int), .int .i64 q.len] 33 := by rw [hX, ← World.size_alloc w (.cells #[.bool p.six, .int .u64 (hiN p.n : Int), .int .u64 (loN p.n : Int), .int .i64 p.len] 33)]; exact RowAt.new _ _ _
  have HH : Hid (coversB p q = (okP q && (decide (p.len ≤ q.len) && hasB p q.six q.n))) := rfl
  generalize coversB p q = R at *
  generalize hasB p q.six q.n = HB at *
  cases hok : okP q
  · rw [checkP_bad hok] at cc
    have HV : Hid (R = false) := by show _ = _; rw [HH.out, hok]; rfl
    clear HH hok ch hl hl2 hn hn2
    unfold pfV at *
    (try unfold adV at *)
    generalize hiN p.n = h at *
    generalize loN p.n = l at *
    generalize hiN q.n = qh at *
    generalize loN q.n = ql at *
    generalize p.six = sx at *
    generalize p.len = len at *
    generalize q.six = qs at *
    generalize q.len = qn at *
    go_enter Try.func24, Try.ntmps24
    go_wp2_with fail
    go_at_call 20; refine (cc _).mono ?_; rintro e w2 ⟨rfl, hb2⟩
    rw [← hX] at hb2
    have hW := below2 hB0 hb2
    clear hX cc hB0 r0 r1 hb2
    go_wp2_with fail
    go_ret
    exact ⟨by rw [HV.out]; rfl, hW⟩
  rw [checkP_ok hok] at cc
  rw [hok] at HH
  clear hok
  by_cases hs : p.len ≤ q.len
  · have HV : Hid (R = HB) := by show _ = _; rw [HH.out, decide_eq_true hs]; simp
    have hd : decide (p.len ≤ q.len) = true := decide_eq_true hs
    clear HH hl hl2 hn hn2 hs
    unfold pfV at *
    (try unfold adV at *)
    generalize hiN p.n = h at *
    generalize loN p.n = l at *
    generalize hiN q.n = qh at *
    generalize loN q.n = ql at *
    generalize p.six = sx at *
    generalize p.len = len at *
    generalize q.six = qs at *
    generalize q.len = qn at *
    go_enter Try.func24, Try.ntmps24
    go_wp2_with fail
    go_at_call 20; refine (cc _).mono ?_; rintro e w2 ⟨rfl, hb2⟩
    rw [← hX] at hb2
    have hW := below2 hB0 hb2
    obtain ⟨q0, q1, q2, q3, qf⟩ := cells4 (r0.below hb2)
    obtain ⟨p0, p1, p2, p3, pf⟩ := cells4 (r1.below hb2)
    clear hX cc hB0 r0 r1 hb2
    go_wp2_with fail
    go_at_call 22; refine (ch _).mono ?_; rintro e w3 ⟨rfl, hb3⟩
    have hW := below2 hW hb3
    clear ch
    go_wp2_with fail
    go_ret
    exact ⟨by rw [HV.out]; rfl, hW⟩
  · have HV : Hid (R = false) := by show _ = _; rw [HH.out, decide_eq_false hs]; rfl
    have hd : decide (p.len ≤ q.len) = false := decide_eq_false hs
    clear HH ch hl hl2 hn hn2 hs
    unfold pfV at *
    (try unfold adV at *)
    generalize hiN p.n = h at *
    generalize loN p.n = l at *
    generalize hiN q.n = qh at *
    generalize loN q.n = ql at *
    generalize p.six = sx at *
    generalize p.len = len at *
    generalize q.six = qs at *
    generalize q.len = qn at *
    go_enter Try.func24, Try.ntmps24
    go_wp2_with fail
    go_at_call 20; refine (cc _).mono ?_; rintro e w2 ⟨rfl, hb2⟩
    rw [← hX] at hb2
    have hW := below2 hB0 hb2
    obtain ⟨q0, q1, q2, q3, qf⟩ := cells4 (r0.below hb2)
    obtain ⟨p0, p1, p2, p3, pf⟩ := cells4 (r1.below hb2)
    clear hX cc hB0 r0 r1 hb2
    go_wp2_with fail
    go_ret
    exact ⟨by rw [HV.out]; rfl, hW⟩
theorem RowAt.set1 {W : World} {g : Nat} {cs : List Value} {t : TypeId} (h : RowAt W g cs t) (k : Nat) (v : Value) : RowAt (W.setCell ⟨g, k, none⟩ v) g (cs.set k v) t := by
  unfold RowAt at *
  simp only [World.setCell]
  rw [Array.getElem?_modify, if_pos rfl, h]
  simp
theorem RowAt.far1 {W : World} {g b : Nat} {cs : List Value} {t : TypeId} (h : RowAt W g cs t) (hne : g ≠ b) (k : Nat) (v : Value) : RowAt (W.setCell ⟨b, k, none⟩ v) g cs t := by
  unfold RowAt at *
  simp only [World.setCell]
  rw [Array.getElem?_modify, if_neg (fun e => hne e.symm)]
  exact h
theorem results_cct {fn : Func} {p q u : Tmp} {ty ty2 : TypeId} (h : fn.results = #[.cell p ty, .cell q ty2, .tmp u]) (tmps : Array Value) (P : Program) (w : World) :
    (results fn tmps).run P w =
      ((asAddr (tmps.getD p undef)).run P w).andThen fun a w₁ => ((loadVar ty a).run P w₁).andThen fun v w₂ => ((asAddr (tmps.getD q undef)).run P w₂).andThen fun b w₃ => ((loadVar ty2 b).run P w₃).andThen fun v2 w₄ => .ok (.tuple #[v, v2, tmps.getD u undef]) w₄ := by
  simp only [results, h]
  simp [Sem.run_bind, Result.andThen]
set_option maxHeartbeats 4000000 in
theorem halves_any (p : Pf) (w : World) (hl : -9223372036854775808 ≤ p.len ∧ p.len ≤ 9223372036854775807) (hn : p.n < 2 ^ 128) : Calls Try.prog 18 #[pfV p] w fun e w' => e = .returned (.tuple #[pfV (halvesE p).1, pfV (halvesE p).2.1, .int .i64 (halvesE p).2.2]) ∧ Below w.heap.size w w' := by
  have cc := fun w => check_any p w hl hn
  have cl := fun w => last_any p w hl hn
  have hz : pfV ⟨false, 0, 0⟩ = .agg #[.bool false, .int .u64 0, .int .u64 0, .int .i64 0] := rfl
  obtain ⟨X, hX⟩ : ∃ X, X = ((w.alloc (.cells #[.bool p.six, .int .u64 (hiN p.n : Int), .int .u64 (loN p.n : Int), .int .i64 p.len] 33)).alloc (.cells #[.bool false, .int .u64 0, .int .u64 0, .int .i64 0] 33)).alloc (.cells #[.bool false, .int .u64 0, .int .u64 0, .int .i64 0] 33) := ⟨_, rfl⟩
  have hB0 : Below w.heap.size w X := by rw [hX]; exact below_new (below_new (below_new (Below.refl _ _) _) _) _
  have r0 : RowAt X w.heap.size [.bool p.six, .int .u64 (hiN p.n : Int), .int .u64 (loN p.n : Int), .int .i64 p.len] 33 := by rw [hX]; exact ((RowAt.new _ _ _).alloc _).alloc _
  have r1 : RowAt X (w.heap.size + 1) [.bool false, .int .u64 0, .int .u64 0, .int .i64 0] 33 := by rw [hX, ← World.size_alloc w (.cells #[.bool p.six, .int .u64 (hiN p.n : Int), .int .u64 (loN p.n : Int), .int .i64 p.len] 33)]; exact (RowAt.new _ _ _).alloc _
  have r2 : RowAt X (w.heap.size + 1 + 1) [.bool false, .int .u64 0, .int .u64 0, .int .i64 0] 33 := by
    rw [hX, ← World.size_alloc w (.cells #[.bool p.six, .int .u64 (hiN p.n : Int), .int .u64 (loN p.n : Int), .int .i64 p.len] 33), ← World.size_alloc _ (.cells #[.bool false, .int .u64 0, .int .u64 0, .int .i64 0] 33)]
    exact RowAt.new _ _ _
  cases hok : okP p
  · rw [checkP_bad hok] at cc
    have e1 : halvesE p = (⟨false, 0, 0⟩, ⟨false, 0, 0⟩, 2) := by unfold halvesE; rw [hok]; rfl
    rw [e1]
    simp only [hz]
    clear cl e1 hok hz
    unfold pfV at *
    generalize hiN p.n = h at *
    generalize loN p.n = l at *
    generalize p.six = sx at *
    generalize p.len = len at *
    go_enter Try.func18, Try.ntmps18
    go_wp2_with fail
    go_at_call 20; refine (cc _).mono ?_; rintro e w2 ⟨rfl, hb2⟩
    rw [← hX] at hb2
    have hW := below2 hB0 hb2
    obtain ⟨q0, q1, q2, q3, qf⟩ := cells4 (r1.below hb2)
    obtain ⟨p0, p1, p2, p3, pf⟩ := cells4 (r2.below hb2)
    clear hX cc hB0 r0 r1 r2 hb2
    go_wp2_with fail
    (try simp only [Exit.inBlock, Exit.then])
    refine bodyPost_ret (v := .tuple #[.agg #[.bool false, .int .u64 0, .int .u64 0, .int .i64 0], .agg #[.bool false, .int .u64 0, .int .u64 0, .int .i64 0], .int .i64 2]) ?_ rfl ⟨rfl, ?_⟩
    · rw [results_cct rfl]
      go_simp
    · repeat' (first | with_reducible exact hW | with_reducible apply below_new | with_reducible refine bset ?_ (by omega))
  rw [checkP_ok hok] at cc
  have el : lastE p = (lastN p, 0) := by unfold lastE; rw [hok]; rfl
  rw [el] at cl
  simp only at cl
  have heq := fun w => ad_eql (lastN p) p.n w
  have hgd := ad_guard
  by_cases hm : p.len = (wideN p.six : Int)
  · have e1 : halvesE p = (⟨false, 0, 0⟩, ⟨false, 0, 0⟩, 3) := by unfold halvesE; rw [hok, if_pos rfl, if_pos hm]
    rw [e1]
    simp only [hz]
    rw [decide_eq_true ((last_eq_iff hok).2 hm)] at heq
    unfold pfV adV at *
    generalize lastN p = L at *
    clear e1 hok hz el hm hl hn
    generalize hiN p.n = h at *
    generalize loN p.n = l at *
    generalize hiN L = Lh at *
    generalize loN L = Ll at *
    generalize p.six = sx at *
    generalize p.len = len at *
    go_enter Try.func18, Try.ntmps18
    go_wp2_with fail
    go_at_call 20; refine (cc _).mono ?_; rintro e w2 ⟨rfl, hb2⟩
    rw [← hX] at hb2
    have hW := below2 hB0 hb2
    have r0 := r0.below hb2
    have r1 := r1.below hb2
    have r2 := r2.below hb2
    obtain ⟨q0, q1, q2, q3, qf⟩ := cells4 r0
    clear hX cc hB0 hb2
    go_wp2_with fail
    go_at_call 16; refine (cl _).mono ?_; rintro e w3 ⟨rfl, hb3⟩
    have hW := below2 hW hb3
    clear q0 q1 q2 q3 qf
    obtain ⟨q0, q1, q2, q3, qf⟩ := cells4 (r0.below hb3)
    obtain ⟨p0, p1, p2, p3, pf⟩ := cells4 (r1.below hb3)
    obtain ⟨u0, u1, u2, u3, uf⟩ := cells4 (r2.below hb3)
    have l0 := (r0.below hb3).lt
    have l1 := (r1.below hb3).lt
    have l2 := (r2.below hb3).lt
    clear cl r0 r1 r2 hb3
    go_wp2_with fail
    (try simp only [Exit.inBlock, Exit.then])
    refine bodyPost_ret (v := .tuple #[.agg #[.bool false, .int .u64 0, .int .u64 0, .int .i64 0], .agg #[.bool false, .int .u64 0, .int .u64 0, .int .i64 0], .int .i64 3]) ?_ rfl ⟨rfl, ?_⟩
    · rw [results_cct rfl]
      go_simp
    · repeat' (first | with_reducible exact hW | with_reducible apply below_new | with_reducible refine bset ?_ (by omega))
  · rw [halves_ok hok hm]
    rw [decide_eq_false (fun hc => hm ((last_eq_iff hok).1 hc))] at heq
    have hk := okP_len hok
    have hw := wideN_le p.six
    have hllt := last_lt hok
    have h128 : (2 : Nat) ^ wideN p.six ≤ 2 ^ 128 := Nat.pow_le_pow_right (by decide) hw
    have cf := fun w => first_any ⟨p.six, p.n, p.len + 1⟩ (lastN p) w (by show 0 ≤ p.len + 1 ∧ p.len + 1 ≤ (wideN p.six : Int); have := (okP_iff.1 hok).1; omega) (by omega)
    rw [half_k p hok hm, half_first hok hm] at cf
    have hlen : 0 ≤ p.len ∧ p.len ≤ 127 := by have := (okP_iff.1 hok).1; omega
    generalize p.n + 2 ^ (kP p - 1) = r at *
    unfold pfV adV at *
    simp only at *
    generalize lastN p = L at *
    clear hok hz el hm hl hn hk hw hllt h128
    generalize hiN p.n = h at *
    generalize loN p.n = l at *
    generalize hiN L = Lh at *
    generalize loN L = Ll at *
    generalize hiN r = rh at *
    generalize loN r = rl at *
    generalize p.six = sx at *
    generalize p.len = len at *
    obtain ⟨hl0, hl1⟩ := hlen
    go_enter Try.func18, Try.ntmps18
    go_wp2_with fail
    go_at_call 20; refine (cc _).mono ?_; rintro e w2 ⟨rfl, hb2⟩
    rw [← hX] at hb2
    have hW := below2 hB0 hb2
    have r0 := r0.below hb2
    have r1 := r1.below hb2
    have r2 := r2.below hb2
    obtain ⟨q0, q1, q2, q3, qf⟩ := cells4 r0
    clear hX cc hB0 hb2
    go_wp2_with fail
    go_at_call 16; refine (cl _).mono ?_; rintro e w3 ⟨rfl, hb3⟩
    have hW := below2 hW hb3
    clear q0 q1 q2 q3 qf cl
    have r0 := r0.below hb3
    have r1 := r1.below hb3
    have r2 := r2.below hb3
    clear hb3
    obtain ⟨Y, hY⟩ : ∃ Y, Y = w3.alloc (.cells #[.int .u64 (Lh : Int), .int .u64 (Ll : Int)] 24) := ⟨_, rfl⟩
    obtain ⟨b, hb⟩ : ∃ b, b = w3.heap.size := ⟨_, rfl⟩
    have hWY : Below w.heap.size w Y := by rw [hY]; exact below_new hW _
    have r3 : RowAt Y b [.int .u64 (Lh : Int), .int .u64 (Ll : Int)] 24 := by rw [hY, hb]; exact RowAt.new _ _ _
    have R0 : RowAt Y w.heap.size [.bool sx, .int .u64 (h : Int), .int .u64 (l : Int), .int .i64 len] 33 := by rw [hY]; exact r0.alloc _
    have R1 : RowAt Y (w.heap.size + 1) [.bool false, .int .u64 0, .int .u64 0, .int .i64 0] 33 := by rw [hY]; exact r1.alloc _
    have R2 : RowAt Y (w.heap.size + 1 + 1) [.bool false, .int .u64 0, .int .u64 0, .int .i64 0] 33 := by rw [hY]; exact r2.alloc _
    clear r0 r1 r2 hW
    go_upto_region 5 with fail
    rw [← hY, ← hb]
    clear hY hb
    obtain ⟨q0, q1, q2, q3, qf⟩ := cells4 R0
    obtain ⟨p0, p1, pf⟩ := cells2 r3
    go_upto_region 7 with fail
    have l0 := R0.lt
    have l3 := r3.lt
    have lA := R1.lt
    have lB := R2.lt
    go_cut [8, 9] (fun x y wc => ∃ i j, x = .pointer (some ⟨i, 0, none⟩) ∧ y = .pointer (some ⟨j, 0, none⟩) ∧ i ≠ j ∧ Y.heap.size ≤ i ∧ Y.heap.size ≤ j ∧ RowAt wc i [.bool sx, .int .u64 (h : Int), .int .u64 (l : Int), .int .i64 len] 33 ∧ RowAt wc j [.bool sx, .int .u64 (h : Int), .int .u64 (l : Int), .int .i64 len] 33 ∧ Below Y.heap.size Y wc)
    case first =>
      go_region
      all_goals go_wp2_with fail
      all_goals go_meet
      · refine ⟨_, _, rfl, rfl, by omega, by omega, by omega, ?_, ?_, below_drew (below_new (below_new (Below.refl _ _) _) _)⟩
        · exact ((RowAt.new _ _ _).alloc _).drew
        · have := RowAt.new (Y.alloc (.cells #[.bool sx, .int .u64 (h : Int), .int .u64 (l : Int), .int .i64 len] 33)) [.bool sx, .int .u64 (h : Int), .int .u64 (l : Int), .int .i64 len] 33
          rw [World.size_alloc] at this
          exact this.drew
      · refine ⟨_, _, rfl, rfl, by omega, by omega, by omega, ?_, ?_, below_drew (below_new (below_new (Below.refl _ _) _) _)⟩
        · have := RowAt.new (Y.alloc (.cells #[.bool sx, .int .u64 (h : Int), .int .u64 (l : Int), .int .i64 len] 33)) [.bool sx, .int .u64 (h : Int), .int .u64 (l : Int), .int .i64 len] 33
          rw [World.size_alloc] at this
          exact this.drew
        · exact ((RowAt.new _ _ _).alloc _).drew
    case rest =>
      obtain ⟨i, j, rfl, rfl, hij, hi, hj, ri, rj, hbc⟩ := hcut
      have hWc := below2 hWY hbc
      have R0 := R0.below hbc
      have R1 := R1.below hbc
      have R2 := R2.below hbc
      have r3 := r3.below hbc
      clear q0 q1 q2 q3 qf p0 p1 pf
      obtain ⟨q0, q1, q2, q3, qf⟩ := cells4 R0
      obtain ⟨i0, i1, i2, i3, hif⟩ := cells4 ri
      obtain ⟨j0, j1, j2, j3, hjf⟩ := cells4 rj
      have li := ri.lt
      have lj := rj.lt
      have n1 : w.heap.size ≠ i := by omega
      have n2 : w.heap.size ≠ j := by omega
      go_upto_region 8 with fail
      go_region
      go_upto_region 9 with fail
      obtain ⟨Z, hZ⟩ : ∃ Z, Z = ((wc.setCell ⟨i, 3, none⟩ (.int .i64 (len + 1))).setCell ⟨j, 3, none⟩ (.int .i64 (len + 1))).drew := ⟨_, rfl⟩
      rw [← hZ]
      have ri : RowAt Z i [.bool sx, .int .u64 (h : Int), .int .u64 (l : Int), .int .i64 (len + 1)] 33 := by rw [hZ]; exact ((ri.set1 3 _).far1 hij _ _).drew
      have rj : RowAt Z j [.bool sx, .int .u64 (h : Int), .int .u64 (l : Int), .int .i64 (len + 1)] 33 := by rw [hZ]; exact ((rj.far1 (Ne.symm hij) _ _).set1 3 _).drew
      have R1 : RowAt Z (w.heap.size + 1) [.bool false, .int .u64 0, .int .u64 0, .int .i64 0] 33 := by rw [hZ]; exact ((R1.far1 (by omega) _ _).far1 (by omega) _ _).drew
      have R2 : RowAt Z (w.heap.size + 1 + 1) [.bool false, .int .u64 0, .int .u64 0, .int .i64 0] 33 := by rw [hZ]; exact ((R2.far1 (by omega) _ _).far1 (by omega) _ _).drew
      have r3 : RowAt Z b [.int .u64 (Lh : Int), .int .u64 (Ll : Int)] 24 := by rw [hZ]; exact ((r3.far1 (by omega) _ _).far1 (by omega) _ _).drew
      have hWZ : Below w.heap.size w Z := by rw [hZ]; exact below_drew (bset (bset hWc (by omega)) (by omega))
      clear hZ q0 q1 q2 q3 qf i0 i1 i2 i3 hif j0 j1 j2 j3 hjf li lj n1 n2 hbc hWY R0 hWc
      obtain ⟨j0, j1, j2, j3, hjf⟩ := cells4 rj
      obtain ⟨p0, p1, pf⟩ := cells2 r3
      go_wp2_with fail
      go_at_call 36; refine (cf _).mono ?_; rintro e w5 ⟨rfl, hb5⟩
      clear j0 j1 j2 j3 hjf p0 p1 pf cf r3
      have hW5 := below2 hWZ hb5
      have ri := ri.below hb5
      have rj := rj.below hb5
      have R1 := R1.below hb5
      have R2 := R2.below hb5
      obtain ⟨j0, j1, j2, j3, hjf⟩ := cells4 rj
      go_upto_region 10 with fail
      obtain ⟨V, hV⟩ : ∃ V, V = ((w5.setCell ⟨j, 1, none⟩ (.int .u64 (rh : Int))).setCell ⟨j, 2, none⟩ (.int .u64 (rl : Int))) := ⟨_, rfl⟩
      rw [← hV]
      have ri : RowAt V i [.bool sx, .int .u64 (h : Int), .int .u64 (l : Int), .int .i64 (len + 1)] 33 := by rw [hV]; exact (ri.far1 hij _ _).far1 hij _ _
      have rj : RowAt V j [.bool sx, .int .u64 (rh : Int), .int .u64 (rl : Int), .int .i64 (len + 1)] 33 := by rw [hV]; exact (rj.set1 1 _).set1 2 _
      have R1 : RowAt V (w.heap.size + 1) [.bool false, .int .u64 0, .int .u64 0, .int .i64 0] 33 := by rw [hV]; exact (R1.far1 (by omega) _ _).far1 (by omega) _ _
      have R2 : RowAt V (w.heap.size + 1 + 1) [.bool false, .int .u64 0, .int .u64 0, .int .i64 0] 33 := by rw [hV]; exact (R2.far1 (by omega) _ _).far1 (by omega) _ _
      have hWV : Below w.heap.size w V := by rw [hV]; exact bset (bset hW5 (by omega)) (by omega)
      clear hV j0 j1 j2 j3 hjf hb5 hW5 hWZ
      obtain ⟨j0, j1, j2, j3, hjf⟩ := cells4 rj
      obtain ⟨i0, i1, i2, i3, hif⟩ := cells4 ri
      obtain ⟨a0, a1, a2, a3, haf⟩ := cells4 R1
      obtain ⟨b0, b1, b2, b3, hbf⟩ := cells4 R2
      have n1 : w.heap.size + 1 ≠ i := by omega
      have n2 : w.heap.size + 1 ≠ j := by omega
      have n3 : w.heap.size + 1 + 1 ≠ i := by omega
      have n4 : w.heap.size + 1 + 1 ≠ j := by omega
      have n5 : i ≠ w.heap.size + 1 := by omega
      have n6 : j ≠ w.heap.size + 1 := by omega
      have n7 : i ≠ w.heap.size + 1 + 1 := by omega
      have n8 : j ≠ w.heap.size + 1 + 1 := by omega
      clear ri rj R1 R2
      go_region
      go_wp2_with fail
      (try simp only [Exit.inBlock, Exit.then])
      refine bodyPost_ret (v := .tuple #[.agg #[.bool sx, .int .u64 (h : Int), .int .u64 (l : Int), .int .i64 (len + 1)], .agg #[.bool sx, .int .u64 (rh : Int), .int .u64 (rl : Int), .int .i64 (len + 1)], .int .i64 0]) ?_ rfl ⟨rfl, ?_⟩
      · rw [results_cct rfl]
        go_simp
      · repeat' (first | with_reducible exact hWV | with_reducible apply below_drew | with_reducible apply below_new | with_reducible refine bset ?_ (by omega))
end Go.Proofs.Ytengicljipfckaa.Addr
