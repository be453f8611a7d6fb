/- What the document's comes returns. -/
import Derived.Test.YtkmchoipddaohaaCutRef
set_option linter.unusedVariables false
namespace Go.Proofs.Ytkmchoipddaohaa.Cut
open Go.RowKit
attribute [-go_sem] Builtin.append_

theorem results_cell_tmp1 {fn : Func} {p u : Tmp} {ty : TypeId} (h : fn.results = #[.cell p ty, .tmp u]) (tmps : Array Value) (P : Program) (w : World) :
    (results fn tmps).run P w = ((asAddr (tmps.getD p undef)).run P w).andThen fun a w₁ => ((loadVar ty a).run P w₁).andThen fun v w₂ => .ok (.tuple #[v, tmps.getD u undef]) w₂ := by
  simp only [results, h]
  simp [Sem.run_bind, Result.andThen]
theorem new_nil (w : World) : NewIn w (.slice none 0 0) := fun a n c e => by injection e with e; cases e
theorem new_at {w : World} {g k : Nat} (h : w.heap.size ≤ g) : NewIn w (.slice (some ⟨g, 0, none⟩) k k) := fun a n c e => by injection e with e; injection e with e; subst e; exact h
theorem has_nil (W : World) : HasPcs W (.slice none 0 0) [] := ⟨rfl, .inl ⟨rfl, rfl⟩⟩
theorem has_lit1 (W W' : World) (p : PcT) (g : Nat) (h : RowAt W g (pcC p) 38) : HasPcs W (.slice (some ⟨g, 0, none⟩) 1 1) [p] := by
  refine ⟨rfl, .inr ⟨⟨g, 0, none⟩, 1, rfl, Nat.le_refl _, by decide, fun _ => ⟨rfl, h.lt⟩, fun j hj => ?_⟩⟩
  rw [addr_add, Nat.zero_add]
  exact h.cell j
theorem has_one (W : World) (n : Nat) (hn : W.heap.size = n) (k : Nat) (l : List UInt8) : HasPcs (W.alloc (.cells #[.int .u8 (k : Int), .string ⟨l.toArray⟩] 38)) (.slice (some ⟨n, 0, none⟩) 1 1) [(k, l)] := by
  subst hn
  exact has_lit1 _ W (k, l) _ (RowAt.new W (pcC (k, l)) 38)
theorem stepZ (r : List UInt8) (bd : Bool) (b : UInt8) (h : r = [] → b = 245) : stepC ⟨r, bd, 0⟩ b = if (r ++ [b]).length < 3 then (⟨r ++ [b], false, 0⟩, []) else if fitN (toldN (r ++ [b])) = false then (⟨[], false, toldN (r ++ [b])⟩, [(3, [])]) else if (r ++ [b]).length = 3 + toldN (r ++ [b]) then (⟨[], false, 0⟩, [(1, (r ++ [b]).drop 3)]) else (⟨r ++ [b], false, 0⟩, []) := by
  cases r with
  | nil => rw [stepB1 bd b (h rfl)]; rfl
  | cons x t =>
    have hl : ((x :: t) ++ [b]).length = (x :: t).length + 1 := by simp
    rw [hl]
    unfold stepC
    simp only [Int.lt_irrefl, if_false, List.isEmpty_cons, Bool.false_eq_true]
set_option maxHeartbeats 4000000 in
theorem rcomes_any (c : Ct) (b : UInt8) (w : World) (hc : okC c = true) : Calls Try.prog 17 #[ctV c, .int .u8 (b.toNat : Int)] w fun e w' => ∃ V, e = .returned (.tuple #[ctV (stepC c b).1, V]) ∧ (HasPcs w' V (stepC c b).2 ∧ NewIn w V) ∧ Below w.heap.size w w' := by
  obtain ⟨h1, h2, h3, h4⟩ := (okC_iff c).1 hc
  have hrl := rest_le hc
  obtain ⟨r, bd, s⟩ := c
  simp only at *
  clear h1 hc
  obtain ⟨X, hX⟩ : ∃ X, X = (w.alloc (.cells #[.string ⟨r.toArray⟩, .bool bd, .int .i64 s] 23)).alloc (.cells #[.string ⟨#[]⟩, .bool false, .int .i64 0] 23) := ⟨_, rfl⟩
  have hB : Below w.heap.size w X := by rw [hX]; exact below_new (below_new (Below.refl _ _) _) _
  have r0 : RowAt X w.heap.size [.string ⟨r.toArray⟩, .bool bd, .int .i64 s] 23 := by rw [hX]; exact (RowAt.new _ _ _).alloc _
  have r1 : RowAt X (w.heap.size + 1) [.string ⟨#[]⟩, .bool false, .int .i64 0] 23 := by rw [hX, ← World.size_alloc w (.cells #[.string ⟨r.toArray⟩, .bool bd, .int .i64 s] 23)]; exact RowAt.new _ _ _
  obtain ⟨x0, x1, x2, xf⟩ := cells3 r0
  obtain ⟨y0, y1, y2, yf⟩ := cells3 r1
  have hl0 := r0.lt
  have hl1 := r1.lt
  by_cases hs : 0 < s
  · rw [stepS _ b hs]
    have d : decide (0 < s) = true := decide_eq_true hs
    unfold ctV strV
    simp only
    clear h3 h4
    obtain ⟨hlo, hhi⟩ := h2
    go_enter Try.func17, Try.ntmps17
    go_upto_region 1 with fail
    rw [← hX]
    clear hX
    go_wp2_with fail
    refine bodyPost_ret (v := .tuple #[.agg #[.string ⟨r.toArray⟩, .bool bd, .int .i64 (s - 1)], .slice none 0 0]) ?_ rfl ⟨.slice none 0 0, rfl, ⟨has_nil _, new_nil w⟩, ?_⟩
    · rw [results_cell_tmp1 rfl]
      go_simp
    · repeat' (first | with_reducible exact hB | with_reducible refine bset ?_ (by omega))
  have hs0 : s = 0 := by omega
  subst hs0
  clear h2 h4 hs
  by_cases hcase : r = [] ∧ b ≠ 245
  · obtain ⟨rfl, hb⟩ := hcase
    have q := byte_ne b hb
    cases bd
    · rw [stepB3 b hb]
      unfold ctV strV
      simp only
      clear hb h3
      go_enter Try.func17, Try.ntmps17
      go_upto_region 1 with fail
      rw [← hX]
      clear hX
      go_wp2_with fail
      refine bodyPost_ret (v := .tuple #[.agg #[.string ⟨#[]⟩, .bool true, .int .i64 0], .slice (some ⟨X.heap.size, 0, none⟩) 1 1]) ?_ rfl ⟨_, rfl, ⟨has_one _ _ (by simp) 2 [], new_at hB.size⟩, ?_⟩
      · rw [results_cell_tmp1 rfl]
        go_simp
      · repeat' (first | with_reducible exact hB | with_reducible apply below_new | with_reducible refine bset ?_ (by omega))
    · rw [stepB2 b hb]
      unfold ctV strV
      simp only
      clear hb h3
      go_enter Try.func17, Try.ntmps17
      go_upto_region 1 with fail
      rw [← hX]
      clear hX
      go_wp2_with fail
      refine bodyPost_ret (v := .tuple #[.agg #[.string ⟨#[]⟩, .bool true, .int .i64 0], .slice none 0 0]) ?_ rfl ⟨.slice none 0 0, rfl, ⟨has_nil _, new_nil w⟩, ?_⟩
      · rw [results_cell_tmp1 rfl]
        go_simp
      · repeat' (first | with_reducible exact hB | with_reducible refine bset ?_ (by omega))
  · have hrb : r = [] → b = 245 := fun h => Classical.byContradiction fun h2 => hcase ⟨h, h2⟩
    have HS : Hid (stepC ⟨r, bd, 0⟩ b = _) := stepZ r bd b hrb
    generalize stepC ⟨r, bd, 0⟩ b = S at HS ⊢
    unfold ctV strV
    simp only
    have hcv := conv1 (X.setCell ⟨w.heap.size, 1, none⟩ (.bool false)) b
    rw [size_set] at hcv
    have hri : (r.length : Int) ≤ 66 := by omega
    have hcat : (⟨r.toArray⟩ : ByteArray) ++ ⟨#[b]⟩ = ⟨(r ++ [b]).toArray⟩ := bytes_cat r [b]
    have hzl : 1 ≤ (r ++ [b]).length ∧ (r ++ [b]).length ≤ 67 := by simp; omega
    have hd3 := drop3 (r ++ [b])
    have hq : r.isEmpty = true → ((b.toNat : Int) != 245) = false := fun h => by rw [hrb (List.isEmpty_iff.1 h)]; rfl
    clear hcase hrb h3
    cases hre : r.isEmpty
    all_goals
      try have hq2 := hq hre
      clear hq
      go_enter Try.func17, Try.ntmps17
      go_upto_region 1 with fail
      rw [← hX]
      clear hX
      go_upto_region 11 with fail
      obtain ⟨Y, hY⟩ : ∃ Y, Y = ((X.setCell ⟨w.heap.size, 1, none⟩ (.bool false)).setCell ⟨w.heap.size, 0, none⟩ (.string ⟨(r ++ [b]).toArray⟩)).alloc (.cells #[.int .u8 (b.toNat : Int)] 5) := ⟨_, rfl⟩
      have hne : some (w.heap.size + 1) ≠ some w.heap.size := by intro e; injection e with e; omega
      have rY : RowAt Y w.heap.size [.string ⟨(r ++ [b]).toArray⟩, .bool false, .int .i64 0] 23 := by rw [hY]; exact ((r0.set1 1 _).set1 0 _).alloc _
      have qY : RowAt Y (w.heap.size + 1) [.string ⟨#[]⟩, .bool false, .int .i64 0] 23 := by rw [hY]; exact (rowAt_kept (rowAt_kept r1 (grown_set _ _ _ _) hne) (grown_set _ _ _ _) hne).alloc _
      have hBY : Below w.heap.size w Y := by rw [hY]; exact below_new (bset (bset hB (Nat.le_refl _)) (Nat.le_refl _)) _
      rw [← hY]
      clear hY hcv hcat r0 r1 hB x0 x1 x2 xf y0 y1 y2 yf hl0 hl1 hre hri hrl hne
      generalize r ++ [b] = z at *
      obtain ⟨x0, x1, x2, xf⟩ := cells3 rY
      obtain ⟨y0, y1, y2, yf⟩ := cells3 qY
      have hl0 := rY.lt
      have hl1 := qY.lt
      have hzi : (z.length : Int) ≤ 67 := by omega
      by_cases h3 : z.length < 3
      · have d3 : decide ((z.length : Int) < 3) = true := decide_eq_true (by omega)
        have HV : Hid (S = (⟨z, false, 0⟩, [])) := by show _ = _; rw [HS.out, if_pos h3]
        clear HS
        go_wp2_with fail
        refine bodyPost_ret (v := .tuple #[.agg #[.string ⟨z.toArray⟩, .bool false, .int .i64 0], .slice none 0 0]) ?_ rfl ⟨.slice none 0 0, by rw [HV.out], ⟨by rw [HV.out]; exact has_nil _, new_nil w⟩, ?_⟩
        · rw [results_cell_tmp1 rfl]
          go_simp
        · repeat' (first | with_reducible exact hBY | with_reducible refine bset ?_ (by omega))
      · have d3 : decide ((z.length : Int) < 3) = false := decide_eq_false (by omega)
        have HT : Hid (S = if fitN (toldN z) = false then (⟨[], false, toldN z⟩, [(3, [])]) else if z.length = 3 + toldN z then (⟨[], false, 0⟩, [(1, z.drop 3)]) else (⟨z, false, 0⟩, [])) := by show _ = _; rw [HS.out, if_neg h3]
        have hd4 := hd3 (by omega)
        have h3i : (3 : Int) ≤ (z.length : Int) := by omega
        have h3n : 3 ≤ z.length := by omega
        have e1 := byte_at z 1 (by rw [size_list]; omega)
        have e2 := byte_at z 2 (by rw [size_list]; omega)
        have i1 : 1 < z.length := by omega
        have i2 : 2 < z.length := by omega
        have i1' : (1 : Int) < (z.length : Int) := by omega
        have i2' : (2 : Int) < (z.length : Int) := by omega
        have HTT : Hid (toldN z = 256 * (z.getD 1 0).toNat + (z.getD 2 0).toNat) := rfl
        have hm := mul_add (z.getD 1 0).toNat (z.getD 2 0).toNat
        rw [← HTT.out] at hm
        have b1 : ((z.getD 1 0).toNat : Int) ≤ 255 := by have := (z.getD 1 0).toNat_lt; omega
        have b2 : ((z.getD 2 0).toNat : Int) ≤ 255 := by have := (z.getD 2 0).toNat_lt; omega
        have htl := toldN_lt z
        have HFT : Hid (fitN (toldN z) = decide (1 ≤ toldN z ∧ toldN z ≤ 64)) := rfl
        clear HS hd3 HTT
        generalize fitN (toldN z) = B at *
        generalize toldN z = T at *
        have hTi : (T : Int) ≤ 65535 := by omega
        generalize z.getD 1 0 = v1 at *
        generalize z.getD 2 0 = v2 at *
        go_wp2_with fail
        go_region
        have rY' := rY.drew
        have qY' := qY.drew
        have hBY' := below_drew hBY
        generalize Y.drew = Y' at *
        clear rY qY hBY x0 x1 x2 xf y0 y1 y2 yf hl0 hl1
        obtain ⟨x0, x1, x2, xf⟩ := cells3 rY'
        obtain ⟨y0, y1, y2, yf⟩ := cells3 qY'
        have hl0 := rY'.lt
        have hl1 := qY'.lt
        by_cases hT : 1 ≤ T ∧ T ≤ 64
        · have t1 : decide ((T : Int) < 1) = false := decide_eq_false (by omega)
          have t2 : decide ((64 : Int) < (T : Int)) = false := decide_eq_false (by omega)
          have t1' : decide (T < 1) = false := decide_eq_false (by omega)
          have t2' : decide (64 < T) = false := decide_eq_false (by omega)
          obtain rfl : B = true := by rw [HFT.out, decide_eq_true hT]
          by_cases he : z.length = 3 + T
          · have HV : Hid (S = (⟨[], false, 0⟩, [(1, z.drop 3)])) := by show _ = _; rw [HT.out, if_neg (by simp), if_pos he]
            have d5 : ((z.length : Int) == 3 + (T : Int)) = true := by rw [he]; simp
            clear HT he hT HFT
            go_wp2_with fail
            go_region
            go_wp2_with fail
            refine bodyPost_ret (v := .tuple #[.agg #[.string ⟨#[]⟩, .bool false, .int .i64 0], .slice (some ⟨Y'.heap.size, 0, none⟩) 1 1]) ?_ rfl ⟨_, by rw [HV.out], ⟨by rw [HV.out]; exact (has_one _ _ (by simp) 1 (z.drop 3)).keep (below_drew (Below.refl _ _)), new_at hBY'.size⟩, ?_⟩
            · rw [results_cell_tmp1 rfl]
              go_simp
            · apply below_drew
              repeat' (first | with_reducible exact hBY' | with_reducible apply below_new | with_reducible refine bset ?_ (by omega))
          · have HV : Hid (S = (⟨z, false, 0⟩, [])) := by show _ = _; rw [HT.out, if_neg (by simp), if_neg he]
            have d5 : ((z.length : Int) == 3 + (T : Int)) = false := beq_eq_false_iff_ne.2 (by omega)
            clear HT hT HFT
            go_wp2_with fail
            refine bodyPost_ret (v := .tuple #[.agg #[.string ⟨z.toArray⟩, .bool false, .int .i64 0], .slice none 0 0]) ?_ rfl ⟨.slice none 0 0, by rw [HV.out], ⟨by rw [HV.out]; exact has_nil _, new_nil w⟩, ?_⟩
            · rw [results_cell_tmp1 rfl]
              go_simp
            · repeat' (first | with_reducible exact hBY' | with_reducible refine bset ?_ (by omega))
        · obtain rfl : B = false := by rw [HFT.out, decide_eq_false hT]
          have HV : Hid (S = (⟨[], false, T⟩, [(3, [])])) := by show _ = _; rw [HT.out]; rfl
          clear HT HFT
          by_cases g1 : T < 1
          · have t1 : decide ((T : Int) < 1) = true := decide_eq_true (by omega)
            have t1' : decide (T < 1) = true := decide_eq_true g1
            clear hT g1
            go_wp2_with fail
            refine bodyPost_ret (v := .tuple #[.agg #[.string ⟨#[]⟩, .bool false, .int .i64 (T : Int)], .slice (some ⟨Y'.heap.size, 0, none⟩) 1 1]) ?_ rfl ⟨_, by rw [HV.out], ⟨by rw [HV.out]; exact has_one _ _ (by simp) 3 [], new_at hBY'.size⟩, ?_⟩
            · rw [results_cell_tmp1 rfl]
              go_simp
            · repeat' (first | with_reducible exact hBY' | with_reducible apply below_new | with_reducible refine bset ?_ (by omega))
          · have t1 : decide ((T : Int) < 1) = false := decide_eq_false (by omega)
            have t1' : decide (T < 1) = false := decide_eq_false g1
            have t2 : decide ((64 : Int) < (T : Int)) = true := decide_eq_true (by omega)
            have t2' : decide (64 < T) = true := decide_eq_true (by omega)
            clear hT g1
            go_wp2_with fail
            refine bodyPost_ret (v := .tuple #[.agg #[.string ⟨#[]⟩, .bool false, .int .i64 (T : Int)], .slice (some ⟨Y'.heap.size, 0, none⟩) 1 1]) ?_ rfl ⟨_, by rw [HV.out], ⟨by rw [HV.out]; exact has_one _ _ (by simp) 3 [], new_at hBY'.size⟩, ?_⟩
            · rw [results_cell_tmp1 rfl]
              go_simp
            · repeat' (first | with_reducible exact hBY' | with_reducible apply below_new | with_reducible refine bset ?_ (by omega))
end Go.Proofs.Ytkmchoipddaohaa.Cut
