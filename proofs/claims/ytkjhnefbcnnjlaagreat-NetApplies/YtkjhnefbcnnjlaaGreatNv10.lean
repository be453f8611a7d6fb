/- trie.Del, trie.Find. -/
import Derived.Test.YtkjhnefbcnnjlaaGreatNv06
import Derived.Test.YtkjhnefbcnnjlaaGreatNv08
import Derived.Deep.RegionHeld3
set_option linter.unusedVariables false
namespace Go.Proofs.YtkjhnefbcnnjlaaGreat.Tr
open Go.RowKit
open Go.Proofs.YtkjhnefbcnnjlaaGreat.Lk (HasRow)
open Go.Proofs.YtkjhnefbcnnjlaaGreat.Addr (hiN loN RowAt below2 below_drew below_new RowAt.lt RowAt.cell RowAt.below RowAt.drew RowAt.new RowAt.alloc)
attribute [-go_sem] Builtin.append_
/-- one route in a row of its own, and the row of the three parts -/
theorem three_rows {W : World} {la lc : List Rt} {r : Rt} {oa oc : Option Addr} {na nc ca cc : Nat} (ea : na = la.length) (ec : nc = lc.length) (ha : HasRts W (.slice oa na ca) la) (hc : HasRts W (.slice oc nc cc) lc) (h1 : na ≤ 1000) (h2 : nc ≤ 1000) :
    Calls Tryz.prog 117 #[.slice (some ⟨W.heap.size + 1, 0, none⟩) 3 3] ((W.alloc (.cells #[.bool r.pf.six, .int .u64 (hiN r.pf.n : Int), .int .u64 (loN r.pf.n : Int), .int .i64 r.pf.len, .int .u8 (r.act.k : Int), .int .i64 r.act.i] 98)).alloc (.cells #[.slice oa na ca, .slice (some ⟨W.heap.size, 0, none⟩) 1 1, .slice oc nc cc] 48)) fun e w' => ∃ v, e = .returned v ∧ HasRts w' v (la ++ ([r] ++ lc)) ∧ Below W.heap.size W w' := by
  obtain ⟨Y, hY⟩ : ∃ Y, Y = W.alloc (.cells #[.bool r.pf.six, .int .u64 (hiN r.pf.n : Int), .int .u64 (loN r.pf.n : Int), .int .i64 r.pf.len, .int .u8 (r.act.k : Int), .int .i64 r.act.i] 98) := ⟨_, rfl⟩
  have hbY : Below W.heap.size W Y := by rw [hY]; exact below_new (Below.refl _ _) _
  have hsY : Y.heap.size = W.heap.size + 1 := by rw [hY]; simp
  have rY : RowAt Y W.heap.size (rtC r) 98 := by rw [hY]; exact RowAt.new _ _ _
  rw [← hY]
  clear hY
  obtain ⟨Z, hZ⟩ : ∃ Z, Z = Y.alloc (.cells #[.slice oa na ca, .slice (some ⟨W.heap.size, 0, none⟩) 1 1, .slice oc nc cc] 48) := ⟨_, rfl⟩
  have hbZ : Below Y.heap.size Y Z := by rw [hZ]; exact below_new (Below.refl _ _) _
  have rZ : RowAt Z Y.heap.size [.slice oa na ca, .slice (some ⟨W.heap.size, 0, none⟩) 1 1, .slice oc nc cc] 48 := by rw [hZ]; exact RowAt.new _ _ _
  rw [← hZ, ← hsY]
  clear hZ
  have hB := below2 hbY hbZ
  have rr : HasRts Z (.slice (some ⟨W.heap.size, 0, none⟩) 1 1) [r] := by
    have rY2 := rY.below hbZ
    refine ⟨rfl, .inr ⟨_, 1, rfl, Nat.le_refl _, by omega, fun _ => ⟨rfl, rY2.lt⟩, fun j _ => ?_⟩⟩
    rw [Lk.addr_add, Nat.zero_add, rY2.cell]
    simp [rtCs]
  refine (concat_any Y.heap.size la [r] lc oa (some ⟨W.heap.size, 0, none⟩) oc na 1 nc ca 1 cc Z rZ.lt (rZ.cell 0) (rZ.cell 1) (rZ.cell 2) ea rfl ec (ha.keep hB) rr (hc.keep hB) h1 (by omega) h2).mono ?_
  rintro e w' ⟨v, rfl, ho, hb⟩
  exact ⟨v, rfl, hasRow_own ho, below2 hB hb⟩
set_option maxHeartbeats 8000000 in
set_option maxRecDepth 20000 in
theorem put_any (l : List Rt) (v : Value) (r : Rt) (w : World) (hl : HasRts w v l) (hf : ∀ x ∈ l, FitR x) (hr : FitR r) :
    Calls Tryz.prog 89 #[v, .agg #[.bool r.pf.six, .int .u64 (hiN r.pf.n : Int), .int .u64 (loN r.pf.n : Int), .int .i64 r.pf.len, .int .u8 (r.act.k : Int), .int .i64 r.act.i]] w fun e w' => ∃ u, e = .returned (.tuple #[u, .int .i64 (putT l r).2]) ∧ HasRts w' u (putT l r).1 ∧ Below w.heap.size w w' := by
  obtain ⟨o, c, rfl, hc1, hc2⟩ := Lk.HasRow.slice hl
  have cc := fun W (hb : Below w.heap.size w W) => check_any l _ W (hl.keep hb) hf
  have c1 := fun W => right_any r W hr
  have hck : checkT l = if okT l then 0 else 2 := rfl
  rw [hck] at cc
  have hPd : putT l r = if okT l && okR r then (if (othersT l r.pf).length = 256 then (l, 8) else (insT l r, 0)) else ([], 2) := rfl
  obtain ⟨X, hX⟩ : ∃ X, X = w.alloc (.cells #[.bool r.pf.six, .int .u64 (hiN r.pf.n : Int), .int .u64 (loN r.pf.n : Int), .int .i64 r.pf.len, .int .u8 (r.act.k : Int), .int .i64 r.act.i] 98) := ⟨_, rfl⟩
  have hB : Below w.heap.size w X := by rw [hX]; exact below_new (Below.refl _ _) _
  have r0 : RowAt X w.heap.size [.bool r.pf.six, .int .u64 (hiN r.pf.n : Int), .int .u64 (loN r.pf.n : Int), .int .i64 r.pf.len, .int .u8 (r.act.k : Int), .int .i64 r.act.i] 98 := by rw [hX]; exact RowAt.new _ _ _
  cases hok : okT l
  · rw [hok] at cc hPd
    simp only [Bool.false_eq_true, if_false, Bool.false_and] at cc hPd
    rw [hPd]
    clear hPd
    go_enter Tryz.func89, Tryz.ntmps89
    go_upto_region 1 with fail
    rw [← hX]
    clear hX
    go_wp2_with fail
    go_at_call 47; refine (cc _ hB).mono ?_; rintro e w1 ⟨rfl, hb1⟩
    go_wp2_with fail
    go_ret2
    exact ⟨_, rfl, Lk.hasRow_nil _ 6, below2 hB hb1⟩
  rw [hok] at cc hPd
  simp only [if_true, Bool.true_and] at cc hPd
  have cells : ∀ {W : World}, RowAt W w.heap.size [.bool r.pf.six, .int .u64 (hiN r.pf.n : Int), .int .u64 (loN r.pf.n : Int), .int .i64 r.pf.len, .int .u8 (r.act.k : Int), .int .i64 r.act.i] 98 → W.cell? ⟨w.heap.size, 0, none⟩ = some (.bool r.pf.six) ∧ W.cell? ⟨w.heap.size, 1, none⟩ = some (.int .u64 (hiN r.pf.n : Int)) ∧ W.cell? ⟨w.heap.size, 2, none⟩ = some (.int .u64 (loN r.pf.n : Int)) ∧ W.cell? ⟨w.heap.size, 3, none⟩ = some (.int .i64 r.pf.len) ∧ W.cell? ⟨w.heap.size, 4, none⟩ = some (.int .u8 (r.act.k : Int)) ∧ W.cell? ⟨w.heap.size, 5, none⟩ = some (.int .i64 r.act.i) := fun h => ⟨h.cell 0, h.cell 1, h.cell 2, h.cell 3, h.cell 4, h.cell 5⟩
  have HCL : Hid (∀ {W : World}, RowAt W w.heap.size [.bool r.pf.six, .int .u64 (hiN r.pf.n : Int), .int .u64 (loN r.pf.n : Int), .int .i64 r.pf.len, .int .u8 (r.act.k : Int), .int .i64 r.act.i] 98 → W.cell? ⟨w.heap.size, 0, none⟩ = some (.bool r.pf.six) ∧ W.cell? ⟨w.heap.size, 1, none⟩ = some (.int .u64 (hiN r.pf.n : Int)) ∧ W.cell? ⟨w.heap.size, 2, none⟩ = some (.int .u64 (loN r.pf.n : Int)) ∧ W.cell? ⟨w.heap.size, 3, none⟩ = some (.int .i64 r.pf.len) ∧ W.cell? ⟨w.heap.size, 4, none⟩ = some (.int .u8 (r.act.k : Int)) ∧ W.cell? ⟨w.heap.size, 5, none⟩ = some (.int .i64 r.act.i)) := cells
  clear cells
  cases hox : okR r
  · rw [hox] at c1 hPd
    simp only [Bool.false_eq_true, if_false] at hPd
    rw [hPd]
    clear hPd
    go_enter Tryz.func89, Tryz.ntmps89
    go_upto_region 1 with fail
    rw [← hX]
    clear hX
    go_wp2_with fail
    go_at_call 47; refine (cc _ hB).mono ?_; rintro e w1 ⟨rfl, hb1⟩
    replace r0 := RowAt.below r0 hb1
    obtain ⟨y0, y1, y2, y3, y4, y5⟩ := HCL.out r0
    go_wp2_with fail
    go_at_call 75; refine (c1 _).mono ?_; rintro e w2 ⟨rfl, hb2⟩
    go_wp2_with fail
    go_ret2
    exact ⟨_, rfl, Lk.hasRow_nil _ 6, below2 (below2 hB hb1) hb2⟩
  rw [hox] at c1 hPd
  simp only [if_true] at hPd
  have hlen : l.length ≤ 256 := ((okT_iff l).1 hok).1
  have hup : Up l := ((okT_iff l).1 hok).2.2
  have cp := fun W (hb : Below w.heap.size w W) => place_any l _ r.pf W (hl.keep hb) hup hf hr.1 hlen
  have ck := fun W (hb : Below w.heap.size w W) => clone_any l _ W (hl.keep hb) (by omega)
  rw [hPd]
  obtain ⟨PL, hPL⟩ : ∃ PL, PL = (if (othersT l r.pf).length = 256 then (l, 8) else (insT l r, 0) : List Rt × Int) := ⟨_, rfl⟩
  rw [← hPL]
  have HP : Hid (PL = (if (othersT l r.pf).length = 256 then (l, 8) else (insT l r, 0) : List Rt × Int)) := hPL
  clear hPL hPd hck
  have HL : Hid (∀ W, Below w.heap.size w W → HasRts W (.slice o l.length c) l) := fun W hb => hl.keep hb
  obtain ⟨n, hn⟩ : ∃ n, n = l.length := ⟨_, rfl⟩
  have HN : Hid (n = l.length) := hn
  have H3 : Hid (∀ (W : World) (la lc : List Rt) (oa oc : Option Addr) (na nc ca cc : Nat), na = la.length → nc = lc.length → HasRts W (.slice oa na ca) la → HasRts W (.slice oc nc cc) lc → na ≤ 1000 → nc ≤ 1000 → Calls Tryz.prog 117 #[.slice (some ⟨W.heap.size + 1, 0, none⟩) 3 3] ((W.alloc (.cells #[.bool r.pf.six, .int .u64 (hiN r.pf.n : Int), .int .u64 (loN r.pf.n : Int), .int .i64 r.pf.len, .int .u8 (r.act.k : Int), .int .i64 r.act.i] 98)).alloc (.cells #[.slice oa na ca, .slice (some ⟨W.heap.size, 0, none⟩) 1 1, .slice oc nc cc] 48)) fun e w' => ∃ v, e = .returned v ∧ HasRts w' v (la ++ ([r] ++ lc)) ∧ Below W.heap.size W w') := fun W la lc oa oc na nc ca cc a b d e f g => three_rows a b d e f g
  have HI : Hid (insT l r = aheadT l r.pf ++ ([r] ++ behindT l r.pf)) := rfl
  have HPA : Hid (∀ k, Pos l r.pf k → isAt l r.pf k = true → ∃ h : k < l.length, l[k].pf = r.pf ∧ l.take k = aheadT l r.pf ∧ l.drop (k + 1) = behindT l r.pf ∧ othersT l r.pf = l.take k ++ l.drop (k + 1)) := fun k a b => parts_at hup a b
  have HPO : Hid (∀ k, Pos l r.pf k → isAt l r.pf k = false → l.take k = aheadT l r.pf ∧ l.drop k = behindT l r.pf ∧ othersT l r.pf = l) := fun k a b => parts_off hup a b
  rw [← hn] at hc1 hlen cc cp ck ⊢
  have HL2 : Hid (∀ W, Below w.heap.size w W → HasRts W (.slice o n c) l) := by rw [hn]; exact HL
  have hni : (n : Int) ≤ 256 := by omega
  clear hl hf hr hn HL hup
  generalize r.pf.six = s0 at *
  generalize (hiN r.pf.n : Int) = s1 at *
  generalize (loN r.pf.n : Int) = s2 at *
  generalize r.pf.len = s3 at *
  generalize (r.act.k : Int) = s4 at *
  generalize r.act.i = s5 at *
  go_enter Tryz.func89, Tryz.ntmps89
  go_upto_region 1 with fail
  rw [← hX]
  clear hX
  go_wp2_with fail
  go_at_call 47; refine (cc _ hB).mono ?_; rintro e w1 ⟨rfl, hb1⟩
  replace r0 := RowAt.below r0 hb1
  replace hB := below2 hB hb1
  obtain ⟨y0, y1, y2, y3, y4, y5⟩ := HCL.out r0
  clear hb1 cc
  go_wp2_with fail
  clear y0 y1 y2 y3 y4 y5
  go_at_call 75; refine (c1 _).mono ?_; rintro e w2 ⟨rfl, hb2⟩
  replace r0 := RowAt.below r0 hb2
  replace hB := below2 hB hb2
  obtain ⟨y0, y1, y2, y3, y4, y5⟩ := HCL.out r0
  clear hb2 c1
  go_wp2_with fail
  clear y0 y1 y2 y3 y4 y5
  go_at_call 116; refine (cp _ hB).mono ?_; rintro e w3 ⟨k, hk, rfl, hb3⟩
  replace r0 := RowAt.below r0 hb3
  replace hB := below2 hB hb3
  clear hb3 cp
  obtain ⟨y0, y1, y2, y3, y4, y5⟩ := HCL.out r0
  have hkn : k ≤ n := by rw [HN.out]; exact hk.1
  have hki : (k : Int) ≤ (n : Int) := by omega
  cases hat : isAt l r.pf k
  · obtain ⟨q1, q2, q3⟩ := HPO.out k hk hat
    by_cases h256 : n = 256
    · have HPV : Hid (PL = (l, 8)) := by show _ = _; rw [HP.out, q3, ← HN.out, if_pos h256]
      clear HP HPA HPO q1 q2 q3 H3
      subst h256
      go_wp2_with fail
      clear y0 y1 y2 y3 y4 y5
      go_at_call 52; refine (ck _ hB).mono ?_; rintro e w4 ⟨u4, rfl, ho4, hb4⟩
      have hh : HasRts w4 u4 l := by have h := hasRow_own ho4; rw [HN.out] at h; exact h
      go_wp2_with fail
      go_ret2
      exact ⟨_, by rw [HPV.out]; rfl, by rw [HPV.out]; exact hh, below2 hB hb4⟩
    · have h256b : ((n : Int) == 256) = false := beq_eq_false_iff_ne.2 (by omega)
      have HPV : Hid (PL = (aheadT l r.pf ++ ([r] ++ behindT l r.pf), 0)) := by show _ = _; rw [HP.out, q3, ← HN.out, if_neg h256, HI.out]
      have hlw := HL2.out _ hB
      clear HP HPA HPO h256 ck
      have hta := hlw.take k (by rw [← HN.out]; exact hkn)
      rw [q1] at hta
      by_cases hck : c = k
      · have hnk : n = k := by omega
        have hbe : behindT l r.pf = [] := by rw [← q2]; exact List.drop_of_length_le (by rw [← HN.out]; omega)
        subst hck hnk
        have hle : HasRts w3 (.slice o 0 0) (behindT l r.pf) := by
          rw [hbe]
          cases o with
          | none => exact Lk.hasRow_nil _ 6
          | some a => exact has_empty _ _ _ (by omega)
        have h3 := H3.out w3.drew _ _ o o n 0 n 0 (by rw [← q1, List.length_take]; have := HN.out; omega) (by rw [hbe]; rfl) hta hle (by omega) (by omega)
        clear hta hle hlw q1 q2 q3 hbe
        have HSK : Hid (∀ W : World, Below w3.heap.size w3 W → W.cell? ⟨w.heap.size, 0, none⟩ = some (.bool s0) ∧ W.cell? ⟨w.heap.size, 1, none⟩ = some (.int .u64 s1) ∧ W.cell? ⟨w.heap.size, 2, none⟩ = some (.int .u64 s2) ∧ W.cell? ⟨w.heap.size, 3, none⟩ = some (.int .i64 s3) ∧ W.cell? ⟨w.heap.size, 4, none⟩ = some (.int .u8 s4) ∧ W.cell? ⟨w.heap.size, 5, none⟩ = some (.int .i64 s5)) := fun W hb => HCL.out (RowAt.below r0 hb)
        have hbA : Below w3.heap.size w3 w3 := Below.refl _ _
        have hd0 : ¬ False := id
        clear HL2 H3
        go_wp2_with fail
        clear y0 y1 y2 y3 y4 y5 r0
        go_region_held3 (fun W => W.cell? ⟨w.heap.size, 0, none⟩ = some (.bool s0) ∧ W.cell? ⟨w.heap.size, 1, none⟩ = some (.int .u64 s1) ∧ W.cell? ⟨w.heap.size, 2, none⟩ = some (.int .u64 s2) ∧ W.cell? ⟨w.heap.size, 3, none⟩ = some (.int .i64 s3) ∧ W.cell? ⟨w.heap.size, 4, none⟩ = some (.int .u8 s4) ∧ W.cell? ⟨w.heap.size, 5, none⟩ = some (.int .i64 s5))
          (first
            | (refine HSK.out _ ?_
               repeat' (first | with_reducible exact hbA | with_reducible apply below_drew | with_reducible apply below_new)))
          (first
            | (go_at_call 117; refine (h3 : Calls _ _ _ _ _).mono ?_; rintro e w4 ⟨u4, rfl, hh4, hb4⟩
               have hbN : Below w3.heap.size w3 w4 := below2 (below_drew hbA) hb4
               clear hbA
               have hbA := hbN
               clear hbN))
        all_goals go_wp2_with fail
        all_goals go_ret2
        all_goals exact ⟨_, by rw [HPV.out]; rfl, by rw [HPV.out]; exact hh4, below2 hB hbA⟩
      · by_cases hn0 : n = 0
        · have hk0 : k = 0 := by omega
          have hbe : behindT l r.pf = [] := by rw [← q2]; exact List.drop_of_length_le (by rw [← HN.out]; omega)
          obtain ⟨a, rfl⟩ : ∃ a, o = some a := by
            cases o with
            | some a => exact ⟨a, rfl⟩
            | none =>
              exfalso
              rcases hlw.2 with ⟨e, _⟩ | ⟨a, cap, e, _⟩
              · injection e with _ _ e
                omega
              · cases e
          subst hn0 hk0
          have hle : ∀ a', HasRts w3 (.slice (some a') 0 c) (behindT l r.pf) := fun a' => by rw [hbe]; exact has_empty _ _ _ hc2
          have h3 := fun a' => H3.out w3.drew _ _ (some a) (some a') 0 0 c c (by rw [← q1, List.length_take]; have := HN.out; omega) (by rw [hbe]; rfl) hta (hle a') (by omega) (by omega)
          clear hta hle hlw q1 q2 q3 hbe
          have HSK : Hid (∀ W : World, Below w3.heap.size w3 W → W.cell? ⟨w.heap.size, 0, none⟩ = some (.bool s0) ∧ W.cell? ⟨w.heap.size, 1, none⟩ = some (.int .u64 s1) ∧ W.cell? ⟨w.heap.size, 2, none⟩ = some (.int .u64 s2) ∧ W.cell? ⟨w.heap.size, 3, none⟩ = some (.int .i64 s3) ∧ W.cell? ⟨w.heap.size, 4, none⟩ = some (.int .u8 s4) ∧ W.cell? ⟨w.heap.size, 5, none⟩ = some (.int .i64 s5)) := fun W hb => HCL.out (RowAt.below r0 hb)
          have hbA : Below w3.heap.size w3 w3 := Below.refl _ _
          have hd0 : ¬ False := id
          clear HL2 H3
          go_wp2_with fail
          clear y0 y1 y2 y3 y4 y5 r0
          go_region_held3 (fun W => W.cell? ⟨w.heap.size, 0, none⟩ = some (.bool s0) ∧ W.cell? ⟨w.heap.size, 1, none⟩ = some (.int .u64 s1) ∧ W.cell? ⟨w.heap.size, 2, none⟩ = some (.int .u64 s2) ∧ W.cell? ⟨w.heap.size, 3, none⟩ = some (.int .i64 s3) ∧ W.cell? ⟨w.heap.size, 4, none⟩ = some (.int .u8 s4) ∧ W.cell? ⟨w.heap.size, 5, none⟩ = some (.int .i64 s5))
            (first
              | (refine HSK.out _ ?_
                 repeat' (first | with_reducible exact hbA | with_reducible apply below_drew | with_reducible apply below_new)))
            (first
              | (go_at_call 117; refine (h3 _).mono ?_; rintro e w4 ⟨u4, rfl, hh4, hb4⟩
                 have hbN : Below w3.heap.size w3 w4 := below2 (below_drew hbA) hb4
                 clear hbA
                 have hbA := hbN
                 clear hbN))
          all_goals go_wp2_with fail
          all_goals go_ret2
          all_goals exact ⟨_, by rw [HPV.out]; rfl, by rw [HPV.out]; exact hh4, below2 hB hbA⟩
        obtain ⟨b, i, rfl⟩ : ∃ b i, o = some ⟨b, i, none⟩ := by
          obtain ⟨_, b, i, e, _⟩ := Lk.HasRow.at hlw (by rw [← HN.out]; omega)
          exact ⟨b, i, e⟩
        have hkc : (k : Int) ≤ (c : Int) := by omega
        have hdr := hlw.drop k (by rw [← HN.out]; exact hkn)
        rw [q2, ← HN.out] at hdr
        have h3 := H3.out w3.drew _ _ _ _ k (n - k) c (c - k) (by rw [← q1, List.length_take]; have := HN.out; omega) (by rw [← q2, List.length_drop, ← HN.out]) hta hdr (by omega) (by omega)
        clear hta hdr hlw q1 q2 q3
        have HSK : Hid (∀ W : World, Below w3.heap.size w3 W → W.cell? ⟨w.heap.size, 0, none⟩ = some (.bool s0) ∧ W.cell? ⟨w.heap.size, 1, none⟩ = some (.int .u64 s1) ∧ W.cell? ⟨w.heap.size, 2, none⟩ = some (.int .u64 s2) ∧ W.cell? ⟨w.heap.size, 3, none⟩ = some (.int .i64 s3) ∧ W.cell? ⟨w.heap.size, 4, none⟩ = some (.int .u8 s4) ∧ W.cell? ⟨w.heap.size, 5, none⟩ = some (.int .i64 s5)) := fun W hb => HCL.out (RowAt.below r0 hb)
        have hbA : Below w3.heap.size w3 w3 := Below.refl _ _
        have hd0 : ¬ False := id
        clear HL2 H3
        go_wp2_with fail
        clear y0 y1 y2 y3 y4 y5 r0
        go_region_held3 (fun W => W.cell? ⟨w.heap.size, 0, none⟩ = some (.bool s0) ∧ W.cell? ⟨w.heap.size, 1, none⟩ = some (.int .u64 s1) ∧ W.cell? ⟨w.heap.size, 2, none⟩ = some (.int .u64 s2) ∧ W.cell? ⟨w.heap.size, 3, none⟩ = some (.int .i64 s3) ∧ W.cell? ⟨w.heap.size, 4, none⟩ = some (.int .u8 s4) ∧ W.cell? ⟨w.heap.size, 5, none⟩ = some (.int .i64 s5))
          (first
            | (refine HSK.out _ ?_
               repeat' (first | with_reducible exact hbA | with_reducible apply below_drew | with_reducible apply below_new)))
          (first
            | (go_at_call 117; refine (h3 : Calls _ _ _ _ _).mono ?_; rintro e w4 ⟨u4, rfl, hh4, hb4⟩
               have hbN : Below w3.heap.size w3 w4 := below2 (below_drew hbA) hb4
               clear hbA
               have hbA := hbN
               clear hbN))
        all_goals go_wp2_with fail
        all_goals go_ret2
        all_goals exact ⟨_, by rw [HPV.out]; rfl, by rw [HPV.out]; exact hh4, below2 hB hbA⟩
  · obtain ⟨hkl, q0, q1, q2, q3⟩ := HPA.out k hk hat
    have hkn2 : k < n := by rw [HN.out]; exact hkl
    have ho : (othersT l r.pf).length ≠ 256 := by rw [q3, List.length_append, List.length_take, List.length_drop, ← HN.out]; omega
    have HPV : Hid (PL = (aheadT l r.pf ++ ([r] ++ behindT l r.pf), 0)) := by show _ = _; rw [HP.out, if_neg ho, HI.out]
    have hlw := HL2.out _ hB
    clear HP HPA HPO ck ho q0 q3
    obtain ⟨b, i, rfl⟩ : ∃ b i, o = some ⟨b, i, none⟩ := by
      obtain ⟨_, b, i, e, _⟩ := Lk.HasRow.at hlw (by rw [← HN.out]; omega)
      exact ⟨b, i, e⟩
    have hta := hlw.take k (by rw [← HN.out]; exact hkn)
    rw [q1] at hta
    have hkc : (k : Int) ≤ (c : Int) := by omega
    have hk1n : (k : Int) + 1 ≤ (n : Int) := by omega
    have hk1c : (k : Int) + 1 ≤ (c : Int) := by omega
    have hk10 : (0 : Int) ≤ (k : Int) + 1 := by omega
    have hw1 : IntKind.i64.wrap ((k : Int) + 1) = (k : Int) + 1 := by rw [IntKind.wrap_i64]; omega
    have htn : ((k : Int) + 1).toNat = k + 1 := by omega
    by_cases hck : c = k + 1
    · have hnk : n = k + 1 := by omega
      have hbe : behindT l r.pf = [] := by rw [← q2]; exact List.drop_of_length_le (by rw [← HN.out]; omega)
      have hle : ∀ a' c', c' ≤ 9223372036854775807 → HasRts w3 (.slice (some a') 0 c') (behindT l r.pf) := fun a' c' h => by rw [hbe]; exact has_empty _ _ _ h
      subst hck hnk
      have hkk : (k : Int) ≤ (k : Int) + 1 := by omega
      have h3 := fun a' => H3.out w3.drew _ _ (some ⟨b, i, none⟩) (some a') k 0 (k + 1) 0 (by rw [← q1, List.length_take]; have := HN.out; omega) (by rw [hbe]; rfl) hta (hle a' 0 (by omega)) (by omega) (by omega)
      clear hta hle hlw q1 q2 hbe
      have HSK : Hid (∀ W : World, Below w3.heap.size w3 W → W.cell? ⟨w.heap.size, 0, none⟩ = some (.bool s0) ∧ W.cell? ⟨w.heap.size, 1, none⟩ = some (.int .u64 s1) ∧ W.cell? ⟨w.heap.size, 2, none⟩ = some (.int .u64 s2) ∧ W.cell? ⟨w.heap.size, 3, none⟩ = some (.int .i64 s3) ∧ W.cell? ⟨w.heap.size, 4, none⟩ = some (.int .u8 s4) ∧ W.cell? ⟨w.heap.size, 5, none⟩ = some (.int .i64 s5)) := fun W hb => HCL.out (RowAt.below r0 hb)
      have hbA : Below w3.heap.size w3 w3 := Below.refl _ _
      have hd0 : ¬ False := id
      clear HL2 H3
      go_wp2_with fail
      clear y0 y1 y2 y3 y4 y5 r0
      go_region_held3 (fun W => W.cell? ⟨w.heap.size, 0, none⟩ = some (.bool s0) ∧ W.cell? ⟨w.heap.size, 1, none⟩ = some (.int .u64 s1) ∧ W.cell? ⟨w.heap.size, 2, none⟩ = some (.int .u64 s2) ∧ W.cell? ⟨w.heap.size, 3, none⟩ = some (.int .i64 s3) ∧ W.cell? ⟨w.heap.size, 4, none⟩ = some (.int .u8 s4) ∧ W.cell? ⟨w.heap.size, 5, none⟩ = some (.int .i64 s5))
        (first
          | (refine HSK.out _ ?_
             repeat' (first | with_reducible exact hbA | with_reducible apply below_drew | with_reducible apply below_new)))
        (first
          | (go_at_call 117; refine (h3 _).mono ?_; rintro e w4 ⟨u4, rfl, hh4, hb4⟩
             have hbN : Below w3.heap.size w3 w4 := below2 (below_drew hbA) hb4
             clear hbA
             have hbA := hbN
             clear hbN))
      all_goals go_wp2_with fail
      all_goals go_ret2
      all_goals exact ⟨_, by rw [HPV.out]; rfl, by rw [HPV.out]; exact hh4, below2 hB hbA⟩
    · have hdr := hlw.drop (k + 1) (by rw [← HN.out]; exact hkn2)
      rw [q2, ← HN.out] at hdr
      have h3 := H3.out w3.drew _ _ _ _ k (n - (k + 1)) c (c - (k + 1)) (by rw [← q1, List.length_take]; have := HN.out; omega) (by rw [← q2, List.length_drop, ← HN.out]) hta hdr (by omega) (by omega)
      clear hta hdr hlw q1 q2
      have HSK : Hid (∀ W : World, Below w3.heap.size w3 W → W.cell? ⟨w.heap.size, 0, none⟩ = some (.bool s0) ∧ W.cell? ⟨w.heap.size, 1, none⟩ = some (.int .u64 s1) ∧ W.cell? ⟨w.heap.size, 2, none⟩ = some (.int .u64 s2) ∧ W.cell? ⟨w.heap.size, 3, none⟩ = some (.int .i64 s3) ∧ W.cell? ⟨w.heap.size, 4, none⟩ = some (.int .u8 s4) ∧ W.cell? ⟨w.heap.size, 5, none⟩ = some (.int .i64 s5)) := fun W hb => HCL.out (RowAt.below r0 hb)
      have hbA : Below w3.heap.size w3 w3 := Below.refl _ _
      have hd0 : ¬ False := id
      clear HL2 H3
      go_wp2_with fail
      clear y0 y1 y2 y3 y4 y5 r0
      go_region_held3 (fun W => W.cell? ⟨w.heap.size, 0, none⟩ = some (.bool s0) ∧ W.cell? ⟨w.heap.size, 1, none⟩ = some (.int .u64 s1) ∧ W.cell? ⟨w.heap.size, 2, none⟩ = some (.int .u64 s2) ∧ W.cell? ⟨w.heap.size, 3, none⟩ = some (.int .i64 s3) ∧ W.cell? ⟨w.heap.size, 4, none⟩ = some (.int .u8 s4) ∧ W.cell? ⟨w.heap.size, 5, none⟩ = some (.int .i64 s5))
        (first
          | (refine HSK.out _ ?_
             repeat' (first | with_reducible exact hbA | with_reducible apply below_drew | with_reducible apply below_new)))
        (first
          | (go_at_call 117; refine (h3 : Calls _ _ _ _ _).mono ?_; rintro e w4 ⟨u4, rfl, hh4, hb4⟩
             have hbN : Below w3.heap.size w3 w4 := below2 (below_drew hbA) hb4
             clear hbA
             have hbA := hbN
             clear hbN))
      all_goals go_wp2_with fail
      all_goals go_ret2
      all_goals exact ⟨_, by rw [HPV.out]; rfl, by rw [HPV.out]; exact hh4, below2 hB hbA⟩
end Go.Proofs.YtkjhnefbcnnjlaaGreat.Tr

namespace Go.Proofs.YtkjhnefbcnnjlaaGreat.Tr
open Go.RowKit
open Go.Proofs.YtkjhnefbcnnjlaaGreat.Lk (HasRow)
open Go.Proofs.YtkjhnefbcnnjlaaGreat.Addr (Pf okP hiN loN RowAt below2 below_drew below_new RowAt.lt RowAt.cell RowAt.below RowAt.drew RowAt.new RowAt.alloc cells4)
attribute [-go_sem] Builtin.append_
/-- the row of two parts -/
theorem two_rows {W : World} {la lc : List Rt} {oa oc : Option Addr} {na nc ca cc : Nat} (ea : na = la.length) (ec : nc = lc.length) (ha : HasRts W (.slice oa na ca) la) (hc : HasRts W (.slice oc nc cc) lc) (h1 : na ≤ 1000) (h2 : nc ≤ 1000) :
    Calls Tryz.prog 117 #[.slice (some ⟨W.heap.size, 0, none⟩) 2 2] (W.alloc (.cells #[.slice oa na ca, .slice oc nc cc] 48)) fun e w' => ∃ v, e = .returned v ∧ HasRts w' v (la ++ lc) ∧ Below W.heap.size W w' := by
  obtain ⟨Z, hZ⟩ : ∃ Z, Z = W.alloc (.cells #[.slice oa na ca, .slice oc nc cc] 48) := ⟨_, rfl⟩
  have hbZ : Below W.heap.size W Z := by rw [hZ]; exact below_new (Below.refl _ _) _
  have rZ : RowAt Z W.heap.size [.slice oa na ca, .slice oc nc cc] 48 := by rw [hZ]; exact RowAt.new _ _ _
  rw [← hZ]
  clear hZ
  refine (concat2_any W.heap.size la lc oa oc na nc ca cc Z rZ.lt (rZ.cell 0) (rZ.cell 1) ea ec (ha.keep hbZ) (hc.keep hbZ) h1 h2).mono ?_
  rintro e w' ⟨v, rfl, ho, hb⟩
  exact ⟨v, rfl, hasRow_own ho, below2 hbZ hb⟩
set_option maxHeartbeats 8000000 in
set_option maxRecDepth 20000 in
theorem del_any (l : List Rt) (v : Value) (p : Pf) (w : World) (hl : HasRts w v l) (hf : ∀ x ∈ l, FitR x) (hp : FitP p) :
    Calls Tryz.prog 90 #[v, .agg #[.bool p.six, .int .u64 (hiN p.n : Int), .int .u64 (loN p.n : Int), .int .i64 p.len]] w fun e w' => ∃ u, e = .returned (.tuple #[u, .int .i64 (delT l p).2]) ∧ HasRts w' u (delT l p).1 ∧ Below w.heap.size w w' := by
  obtain ⟨o, c, rfl, hc1, hc2⟩ := Lk.HasRow.slice hl
  have cc := fun W (hb : Below w.heap.size w W) => check_any l _ W (hl.keep hb) hf
  have c1 : ∀ W, Calls Tryz.prog 114 #[.agg #[.bool p.six, .int .u64 (hiN p.n : Int), .int .u64 (loN p.n : Int), .int .i64 p.len]] W fun e w' => e = .returned (.int .i64 (if okP p then 0 else 2)) ∧ Below W.heap.size W w' := fun W => Addr.check_any p W hp.1 hp.2
  have hck : checkT l = if okT l then 0 else 2 := rfl
  rw [hck] at cc
  have hPd : delT l p = if okT l && okP p then (othersT l p, if (othersT l p).length = l.length then 3 else 0) else ([], 2) := rfl
  obtain ⟨X, hX⟩ : ∃ X, X = w.alloc (.cells #[.bool p.six, .int .u64 (hiN p.n : Int), .int .u64 (loN p.n : Int), .int .i64 p.len] 33) := ⟨_, rfl⟩
  have hB : Below w.heap.size w X := by rw [hX]; exact below_new (Below.refl _ _) _
  have r0 : RowAt X w.heap.size [.bool p.six, .int .u64 (hiN p.n : Int), .int .u64 (loN p.n : Int), .int .i64 p.len] 33 := by rw [hX]; exact RowAt.new _ _ _
  cases hok : okT l
  · rw [hok] at cc hPd
    simp only [Bool.false_eq_true, if_false, Bool.false_and] at cc hPd
    rw [hPd]
    clear hPd
    go_enter Tryz.func90, Tryz.ntmps90
    go_upto_region 1 with fail
    rw [← hX]
    clear hX
    go_wp2_with fail
    go_at_call 47; refine (cc _ hB).mono ?_; rintro e w1 ⟨rfl, hb1⟩
    go_wp2_with fail
    go_ret2
    exact ⟨_, rfl, Lk.hasRow_nil _ 6, below2 hB hb1⟩
  rw [hok] at cc hPd
  simp only [if_true, Bool.true_and] at cc hPd
  cases hox : okP p
  · rw [hox] at c1 hPd
    simp only [Bool.false_eq_true, if_false] at c1 hPd
    rw [hPd]
    clear hPd
    go_enter Tryz.func90, Tryz.ntmps90
    go_upto_region 1 with fail
    rw [← hX]
    clear hX
    go_wp2_with fail
    go_at_call 47; refine (cc _ hB).mono ?_; rintro e w1 ⟨rfl, hb1⟩
    replace r0 := RowAt.below r0 hb1
    obtain ⟨y0, y1, y2, y3, yf⟩ := cells4 r0
    go_wp2_with fail
    go_at_call 114; refine (c1 _).mono ?_; rintro e w2 ⟨rfl, hb2⟩
    go_wp2_with fail
    go_ret2
    exact ⟨_, rfl, Lk.hasRow_nil _ 6, below2 (below2 hB hb1) hb2⟩
  rw [hox] at c1 hPd
  simp only [if_true] at c1 hPd
  have hlen : l.length ≤ 256 := ((okT_iff l).1 hok).1
  have hup : Up l := ((okT_iff l).1 hok).2.2
  have cp := fun W (hb : Below w.heap.size w W) => place_any l _ p W (hl.keep hb) hup hf hp hlen
  have ck := fun W (hb : Below w.heap.size w W) => clone_any l _ W (hl.keep hb) (by omega)
  rw [hPd]
  obtain ⟨PL, hPL⟩ : ∃ PL, PL = ((othersT l p, if (othersT l p).length = l.length then 3 else 0) : List Rt × Int) := ⟨_, rfl⟩
  rw [← hPL]
  have HP : Hid (PL = ((othersT l p, if (othersT l p).length = l.length then 3 else 0) : List Rt × Int)) := hPL
  clear hPL hPd hck
  have HL : Hid (∀ W, Below w.heap.size w W → HasRts W (.slice o l.length c) l) := fun W hb => hl.keep hb
  obtain ⟨n, hn⟩ : ∃ n, n = l.length := ⟨_, rfl⟩
  have HN : Hid (n = l.length) := hn
  have H3 : Hid (∀ (W : World) (la lc : List Rt) (oa oc : Option Addr) (na nc ca cc : Nat), na = la.length → nc = lc.length → HasRts W (.slice oa na ca) la → HasRts W (.slice oc nc cc) lc → na ≤ 1000 → nc ≤ 1000 → Calls Tryz.prog 117 #[.slice (some ⟨W.heap.size, 0, none⟩) 2 2] (W.alloc (.cells #[.slice oa na ca, .slice oc nc cc] 48)) fun e w' => ∃ v, e = .returned v ∧ HasRts w' v (la ++ lc) ∧ Below W.heap.size W w') := fun W la lc oa oc na nc ca cc a b c d e f => two_rows a b c d e f
  have HPA : Hid (∀ k, Pos l p k → isAt l p k = true → ∃ h : k < l.length, l[k].pf = p ∧ l.take k = aheadT l p ∧ l.drop (k + 1) = behindT l p ∧ othersT l p = l.take k ++ l.drop (k + 1)) := fun k a b => parts_at hup a b
  have HPO : Hid (∀ k, Pos l p k → isAt l p k = false → l.take k = aheadT l p ∧ l.drop k = behindT l p ∧ othersT l p = l) := fun k a b => parts_off hup a b
  rw [← hn] at hc1 hlen cc cp ck ⊢
  have HL2 : Hid (∀ W, Below w.heap.size w W → HasRts W (.slice o n c) l) := by rw [hn]; exact HL
  have hni : (n : Int) ≤ 256 := by omega
  clear hl hf hn HL hup
  go_enter Tryz.func90, Tryz.ntmps90
  go_upto_region 1 with fail
  rw [← hX]
  clear hX
  go_wp2_with fail
  go_at_call 47; refine (cc _ hB).mono ?_; rintro e w1 ⟨rfl, hb1⟩
  replace r0 := RowAt.below r0 hb1
  replace hB := below2 hB hb1
  obtain ⟨y0, y1, y2, y3, yf⟩ := cells4 r0
  clear hb1 cc
  go_wp2_with fail
  clear y0 y1 y2 y3 yf
  go_at_call 114; refine (c1 _).mono ?_; rintro e w2 ⟨rfl, hb2⟩
  replace r0 := RowAt.below r0 hb2
  replace hB := below2 hB hb2
  obtain ⟨y0, y1, y2, y3, yf⟩ := cells4 r0
  clear hb2 c1
  go_wp2_with fail
  clear y0 y1 y2 y3 yf
  go_at_call 116; refine (cp _ hB).mono ?_; rintro e w3 ⟨k, hk, rfl, hb3⟩
  replace hB := below2 hB hb3
  clear hb3 cp r0
  have hkn : k ≤ n := by rw [HN.out]; exact hk.1
  have hki : (k : Int) ≤ (n : Int) := by omega
  cases hat : isAt l p k
  · obtain ⟨q1, q2, q3⟩ := HPO.out k hk hat
    have HPV : Hid (PL = (l, 3)) := by show _ = _; rw [HP.out, q3, if_pos rfl]
    clear HP HPA HPO q1 q2 q3 H3
    go_wp2_with fail
    go_at_call 52; refine (ck _ hB).mono ?_; rintro e w4 ⟨u4, rfl, ho4, hb4⟩
    have hh : HasRts w4 u4 l := by have h := hasRow_own ho4; rw [HN.out] at h; exact h
    go_wp2_with fail
    go_ret2
    exact ⟨_, by rw [HPV.out]; rfl, by rw [HPV.out]; exact hh, below2 hB hb4⟩
  · obtain ⟨hkl, q0, q1, q2, q3⟩ := HPA.out k hk hat
    have hkn2 : k + 1 ≤ n := by rw [HN.out]; exact hkl
    have HPV : Hid (PL = (l.take k ++ l.drop (k + 1), 0)) := by
      show _ = _
      rw [HP.out, q3, if_neg (by rw [List.length_append, List.length_take, List.length_drop]; omega)]
    have hlw := HL2.out _ hB
    clear HP HPA HPO ck q0 q1 q2 q3
    obtain ⟨b, i, rfl⟩ : ∃ b i, o = some ⟨b, i, none⟩ := by
      obtain ⟨_, b, i, e, _⟩ := Lk.HasRow.at hlw (by rw [← HN.out]; omega)
      exact ⟨b, i, e⟩
    have hta := hlw.take k (by rw [← HN.out]; exact hkn)
    have hkc : (k : Int) ≤ (c : Int) := by omega
    have hk1n : (k : Int) + 1 ≤ (n : Int) := by omega
    have hk1c : (k : Int) + 1 ≤ (c : Int) := by omega
    have hk10 : (0 : Int) ≤ (k : Int) + 1 := by omega
    have hw1 : IntKind.i64.wrap ((k : Int) + 1) = (k : Int) + 1 := by rw [IntKind.wrap_i64]; omega
    have htn : ((k : Int) + 1).toNat = k + 1 := by omega
    by_cases hck : c = k + 1
    · have hnk : n = k + 1 := by omega
      have hbe : l.drop (k + 1) = [] := List.drop_of_length_le (by rw [← HN.out]; omega)
      have hle : ∀ a' c', c' ≤ 9223372036854775807 → HasRts w3 (.slice (some a') 0 c') (l.drop (k + 1)) := fun a' c' h => by rw [hbe]; exact has_empty _ _ _ h
      subst hck hnk
      have hkk : (k : Int) ≤ (k : Int) + 1 := by omega
      have h3 := fun a' => H3.out w3.drew _ _ (some ⟨b, i, none⟩) (some a') k 0 (k + 1) 0 (by rw [List.length_take]; have := HN.out; omega) (by rw [hbe]; rfl) hta (hle a' 0 (by omega)) (by omega) (by omega)
      clear hta hle hlw hbe
      have hbA : Below w3.heap.size w3 w3 := Below.refl _ _
      have hd0 : ¬ False := id
      clear HL2 H3
      go_wp2_with fail
      go_region_held3 (fun _ => True)
        (first | trivial)
        (first
          | (go_at_call 117; refine (h3 _).mono ?_; rintro e w4 ⟨u4, rfl, hh4, hb4⟩
             have hbN : Below w3.heap.size w3 w4 := below2 (below_drew hbA) hb4
             clear hbA
             have hbA := hbN
             clear hbN))
      all_goals go_wp2_with fail
      all_goals go_ret2
      all_goals exact ⟨_, by rw [HPV.out]; rfl, by rw [HPV.out]; exact hh4, below2 hB hbA⟩
    · have hdr := hlw.drop (k + 1) (by rw [← HN.out]; exact hkn2)
      rw [← HN.out] at hdr
      have h3 := H3.out w3.drew _ _ _ _ k (n - (k + 1)) c (c - (k + 1)) (by rw [List.length_take]; have := HN.out; omega) (by rw [List.length_drop, ← HN.out]) hta hdr (by omega) (by omega)
      clear hta hdr hlw
      have hbA : Below w3.heap.size w3 w3 := Below.refl _ _
      have hd0 : ¬ False := id
      clear HL2 H3
      go_wp2_with fail
      go_region_held3 (fun _ => True)
        (first | trivial)
        (first
          | (go_at_call 117; refine (h3 : Calls _ _ _ _ _).mono ?_; rintro e w4 ⟨u4, rfl, hh4, hb4⟩
             have hbN : Below w3.heap.size w3 w4 := below2 (below_drew hbA) hb4
             clear hbA
             have hbA := hbN
             clear hbN))
      all_goals go_wp2_with fail
      all_goals go_ret2
      all_goals exact ⟨_, by rw [HPV.out]; rfl, by rw [HPV.out]; exact hh4, below2 hB hbA⟩
end Go.Proofs.YtkjhnefbcnnjlaaGreat.Tr
