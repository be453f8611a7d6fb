/- Routes held against each other; rows of routes that are one. -/
import Derived.Test.YtaaedgfacnaggaaTs08
import Derived.Test.YtaaedgfacnaggaaTs09
import Derived.Deep.RegionHeld3
import Derived.Test.YtaaedgfacnaggaaTs14
import Derived.Test.YtaaedgfacnaggaaTs16
import Derived.Test.YtaaedgfacnaggaaTs04
import Derived.Test.YtaaedgfacnaggaaTs13
import Derived.BigQuiet
import Derived.Deep.QuietTactic
import Derived.Laws.StructEq
set_option linter.unusedVariables false
namespace Go.Proofs.Ytaaedgfacnaggaa.Tr
open Go.RowKit
open Go.Proofs.Ytaaedgfacnaggaa.Lk (HasRow)
open Go.Proofs.Ytaaedgfacnaggaa.Addr (hiN loN RowAt below2 below_drew below_new RowAt.lt RowAt.cell RowAt.below RowAt.drew RowAt.new RowAt.alloc)
attribute [-go_sem] Builtin.append_
/-- one route in a row of its own, and the row of the three parts -/
theorem three_rows {W : World} {la lc : List Rt} {r : Rt} {oa oc : Option Addr} {na nc ca cc : Nat} (ea : na = la.length) (ec : nc = lc.length) (ha : HasRts W (.slice oa na ca) la) (hc : HasRts W (.slice oc nc cc) lc) (h1 : na ≤ 1000) (h2 : nc ≤ 1000) :
    Calls Try.prog 30 #[.slice (some ⟨W.heap.size + 1, 0, none⟩) 3 3] ((W.alloc (.cells #[.bool r.pf.six, .int .u64 (hiN r.pf.n : Int), .int .u64 (loN r.pf.n : Int), .int .i64 r.pf.len, .int .u8 (r.act.k : Int), .int .i64 r.act.i] 37)).alloc (.cells #[.slice oa na ca, .slice (some ⟨W.heap.size, 0, none⟩) 1 1, .slice oc nc cc] 22)) fun e w' => ∃ v, e = .returned v ∧ HasRts w' v (la ++ ([r] ++ lc)) ∧ Below W.heap.size W w' := by
  obtain ⟨Y, hY⟩ : ∃ Y, Y = W.alloc (.cells #[.bool r.pf.six, .int .u64 (hiN r.pf.n : Int), .int .u64 (loN r.pf.n : Int), .int .i64 r.pf.len, .int .u8 (r.act.k : Int), .int .i64 r.act.i] 37) := ⟨_, rfl⟩
  have hbY : Below W.heap.size W Y := by rw [hY]; exact below_new (Below.refl _ _) _
  have hsY : Y.heap.size = W.heap.size + 1 := by rw [hY]; simp
  have rY : RowAt Y W.heap.size (rtC r) 37 := by rw [hY]; exact RowAt.new _ _ _
  rw [← hY]
  clear hY
  obtain ⟨Z, hZ⟩ : ∃ Z, Z = Y.alloc (.cells #[.slice oa na ca, .slice (some ⟨W.heap.size, 0, none⟩) 1 1, .slice oc nc cc] 22) := ⟨_, rfl⟩
  have hbZ : Below Y.heap.size Y Z := by rw [hZ]; exact below_new (Below.refl _ _) _
  have rZ : RowAt Z Y.heap.size [.slice oa na ca, .slice (some ⟨W.heap.size, 0, none⟩) 1 1, .slice oc nc cc] 22 := by rw [hZ]; exact RowAt.new _ _ _
  rw [← hZ, ← hsY]
  clear hZ
  have hB := below2 hbY hbZ
  have rr : HasRts Z (.slice (some ⟨W.heap.size, 0, none⟩) 1 1) [r] := by
    have rY2 := rY.below hbZ
    refine ⟨rfl, .inr ⟨_, 1, rfl, Nat.le_refl _, by omega, fun _ => ⟨rfl, rY2.lt⟩, fun j _ => ?_⟩⟩
    rw [Lk.addr_add, Nat.zero_add, rY2.cell]
    simp [rtCs]
  refine (concat_any Y.heap.size la [r] lc oa (some ⟨W.heap.size, 0, none⟩) oc na 1 nc ca 1 cc Z rZ.lt (rZ.cell 0) (rZ.cell 1) (rZ.cell 2) ea rfl ec (ha.keep hB) rr (hc.keep hB) h1 (by omega) h2).mono ?_
  rintro e w' ⟨v, rfl, ho, hb⟩
  exact ⟨v, rfl, hasRow_own ho, below2 hB hb⟩
set_option maxHeartbeats 8000000 in
set_option maxRecDepth 20000 in
theorem put_any (l : List Rt) (v : Value) (r : Rt) (w : World) (hl : HasRts w v l) (hf : ∀ x ∈ l, FitR x) (hr : FitR r) :
    Calls Try.prog 14 #[v, .agg #[.bool r.pf.six, .int .u64 (hiN r.pf.n : Int), .int .u64 (loN r.pf.n : Int), .int .i64 r.pf.len, .int .u8 (r.act.k : Int), .int .i64 r.act.i]] w fun e w' => ∃ u, e = .returned (.tuple #[u, .int .i64 (putT l r).2]) ∧ HasRts w' u (putT l r).1 ∧ Below w.heap.size w w' := by
  obtain ⟨o, c, rfl, hc1, hc2⟩ := Lk.HasRow.slice hl
  have cc := fun W (hb : Below w.heap.size w W) => check_any l _ W (hl.keep hb) hf
  have c1 := fun W => right_any r W hr
  have hck : checkT l = if okT l then 0 else 2 := rfl
  rw [hck] at cc
  have hPd : putT l r = if okT l && okR r then (if (othersT l r.pf).length = 256 then (l, 8) else (insT l r, 0)) else ([], 2) := rfl
  obtain ⟨X, hX⟩ : ∃ X, X = w.alloc (.cells #[.bool r.pf.six, .int .u64 (hiN r.pf.n : Int), .int .u64 (loN r.pf.n : Int), .int .i64 r.pf.len, .int .u8 (r.act.k : Int), .int .i64 r.act.i] 37) := ⟨_, rfl⟩
  have hB : Below w.heap.size w X := by rw [hX]; exact below_new (Below.refl _ _) _
  have r0 : RowAt X w.heap.size [.bool r.pf.six, .int .u64 (hiN r.pf.n : Int), .int .u64 (loN r.pf.n : Int), .int .i64 r.pf.len, .int .u8 (r.act.k : Int), .int .i64 r.act.i] 37 := by rw [hX]; exact RowAt.new _ _ _
  cases hok : okT l
  · rw [hok] at cc hPd
    simp only [Bool.false_eq_true, if_false, Bool.false_and] at cc hPd
    rw [hPd]
    clear hPd
    go_enter Try.func14, Try.ntmps14
    go_upto_region 1 with fail
    rw [← hX]
    clear hX
    go_wp2_with fail
    go_at_call 9; refine (cc _ hB).mono ?_; rintro e w1 ⟨rfl, hb1⟩
    go_wp2_with fail
    go_ret2
    exact ⟨_, rfl, Lk.hasRow_nil _ 6, below2 hB hb1⟩
  rw [hok] at cc hPd
  simp only [if_true, Bool.true_and] at cc hPd
  have cells : ∀ {W : World}, RowAt W w.heap.size [.bool r.pf.six, .int .u64 (hiN r.pf.n : Int), .int .u64 (loN r.pf.n : Int), .int .i64 r.pf.len, .int .u8 (r.act.k : Int), .int .i64 r.act.i] 37 → W.cell? ⟨w.heap.size, 0, none⟩ = some (.bool r.pf.six) ∧ W.cell? ⟨w.heap.size, 1, none⟩ = some (.int .u64 (hiN r.pf.n : Int)) ∧ W.cell? ⟨w.heap.size, 2, none⟩ = some (.int .u64 (loN r.pf.n : Int)) ∧ W.cell? ⟨w.heap.size, 3, none⟩ = some (.int .i64 r.pf.len) ∧ W.cell? ⟨w.heap.size, 4, none⟩ = some (.int .u8 (r.act.k : Int)) ∧ W.cell? ⟨w.heap.size, 5, none⟩ = some (.int .i64 r.act.i) := fun h => ⟨h.cell 0, h.cell 1, h.cell 2, h.cell 3, h.cell 4, h.cell 5⟩
  have HCL : Hid (∀ {W : World}, RowAt W w.heap.size [.bool r.pf.six, .int .u64 (hiN r.pf.n : Int), .int .u64 (loN r.pf.n : Int), .int .i64 r.pf.len, .int .u8 (r.act.k : Int), .int .i64 r.act.i] 37 → W.cell? ⟨w.heap.size, 0, none⟩ = some (.bool r.pf.six) ∧ W.cell? ⟨w.heap.size, 1, none⟩ = some (.int .u64 (hiN r.pf.n : Int)) ∧ W.cell? ⟨w.heap.size, 2, none⟩ = some (.int .u64 (loN r.pf.n : Int)) ∧ W.cell? ⟨w.heap.size, 3, none⟩ = some (.int .i64 r.pf.len) ∧ W.cell? ⟨w.heap.size, 4, none⟩ = some (.int .u8 (r.act.k : Int)) ∧ W.cell? ⟨w.heap.size, 5, none⟩ = some (.int .i64 r.act.i)) := cells
  clear cells
  cases hox : okR r
  · rw [hox] at c1 hPd
    simp only [Bool.false_eq_true, if_false] at hPd
    rw [hPd]
    clear hPd
    go_enter Try.func14, Try.ntmps14
    go_upto_region 1 with fail
    rw [← hX]
    clear hX
    go_wp2_with fail
    go_at_call 9; refine (cc _ hB).mono ?_; rintro e w1 ⟨rfl, hb1⟩
    replace r0 := RowAt.below r0 hb1
    obtain ⟨y0, y1, y2, y3, y4, y5⟩ := HCL.out r0
    go_wp2_with fail
    go_at_call 21; refine (c1 _).mono ?_; rintro e w2 ⟨rfl, hb2⟩
    go_wp2_with fail
    go_ret2
    exact ⟨_, rfl, Lk.hasRow_nil _ 6, below2 (below2 hB hb1) hb2⟩
  rw [hox] at c1 hPd
  simp only [if_true] at hPd
  have hlen : l.length ≤ 256 := ((okT_iff l).1 hok).1
  have hup : Up l := ((okT_iff l).1 hok).2.2
  have cp := fun W (hb : Below w.heap.size w W) => place_any l _ r.pf W (hl.keep hb) hup hf hr.1 hlen
  have ck := fun W (hb : Below w.heap.size w W) => clone_any l _ W (hl.keep hb) (by omega)
  rw [hPd]
  obtain ⟨PL, hPL⟩ : ∃ PL, PL = (if (othersT l r.pf).length = 256 then (l, 8) else (insT l r, 0) : List Rt × Int) := ⟨_, rfl⟩
  rw [← hPL]
  have HP : Hid (PL = (if (othersT l r.pf).length = 256 then (l, 8) else (insT l r, 0) : List Rt × Int)) := hPL
  clear hPL hPd hck
  have HL : Hid (∀ W, Below w.heap.size w W → HasRts W (.slice o l.length c) l) := fun W hb => hl.keep hb
  obtain ⟨n, hn⟩ : ∃ n, n = l.length := ⟨_, rfl⟩
  have HN : Hid (n = l.length) := hn
  have H3 : Hid (∀ (W : World) (la lc : List Rt) (oa oc : Option Addr) (na nc ca cc : Nat), na = la.length → nc = lc.length → HasRts W (.slice oa na ca) la → HasRts W (.slice oc nc cc) lc → na ≤ 1000 → nc ≤ 1000 → Calls Try.prog 30 #[.slice (some ⟨W.heap.size + 1, 0, none⟩) 3 3] ((W.alloc (.cells #[.bool r.pf.six, .int .u64 (hiN r.pf.n : Int), .int .u64 (loN r.pf.n : Int), .int .i64 r.pf.len, .int .u8 (r.act.k : Int), .int .i64 r.act.i] 37)).alloc (.cells #[.slice oa na ca, .slice (some ⟨W.heap.size, 0, none⟩) 1 1, .slice oc nc cc] 22)) fun e w' => ∃ v, e = .returned v ∧ HasRts w' v (la ++ ([r] ++ lc)) ∧ Below W.heap.size W w') := fun W la lc oa oc na nc ca cc a b d e f g => three_rows a b d e f g
  have HI : Hid (insT l r = aheadT l r.pf ++ ([r] ++ behindT l r.pf)) := rfl
  have HPA : Hid (∀ k, Pos l r.pf k → isAt l r.pf k = true → ∃ h : k < l.length, l[k].pf = r.pf ∧ l.take k = aheadT l r.pf ∧ l.drop (k + 1) = behindT l r.pf ∧ othersT l r.pf = l.take k ++ l.drop (k + 1)) := fun k a b => parts_at hup a b
  have HPO : Hid (∀ k, Pos l r.pf k → isAt l r.pf k = false → l.take k = aheadT l r.pf ∧ l.drop k = behindT l r.pf ∧ othersT l r.pf = l) := fun k a b => parts_off hup a b
  rw [← hn] at hc1 hlen cc cp ck ⊢
  have HL2 : Hid (∀ W, Below w.heap.size w W → HasRts W (.slice o n c) l) := by rw [hn]; exact HL
  have hni : (n : Int) ≤ 256 := by omega
  clear hl hf hr hn HL hup
  generalize r.pf.six = s0 at *
  generalize (hiN r.pf.n : Int) = s1 at *
  generalize (loN r.pf.n : Int) = s2 at *
  generalize r.pf.len = s3 at *
  generalize (r.act.k : Int) = s4 at *
  generalize r.act.i = s5 at *
  go_enter Try.func14, Try.ntmps14
  go_upto_region 1 with fail
  rw [← hX]
  clear hX
  go_wp2_with fail
  go_at_call 9; refine (cc _ hB).mono ?_; rintro e w1 ⟨rfl, hb1⟩
  replace r0 := RowAt.below r0 hb1
  replace hB := below2 hB hb1
  obtain ⟨y0, y1, y2, y3, y4, y5⟩ := HCL.out r0
  clear hb1 cc
  go_wp2_with fail
  clear y0 y1 y2 y3 y4 y5
  go_at_call 21; refine (c1 _).mono ?_; rintro e w2 ⟨rfl, hb2⟩
  replace r0 := RowAt.below r0 hb2
  replace hB := below2 hB hb2
  obtain ⟨y0, y1, y2, y3, y4, y5⟩ := HCL.out r0
  clear hb2 c1
  go_wp2_with fail
  clear y0 y1 y2 y3 y4 y5
  go_at_call 29; refine (cp _ hB).mono ?_; rintro e w3 ⟨k, hk, rfl, hb3⟩
  replace r0 := RowAt.below r0 hb3
  replace hB := below2 hB hb3
  clear hb3 cp
  obtain ⟨y0, y1, y2, y3, y4, y5⟩ := HCL.out r0
  have hkn : k ≤ n := by rw [HN.out]; exact hk.1
  have hki : (k : Int) ≤ (n : Int) := by omega
  cases hat : isAt l r.pf k
  · obtain ⟨q1, q2, q3⟩ := HPO.out k hk hat
    by_cases h256 : n = 256
    · have HPV : Hid (PL = (l, 8)) := by show _ = _; rw [HP.out, q3, ← HN.out, if_pos h256]
      clear HP HPA HPO q1 q2 q3 H3
      subst h256
      go_wp2_with fail
      clear y0 y1 y2 y3 y4 y5
      go_at_call 31; refine (ck _ hB).mono ?_; rintro e w4 ⟨u4, rfl, ho4, hb4⟩
      have hh : HasRts w4 u4 l := by have h := hasRow_own ho4; rw [HN.out] at h; exact h
      go_wp2_with fail
      go_ret2
      exact ⟨_, by rw [HPV.out]; rfl, by rw [HPV.out]; exact hh, below2 hB hb4⟩
    · have h256b : ((n : Int) == 256) = false := beq_eq_false_iff_ne.2 (by omega)
      have HPV : Hid (PL = (aheadT l r.pf ++ ([r] ++ behindT l r.pf), 0)) := by show _ = _; rw [HP.out, q3, ← HN.out, if_neg h256, HI.out]
      have hlw := HL2.out _ hB
      clear HP HPA HPO h256 ck
      have hta := hlw.take k (by rw [← HN.out]; exact hkn)
      rw [q1] at hta
      by_cases hck : c = k
      · have hnk : n = k := by omega
        have hbe : behindT l r.pf = [] := by rw [← q2]; exact List.drop_of_length_le (by rw [← HN.out]; omega)
        subst hck hnk
        have hle : HasRts w3 (.slice o 0 0) (behindT l r.pf) := by
          rw [hbe]
          cases o with
          | none => exact Lk.hasRow_nil _ 6
          | some a => exact has_empty _ _ _ (by omega)
        have h3 := H3.out w3.drew _ _ o o n 0 n 0 (by rw [← q1, List.length_take]; have := HN.out; omega) (by rw [hbe]; rfl) hta hle (by omega) (by omega)
        clear hta hle hlw q1 q2 q3 hbe
        have HSK : Hid (∀ W : World, Below w3.heap.size w3 W → W.cell? ⟨w.heap.size, 0, none⟩ = some (.bool s0) ∧ W.cell? ⟨w.heap.size, 1, none⟩ = some (.int .u64 s1) ∧ W.cell? ⟨w.heap.size, 2, none⟩ = some (.int .u64 s2) ∧ W.cell? ⟨w.heap.size, 3, none⟩ = some (.int .i64 s3) ∧ W.cell? ⟨w.heap.size, 4, none⟩ = some (.int .u8 s4) ∧ W.cell? ⟨w.heap.size, 5, none⟩ = some (.int .i64 s5)) := fun W hb => HCL.out (RowAt.below r0 hb)
        have hbA : Below w3.heap.size w3 w3 := Below.refl _ _
        have hd0 : ¬ False := id
        clear HL2 H3
        go_wp2_with fail
        clear y0 y1 y2 y3 y4 y5 r0
        go_region_held3 (fun W => W.cell? ⟨w.heap.size, 0, none⟩ = some (.bool s0) ∧ W.cell? ⟨w.heap.size, 1, none⟩ = some (.int .u64 s1) ∧ W.cell? ⟨w.heap.size, 2, none⟩ = some (.int .u64 s2) ∧ W.cell? ⟨w.heap.size, 3, none⟩ = some (.int .i64 s3) ∧ W.cell? ⟨w.heap.size, 4, none⟩ = some (.int .u8 s4) ∧ W.cell? ⟨w.heap.size, 5, none⟩ = some (.int .i64 s5))
          (first
            | (refine HSK.out _ ?_
               repeat' (first | with_reducible exact hbA | with_reducible apply below_drew | with_reducible apply below_new)))
          (first
            | (go_at_call 30; refine (h3 : Calls _ _ _ _ _).mono ?_; rintro e w4 ⟨u4, rfl, hh4, hb4⟩
               have hbN : Below w3.heap.size w3 w4 := below2 (below_drew hbA) hb4
               clear hbA
               have hbA := hbN
               clear hbN))
        all_goals go_wp2_with fail
        all_goals go_ret2
        all_goals exact ⟨_, by rw [HPV.out]; rfl, by rw [HPV.out]; exact hh4, below2 hB hbA⟩
      · by_cases hn0 : n = 0
        · have hk0 : k = 0 := by omega
          have hbe : behindT l r.pf = [] := by rw [← q2]; exact List.drop_of_length_le (by rw [← HN.out]; omega)
          obtain ⟨a, rfl⟩ : ∃ a, o = some a := by
            cases o with
            | some a => exact ⟨a, rfl⟩
            | none =>
              exfalso
              rcases hlw.2 with ⟨e, _⟩ | ⟨a, cap, e, _⟩
              · injection e with _ _ e
                omega
              · cases e
          subst hn0 hk0
          have hle : ∀ a', HasRts w3 (.slice (some a') 0 c) (behindT l r.pf) := fun a' => by rw [hbe]; exact has_empty _ _ _ hc2
          have h3 := fun a' => H3.out w3.drew _ _ (some a) (some a') 0 0 c c (by rw [← q1, List.length_take]; have := HN.out; omega) (by rw [hbe]; rfl) hta (hle a') (by omega) (by omega)
          clear hta hle hlw q1 q2 q3 hbe
          have HSK : Hid (∀ W : World, Below w3.heap.size w3 W → W.cell? ⟨w.heap.size, 0, none⟩ = some (.bool s0) ∧ W.cell? ⟨w.heap.size, 1, none⟩ = some (.int .u64 s1) ∧ W.cell? ⟨w.heap.size, 2, none⟩ = some (.int .u64 s2) ∧ W.cell? ⟨w.heap.size, 3, none⟩ = some (.int .i64 s3) ∧ W.cell? ⟨w.heap.size, 4, none⟩ = some (.int .u8 s4) ∧ W.cell? ⟨w.heap.size, 5, none⟩ = some (.int .i64 s5)) := fun W hb => HCL.out (RowAt.below r0 hb)
          have hbA : Below w3.heap.size w3 w3 := Below.refl _ _
          have hd0 : ¬ False := id
          clear HL2 H3
          go_wp2_with fail
          clear y0 y1 y2 y3 y4 y5 r0
          go_region_held3 (fun W => W.cell? ⟨w.heap.size, 0, none⟩ = some (.bool s0) ∧ W.cell? ⟨w.heap.size, 1, none⟩ = some (.int .u64 s1) ∧ W.cell? ⟨w.heap.size, 2, none⟩ = some (.int .u64 s2) ∧ W.cell? ⟨w.heap.size, 3, none⟩ = some (.int .i64 s3) ∧ W.cell? ⟨w.heap.size, 4, none⟩ = some (.int .u8 s4) ∧ W.cell? ⟨w.heap.size, 5, none⟩ = some (.int .i64 s5))
            (first
              | (refine HSK.out _ ?_
                 repeat' (first | with_reducible exact hbA | with_reducible apply below_drew | with_reducible apply below_new)))
            (first
              | (go_at_call 30; refine (h3 _).mono ?_; rintro e w4 ⟨u4, rfl, hh4, hb4⟩
                 have hbN : Below w3.heap.size w3 w4 := below2 (below_drew hbA) hb4
                 clear hbA
                 have hbA := hbN
                 clear hbN))
          all_goals go_wp2_with fail
          all_goals go_ret2
          all_goals exact ⟨_, by rw [HPV.out]; rfl, by rw [HPV.out]; exact hh4, below2 hB hbA⟩
        obtain ⟨b, i, rfl⟩ : ∃ b i, o = some ⟨b, i, none⟩ := by
          obtain ⟨_, b, i, e, _⟩ := Lk.HasRow.at hlw (by rw [← HN.out]; omega)
          exact ⟨b, i, e⟩
        have hkc : (k : Int) ≤ (c : Int) := by omega
        have hdr := hlw.drop k (by rw [← HN.out]; exact hkn)
        rw [q2, ← HN.out] at hdr
        have h3 := H3.out w3.drew _ _ _ _ k (n - k) c (c - k) (by rw [← q1, List.length_take]; have := HN.out; omega) (by rw [← q2, List.length_drop, ← HN.out]) hta hdr (by omega) (by omega)
        clear hta hdr hlw q1 q2 q3
        have HSK : Hid (∀ W : World, Below w3.heap.size w3 W → W.cell? ⟨w.heap.size, 0, none⟩ = some (.bool s0) ∧ W.cell? ⟨w.heap.size, 1, none⟩ = some (.int .u64 s1) ∧ W.cell? ⟨w.heap.size, 2, none⟩ = some (.int .u64 s2) ∧ W.cell? ⟨w.heap.size, 3, none⟩ = some (.int .i64 s3) ∧ W.cell? ⟨w.heap.size, 4, none⟩ = some (.int .u8 s4) ∧ W.cell? ⟨w.heap.size, 5, none⟩ = some (.int .i64 s5)) := fun W hb => HCL.out (RowAt.below r0 hb)
        have hbA : Below w3.heap.size w3 w3 := Below.refl _ _
        have hd0 : ¬ False := id
        clear HL2 H3
        go_wp2_with fail
        clear y0 y1 y2 y3 y4 y5 r0
        go_region_held3 (fun W => W.cell? ⟨w.heap.size, 0, none⟩ = some (.bool s0) ∧ W.cell? ⟨w.heap.size, 1, none⟩ = some (.int .u64 s1) ∧ W.cell? ⟨w.heap.size, 2, none⟩ = some (.int .u64 s2) ∧ W.cell? ⟨w.heap.size, 3, none⟩ = some (.int .i64 s3) ∧ W.cell? ⟨w.heap.size, 4, none⟩ = some (.int .u8 s4) ∧ W.cell? ⟨w.heap.size, 5, none⟩ = some (.int .i64 s5))
          (first
            | (refine HSK.out _ ?_
               repeat' (first | with_reducible exact hbA | with_reducible apply below_drew | with_reducible apply below_new)))
          (first
            | (go_at_call 30; refine (h3 : Calls _ _ _ _ _).mono ?_; rintro e w4 ⟨u4, rfl, hh4, hb4⟩
               have hbN : Below w3.heap.size w3 w4 := below2 (below_drew hbA) hb4
               clear hbA
               have hbA := hbN
               clear hbN))
        all_goals go_wp2_with fail
        all_goals go_ret2
        all_goals exact ⟨_, by rw [HPV.out]; rfl, by rw [HPV.out]; exact hh4, below2 hB hbA⟩
  · obtain ⟨hkl, q0, q1, q2, q3⟩ := HPA.out k hk hat
    have hkn2 : k < n := by rw [HN.out]; exact hkl
    have ho : (othersT l r.pf).length ≠ 256 := by rw [q3, List.length_append, List.length_take, List.length_drop, ← HN.out]; omega
    have HPV : Hid (PL = (aheadT l r.pf ++ ([r] ++ behindT l r.pf), 0)) := by show _ = _; rw [HP.out, if_neg ho, HI.out]
    have hlw := HL2.out _ hB
    clear HP HPA HPO ck ho q0 q3
    obtain ⟨b, i, rfl⟩ : ∃ b i, o = some ⟨b, i, none⟩ := by
      obtain ⟨_, b, i, e, _⟩ := Lk.HasRow.at hlw (by rw [← HN.out]; omega)
      exact ⟨b, i, e⟩
    have hta := hlw.take k (by rw [← HN.out]; exact hkn)
    rw [q1] at hta
    have hkc : (k : Int) ≤ (c : Int) := by omega
    have hk1n : (k : Int) + 1 ≤ (n : Int) := by omega
    have hk1c : (k : Int) + 1 ≤ (c : Int) := by omega
    have hk10 : (0 : Int) ≤ (k : Int) + 1 := by omega
    have hw1 : IntKind.i64.wrap ((k : Int) + 1) = (k : Int) + 1 := by rw [IntKind.wrap_i64]; omega
    have htn : ((k : Int) + 1).toNat = k + 1 := by omega
    by_cases hck : c = k + 1
    · have hnk : n = k + 1 := by omega
      have hbe : behindT l r.pf = [] := by rw [← q2]; exact List.drop_of_length_le (by rw [← HN.out]; omega)
      have hle : ∀ a' c', c' ≤ 9223372036854775807 → HasRts w3 (.slice (some a') 0 c') (behindT l r.pf) := fun a' c' h => by rw [hbe]; exact has_empty _ _ _ h
      subst hck hnk
      have hkk : (k : Int) ≤ (k : Int) + 1 := by omega
      have h3 := fun a' => H3.out w3.drew _ _ (some ⟨b, i, none⟩) (some a') k 0 (k + 1) 0 (by rw [← q1, List.length_take]; have := HN.out; omega) (by rw [hbe]; rfl) hta (hle a' 0 (by omega)) (by omega) (by omega)
      clear hta hle hlw q1 q2 hbe
      have HSK : Hid (∀ W : World, Below w3.heap.size w3 W → W.cell? ⟨w.heap.size, 0, none⟩ = some (.bool s0) ∧ W.cell? ⟨w.heap.size, 1, none⟩ = some (.int .u64 s1) ∧ W.cell? ⟨w.heap.size, 2, none⟩ = some (.int .u64 s2) ∧ W.cell? ⟨w.heap.size, 3, none⟩ = some (.int .i64 s3) ∧ W.cell? ⟨w.heap.size, 4, none⟩ = some (.int .u8 s4) ∧ W.cell? ⟨w.heap.size, 5, none⟩ = some (.int .i64 s5)) := fun W hb => HCL.out (RowAt.below r0 hb)
      have hbA : Below w3.heap.size w3 w3 := Below.refl _ _
      have hd0 : ¬ False := id
      clear HL2 H3
      go_wp2_with fail
      clear y0 y1 y2 y3 y4 y5 r0
      go_region_held3 (fun W => W.cell? ⟨w.heap.size, 0, none⟩ = some (.bool s0) ∧ W.cell? ⟨w.heap.size, 1, none⟩ = some (.int .u64 s1) ∧ W.cell? ⟨w.heap.size, 2, none⟩ = some (.int .u64 s2) ∧ W.cell? ⟨w.heap.size, 3, none⟩ = some (.int .i64 s3) ∧ W.cell? ⟨w.heap.size, 4, none⟩ = some (.int .u8 s4) ∧ W.cell? ⟨w.heap.size, 5, none⟩ = some (.int .i64 s5))
        (first
          | (refine HSK.out _ ?_
             repeat' (first | with_reducible exact hbA | with_reducible apply below_drew | with_reducible apply below_new)))
        (first
          | (go_at_call 30; refine (h3 _).mono ?_; rintro e w4 ⟨u4, rfl, hh4, hb4⟩
             have hbN : Below w3.heap.size w3 w4 := below2 (below_drew hbA) hb4
             clear hbA
             have hbA := hbN
             clear hbN))
      all_goals go_wp2_with fail
      all_goals go_ret2
      all_goals exact ⟨_, by rw [HPV.out]; rfl, by rw [HPV.out]; exact hh4, below2 hB hbA⟩
    · have hdr := hlw.drop (k + 1) (by rw [← HN.out]; exact hkn2)
      rw [q2, ← HN.out] at hdr
      have h3 := H3.out w3.drew _ _ _ _ k (n - (k + 1)) c (c - (k + 1)) (by rw [← q1, List.length_take]; have := HN.out; omega) (by rw [← q2, List.length_drop, ← HN.out]) hta hdr (by omega) (by omega)
      clear hta hdr hlw q1 q2
      have HSK : Hid (∀ W : World, Below w3.heap.size w3 W → W.cell? ⟨w.heap.size, 0, none⟩ = some (.bool s0) ∧ W.cell? ⟨w.heap.size, 1, none⟩ = some (.int .u64 s1) ∧ W.cell? ⟨w.heap.size, 2, none⟩ = some (.int .u64 s2) ∧ W.cell? ⟨w.heap.size, 3, none⟩ = some (.int .i64 s3) ∧ W.cell? ⟨w.heap.size, 4, none⟩ = some (.int .u8 s4) ∧ W.cell? ⟨w.heap.size, 5, none⟩ = some (.int .i64 s5)) := fun W hb => HCL.out (RowAt.below r0 hb)
      have hbA : Below w3.heap.size w3 w3 := Below.refl _ _
      have hd0 : ¬ False := id
      clear HL2 H3
      go_wp2_with fail
      clear y0 y1 y2 y3 y4 y5 r0
      go_region_held3 (fun W => W.cell? ⟨w.heap.size, 0, none⟩ = some (.bool s0) ∧ W.cell? ⟨w.heap.size, 1, none⟩ = some (.int .u64 s1) ∧ W.cell? ⟨w.heap.size, 2, none⟩ = some (.int .u64 s2) ∧ W.cell? ⟨w.heap.size, 3, none⟩ = some (.int .i64 s3) ∧ W.cell? ⟨w.heap.size, 4, none⟩ = some (.int .u8 s4) ∧ W.cell? ⟨w.heap.size, 5, none⟩ = some (.int .i64 s5))
        (first
          | (refine HSK.out _ ?_
             repeat' (first | with_reducible exact hbA | with_reducible apply below_drew | with_reducible apply below_new)))
        (first
          | (go_at_call 30; refine (h3 : Calls _ _ _ _ _).mono ?_; rintro e w4 ⟨u4, rfl, hh4, hb4⟩
             have hbN : Below w3.heap.size w3 w4 := below2 (below_drew hbA) hb4
             clear hbA
             have hbA := hbN
             clear hbN))
      all_goals go_wp2_with fail
      all_goals go_ret2
      all_goals exact ⟨_, by rw [HPV.out]; rfl, by rw [HPV.out]; exact hh4, below2 hB hbA⟩
end Go.Proofs.Ytaaedgfacnaggaa.Tr

namespace Go.Proofs.Ytaaedgfacnaggaa.Tl
open Go.RowKit
open Go.Proofs.Ytaaedgfacnaggaa.Addr (Pf RowAt below_new bset RowAt.lt RowAt.new RowAt.alloc cells4 results_cell)
open Go.Proofs.Ytaaedgfacnaggaa.Tr (Rt HasRts FitR longT rtA findE checkT)
open Go.Proofs.Ytaaedgfacnaggaa.Ct (HasAds cutsT)
set_option maxHeartbeats 2000000 in
set_option maxRecDepth 20000 in
theorem v4_any (n : Int) (w : World) : Calls Try.prog 15 #[.int .u64 10, .int .i64 n] w fun e w' => e = .returned (.agg #[.bool false, .int .u64 0, .int .u64 167772160, .int .i64 n]) ∧ Below w.heap.size w w' := by
  obtain ⟨X, hX⟩ : ∃ X, X = w.alloc (.cells #[.bool false, .int .u64 0, .int .u64 0, .int .i64 0] 32) := ⟨_, rfl⟩
  have hB : Below w.heap.size w X := by rw [hX]; exact below_new (Below.refl _ _) _
  obtain ⟨g, hg⟩ : ∃ g, g = w.heap.size := ⟨_, rfl⟩
  have r0 : RowAt X g [.bool false, .int .u64 0, .int .u64 0, .int .i64 0] 32 := by rw [hX, hg]; exact RowAt.new _ _ _
  have hgw : w.heap.size ≤ g := by omega
  go_enter Try.func15, Try.ntmps15
  go_upto_region 1 with fail
  rw [← hX, ← hg]
  clear hX hg
  obtain ⟨y0, y1, y2, y3, yf⟩ := cells4 r0
  have yl := RowAt.lt r0
  clear r0
  go_wp2_with fail
  (try simp only [Exit.inBlock, Exit.then])
  refine bodyPost_ret (v := .agg #[.bool false, .int .u64 0, .int .u64 167772160, .int .i64 n]) ?_ rfl ⟨rfl, bset (bset (bset (bset hB hgw) hgw) hgw) hgw⟩
  rw [results_cell rfl]
  go_simp
def nine : Pf := ⟨false, 176160768, 9⟩
def ten : Pf := ⟨false, 167772160, 8⟩
def L1 : List Rt := [⟨nine, ⟨1, 3⟩⟩]
def L2 : List Rt := [⟨ten, ⟨2, 0⟩⟩, ⟨nine, ⟨1, 3⟩⟩]
def L3 : List Rt := [⟨ten, ⟨2, 0⟩⟩]
theorem fit9 : FitR ⟨nine, ⟨1, 3⟩⟩ := ⟨⟨by decide, by decide⟩, by decide, by decide, by decide⟩
theorem fit8 : FitR ⟨ten, ⟨2, 0⟩⟩ := ⟨⟨by decide, by decide⟩, by decide, by decide, by decide⟩
theorem fitB : FitR ⟨⟨false, 167772160, 4⟩, ⟨2, 0⟩⟩ := ⟨⟨by decide, by decide⟩, by decide, by decide, by decide⟩
theorem fitL1 : ∀ x ∈ L1, FitR x := fun x h => by rcases List.mem_singleton.1 h with rfl; exact fit9
theorem fitL3 : ∀ x ∈ L3, FitR x := fun x h => by rcases List.mem_singleton.1 h with rfl; exact fit8
theorem fitL2 : ∀ x ∈ L2, FitR x := fun x h => by
  rcases List.mem_cons.1 h with rfl | h
  · exact fit8
  · exact fitL1 x h
/-- a row is answered, with an error -/
def RtsIs (l : List Rt) (n : Nat) (z : Int) (w : World) (e : Ending) (w' : World) : Prop := ∃ o c, e = .returned (.tuple #[.slice o n c, .int .i64 z]) ∧ HasRts w' (.slice o n c) l ∧ Below w.heap.size w w'
theorem rts_is {l m : List Rt} {z y : Int} {n : Nat} {w : World} {e : Ending} {w' : World} (h : ∃ u, e = .returned (.tuple #[u, .int .i64 z]) ∧ HasRts w' u l ∧ Below w.heap.size w w') (hl : l = m) (hn : m.length = n) (hz : z = y) : RtsIs m n y w e w' := by
  obtain ⟨u, rfl, hu, hb⟩ := h
  subst hl hz hn
  obtain ⟨o, c, rfl, _⟩ := Lk.HasRow.slice hu
  exact ⟨o, c, rfl, hu, hb⟩
theorem pv1 (W : World) : Calls Try.prog 14 #[.slice none 0 0, .agg #[.bool false, .int .u64 0, .int .u64 176160768, .int .i64 9, .int .u8 1, .int .i64 3]] W (RtsIs L1 1 0 W) :=
  (Tr.put_any [] (.slice none 0 0) ⟨nine, ⟨1, 3⟩⟩ W (Lk.hasRow_nil _ 6) (fun x h => by cases h) fit9).mono (fun e w' h => rts_is h (by kernel_rfl) rfl (by decide +kernel))
theorem pv2 (W : World) (o : Option Addr) (c : Nat) (h : HasRts W (.slice o 1 c) L1) : Calls Try.prog 14 #[.slice o 1 c, .agg #[.bool false, .int .u64 0, .int .u64 167772160, .int .i64 8, .int .u8 2, .int .i64 0]] W (RtsIs L2 2 0 W) :=
  (Tr.put_any L1 _ ⟨ten, ⟨2, 0⟩⟩ W h fitL1 fit8).mono (fun e w' h => rts_is h (by kernel_rfl) rfl (by decide +kernel))
theorem pv3 (W : World) (o : Option Addr) (c : Nat) (h : HasRts W (.slice o 2 c) L2) : Calls Try.prog 14 #[.slice o 2 c, .agg #[.bool false, .int .u64 0, .int .u64 167772160, .int .i64 4, .int .u8 2, .int .i64 0]] W (RtsIs [] 0 2 W) :=
  (Tr.put_any L2 _ ⟨⟨false, 167772160, 4⟩, ⟨2, 0⟩⟩ W h fitL2 fitB).mono (fun e w' h => rts_is h (by kernel_rfl) rfl (by decide +kernel))
theorem dl1 (W : World) (o : Option Addr) (c : Nat) (h : HasRts W (.slice o 2 c) L2) : Calls Try.prog 17 #[.slice o 2 c, .agg #[.bool false, .int .u64 0, .int .u64 176160768, .int .i64 9]] W (RtsIs L3 1 0 W) :=
  (Tr.del_any L2 _ nine W h fitL2 fit9.1).mono (fun e w' h => rts_is h (by kernel_rfl) rfl (by decide +kernel))
theorem dl2 (W : World) (o : Option Addr) (c : Nat) (h : HasRts W (.slice o 1 c) L3) : Calls Try.prog 17 #[.slice o 1 c, .agg #[.bool false, .int .u64 0, .int .u64 176160768, .int .i64 9]] W (RtsIs L3 1 3 W) :=
  (Tr.del_any L3 _ nine W h fitL3 fit9.1).mono (fun e w' h => rts_is h (by kernel_rfl) rfl (by decide +kernel))
theorem ck2 (W : World) (o : Option Addr) (c : Nat) (h : HasRts W (.slice o 2 c) L2) : Calls Try.prog 9 #[.slice o 2 c] W fun e w' => e = .returned (.int .i64 0) ∧ Below W.heap.size W w' := by
  have := Tr.check_any L2 _ W h fitL2
  rw [show checkT L2 = 0 by decide +kernel] at this
  exact this
theorem lg1 (W : World) (o : Option Addr) (c : Nat) (h : HasRts W (.slice o 2 c) L2) : Calls Try.prog 8 #[.slice o 2 c, .bool false, .agg #[.int .u64 0, .int .u64 180879360]] W fun e w' => e = .returned (.tuple #[.agg #[.bool false, .int .u64 0, .int .u64 176160768, .int .i64 9, .int .u8 1, .int .i64 3], .int .i64 0]) ∧ Below W.heap.size W w' := by
  have := Tr.longest_any L2 _ false 180879360 W h fitL2 (by decide)
  rw [show rtA (longT L2 false 180879360).1 = .agg #[.bool false, .int .u64 0, .int .u64 176160768, .int .i64 9, .int .u8 1, .int .i64 3] by kernel_rfl, show (longT L2 false 180879360).2 = 0 by decide +kernel] at this
  exact this
theorem lg2 (W : World) (o : Option Addr) (c : Nat) (h : HasRts W (.slice o 2 c) L2) : Calls Try.prog 8 #[.slice o 2 c, .bool false, .agg #[.int .u64 0, .int .u64 167772161]] W fun e w' => e = .returned (.tuple #[.agg #[.bool false, .int .u64 0, .int .u64 167772160, .int .i64 8, .int .u8 2, .int .i64 0], .int .i64 0]) ∧ Below W.heap.size W w' := by
  have := Tr.longest_any L2 _ false 167772161 W h fitL2 (by decide)
  rw [show rtA (longT L2 false 167772161).1 = .agg #[.bool false, .int .u64 0, .int .u64 167772160, .int .i64 8, .int .u8 2, .int .i64 0] by kernel_rfl, show (longT L2 false 167772161).2 = 0 by decide +kernel] at this
  exact this
theorem lg3 (W : World) (o : Option Addr) (c : Nat) (h : HasRts W (.slice o 2 c) L2) : Calls Try.prog 8 #[.slice o 2 c, .bool false, .agg #[.int .u64 0, .int .u64 184549376]] W fun e w' => e = .returned (.tuple #[.agg #[.bool false, .int .u64 0, .int .u64 0, .int .i64 0, .int .u8 0, .int .i64 0], .int .i64 3]) ∧ Below W.heap.size W w' := by
  have := Tr.longest_any L2 _ false 184549376 W h fitL2 (by decide)
  rw [show rtA (longT L2 false 184549376).1 = .agg #[.bool false, .int .u64 0, .int .u64 0, .int .i64 0, .int .u8 0, .int .i64 0] by kernel_rfl, show (longT L2 false 184549376).2 = 3 by decide +kernel] at this
  exact this
theorem fd (W : World) (o : Option Addr) (c : Nat) (h : HasRts W (.slice o 2 c) L2) : Calls Try.prog 16 #[.slice o 2 c, .agg #[.bool false, .int .u64 0, .int .u64 176160768, .int .i64 9]] W fun e w' => e = .returned (.tuple #[.agg #[.bool false, .int .u64 0, .int .u64 176160768, .int .i64 9, .int .u8 1, .int .i64 3], .int .i64 0]) ∧ Below W.heap.size W w' := by
  have := Tr.find_any L2 _ nine W h fitL2 fit9.1
  rw [show rtA (findE L2 nine).1 = .agg #[.bool false, .int .u64 0, .int .u64 176160768, .int .i64 9, .int .u8 1, .int .i64 3] by kernel_rfl, show (findE L2 nine).2 = 0 by decide +kernel] at this
  exact this
theorem ct (W : World) (o : Option Addr) (c : Nat) (h : HasRts W (.slice o 2 c) L2) : Calls Try.prog 18 #[.slice o 2 c, .bool false] W fun e w' => ∃ o c, e = .returned (.tuple #[.slice o 4 c, .int .i64 0]) ∧ HasAds w' (.slice o 4 c) [0, 167772160, 176160768, 184549376] ∧ Below W.heap.size W w' := by
  refine (Ct.cuts_any L2 _ false W h fitL2).mono ?_
  rintro e w' ⟨o, n, c, rfl, hh, hb⟩
  rw [show (cutsT L2 false).1 = [0, 167772160, 176160768, 184549376] by decide +kernel] at hh
  rw [show (cutsT L2 false).2 = 0 by decide +kernel]
  obtain ⟨o2, c2, e2, _⟩ := Lk.HasRow.slice hh
  injection e2 with e3 e4 e5
  subst e3 e4 e5
  exact ⟨o, c, rfl, hh, hb⟩
end Go.Proofs.Ytaaedgfacnaggaa.Tl
namespace Go.Proofs.Ytaaedgfacnaggaa.Tr
open Go.RowKit
open Go.Proofs.Ytaaedgfacnaggaa.Lk (HasRow below_drewN)
open Go.Proofs.Ytaaedgfacnaggaa.Msg (eqP eqP_iff pf_inG ac_inG Ac)
open Go.Proofs.Ytaaedgfacnaggaa.Addr (hiN loN below_drew RowAt.cell)
def eqR (r s : Rt) : Bool := eqP r.pf s.pf && (decide (r.act.k = s.act.k) && decide (r.act.i = s.act.i))
theorem eqR_iff (r s : Rt) : eqR r s = true ↔ r = s := by
  obtain ⟨p, ⟨k, i⟩⟩ := r
  obtain ⟨q, ⟨l, j⟩⟩ := s
  unfold eqR
  simp only [Bool.and_eq_true, decide_eq_true_eq, eqP_iff, Rt.mk.injEq, Ac.mk.injEq]
theorem rt_in (r s : Rt) (w : World) : (Op.equalIn 10000 37 (.agg #[.bool r.pf.six, .int .u64 (hiN r.pf.n : Int), .int .u64 (loN r.pf.n : Int), .int .i64 r.pf.len, .int .u8 (r.act.k : Int), .int .i64 r.act.i]) (.agg #[.bool s.pf.six, .int .u64 (hiN s.pf.n : Int), .int .u64 (loN s.pf.n : Int), .int .i64 s.pf.len, .int .u8 (s.act.k : Int), .int .i64 s.act.i])).run Try.prog w = .ok (eqR r s) w := by
  have a24 := Try.isAgg32
  have z24 := Try.sizeOf32
  have a25 := Try.isAgg35
  have z25 := Try.sizeOf35
  have hS : Try.prog.underlying 37 = some (.struct (Try.prog.fieldsOf 37)) := by kernel_rfl
  have hp : Try.prog.stoodInHeld 37 = false := by kernel_rfl
  have h1 := fun w => pf_inG r.pf.six s.pf.six r.pf.n s.pf.n r.pf.len s.pf.len w 9996
  have h2 := fun w => ac_inG r.act.k s.act.k r.act.i s.act.i w 9997
  have hE : eqR r s = ((decide (r.pf.six = s.pf.six) && decide (r.pf.n = s.pf.n) && decide (r.pf.len = s.pf.len)) && (decide (r.act.k = s.act.k) && decide (r.act.i = s.act.i))) := rfl
  rw [hE]
  rw [show (10000 : Nat) = 9999 + 1 from rfl, run_equalIn_agg w 9999 37 _ _ hS hp]
  simp only [Program.fieldsOf, Try.underlying37]
  generalize (decide (r.pf.six = s.pf.six) && decide (r.pf.n = s.pf.n) && decide (r.pf.len = s.pf.len)) = D1 at *
  generalize (decide (r.act.k = s.act.k) && decide (r.act.i = s.act.i)) = D2 at *
  cases D1
  · go_simp
  · cases D2
    · go_simp
    · go_simp
theorem rt_guard : Try.prog.eqGuardType Try.prog.depth 37 = false := by kernel_rfl
theorem rt_neq (r s : Rt) (w : World) : (binOp .neq 37 (.agg #[.bool r.pf.six, .int .u64 (hiN r.pf.n : Int), .int .u64 (loN r.pf.n : Int), .int .i64 r.pf.len, .int .u8 (r.act.k : Int), .int .i64 r.act.i]) (.agg #[.bool s.pf.six, .int .u64 (hiN s.pf.n : Int), .int .u64 (loN s.pf.n : Int), .int .i64 s.pf.len, .int .u8 (s.act.k : Int), .int .i64 s.act.i])).run Try.prog w = .ok (.bool (!eqR r s)) w := by
  rw [run_neq_struct, rt_in]
  rfl
theorem rt_one (r : Rt) (w : World) : (binOp .neq 37 (.agg #[.bool r.pf.six, .int .u64 (hiN r.pf.n : Int), .int .u64 (loN r.pf.n : Int), .int .i64 r.pf.len, .int .u8 (r.act.k : Int), .int .i64 r.act.i]) (.agg #[.bool r.pf.six, .int .u64 (hiN r.pf.n : Int), .int .u64 (loN r.pf.n : Int), .int .i64 r.pf.len, .int .u8 (r.act.k : Int), .int .i64 r.act.i])).run Try.prog w = .ok (.bool false) w := by
  rw [rt_neq, (eqR_iff r r).2 rfl]
  rfl
set_option maxHeartbeats 2000000 in
set_option maxRecDepth 20000 in
theorem same_any (l : List Rt) (v u : Value) (w : World) (h1 : HasRts w v l) (h2 : HasRts w u l) :
    Calls Try.prog 7 #[v, u] w fun e w' => e = .returned (.bool true) ∧ Below w.heap.size w w' := by
  obtain ⟨o1, c1, rfl, hq1, hq2⟩ := Lk.HasRow.slice h1
  obtain ⟨o2, c2, rfl, _, _⟩ := Lk.HasRow.slice h2
  have HR : Hid (∀ wr : World, Below w.heap.size w wr → HasRts wr (.slice o1 l.length c1) l ∧ HasRts wr (.slice o2 l.length c2) l) := fun wr hb => ⟨h1.keep hb, h2.keep hb⟩
  obtain ⟨n, hn⟩ : ∃ n, n = l.length := ⟨_, rfl⟩
  have HN : Hid (n = l.length) := hn
  rw [← hn] at HR hq1 ⊢
  have hni : (n : Int) ≤ 9223372036854775807 := by omega
  have hgd := rt_guard
  have hnn : ((n : Int) != (n : Int)) = false := by simp
  clear h1 h2 hn hq1 hq2
  go_enter Try.func7, Try.ntmps7
  go_wp2_with fail
  go_loopw [13] (fun i wr => ∃ k : Nat, k ≤ n ∧ i = .int .i64 k ∧ Below w.heap.size w wr) (fun i _ => n - (intOf i).toNat)
  case atStart => exact ⟨0, by omega, rfl, Below.refl _ _⟩
  case round =>
    obtain ⟨k, hk, rfl, hB⟩ := hrel
    obtain ⟨ha, hb⟩ := HR.out _ hB
    by_cases hlt : k < n
    · have hkz : k < l.length := by rw [← HN.out]; exact hlt
      obtain ⟨g1, i1, rfl, _, a1⟩ := HasRts.cell ha k hkz
      obtain ⟨g2, i2, rfl, _, b1⟩ := HasRts.cell hb k hkz
      have hneq := rt_one l[k]
      have x0 := a1 0 (by omega)
      have x1 := a1 1 (by omega)
      have x2 := a1 2 (by omega)
      have x3 := a1 3 (by omega)
      have x4 := a1 4 (by omega)
      have x5 := a1 5 (by omega)
      have y0 := b1 0 (by omega)
      have y1 := b1 1 (by omega)
      have y2 := b1 2 (by omega)
      have y3 := b1 3 (by omega)
      have y4 := b1 4 (by omega)
      have y5 := b1 5 (by omega)
      unfold rtC at x0 x1 x2 x3 x4 x5 y0 y1 y2 y3 y4 y5
      simp only [List.getElem?_cons_succ, List.getElem?_cons_zero, Nat.add_zero] at x0 x1 x2 x3 x4 x5 y0 y1 y2 y3 y4 y5
      clear a1 b1
      generalize l[k].pf.six = p0 at *
      generalize ((hiN l[k].pf.n : Nat) : Int) = p1 at *
      generalize ((loN l[k].pf.n : Nat) : Int) = p2 at *
      generalize l[k].pf.len = p3 at *
      generalize ((l[k].act.k : Nat) : Int) = p4 at *
      generalize l[k].act.i = p5 at *
      have hki : (k : Int) < (n : Int) := by omega
      clear ha hb
      go_wp2_with fail
      go_quiet (fail)
      go_wp2_with fail
      go_roundw
      case rel => exact ⟨k + 1, by omega, by go_num, by first | exact hB | exact below_drew hB | exact below_drewN hB _⟩
      case measure => simp [intOf]; omega
    · clear ha hb
      go_wp2
      go_ret
      exact ⟨rfl, hB⟩
end Go.Proofs.Ytaaedgfacnaggaa.Tr
