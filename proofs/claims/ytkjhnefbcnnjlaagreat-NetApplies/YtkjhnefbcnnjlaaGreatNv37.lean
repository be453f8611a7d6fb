/- The document's Del and Put of links. -/
import Derived.Test.YtkjhnefbcnnjlaaGreatNv36
import Derived.Laws.ResultCell
import Derived.Test.YtkjhnefbcnnjlaaGreatNv07
import Derived.Test.YtkjhnefbcnnjlaaGreatNv08
set_option linter.unusedVariables false
namespace Go.Proofs.YtkjhnefbcnnjlaaGreat.Tr
open Go.RowKit Go.Shelf
open Go.Proofs.YtkjhnefbcnnjlaaGreat.Lk (HasRow append_row empty_own hasRow_own)
open Go.Proofs.YtkjhnefbcnnjlaaGreat.Addr (Pf hiN loN RowAt below2 below_new RowAt.cell RowAt.below RowAt.new RowAt.alloc)
attribute [-go_sem] Builtin.append_
theorem ahead_others (l : List Rt) (p : Pf) : (othersT l p).filter (fun s => decide (ordP s.pf p < 0)) = aheadT l p := by
  unfold othersT aheadT
  rw [List.filter_filter]
  congr 1
  funext s
  by_cases h : ordP s.pf p < 0
  · rw [decide_eq_true h, decide_eq_false (show ¬ ordP s.pf p = 0 by omega)]; rfl
  · rw [decide_eq_false h]; simp
theorem behind_others (l : List Rt) (p : Pf) : (othersT l p).filter (fun s => decide (ordP p s.pf < 0)) = behindT l p := by
  unfold othersT behindT
  rw [List.filter_filter]
  congr 1
  funext s
  have h1 := ordP_lt p s.pf
  have h2 := ordP_gt s.pf p
  by_cases h : ltP p s.pf
  · have := h2.2 h
    rw [decide_eq_true (h1.2 h), decide_eq_false (show ¬ ordP s.pf p = 0 by omega), decide_eq_true (h2.2 h)]; rfl
  · rw [decide_eq_false (fun c => h (h1.1 c)), decide_eq_false (fun c => h (h2.1 c))]; rfl
theorem ins_others (l : List Rt) (r : Rt) : insT l r = (othersT l r.pf).filter (fun s => decide (ordP s.pf r.pf < 0)) ++ [r] ++ (othersT l r.pf).filter (fun s => decide (ordP r.pf s.pf < 0)) := by
  unfold insT
  rw [ahead_others, behind_others, List.append_assoc]
set_option maxHeartbeats 16000000 in
set_option maxRecDepth 20000 in
theorem rput_any (l : List Rt) (v : Value) (r : Rt) (w : World) (hl : HasRts w v l) (hf : ∀ x ∈ l, FitR x) (hr : FitR r) :
    Calls Tryz.prog 64 #[v, .agg #[.bool r.pf.six, .int .u64 (hiN r.pf.n : Int), .int .u64 (loN r.pf.n : Int), .int .i64 r.pf.len, .int .u8 (r.act.k : Int), .int .i64 r.act.i]] w fun e w' => ∃ u, e = .returned (.tuple #[u, .int .i64 (putT l r).2]) ∧ HasRts w' u (putT l r).1 ∧ Below w.heap.size w w' := by
  obtain ⟨o, c, rfl, hc1, hc2⟩ := Lk.HasRow.slice hl
  have cc := fun W (hb : Below w.heap.size w W) => rcheck_any l _ W (hl.keep hb) hf
  have c1 := fun W => one_any r W hr
  have hck : checkT l = if okT l then 0 else 2 := rfl
  rw [hck] at cc
  have hPd : putT l r = if okT l && okR r then (if (othersT l r.pf).length = 256 then (l, 8) else (insT l r, 0)) else ([], 2) := rfl
  obtain ⟨X, hX⟩ : ∃ X, X = w.alloc (.cells #[.bool r.pf.six, .int .u64 (hiN r.pf.n : Int), .int .u64 (loN r.pf.n : Int), .int .i64 r.pf.len, .int .u8 (r.act.k : Int), .int .i64 r.act.i] 98) := ⟨_, rfl⟩
  have hB : Below w.heap.size w X := by rw [hX]; exact below_new (Below.refl _ _) _
  have r0 : RowAt X w.heap.size [.bool r.pf.six, .int .u64 (hiN r.pf.n : Int), .int .u64 (loN r.pf.n : Int), .int .i64 r.pf.len, .int .u8 (r.act.k : Int), .int .i64 r.act.i] 98 := by rw [hX]; exact RowAt.new _ _ _
  have HLR : Hid (∀ W : World, HasRts (W.alloc (.cells #[.bool r.pf.six, .int .u64 (hiN r.pf.n : Int), .int .u64 (loN r.pf.n : Int), .int .i64 r.pf.len, .int .u8 (r.act.k : Int), .int .i64 r.act.i] 98)) (.slice (some ⟨W.heap.size, 0, none⟩) 1 1) [r]) := fun W => lit_rt W r
  have HCL : Hid (∀ x, x ∈ othersT l r.pf → (∀ W, Calls Tryz.prog 79 #[.agg #[.bool x.pf.six, .int .u64 (hiN x.pf.n : Int), .int .u64 (loN x.pf.n : Int), .int .i64 x.pf.len], .agg #[.bool r.pf.six, .int .u64 (hiN r.pf.n : Int), .int .u64 (loN r.pf.n : Int), .int .i64 r.pf.len]] W fun e w' => e = .returned (.bool ((fun s => decide (ordP s.pf r.pf < 0)) x)) ∧ Below W.heap.size W w') ∧ (∀ W, Calls Tryz.prog 79 #[.agg #[.bool r.pf.six, .int .u64 (hiN r.pf.n : Int), .int .u64 (loN r.pf.n : Int), .int .i64 r.pf.len], .agg #[.bool x.pf.six, .int .u64 (hiN x.pf.n : Int), .int .u64 (loN x.pf.n : Int), .int .i64 x.pf.len]] W fun e w' => e = .returned (.bool ((fun s => decide (ordP r.pf s.pf < 0)) x)) ∧ Below W.heap.size W w')) := fun x hx => ⟨fun W => less_any x.pf r.pf W (hf x (List.mem_filter.1 hx).1).1 hr.1, fun W => less_any r.pf x.pf W hr.1 (hf x (List.mem_filter.1 hx).1).1⟩
  have HCN : Hid (l.length ≤ 1000 → ∀ W : World, Below w.heap.size w W → ∃ v' w3, (∀ ty, (Builtin.append_ #[48, 48] ty #[.slice (some ⟨W.heap.size, 0, none⟩) 0 0, .slice o l.length c]).run Tryz.prog (W.alloc (.cells #[] 98)) = .ok v' w3) ∧ HasRts w3 v' l ∧ Below W.heap.size W w3) := fun hle W hb => by
    have hk := (hl.keep hb).keep (below_new (Below.refl _ W) (.cells #[] 98))
    obtain ⟨v', w3, hrun, h1, h2⟩ := append_row info_rt Tryz.underlying48 rfl (by decide) (empty_own W 98 6) hk (one_routes l) (by omega) (by omega) (by simp)
    rw [Nat.zero_add, List.nil_append] at h1
    exact ⟨v', w3, hrun, hasRow_own h1, ((Below.refl _ W).alloc (Nat.le_refl _) _).grown h2 (by simp) (fun k e => by simp [Value.ownBlock] at e; omega)⟩
  have HW : Hid (l.length ≤ 1000 → ∀ W, Below w.heap.size w W → Calls Tryz.prog 95 #[.slice o l.length c, .agg #[.bool r.pf.six, .int .u64 (hiN r.pf.n : Int), .int .u64 (loN r.pf.n : Int), .int .i64 r.pf.len]] W fun e w' => ∃ u, e = .returned u ∧ HasRts w' u (othersT l r.pf) ∧ Below W.heap.size W w') := fun hle W hb => without_any l _ r.pf W (hl.keep hb) hle
  have HIN : Hid (insT l r = (othersT l r.pf).filter (fun s => decide (ordP s.pf r.pf < 0)) ++ [r] ++ (othersT l r.pf).filter (fun s => decide (ordP r.pf s.pf < 0))) := ins_others l r
  have HOL : Hid ((othersT l r.pf).length ≤ l.length) := List.length_filter_le _ _
  obtain ⟨P, hP⟩ : ∃ P, P = putT l r := ⟨_, rfl⟩
  rw [← hP] at hPd ⊢
  have HPD : Hid (P = if okT l && okR r then (if (othersT l r.pf).length = 256 then (l, 8) else (insT l r, 0)) else ([], 2)) := hPd
  have hlen256 : okT l = true → l.length ≤ 256 := fun h => ((okT_iff l).1 h).1
  clear hPd hP hck hl hf hr
  generalize othersT l r.pf = O at *
  generalize insT l r = IN at *
  generalize okT l = kt at *
  generalize okR r = kr at *
  generalize hN : l.length = n at *
  generalize r.pf.six = t0 at *
  generalize (hiN r.pf.n : Int) = t1 at *
  generalize (loN r.pf.n : Int) = t2 at *
  generalize r.pf.len = t3 at *
  generalize (r.act.k : Int) = t4 at *
  generalize r.act.i = t5 at *
  clear hN
  cases kt
  · have HV : Hid (P = ([], 2)) := HPD.out
    simp only [Bool.false_eq_true, if_false] at cc
    clear HPD HCL HCN HW HIN
    go_enter Tryz.func64, Tryz.ntmps64
    go_upto_region 1 with fail
    rw [← hX]
    clear hX
    go_wp2_with fail
    go_at_call 50; refine (cc _ hB).mono ?_; rintro e w1 ⟨rfl, hb1⟩
    go_wp2_with fail
    go_ret2
    exact ⟨_, by rw [HV.out]; rfl, by rw [HV.out]; exact Lk.hasRow_nil _ 6, below2 hB hb1⟩
  simp only [if_true] at cc
  replace hlen256 := hlen256 (by first | rfl | trivial)
  cases kr
  · have HV : Hid (P = ([], 2)) := HPD.out
    clear HPD HCL HCN HW HIN
    go_enter Tryz.func64, Tryz.ntmps64
    go_upto_region 1 with fail
    rw [← hX]
    clear hX
    go_wp2_with fail
    go_at_call 50; refine (cc _ hB).mono ?_; rintro e w1 ⟨rfl, hb1⟩
    obtain ⟨q0, q1, q2, q3, q4, q5, qf⟩ := six_of (RowAt.below r0 hb1)
    go_wp2_with fail
    go_at_call 78; refine (c1 _).mono ?_; rintro e w2 ⟨rfl, hb2⟩
    go_wp2_with fail
    go_ret2
    exact ⟨_, by rw [HV.out]; rfl, by rw [HV.out]; exact Lk.hasRow_nil _ 6, below2 (below2 hB hb1) hb2⟩
  have HPE : Hid (P = if O.length = 256 then (l, 8) else (IN, 0)) := HPD.out
  clear HPD
  have hni : (n : Int) ≤ 256 := by omega
  have cw := HW.out (by omega)
  have cn := HCN.out (by omega)
  clear HW HCN
  go_enter Tryz.func64, Tryz.ntmps64
  go_upto_region 1 with fail
  rw [← hX]
  clear hX
  go_wp2_with fail
  go_at_call 50; refine (cc _ hB).mono ?_; rintro e w1 ⟨rfl, hb1⟩
  replace r0 := RowAt.below r0 hb1
  replace hB := below2 hB hb1
  clear hb1 cc
  obtain ⟨q0, q1, q2, q3, q4, q5, qf⟩ := six_of r0
  go_wp2_with fail
  clear q0 q1 q2 q3 q4 q5 qf
  go_at_call 78; refine (c1 _).mono ?_; rintro e w2 ⟨rfl, hb2⟩
  replace r0 := RowAt.below r0 hb2
  replace hB := below2 hB hb2
  clear hb2 c1
  obtain ⟨q0, q1, q2, q3, q4, q5, qf⟩ := six_of r0
  go_wp2_with fail
  clear q0 q1 q2 q3 q4 q5 qf
  go_at_call 95; refine (cw _ hB).mono ?_; rintro e V ⟨u6, rfl, hO6, hb6⟩
  replace r0 := RowAt.below r0 hb6
  have hBV := below2 hB hb6
  clear hb6 cw hB
  obtain ⟨o6, m6, rfl, hm6⟩ := Lk.HasRow.slice hO6
  have HRO : Hid (∀ W, Below V.heap.size V W → HasRts W (.slice o6 O.length m6) O) := fun W hb => hO6.keep hb
  have HO6 : Hid (O.length ≤ 1000) := Nat.le_trans HOL.out (by omega)
  obtain ⟨n6, hn6⟩ : ∃ n6, n6 = O.length := ⟨_, rfl⟩
  have HN6 : Hid (n6 = O.length) := hn6
  have HPF : Hid (P = if n6 = 256 then (l, 8) else (IN, 0)) := by show _ = _; rw [HPE.out, hn6]
  have hn6i : (n6 : Int) ≤ 1000 := by have := HO6.out; omega
  rw [← hn6] at HRO ⊢
  clear hO6 hm6 hn6 HPE HOL
  by_cases h256 : n6 = 256
  · have HV : Hid (P = (l, 8)) := by show _ = _; rw [HPF.out, if_pos h256]
    obtain ⟨v', w4, hrun, hh, hb4⟩ := cn V hBV
    clear HPF HRO HCL HIN HN6 HLR
    subst h256
    go_wp2_with fail
    go_ret2
    exact ⟨_, by rw [HV.out]; rfl, by rw [HV.out]; exact hh, below2 hBV hb4⟩
  · have HV : Hid (P = (IN, 0)) := by show _ = _; rw [HPF.out, if_neg h256]
    have hq : ((n6 : Int) == 256) = false := beq_eq_false_iff_ne.2 (by omega)
    clear HPF cn h256
    have H0 : Hid (Own1 V V (.slice none 0 0) ((O.take 0).filter (fun s => decide (ordP s.pf r.pf < 0)))) := ⟨World.ownsRow_nil _ _ _ _, Below.refl _ _⟩
    go_wp2_with fail
    go_loopw [7, 32] (fun u q wr => ∃ k : Nat, k ≤ n6 ∧ q = .int .i64 k ∧ Hid (Own1 V wr u ((O.take k).filter (fun s => decide (ordP s.pf r.pf < 0))))) (fun _ q _ => n6 - (Go.RowKit.intOf q).toNat)
    case atStart => exact ⟨0, by omega, rfl, H0⟩
    case round =>
      obtain ⟨k, hk, rfl, HI⟩ := hrel
      have hI := HI.out
      by_cases hlt : k < n6
      · have hkz : k < O.length := by rw [← HN6.out]; exact hlt
        obtain ⟨g1, i1, rfl, hg1, ax⟩ := HasRts.cell (HRO.out _ hI.bl) k hkz
        obtain ⟨a0, a1, a2, a3, a4, a5⟩ := six_at ax
        clear ax
        have HA : Hid ((O.take (k + 1)).filter (fun s => decide (ordP s.pf r.pf < 0)) = (O.take k).filter (fun s => decide (ordP s.pf r.pf < 0)) ++ (if (fun s => decide (ordP s.pf r.pf < 0)) O[k] then [O[k]] else [])) := filter_snocR _ O k hkz
        have hle : ((O.take k).filter (fun s => decide (ordP s.pf r.pf < 0))).length ≤ 1000 := Nat.le_trans (filter_leR _ O k) HO6.out
        have cL := HCL.out O[k] (List.getElem_mem hkz)
        obtain ⟨x, hx⟩ : ∃ x : Rt, x = O[k] := ⟨_, rfl⟩
        rw [← hx] at HA cL a0 a1 a2 a3 a4 a5
        clear hx
        have hki : (k : Int) < (n6 : Int) := by omega
        have HLT : Hid (∀ W : World, HasRts (W.alloc (.cells #[.bool x.pf.six, .int .u64 (hiN x.pf.n : Int), .int .u64 (loN x.pf.n : Int), .int .i64 x.pf.len, .int .u8 (x.act.k : Int), .int .i64 x.act.i] 98)) (.slice (some ⟨W.heap.size, 0, none⟩) 1 1) [x]) := fun W => lit_rt W x
        replace HA : Hid (∀ E : Bool, E = (fun s => decide (ordP s.pf r.pf < 0)) x → (O.take (k + 1)).filter (fun s => decide (ordP s.pf r.pf < 0)) = (O.take k).filter (fun s => decide (ordP s.pf r.pf < 0)) ++ (if E then [x] else [])) := fun E e => by rw [e]; exact HA.out
        obtain ⟨E, hE⟩ : ∃ E, E = (fun s => decide (ordP s.pf r.pf < 0)) x := ⟨_, rfl⟩
        replace HA := HA.out E hE
        replace HA : Hid ((O.take (k + 1)).filter (fun s => decide (ordP s.pf r.pf < 0)) = (O.take k).filter (fun s => decide (ordP s.pf r.pf < 0)) ++ (if E then [x] else [])) := HA
        replace cL : ∀ W, Calls Tryz.prog 79 #[.agg #[.bool x.pf.six, .int .u64 (hiN x.pf.n : Int), .int .u64 (loN x.pf.n : Int), .int .i64 x.pf.len], .agg #[.bool t0, .int .u64 t1, .int .u64 t2, .int .i64 t3]] W fun e w' => e = .returned (.bool E) ∧ Below W.heap.size W w' := fun W => by rw [hE]; exact cL.1 W
        clear hE
        generalize x.pf.six = s0 at *
        generalize (hiN x.pf.n : Int) = s1 at *
        generalize (loN x.pf.n : Int) = s2 at *
        generalize x.pf.len = s3 at *
        generalize (x.act.k : Int) = s4 at *
        generalize x.act.i = s5 at *
        obtain ⟨Y, hY⟩ : ∃ Y, Y = wr.alloc (.cells #[.bool s0, .int .u64 s1, .int .u64 s2, .int .i64 s3, .int .u8 s4, .int .i64 s5] 98) := ⟨_, rfl⟩
        have hbY : Below wr.heap.size wr Y := by rw [hY]; exact below_new (Below.refl _ _) _
        have rY : RowAt Y wr.heap.size [.bool s0, .int .u64 s1, .int .u64 s2, .int .i64 s3, .int .u8 s4, .int .i64 s5] 98 := by rw [hY]; exact RowAt.new _ _ _
        go_upto_region 10 with fail
        rw [← hY]
        clear hY a0 a1 a2 a3 a4 a5 hg1
        replace hI := hI.below hbY
        obtain ⟨gy, hgy⟩ : ∃ gy, gy = wr.heap.size := ⟨_, rfl⟩
        rw [← hgy] at rY ⊢
        clear hgy hbY
        obtain ⟨y0, y1, y2, y3, y4, y5, yf⟩ := six_of rY
        obtain ⟨q0, q1, q2, q3, q4, q5, qf⟩ := six_of (RowAt.below r0 hI.bl)
        go_wp2_with fail
        clear y0 y1 y2 y3 y4 y5 yf q0 q1 q2 q3 q4 q5 qf
        go_at_call 79; refine (cL _).mono ?_; rintro e w4 ⟨rfl, hb4⟩
        replace hI := hI.below hb4
        replace rY := RowAt.below rY hb4
        clear hb4 cL
        obtain ⟨y0, y1, y2, y3, y4, y5, yf⟩ := six_of rY
        cases E
        · have HO : Hid (Own1 V w4 u7 ((O.take (k + 1)).filter (fun s => decide (ordP s.pf r.pf < 0)))) := by
            show Own1 _ _ _ _
            rw [HA.out]
            simpa using hI
          clear hI HA HI rY HLT
          go_wp2_with fail
          go_roundw
          case rel => exact ⟨k + 1, by omega, by go_num, HO⟩
          case measure => simp [Go.RowKit.intOf]; omega
        · obtain ⟨v', w5, hrun, hO⟩ := (hI.below (below_new (Below.refl _ w4) (.cells #[.bool s0, .int .u64 s1, .int .u64 s2, .int .i64 s3, .int .u8 s4, .int .i64 s5] 98))).app (HLT.out w4) (by simp only [List.length_cons, List.length_nil]; omega)
          have HO : Hid (Own1 V w5 v' ((O.take (k + 1)).filter (fun s => decide (ordP s.pf r.pf < 0)))) := by
            show Own1 _ _ _ _
            rw [HA.out]
            simpa [List.append_assoc] using hO
          clear hO hI HA HI rY HLT
          go_wp2_with fail
          go_roundw
          case rel => exact ⟨k + 1, by omega, by go_num, HO⟩
          case measure => simp [Go.RowKit.intOf]; omega
      · have hkf : decide ((k : Int) < (n6 : Int)) = false := decide_eq_false (by omega)
        rw [List.take_of_length_le (by rw [← HN6.out]; omega)] at hI
        have hAl : (O.filter (fun s => decide (ordP s.pf r.pf < 0))).length ≤ 1000 := Nat.le_trans (List.length_filter_le _ _) HO6.out
        obtain ⟨v', w5, hrun, hO⟩ := (hI.below (below_new (Below.refl _ wr) (.cells #[.bool t0, .int .u64 t1, .int .u64 t2, .int .i64 t3, .int .u8 t4, .int .i64 t5] 98))).app (HLR.out wr) (by simp only [List.length_cons, List.length_nil]; omega)
        obtain ⟨q0, q1, q2, q3, q4, q5, qf⟩ := six_of (RowAt.below r0 hI.bl)
        have H0 : Hid (Own1 V w5 v' (O.filter (fun s => decide (ordP s.pf r.pf < 0)) ++ [r] ++ (O.take 0).filter (fun s => decide (ordP r.pf s.pf < 0)))) := by
          show Own1 _ _ _ _
          simpa using hO
        clear HI hI hO
        go_wp2_with fail
        clear q0 q1 q2 q3 q4 q5 qf hrun
        go_loopw [7, 52] (fun u q wr => ∃ k : Nat, k ≤ n6 ∧ q = .int .i64 k ∧ Hid (Own1 V wr u (O.filter (fun s => decide (ordP s.pf r.pf < 0)) ++ [r] ++ (O.take k).filter (fun s => decide (ordP r.pf s.pf < 0))))) (fun _ q _ => n6 - (Go.RowKit.intOf q).toNat)
        case atStart => exact ⟨0, by omega, rfl, H0⟩
        case round =>
          obtain ⟨k, hk, rfl, HI⟩ := hrel
          have hI := HI.out
          by_cases hlt : k < n6
          · have hkz : k < O.length := by rw [← HN6.out]; exact hlt
            obtain ⟨g1, i1, rfl, hg1, ax⟩ := HasRts.cell (HRO.out _ hI.bl) k hkz
            obtain ⟨a0, a1, a2, a3, a4, a5⟩ := six_at ax
            clear ax
            have HA : Hid ((O.take (k + 1)).filter (fun s => decide (ordP r.pf s.pf < 0)) = (O.take k).filter (fun s => decide (ordP r.pf s.pf < 0)) ++ (if (fun s => decide (ordP r.pf s.pf < 0)) O[k] then [O[k]] else [])) := filter_snocR _ O k hkz
            have hle : ((O.take k).filter (fun s => decide (ordP r.pf s.pf < 0))).length ≤ 1000 := Nat.le_trans (filter_leR _ O k) HO6.out
            have cL := HCL.out O[k] (List.getElem_mem hkz)
            obtain ⟨x, hx⟩ : ∃ x : Rt, x = O[k] := ⟨_, rfl⟩
            rw [← hx] at HA cL a0 a1 a2 a3 a4 a5
            clear hx
            have hki : (k : Int) < (n6 : Int) := by omega
            have HLT : Hid (∀ W : World, HasRts (W.alloc (.cells #[.bool x.pf.six, .int .u64 (hiN x.pf.n : Int), .int .u64 (loN x.pf.n : Int), .int .i64 x.pf.len, .int .u8 (x.act.k : Int), .int .i64 x.act.i] 98)) (.slice (some ⟨W.heap.size, 0, none⟩) 1 1) [x]) := fun W => lit_rt W x
            replace HA : Hid (∀ E : Bool, E = (fun s => decide (ordP r.pf s.pf < 0)) x → (O.take (k + 1)).filter (fun s => decide (ordP r.pf s.pf < 0)) = (O.take k).filter (fun s => decide (ordP r.pf s.pf < 0)) ++ (if E then [x] else [])) := fun E e => by rw [e]; exact HA.out
            obtain ⟨E, hE⟩ : ∃ E, E = (fun s => decide (ordP r.pf s.pf < 0)) x := ⟨_, rfl⟩
            replace HA := HA.out E hE
            replace HA : Hid ((O.take (k + 1)).filter (fun s => decide (ordP r.pf s.pf < 0)) = (O.take k).filter (fun s => decide (ordP r.pf s.pf < 0)) ++ (if E then [x] else [])) := HA
            replace cL : ∀ W, Calls Tryz.prog 79 #[.agg #[.bool t0, .int .u64 t1, .int .u64 t2, .int .i64 t3], .agg #[.bool x.pf.six, .int .u64 (hiN x.pf.n : Int), .int .u64 (loN x.pf.n : Int), .int .i64 x.pf.len]] W fun e w' => e = .returned (.bool E) ∧ Below W.heap.size W w' := fun W => by rw [hE]; exact cL.2 W
            clear hE
            generalize x.pf.six = s0 at *
            generalize (hiN x.pf.n : Int) = s1 at *
            generalize (loN x.pf.n : Int) = s2 at *
            generalize x.pf.len = s3 at *
            generalize (x.act.k : Int) = s4 at *
            generalize x.act.i = s5 at *
            obtain ⟨Y, hY⟩ : ∃ Y, Y = wr.alloc (.cells #[.bool s0, .int .u64 s1, .int .u64 s2, .int .i64 s3, .int .u8 s4, .int .i64 s5] 98) := ⟨_, rfl⟩
            have hbY : Below wr.heap.size wr Y := by rw [hY]; exact below_new (Below.refl _ _) _
            have rY : RowAt Y wr.heap.size [.bool s0, .int .u64 s1, .int .u64 s2, .int .i64 s3, .int .u8 s4, .int .i64 s5] 98 := by rw [hY]; exact RowAt.new _ _ _
            go_upto_region 17 with fail
            rw [← hY]
            clear hY a0 a1 a2 a3 a4 a5 hg1
            replace hI := hI.below hbY
            obtain ⟨gy, hgy⟩ : ∃ gy, gy = wr.heap.size := ⟨_, rfl⟩
            rw [← hgy] at rY ⊢
            clear hgy hbY
            obtain ⟨y0, y1, y2, y3, y4, y5, yf⟩ := six_of rY
            obtain ⟨q0, q1, q2, q3, q4, q5, qf⟩ := six_of (RowAt.below r0 hI.bl)
            go_wp2_with fail
            clear y0 y1 y2 y3 y4 y5 yf q0 q1 q2 q3 q4 q5 qf
            go_at_call 79; refine (cL _).mono ?_; rintro e w4 ⟨rfl, hb4⟩
            replace hI := hI.below hb4
            replace rY := RowAt.below rY hb4
            clear hb4 cL
            obtain ⟨y0, y1, y2, y3, y4, y5, yf⟩ := six_of rY
            cases E
            · have HO : Hid (Own1 V w4 u7 (O.filter (fun s => decide (ordP s.pf r.pf < 0)) ++ [r] ++ (O.take (k + 1)).filter (fun s => decide (ordP r.pf s.pf < 0)))) := by
                show Own1 _ _ _ _
                rw [HA.out]
                simpa using hI
              clear hI HA HI rY HLT
              go_wp2_with fail
              go_roundw
              case rel => exact ⟨k + 1, by omega, by go_num, HO⟩
              case measure => simp [Go.RowKit.intOf]; omega
            · obtain ⟨v', w5, hrun, hO⟩ := (hI.below (below_new (Below.refl _ w4) (.cells #[.bool s0, .int .u64 s1, .int .u64 s2, .int .i64 s3, .int .u8 s4, .int .i64 s5] 98))).app (HLT.out w4) (by simp only [List.length_append, List.length_cons, List.length_nil]; omega)
              have HO : Hid (Own1 V w5 v' (O.filter (fun s => decide (ordP s.pf r.pf < 0)) ++ [r] ++ (O.take (k + 1)).filter (fun s => decide (ordP r.pf s.pf < 0)))) := by
                show Own1 _ _ _ _
                rw [HA.out]
                simpa [List.append_assoc] using hO
              clear hO hI HA HI rY HLT
              go_wp2_with fail
              go_roundw
              case rel => exact ⟨k + 1, by omega, by go_num, HO⟩
              case measure => simp [Go.RowKit.intOf]; omega
          · have hkf : decide ((k : Int) < (n6 : Int)) = false := decide_eq_false (by omega)
            rw [List.take_of_length_le (by rw [← HN6.out]; omega)] at hI
            have hh : HasRts wr u7 _ := hasRow_own hI.ou
            have hbl := below2 hBV hI.bl
            clear HI hI
            go_wp2_with fail
            go_ret2
            exact ⟨_, by rw [HV.out]; rfl, by rw [HV.out, HIN.out]; exact hh, hbl⟩
end Go.Proofs.YtkjhnefbcnnjlaaGreat.Tr
namespace Go.Proofs.YtkjhnefbcnnjlaaGreat.Tr
open Go.RowKit Go.Shelf
open Go.Proofs.YtkjhnefbcnnjlaaGreat.Msg (eqP eqP_iff eqP_not pf_eqb)
open Go.Proofs.YtkjhnefbcnnjlaaGreat.Lk (HasRow)
open Go.Proofs.YtkjhnefbcnnjlaaGreat.Addr (Pf okP hiN loN RowAt below2 below_new RowAt.cell RowAt.below RowAt.new RowAt.alloc cells4)
def findO (l : List Rt) (p : Pf) : Rt × Int := match findT l p with | some s => (s, 0) | none => (zeroR, 3)
def findE (l : List Rt) (p : Pf) : Rt × Int := if okT l && okP p then findO l p else (zeroR, 2)
theorem findT_at {l : List Rt} {p : Pf} {k : Nat} (hk : k < l.length) (h : l[k].pf = p) (h2 : ∀ j (hj : j < l.length), j < k → l[j].pf ≠ p) : findT l p = some l[k] := by
  unfold findT
  rw [List.find?_eq_some_iff_getElem]
  refine ⟨by rw [decide_eq_true_eq, ordP_eq]; exact h, k, hk, rfl, fun j hj => ?_⟩
  have := h2 j (by omega) hj
  simp [ordP_eq]; exact this
theorem findT_no {l : List Rt} {p : Pf} (h : ∀ x ∈ l, x.pf ≠ p) : findT l p = none := by
  unfold findT
  rw [List.find?_eq_none]
  intro x hx
  simp [ordP_eq]; exact h x hx
theorem del_find (l : List Rt) (p : Pf) : delT l p = if (findE l p).2 = 2 then ([], 2) else (othersT l p, (findE l p).2) := by
  unfold delT findE findO
  cases hk : okT l && okP p with
  | false => rfl
  | true =>
    simp only [if_true]
    cases hf : findT l p with
    | none =>
      have hall : othersT l p = l := filt_all (fun x hx => by
        have := List.find?_eq_none.1 hf x hx
        simpa using this)
      rw [hall, if_pos rfl]
      rfl
    | some s =>
      have hm := List.mem_of_find?_eq_some hf
      have hs := List.find?_some hf
      have hne : ¬ (othersT l p).length = l.length := fun h => by
        have he : othersT l p = l := List.filter_sublist.eq_of_length h
        have hm2 : s ∈ othersT l p := by rw [he]; exact hm
        have := (List.mem_filter.1 hm2).2
        rw [hs] at this
        cases this
      rw [if_neg hne]
      rfl
set_option maxHeartbeats 8000000 in
set_option maxRecDepth 20000 in
theorem rfind_any (l : List Rt) (v : Value) (p : Pf) (w : World) (hl : HasRts w v l) (hf : ∀ x ∈ l, FitR x) (hp : FitP p) :
    Calls Tryz.prog 96 #[v, .agg #[.bool p.six, .int .u64 (hiN p.n : Int), .int .u64 (loN p.n : Int), .int .i64 p.len]] w fun e w' => e = .returned (.tuple #[rtA (findE l p).1, .int .i64 (findE l p).2]) ∧ Below w.heap.size w w' := by
  obtain ⟨o, c, rfl, hc1, hc2⟩ := Lk.HasRow.slice hl
  have cc := fun W (hb : Below w.heap.size w W) => rcheck_any l _ W (hl.keep hb) hf
  have c1 : ∀ W, Calls Tryz.prog 93 #[.agg #[.bool p.six, .int .u64 (hiN p.n : Int), .int .u64 (loN p.n : Int), .int .i64 p.len]] W fun e w' => e = .returned (.int .i64 (if okP p then 0 else 2)) ∧ Below W.heap.size W w' := fun W => Addr.rcheck_any p W hp.1 hp.2
  have hck : checkT l = if okT l then 0 else 2 := rfl
  rw [hck] at cc
  have HF : Hid (findE l p = if okT l && okP p then findO l p else (zeroR, 2)) := rfl
  have HL : Hid (∀ W, Below w.heap.size w W → HasRts W (.slice o l.length c) l) := fun W hb => hl.keep hb
  have HEQ : Hid (∀ (s : Rt) (W : World), (binOp .eql 33 (.agg #[.bool s.pf.six, .int .u64 (hiN s.pf.n : Int), .int .u64 (loN s.pf.n : Int), .int .i64 s.pf.len]) (.agg #[.bool p.six, .int .u64 (hiN p.n : Int), .int .u64 (loN p.n : Int), .int .i64 p.len])).run Tryz.prog W = .ok (.bool (eqP s.pf p)) W) := fun s W => pf_eqb s.pf p W
  have HZ : Hid (rtA zeroR = .agg #[.bool false, .int .u64 0, .int .u64 0, .int .i64 0, .int .u8 0, .int .i64 0]) := by show _ = _; unfold rtA zeroR; simp only [Msg.hi0, Msg.lo0]; rfl
  obtain ⟨X, hX⟩ : ∃ X, X = (w.alloc (.cells #[.bool p.six, .int .u64 (hiN p.n : Int), .int .u64 (loN p.n : Int), .int .i64 p.len] 33)).alloc (.cells #[.bool false, .int .u64 0, .int .u64 0, .int .i64 0, .int .u8 0, .int .i64 0] 98) := ⟨_, rfl⟩
  have hB : Below w.heap.size w X := by rw [hX]; exact below_new (below_new (Below.refl _ _) _) _
  have r0 : RowAt X w.heap.size [.bool p.six, .int .u64 (hiN p.n : Int), .int .u64 (loN p.n : Int), .int .i64 p.len] 33 := by rw [hX]; exact (RowAt.new _ _ _).alloc _
  have r1 : RowAt X (w.heap.size + 1) [.bool false, .int .u64 0, .int .u64 0, .int .i64 0, .int .u8 0, .int .i64 0] 98 := by rw [hX, ← World.size_alloc w (.cells #[.bool p.six, .int .u64 (hiN p.n : Int), .int .u64 (loN p.n : Int), .int .i64 p.len] 33)]; exact RowAt.new _ _ _
  have hlen : okT l = true → l.length ≤ 256 := fun h => ((okT_iff l).1 h).1
  generalize findE l p = F at HF ⊢
  generalize okT l = kt at *
  generalize okP p = kp at *
  obtain ⟨n, hn⟩ : ∃ n, n = l.length := ⟨_, rfl⟩
  have HN : Hid (n = l.length) := hn
  rw [← hn] at HL hlen cc ⊢
  generalize p.six = t0 at *
  generalize (hiN p.n : Int) = t1 at *
  generalize (loN p.n : Int) = t2 at *
  generalize p.len = t3 at *
  clear hl hf hp hn hck hc1
  cases kt
  · have HV : Hid (F = (zeroR, 2)) := HF.out
    simp only [Bool.false_eq_true, if_false] at cc
    clear HF HL HEQ
    go_enter Tryz.func96, Tryz.ntmps96
    go_upto_region 1 with fail
    rw [← hX]
    clear hX
    go_wp2_with fail
    go_at_call 50; refine (cc _ hB).mono ?_; rintro e w1 ⟨rfl, hb1⟩
    replace hB := below2 hB hb1
    replace r0 := RowAt.below r0 hb1
    replace r1 := RowAt.below r1 hb1
    clear hb1 cc
    obtain ⟨z0, z1, z2, z3, z4, z5, zf⟩ := six_of r1
    go_wp2_with fail
    (try simp only [Exit.inBlock, Exit.then])
    refine bodyPost_ret (v := .tuple #[.agg #[.bool false, .int .u64 0, .int .u64 0, .int .i64 0, .int .u8 0, .int .i64 0], .int .i64 2]) ?_ rfl ⟨by rw [HV.out, HZ.out], ?_⟩
    · rw [results_cell_tmp rfl]
      go_simp
    · exact set6_bl hB (by omega) _ _ _ _ _ _
  simp only [if_true] at cc
  replace hlen := hlen (by first | rfl | trivial)
  cases kp
  · have HV : Hid (F = (zeroR, 2)) := HF.out
    clear HF HL HEQ
    go_enter Tryz.func96, Tryz.ntmps96
    go_upto_region 1 with fail
    rw [← hX]
    clear hX
    go_wp2_with fail
    go_at_call 50; refine (cc _ hB).mono ?_; rintro e w1 ⟨rfl, hb1⟩
    replace hB := below2 hB hb1
    replace r0 := RowAt.below r0 hb1
    replace r1 := RowAt.below r1 hb1
    clear hb1 cc
    obtain ⟨q0, q1, q2, q3, qf⟩ := cells4 r0
    go_wp2_with fail
    clear q0 q1 q2 q3 qf
    go_at_call 93; refine (c1 _).mono ?_; rintro e w2 ⟨rfl, hb2⟩
    replace hB := below2 hB hb2
    replace r0 := RowAt.below r0 hb2
    replace r1 := RowAt.below r1 hb2
    clear hb2 c1
    obtain ⟨z0, z1, z2, z3, z4, z5, zf⟩ := six_of r1
    go_wp2_with fail
    (try simp only [Exit.inBlock, Exit.then])
    refine bodyPost_ret (v := .tuple #[.agg #[.bool false, .int .u64 0, .int .u64 0, .int .i64 0, .int .u8 0, .int .i64 0], .int .i64 2]) ?_ rfl ⟨by rw [HV.out, HZ.out], ?_⟩
    · rw [results_cell_tmp rfl]
      go_simp
    · exact set6_bl hB (by omega) _ _ _ _ _ _
  have HG : Hid (F = findO l p) := HF.out
  have hni : (n : Int) ≤ 256 := by omega
  clear HF
  go_enter Tryz.func96, Tryz.ntmps96
  go_upto_region 1 with fail
  rw [← hX]
  clear hX
  go_wp2_with fail
  go_at_call 50; refine (cc _ hB).mono ?_; rintro e w1 ⟨rfl, hb1⟩
  replace hB := below2 hB hb1
  replace r0 := RowAt.below r0 hb1
  replace r1 := RowAt.below r1 hb1
  clear hb1 cc
  obtain ⟨q0, q1, q2, q3, qf⟩ := cells4 r0
  go_wp2_with fail
  clear q0 q1 q2 q3 qf
  go_at_call 93; refine (c1 _).mono ?_; rintro e w2 ⟨rfl, hb2⟩
  replace hB := below2 hB hb2
  replace r0 := RowAt.below r0 hb2
  replace r1 := RowAt.below r1 hb2
  clear hb2 c1
  obtain ⟨V, hV⟩ : ∃ V, V = w2 := ⟨_, rfl⟩
  subst hV
  go_wp2_with fail
  go_loopw [19] (fun i wr => ∃ k : Nat, k ≤ n ∧ i = .int .i64 k ∧ Hid (Below V.heap.size V wr ∧ ∀ j (h : j < l.length), j < k → l[j].pf ≠ p)) (fun i _ => n - (Go.RowKit.intOf i).toNat)
  case atStart => exact ⟨0, by omega, rfl, Below.refl _ _, fun j h h' => by omega⟩
  case round =>
    obtain ⟨k, hk, rfl, HI⟩ := hrel
    have hbl := HI.out.1
    by_cases hlt : k < n
    · have hkz : k < l.length := by rw [← HN.out]; exact hlt
      obtain ⟨g1, i1, rfl, hgl, ax⟩ := HasRts.cell (HL.out _ (below2 hB hbl)) k hkz
      obtain ⟨a0, a1, a2, a3, a4, a5⟩ := six_at ax
      clear ax
      have hq := HEQ.out l[k]
      obtain ⟨q, hqd⟩ : ∃ q, q = eqP l[k].pf p := ⟨_, rfl⟩
      rw [← hqd] at hq
      have HK : Hid (q = eqP l[k].pf p) := hqd
      have HVV : Hid (rtA l[k] = .agg #[.bool l[k].pf.six, .int .u64 (hiN l[k].pf.n : Int), .int .u64 (loN l[k].pf.n : Int), .int .i64 l[k].pf.len, .int .u8 (l[k].act.k : Int), .int .i64 l[k].act.i]) := rfl
      clear hqd
      generalize l[k].pf.six = s0 at a0 hq HVV
      generalize (hiN l[k].pf.n : Int) = s1 at a1 hq HVV
      generalize (loN l[k].pf.n : Int) = s2 at a2 hq HVV
      generalize l[k].pf.len = s3 at a3 hq HVV
      generalize (l[k].act.k : Int) = s4 at a4 HVV
      generalize l[k].act.i = s5 at a5 HVV
      have hki : (k : Int) < (n : Int) := by omega
      obtain ⟨Y, hY⟩ : ∃ Y, Y = wr.alloc (.cells #[.bool s0, .int .u64 s1, .int .u64 s2, .int .i64 s3, .int .u8 s4, .int .i64 s5] 98) := ⟨_, rfl⟩
      have hbY : Below wr.heap.size wr Y := by rw [hY]; exact below_new (Below.refl _ _) _
      have rY : RowAt Y wr.heap.size [.bool s0, .int .u64 s1, .int .u64 s2, .int .i64 s3, .int .u8 s4, .int .i64 s5] 98 := by rw [hY]; exact RowAt.new _ _ _
      go_upto_region 6 with fail
      rw [← hY]
      clear hY a0 a1 a2 a3 a4 a5 hgl
      have hbn : Below V.heap.size V Y := below2 hbl hbY
      obtain ⟨y0, y1, y2, y3, y4, y5, yf⟩ := six_of rY
      obtain ⟨q0, q1, q2, q3, qf⟩ := cells4 (RowAt.below r0 hbn)
      obtain ⟨z0, z1, z2, z3, z4, z5, zf⟩ := six_of (RowAt.below r1 hbn)
      cases q
      · have hne : l[k].pf ≠ p := (eqP_not _ _).1 HK.out.symm
        go_wp2_with fail
        go_roundw
        case rel => exact ⟨k + 1, by omega, by go_num, hbn, fun j h h' => by
          rcases Nat.lt_or_ge j k with h9 | h9
          · exact HI.out.2 j h h9
          · have : j = k := by omega
            subst this; exact hne⟩
        case measure => simp [Go.RowKit.intOf]; omega
      · have HV : Hid (F = (l[k], 0)) := by
          show _ = _
          rw [HG.out]
          unfold findO
          rw [findT_at hkz ((eqP_iff _ _).1 HK.out.symm) HI.out.2]
        clear HG HI HK
        go_wp2_with fail
        (try simp only [Exit.inBlock, Exit.then])
        refine bodyPost_ret (v := .tuple #[.agg #[.bool s0, .int .u64 s1, .int .u64 s2, .int .i64 s3, .int .u8 s4, .int .i64 s5], .int .i64 0]) ?_ rfl ⟨by rw [HV.out]; show _ = Ending.returned (.tuple #[rtA l[k], .int .i64 0]); rw [HVV.out], ?_⟩
        · rw [results_cell_tmp rfl]
          go_simp
        · exact set6_bl (below2 hB hbn) (by omega) _ _ _ _ _ _
    · have HV : Hid (F = (zeroR, 3)) := by
        show _ = _
        rw [HG.out]
        unfold findO
        rw [findT_no (fun x hx => by
          obtain ⟨j, hj, rfl⟩ := List.getElem_of_mem hx
          exact HI.out.2 j hj (by have := HN.out; omega))]
      have hkf : decide ((k : Int) < (n : Int)) = false := decide_eq_false (by omega)
      clear HG HI
      obtain ⟨z0, z1, z2, z3, z4, z5, zf⟩ := six_of (RowAt.below r1 hbl)
      go_wp2_with fail
      (try simp only [Exit.inBlock, Exit.then])
      refine bodyPost_ret (v := .tuple #[.agg #[.bool false, .int .u64 0, .int .u64 0, .int .i64 0, .int .u8 0, .int .i64 0], .int .i64 3]) ?_ rfl ⟨by rw [HV.out, HZ.out], ?_⟩
      · rw [results_cell_tmp rfl]
        go_simp
      · exact set6_bl (below2 hB hbl) (by omega) _ _ _ _ _ _
set_option maxHeartbeats 4000000 in
set_option maxRecDepth 20000 in
theorem rdel_any (l : List Rt) (v : Value) (p : Pf) (w : World) (hl : HasRts w v l) (hf : ∀ x ∈ l, FitR x) (hp : FitP p) :
    Calls Tryz.prog 65 #[v, .agg #[.bool p.six, .int .u64 (hiN p.n : Int), .int .u64 (loN p.n : Int), .int .i64 p.len]] w fun e w' => ∃ u, e = .returned (.tuple #[u, .int .i64 (delT l p).2]) ∧ HasRts w' u (delT l p).1 ∧ Below w.heap.size w w' := by
  obtain ⟨o, c, rfl, hc1, hc2⟩ := Lk.HasRow.slice hl
  have cf := fun W (hb : Below w.heap.size w W) => rfind_any l _ p W (hl.keep hb) hf hp
  have cw := fun (hle : l.length ≤ 1000) W (hb : Below w.heap.size w W) => without_any l _ p W (hl.keep hb) hle
  have HD : Hid (delT l p = if (findE l p).2 = 2 then ([], 2) else (othersT l p, (findE l p).2)) := del_find l p
  have hle : ¬ (findE l p).2 = 2 → l.length ≤ 1000 := fun h => by
    unfold findE at h
    split at h
    · rename_i h1
      rw [Bool.and_eq_true] at h1
      have := ((okT_iff l).1 h1.1).1
      omega
    · exact absurd rfl h
  unfold rtA at cf
  generalize delT l p = D at HD ⊢
  generalize (findE l p).2 = y at *
  generalize (findE l p).1 = f at *
  generalize othersT l p = O at *
  generalize f.pf.six = f0 at *
  generalize (hiN f.pf.n : Int) = f1 at *
  generalize (loN f.pf.n : Int) = f2 at *
  generalize f.pf.len = f3 at *
  generalize (f.act.k : Int) = f4 at *
  generalize f.act.i = f5 at *
  generalize l.length = n at *
  generalize p.six = t0 at *
  generalize (hiN p.n : Int) = t1 at *
  generalize (loN p.n : Int) = t2 at *
  generalize p.len = t3 at *
  clear hl hf hp
  obtain ⟨X, hX⟩ : ∃ X, X = w.alloc (.cells #[.bool t0, .int .u64 t1, .int .u64 t2, .int .i64 t3] 33) := ⟨_, rfl⟩
  have hB : Below w.heap.size w X := by rw [hX]; exact below_new (Below.refl _ _) _
  have r0 : RowAt X w.heap.size [.bool t0, .int .u64 t1, .int .u64 t2, .int .i64 t3] 33 := by rw [hX]; exact RowAt.new _ _ _
  go_enter Tryz.func65, Tryz.ntmps65
  go_upto_region 1 with fail
  rw [← hX]
  clear hX
  obtain ⟨q0, q1, q2, q3, qf⟩ := cells4 r0
  go_wp2_with fail
  clear q0 q1 q2 q3 qf
  go_at_call 96; refine (cf _ hB).mono ?_; rintro e w1 ⟨rfl, hb1⟩
  replace hB := below2 hB hb1
  replace r0 := RowAt.below r0 hb1
  clear hb1 cf
  obtain ⟨Y, hY⟩ : ∃ Y, Y = w1.alloc (.cells #[.bool f0, .int .u64 f1, .int .u64 f2, .int .i64 f3, .int .u8 f4, .int .i64 f5] 98) := ⟨_, rfl⟩
  have hbY : Below w1.heap.size w1 Y := by rw [hY]; exact below_new (Below.refl _ _) _
  go_upto_region 2 with fail
  rw [← hY]
  clear hY
  replace hB := below2 hB hbY
  replace r0 := RowAt.below r0 hbY
  clear hbY
  by_cases h2 : y = 2
  · have HV : Hid (D = ([], 2)) := by show _ = _; rw [HD.out, if_pos h2]
    clear HD hle cw
    subst h2
    go_wp2_with fail
    go_ret2
    exact ⟨_, by rw [HV.out]; rfl, by rw [HV.out]; exact Lk.hasRow_nil _ 6, hB⟩
  · have HV : Hid (D = (O, y)) := by show _ = _; rw [HD.out, if_neg h2]
    have hq : (y == 2) = false := beq_eq_false_iff_ne.2 h2
    have cw2 := cw (hle h2)
    clear HD hle cw h2
    obtain ⟨q0, q1, q2, q3, qf⟩ := cells4 r0
    go_wp2_with fail
    go_at_call 95; refine (cw2 _ hB).mono ?_; rintro e w2 ⟨u, rfl, hh, hb2⟩
    go_wp2_with fail
    go_ret2
    exact ⟨_, by rw [HV.out]; rfl, by rw [HV.out]; exact hh, below2 hB hb2⟩
end Go.Proofs.YtkjhnefbcnnjlaaGreat.Tr
namespace Go.Proofs.YtkjhnefbcnnjlaaGreat.Lk
open Go.RowKit
attribute [-go_sem] Builtin.append_
theorem okL_len {l : List Lk} (h : okL l = true) : l.length ≤ 32 := by
  unfold okL at h
  simp only [Bool.and_eq_true, decide_eq_true_eq] at h
  exact h.1
end Go.Proofs.YtkjhnefbcnnjlaaGreat.Lk
namespace Go.Proofs.YtkjhnefbcnnjlaaGreat.Lk
open Go.RowKit Go.Shelf
open Go.Proofs.YtkjhnefbcnnjlaaGreat.Addr (RowAt.lt)
attribute [-go_sem] Builtin.append_
/-- the first of three rows takes the third -/
theorem Own3.join {w W : World} {u v t : Value} {a b c : List Lk} (h : Own3 w W u v t a b c) (hb : a.length + c.length ≤ 1000) :
    ∃ v' w3, (∀ ty, (Builtin.append_ #[49, 49] ty #[u, t]).run Tryz.prog W = .ok v' w3) ∧ HasLks w3 v' (a ++ c) ∧ Below w.heap.size w w3 := by
  obtain ⟨v', w3, hrun, h1, h2⟩ := append_row info_lk Tryz.underlying49 rfl (by decide) h.ou (show HasRow W t 2 c.length (lkCs c) from hasRow_own h.ot) (one_links c) (by omega) (by omega) h.bl.size
  refine ⟨v', w3, hrun, ?_, h.bl.grown h2 h.bl.size (fun k e => (h.ou.lt k e).1)⟩
  rw [← lkCs_app, ← List.length_append] at h1
  exact hasRow_own h1
set_option maxHeartbeats 4000000 in
set_option maxRecDepth 20000 in
theorem rdel_any (l : List Lk) (v : Value) (i : Int) (w : World) (hl : HasLks w v l) :
    Calls Tryz.prog 67 #[v, .int .i64 i] w fun e w' => ∃ u, e = .returned (.tuple #[u, .int .i64 (delL l i).2]) ∧ HasLks w' u (delL l i).1 ∧ Below w.heap.size w w' := by
  have cc := fun W (hb : Below w.heap.size w W) => rcheck_any l _ W (hl.keep hb)
  have hck : checkL l = if okL l then 0 else 2 := rfl
  rw [hck] at cc
  cases hok : okL l
  · have hP : delL l i = ([], 2) := by unfold delL; rw [hok]; rfl
    rw [hok] at cc
    simp only [Bool.false_eq_true, if_false] at cc
    rw [hP]
    go_enter Tryz.func67, Tryz.ntmps67
    go_wp2_with fail
    go_at_call 51; refine (cc _ (Below.refl _ _)).mono ?_; rintro e w1 ⟨rfl, hb1⟩
    go_wp2_with fail
    go_ret2
    exact ⟨_, rfl, hasRow_nil _ 2, hb1⟩
  · have hlen := okL_len hok
    have cp := fun W (hb : Below w.heap.size w W) => parts_any l v i W (hl.keep hb) (by omega)
    obtain ⟨hs1, hs2⟩ := others_split (okL_up hok) i
    have hP : delL l i = (aheadL l i ++ behindL l i, if (ofL l i).length = 0 then 3 else 0) := by
      unfold delL
      rw [hok]
      simp only [if_true]
      rw [← hs1]
      congr 1
      by_cases h : (ofL l i).length = 0
      · rw [if_pos h, if_pos (by omega)]
      · rw [if_neg h, if_neg (by omega)]
    have hab : (aheadL l i).length + (behindL l i).length ≤ 1000 := by rw [← List.length_append, ← hs1]; omega
    rw [hok] at cc
    simp only [if_true] at cc
    have HAB : Hid ((aheadL l i).length + (behindL l i).length ≤ 1000) := hab
    rw [hP]
    clear hP hck hs1 hs2 hl hab
    generalize aheadL l i = A at *
    generalize behindL l i = C at *
    generalize ofL l i = F at *
    obtain ⟨yy, hyy⟩ : ∃ yy : Int, yy = if F.length = 0 then 3 else 0 := ⟨_, rfl⟩
    have HY : Hid (yy = if F.length = 0 then 3 else 0) := hyy
    rw [← hyy]
    clear hyy
    go_enter Tryz.func67, Tryz.ntmps67
    go_wp2_with fail
    go_at_call 51; refine (cc _ (Below.refl _ _)).mono ?_; rintro e w1 ⟨rfl, hb1⟩
    go_wp2_with fail
    go_at_call 97; refine (cp _ hb1).mono ?_; rintro e w2 ⟨x, y, z, rfl, hO⟩
    obtain ⟨oy, cy, rfl, hy1, hy2⟩ := HasRow.slice (hasRow_own hO.ov)
    obtain ⟨v', w3, hrun, hh, hb3⟩ := hO.join HAB.out
    have hbw : Below w.heap.size w w3 := hb1.trans (Below.mono hb3 hb1.size)
    clear cp cc hO hb1 hb3
    by_cases h0 : F.length = 0
    · have HV : Hid (yy = 3) := by show _ = _; rw [HY.out, if_pos h0]
      rw [h0]
      clear HY h0 hy1
      go_wp2_with fail
      go_ret2
      exact ⟨_, by have h := HV.out; subst h; rfl, hh, hbw⟩
    · have HV : Hid (yy = 0) := by show _ = _; rw [HY.out, if_neg h0]
      obtain ⟨m, hm⟩ : ∃ m, m = F.length := ⟨_, rfl⟩
      have hm0 : ((m : Int) == 0) = false := beq_eq_false_iff_ne.2 (by omega)
      have hm1 : ¬ (m = 0) := by omega
      rw [← hm]
      clear HY h0 hy1 hm
      go_wp2_with fail
      go_ret2
      exact ⟨_, by have h := HV.out; subst h; rfl, hh, hbw⟩
end Go.Proofs.YtkjhnefbcnnjlaaGreat.Lk
