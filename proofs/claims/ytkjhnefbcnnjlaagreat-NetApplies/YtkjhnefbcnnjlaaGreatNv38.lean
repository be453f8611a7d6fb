/- The document's answer of routers: Apply. -/
import Derived.Test.YtkjhnefbcnnjlaaGreatNv37
import Derived.Test.YtkjhnefbcnnjlaaGreatNv32
import Derived.Test.YtkjhnefbcnnjlaaGreatNv30
import Derived.Test.YtkjhnefbcnnjlaaGreatNv27
import Derived.Test.YtkjhnefbcnnjlaaGreatNv19
import Derived.Test.YtkjhnefbcnnjlaaGreatNv35
set_option linter.unusedVariables false
namespace Go.Proofs.YtkjhnefbcnnjlaaGreat.Lk
open Go.RowKit Go.Shelf
open Go.Proofs.YtkjhnefbcnnjlaaGreat.Addr (RowAt below2 below_new RowAt.below RowAt.new RowAt.alloc cells2)
attribute [-go_sem] Builtin.append_
set_option maxHeartbeats 8000000 in
set_option maxRecDepth 20000 in
theorem rput_any (l : List Lk) (v : Value) (x : Lk) (w : World) (hl : HasLks w v l) :
    Calls Tryz.prog 66 #[v, .agg #[.int .i64 x.iface, .int .i64 x.peer]] w fun e w' => ∃ u, e = .returned (.tuple #[u, .int .i64 (putL l x).2]) ∧ HasLks w' u (putL l x).1 ∧ Below w.heap.size w w' := by
  obtain ⟨o, c, rfl, hc1, hc2⟩ := HasRow.slice hl
  have cc := fun W (hb : Below w.heap.size w W) => rcheck_any l _ W (hl.keep hb)
  have c1 := fun W => one_any x W
  have hck : checkL l = if okL l then 0 else 2 := rfl
  rw [hck] at cc
  have hPd : putL l x = if okL l && okK x then (if (others l x.iface).length = 32 then (others l x.iface, 8) else (aheadL l x.iface ++ ([x] ++ behindL l x.iface), 0)) else ([], 2) := rfl
  obtain ⟨X, hX⟩ : ∃ X, X = w.alloc (.cells #[.int .i64 x.iface, .int .i64 x.peer] 101) := ⟨_, rfl⟩
  have hB : Below w.heap.size w X := by rw [hX]; exact below_new (Below.refl _ _) _
  have r0 : RowAt X w.heap.size [.int .i64 x.iface, .int .i64 x.peer] 101 := by rw [hX]; exact RowAt.new _ _ _
  cases hok : okL l
  · rw [hok] at cc hPd
    simp only [Bool.false_eq_true, if_false, Bool.false_and] at cc hPd
    rw [hPd]
    clear hPd
    go_enter Tryz.func66, Tryz.ntmps66
    go_upto_region 1 with fail
    rw [← hX]
    clear hX
    go_wp2_with fail
    go_at_call 51; refine (cc _ hB).mono ?_; rintro e w1 ⟨rfl, hb1⟩
    go_wp2_with fail
    go_ret2
    exact ⟨_, rfl, hasRow_nil _ 2, below2 hB hb1⟩
  rw [hok] at cc hPd
  simp only [if_true, Bool.true_and] at cc hPd
  cases hox : okK x
  · rw [hox] at c1 hPd
    simp only [Bool.false_eq_true, if_false] at hPd
    rw [hPd]
    clear hPd
    obtain ⟨a, b⟩ := x
    simp only at *
    go_enter Tryz.func66, Tryz.ntmps66
    go_upto_region 1 with fail
    rw [← hX]
    clear hX
    go_wp2_with fail
    go_at_call 51; refine (cc _ hB).mono ?_; rintro e w1 ⟨rfl, hb1⟩
    replace r0 := RowAt.below r0 hb1
    obtain ⟨y0, y1, yf⟩ := cells2 r0
    go_wp2_with fail
    go_at_call 80; refine (c1 _).mono ?_; rintro e w2 ⟨rfl, hb2⟩
    go_wp2_with fail
    go_ret2
    exact ⟨_, rfl, hasRow_nil _ 2, below2 (below2 hB hb1) hb2⟩
  rw [hox] at c1 hPd
  simp only [if_true] at hPd
  have hlen := okL_len hok
  have cp := fun W (hb : Below w.heap.size w W) => parts_any l _ x.iface W (hl.keep hb) (by omega)
  obtain ⟨hs1, hs2⟩ := others_split (okL_up hok) x.iface
  have HCL : Hid (∀ W : World, Below w.heap.size w W → ∃ v' w3, (∀ ty, (Builtin.append_ #[49, 49] ty #[.slice (some ⟨W.heap.size, 0, none⟩) 0 0, .slice o l.length c]).run Tryz.prog (W.alloc (.cells #[] 101)) = .ok v' w3) ∧ HasLks w3 v' l ∧ Below W.heap.size W w3) := fun W hb => by
    have hk := (hl.keep hb).keep (below_new (Below.refl _ W) (.cells #[] 101))
    obtain ⟨v', w3, hrun, h1, h2⟩ := append_row info_lk Tryz.underlying49 rfl (by decide) (empty_own W 101 2) hk (one_links l) (by omega) (by omega) (by simp)
    rw [Nat.zero_add, List.nil_append] at h1
    exact ⟨v', w3, hrun, hasRow_own h1, ((Below.refl _ W).alloc (Nat.le_refl _) _).grown h2 (by simp) (fun k e => by simp [Value.ownBlock] at e; omega)⟩
  have hall : (ofL l x.iface).length = 0 → others l x.iface = l := fun h => others_none (fun j hj hc => by
    have : l[j] ∈ ofL l x.iface := List.mem_filter.2 ⟨List.getElem_mem hj, by simpa using hc⟩
    rw [List.eq_nil_of_length_eq_zero h] at this
    simp at this)
  obtain ⟨P, hP⟩ : ∃ P, P = putL l x := ⟨_, rfl⟩
  have HP1 : Hid ((ofL l x.iface).length = 0 ∧ l.length = 32 → P = (l, 8)) := fun ⟨h1, h2⟩ => by rw [hP, hPd, if_pos (by rw [hall h1]; exact h2), hall h1]
  have HP2 : Hid (¬ ((ofL l x.iface).length = 0 ∧ l.length = 32) → P = (aheadL l x.iface ++ [x] ++ behindL l x.iface, 0)) := fun h => by rw [hP, hPd, if_neg (by omega), List.append_assoc]
  have HAB : Hid ((aheadL l x.iface).length + (behindL l x.iface).length ≤ 32) := by show _ ≤ _; rw [← List.length_append, ← hs1]; omega
  rw [← hP]
  obtain ⟨n, hn⟩ : ∃ n, n = l.length := ⟨_, rfl⟩
  rw [← hn] at HP1 HP2 HCL hlen hc1 cc cp ⊢
  have hni : (n : Int) ≤ 32 := by omega
  clear hP hPd hs1 hs2 hall hl hck hn
  have HXL : Hid (∀ W : World, HasLks (W.alloc (.cells #[.int .i64 x.iface, .int .i64 x.peer] 101)) (.slice (some ⟨W.heap.size, 0, none⟩) 1 1) [x]) := fun W => lit_lk W x
  generalize aheadL l x.iface = A at *
  generalize behindL l x.iface = C at *
  generalize ofL l x.iface = F at *
  obtain ⟨a, b⟩ := x
  simp only at *
  go_enter Tryz.func66, Tryz.ntmps66
  go_upto_region 1 with fail
  rw [← hX]
  clear hX
  go_wp2_with fail
  go_at_call 51; refine (cc _ hB).mono ?_; rintro e w1 ⟨rfl, hb1⟩
  replace r0 := RowAt.below r0 hb1
  replace hB := below2 hB hb1
  clear hb1 cc
  obtain ⟨y0, y1, yf⟩ := cells2 r0
  go_wp2_with fail
  go_at_call 80; refine (c1 _).mono ?_; rintro e w2 ⟨rfl, hb2⟩
  replace r0 := RowAt.below r0 hb2
  replace hB := below2 hB hb2
  clear hb2 c1 y0 y1 yf
  obtain ⟨y0, y1, yf⟩ := cells2 r0
  go_wp2_with fail
  go_at_call 97; refine (cp _ hB).mono ?_; rintro e w3 ⟨u, y, z, rfl, hO⟩
  replace r0 := RowAt.below r0 hO.bl
  obtain ⟨oy, cy, rfl, hy1, hy2⟩ := HasRow.slice (hasRow_own hO.ov)
  have hB3 := below2 hB hO.bl
  obtain ⟨m, hm⟩ : ∃ m, m = F.length := ⟨_, rfl⟩
  rw [← hm] at HP1 HP2 ⊢
  clear cp y0 y1 yf hy1
  by_cases h0 : m = 0 ∧ n = 32
  · have HV : Hid (P = (l, 8)) := HP1.out h0
    obtain ⟨v', w4, hrun, hh, hb4⟩ := HCL.out w3 hB3
    obtain ⟨hm0, hn32⟩ := h0
    clear hm
    subst hm0 hn32
    clear HP1 HP2 hO HCL
    go_wp2_with fail
    go_ret2
    exact ⟨_, by rw [HV.out]; rfl, by rw [HV.out]; exact hh, below2 hB3 hb4⟩
  · have HV : Hid (P = (A ++ [⟨a, b⟩] ++ C, 0)) := HP2.out h0
    have hO2 := hO.below (below_new (Below.refl _ w3) (.cells #[.int .i64 a, .int .i64 b] 101))
    obtain ⟨g, cap, w4, hrun1, hO3⟩ := hO2.app (HXL.out w3) (by simp) (by have := HAB.out; simp; omega)
    obtain ⟨v', w5, hrun2, hh, hb5⟩ := hO3.join (by have := HAB.out; rw [List.length_append]; simp; omega)
    have hbw : Below w.heap.size w w5 := hB.trans (Below.mono hb5 hB.size)
    generalize (A ++ [(⟨a, b⟩ : Lk)]).length = mA at hrun1 hrun2
    obtain ⟨y0, y1, yf⟩ := cells2 r0
    clear HP1 HP2 HCL hO hO2 hO3 hm hb5
    by_cases hm0 : m = 0
    · have hn32 : ((n : Int) == 32) = false := beq_eq_false_iff_ne.2 (by omega)
      have hn33 : ¬ n = 32 := by omega
      subst hm0
      clear h0
      go_wp2_with fail
      go_ret2
      exact ⟨_, by rw [HV.out]; rfl, by rw [HV.out]; exact hh, hbw⟩
    · have hm1 : ((m : Int) == 0) = false := beq_eq_false_iff_ne.2 (by omega)
      clear h0
      go_wp2_with fail
      go_ret2
      exact ⟨_, by rw [HV.out]; rfl, by rw [HV.out]; exact hh, hbw⟩
end Go.Proofs.YtkjhnefbcnnjlaaGreat.Lk
namespace Go.Proofs.YtkjhnefbcnnjlaaGreat.Fib
open Go.RowKit Go.Shelf
open Go.Proofs.YtkjhnefbcnnjlaaGreat.Addr (RowAt below_new RowAt.new RowAt.alloc cells4)
attribute [-go_sem] Builtin.append_
theorem rmake_any (i : Int) (w : World) : Calls Tryz.prog 37 #[.int .i64 i] w (RoIs (makeRo i).1 (makeRo i).2 w) := by
  have HA : Hid (makeRo i = if (decide (0 ≤ i) && decide (i ≤ 1048576)) then (⟨i, false, [], []⟩, 0) else (zeroRo, 1)) := rfl
  generalize makeRo i = A at HA ⊢
  have c25 := fun (W : World) => ro_nil W
  obtain ⟨X, hX⟩ : ∃ X, X = w.alloc (.cells #[.int .i64 0, .bool false, .slice none 0 0, .slice none 0 0] 51) := ⟨_, rfl⟩
  have hB : Below w.heap.size w X := by rw [hX]; exact below_new (Below.refl _ _) _
  have r0 : RowAt X w.heap.size [.int .i64 0, .bool false, .slice none 0 0, .slice none 0 0] 51 := by rw [hX]; exact RowAt.new _ _ _
  obtain ⟨q0, q1, q2, q3, qf⟩ := cells4 r0
  by_cases hk : 0 ≤ i ∧ i ≤ 1048576
  · have HV : Hid (A = (⟨i, false, [], []⟩, 0)) := by show _ = _; rw [HA.out, decide_eq_true hk.1, decide_eq_true hk.2]; rfl
    have e1 : decide (i < 0) = false := decide_eq_false (by omega)
    have e2 : decide (1048576 < i) = false := decide_eq_false (by omega)
    clear HA hk
    go_enter Tryz.func37, Tryz.ntmps37
    go_upto_region 1 with fail
    rw [← hX]
    clear hX
    go_wp2_with fail
    (try simp only [Exit.inBlock, Exit.then])
    refine bodyPost_ret (v := .tuple #[.agg #[.int .i64 i, .bool false, .slice none 0 0, .slice none 0 0], .int .i64 0]) ?_ rfl ⟨none, 0, 0, none, 0, 0, by rw [HV.out], by rw [HV.out]; exact (c25 _).1, by rw [HV.out]; exact (c25 _).2, ?_⟩
    · rw [results_cell_tmp rfl]
      go_simp
    · exact set4_bl hB (by omega) _ _ _ _
  · have HV : Hid (A = (zeroRo, 1)) := by
      show _ = _
      rw [HA.out]
      by_cases h0 : 0 ≤ i
      · rw [decide_eq_true h0, decide_eq_false (show ¬ i ≤ 1048576 from fun h => hk ⟨h0, h⟩)]; rfl
      · rw [decide_eq_false h0]; rfl
    clear HA
    by_cases h0 : i < 0
    · have e1 : decide (i < 0) = true := decide_eq_true h0
      clear hk h0
      go_enter Tryz.func37, Tryz.ntmps37
      go_upto_region 1 with fail
      rw [← hX]
      clear hX
      go_wp2_with fail
      (try simp only [Exit.inBlock, Exit.then])
      refine bodyPost_ret (v := .tuple #[.agg #[.int .i64 0, .bool false, .slice none 0 0, .slice none 0 0], .int .i64 1]) ?_ rfl ⟨none, 0, 0, none, 0, 0, by rw [HV.out]; rfl, by rw [HV.out]; exact (c25 _).1, by rw [HV.out]; exact (c25 _).2, ?_⟩
      · rw [results_cell_tmp rfl]
        go_simp
      · exact set4_bl hB (by omega) _ _ _ _
    · have e1 : decide (i < 0) = false := decide_eq_false h0
      have e2 : decide (1048576 < i) = true := decide_eq_true (by omega)
      clear hk h0
      go_enter Tryz.func37, Tryz.ntmps37
      go_upto_region 1 with fail
      rw [← hX]
      clear hX
      go_wp2_with fail
      (try simp only [Exit.inBlock, Exit.then])
      refine bodyPost_ret (v := .tuple #[.agg #[.int .i64 0, .bool false, .slice none 0 0, .slice none 0 0], .int .i64 1]) ?_ rfl ⟨none, 0, 0, none, 0, 0, by rw [HV.out]; rfl, by rw [HV.out]; exact (c25 _).1, by rw [HV.out]; exact (c25 _).2, ?_⟩
      · rw [results_cell_tmp rfl]
        go_simp
      · exact set4_bl hB (by omega) _ _ _ _
end Go.Proofs.YtkjhnefbcnnjlaaGreat.Fib
namespace Go.Proofs.YtkjhnefbcnnjlaaGreat.Fib
open Go.RowKit Go.Shelf
open Go.Proofs.YtkjhnefbcnnjlaaGreat.Addr (RowAt below2 below_new RowAt.below RowAt.new RowAt.alloc RowAt.set1 cells4 gset grefl bset RowAt.gkeep)
open Go.Proofs.YtkjhnefbcnnjlaaGreat.Msg (Ev okE FitE evV)
open Go.Proofs.YtkjhnefbcnnjlaaGreat.Lk (Lk HasLks HasLks.keep)
open Go.Proofs.YtkjhnefbcnnjlaaGreat.Tr (Rt HasRts HasRts.keep FitR FitP)
set_option maxHeartbeats 32000000 in
set_option maxRecDepth 20000 in
theorem rapply_walk (id : Int) (up : Bool) (rts : List Rt) (lks : List Lk) (o2 o3 : Option Addr) (n2 n3 m2 m3 : Nat) (kind router seq time : Int) (f0 : Bool) (f1 f2 f3 a0 a1 iface peer : Int) (kr ke : Bool) (A : Ro × Int) (Tp : List Rt × Int) (Td : List Rt) (dw : Int) (Lp : List Lk × Int) (Ld : List Lk) (dv : Int) (w : World) (ha0 : HasRts w (.slice o2 n2 m2) rts) (hb0 : HasLks w (.slice o3 n3 m3) lks)
    (cC : ∀ W, HasRts W (.slice o2 n2 m2) rts → HasLks W (.slice o3 n3 m3) lks → Calls Tryz.prog 26 #[.agg #[.int .i64 id, .bool up, .slice o2 n2 m2, .slice o3 n3 m3]] W fun e w' => e = .returned (.int .i64 (if kr then 0 else 2)) ∧ Below W.heap.size W w')
    (cM : ∀ W, Calls Tryz.prog 62 #[.agg #[.int .u8 kind, .int .i64 router, .int .u64 seq, .int .i64 time, .bool f0, .int .u64 f1, .int .u64 f2, .int .i64 f3, .int .u8 a0, .int .i64 a1, .int .i64 iface, .int .i64 peer]] W fun e w' => e = .returned (.int .i64 (if ke then 0 else 2)) ∧ Below W.heap.size W w')
    (cY : kr = true → ∀ W, HasRts W (.slice o2 n2 m2) rts → HasLks W (.slice o3 n3 m3) lks → Calls Tryz.prog 13 #[.agg #[.int .i64 id, .bool up, .slice o2 n2 m2, .slice o3 n3 m3]] W fun e w' => ∃ o2 n2 m2 o3 n3 m3, e = .returned (.agg #[.int .i64 id, .bool up, .slice o2 n2 m2, .slice o3 n3 m3]) ∧ HasRts w' (.slice o2 n2 m2) rts ∧ HasLks w' (.slice o3 n3 m3) lks ∧ Below W.heap.size W w')
    (cP : ∀ W u, HasRts W u rts → Calls Tryz.prog 64 #[u, .agg #[.bool f0, .int .u64 f1, .int .u64 f2, .int .i64 f3, .int .u8 a0, .int .i64 a1]] W fun e w' => ∃ o n m, e = .returned (.tuple #[.slice o n m, .int .i64 Tp.2]) ∧ HasRts w' (.slice o n m) Tp.1 ∧ Below W.heap.size W w')
    (cD : ∀ W u, HasRts W u rts → Calls Tryz.prog 65 #[u, .agg #[.bool f0, .int .u64 f1, .int .u64 f2, .int .i64 f3]] W fun e w' => ∃ o n m, e = .returned (.tuple #[.slice o n m, .int .i64 dw]) ∧ HasRts w' (.slice o n m) Td ∧ Below W.heap.size W w')
    (cL : ∀ W u, HasLks W u lks → Calls Tryz.prog 66 #[u, .agg #[.int .i64 iface, .int .i64 peer]] W fun e w' => ∃ o n m, e = .returned (.tuple #[.slice o n m, .int .i64 Lp.2]) ∧ HasLks w' (.slice o n m) Lp.1 ∧ Below W.heap.size W w')
    (cE : ∀ W u, HasLks W u lks → Calls Tryz.prog 67 #[u, .int .i64 iface] W fun e w' => ∃ o n m, e = .returned (.tuple #[.slice o n m, .int .i64 dv]) ∧ HasLks w' (.slice o n m) Ld ∧ Below W.heap.size W w')
    (H0 : (kr = false ∨ ke = false) → Hid (A = (zeroRo, 2))) (H14 : kr = true → ke = true → router ≠ id → Hid (A = (⟨id, up, rts, lks⟩, 14))) (H10 : kr = true → ke = true → router = id → decide (kind = 1) = up → Hid (A = (⟨id, up, rts, lks⟩, 10)))
    (HK1 : kr = true → ke = true → router = id → ¬ decide (kind = 1) = up → kind = 1 → Hid (A = (⟨id, true, rts, lks⟩, 0)))
    (HK2 : kr = true → ke = true → router = id → ¬ decide (kind = 1) = up → kind = 2 → Hid (A = (⟨id, false, [], []⟩, 0)))
    (HK3 : kr = true → ke = true → router = id → ¬ decide (kind = 1) = up → kind = 3 → Hid (A = if Tp.2 = 0 then (⟨id, up, Tp.1, lks⟩, 0) else (⟨id, up, rts, lks⟩, Tp.2)))
    (HK4 : kr = true → ke = true → router = id → ¬ decide (kind = 1) = up → kind = 4 → Hid (A = (⟨id, up, Td, lks⟩, 0)))
    (HK5 : kr = true → ke = true → router = id → ¬ decide (kind = 1) = up → kind = 5 → Hid (A = if Lp.2 = 0 then (⟨id, up, rts, Lp.1⟩, 0) else (⟨id, up, rts, lks⟩, Lp.2)))
    (HK6 : kr = true → ke = true → router = id → ¬ decide (kind = 1) = up → kind = 6 → Hid (A = (⟨id, up, rts, Ld⟩, 0)))
    (hk6 : kr = true → ke = true → kind = 1 ∨ kind = 2 ∨ kind = 3 ∨ kind = 4 ∨ kind = 5 ∨ kind = 6) :
    Calls Tryz.prog 38 #[.agg #[.int .i64 id, .bool up, .slice o2 n2 m2, .slice o3 n3 m3], .agg #[.int .u8 kind, .int .i64 router, .int .u64 seq, .int .i64 time, .bool f0, .int .u64 f1, .int .u64 f2, .int .i64 f3, .int .u8 a0, .int .i64 a1, .int .i64 iface, .int .i64 peer]] w (RoIs A.1 A.2 w) := by
  have hB := Below.refl w.heap.size w
  have c25 := fun (W : World) => ro_nil W
  go_enter Tryz.func38, Tryz.ntmps38
  obtain ⟨Y1, hY⟩ : ∃ Y, Y = (((w.alloc (.cells #[.int .i64 id, .bool up, .slice o2 n2 m2, .slice o3 n3 m3] 51)).alloc (.cells #[.int .u8 kind, .int .i64 router, .int .u64 seq, .int .i64 time, .bool f0, .int .u64 f1, .int .u64 f2, .int .i64 f3, .int .u8 a0, .int .i64 a1, .int .i64 iface, .int .i64 peer] 38)).alloc (.cells #[.int .i64 0, .bool false, .slice none 0 0, .slice none 0 0] 51)) := ⟨_, rfl⟩
  have hbY : Below w.heap.size w Y1 := by rw [hY]; exact below_new (below_new (below_new (Below.refl _ _) _) _) _
  have hle : w.heap.size ≤ w.heap.size := hB.size
  obtain ⟨gr, hgr⟩ : ∃ g, g = w.heap.size := ⟨_, rfl⟩
  have rr : RowAt Y1 gr [.int .i64 id, .bool up, .slice o2 n2 m2, .slice o3 n3 m3] 51 := by
    have h := ((RowAt.new w [.int .i64 id, .bool up, .slice o2 n2 m2, .slice o3 n3 m3] 51).alloc (.cells #[.int .u8 kind, .int .i64 router, .int .u64 seq, .int .i64 time, .bool f0, .int .u64 f1, .int .u64 f2, .int .i64 f3, .int .u8 a0, .int .i64 a1, .int .i64 iface, .int .i64 peer] 38)).alloc (.cells #[.int .i64 0, .bool false, .slice none 0 0, .slice none 0 0] 51)
    rw [hgr, hY]; exact h
  have ler : w.heap.size ≤ gr := by omega
  obtain ⟨ge, hge⟩ : ∃ g, g = w.heap.size + 1 := ⟨_, rfl⟩
  have re : RowAt Y1 ge [.int .u8 kind, .int .i64 router, .int .u64 seq, .int .i64 time, .bool f0, .int .u64 f1, .int .u64 f2, .int .i64 f3, .int .u8 a0, .int .i64 a1, .int .i64 iface, .int .i64 peer] 38 := by
    have h := (RowAt.new (w.alloc (.cells #[.int .i64 id, .bool up, .slice o2 n2 m2, .slice o3 n3 m3] 51)) [.int .u8 kind, .int .i64 router, .int .u64 seq, .int .i64 time, .bool f0, .int .u64 f1, .int .u64 f2, .int .i64 f3, .int .u8 a0, .int .i64 a1, .int .i64 iface, .int .i64 peer] 38).alloc (.cells #[.int .i64 0, .bool false, .slice none 0 0, .slice none 0 0] 51)
    simp only [World.size_alloc] at h
    rw [hge, hY]; exact h
  have lee : w.heap.size ≤ ge := by omega
  have nere : gr ≠ ge := by omega
  obtain ⟨gz, hgz⟩ : ∃ g, g = w.heap.size + 1 + 1 := ⟨_, rfl⟩
  have rz : RowAt Y1 gz [.int .i64 0, .bool false, .slice none 0 0, .slice none 0 0] 51 := by
    have h := RowAt.new ((w.alloc (.cells #[.int .i64 id, .bool up, .slice o2 n2 m2, .slice o3 n3 m3] 51)).alloc (.cells #[.int .u8 kind, .int .i64 router, .int .u64 seq, .int .i64 time, .bool f0, .int .u64 f1, .int .u64 f2, .int .i64 f3, .int .u8 a0, .int .i64 a1, .int .i64 iface, .int .i64 peer] 38)) [.int .i64 0, .bool false, .slice none 0 0, .slice none 0 0] 51
    simp only [World.size_alloc] at h
    rw [hgz, hY]; exact h
  have lez : w.heap.size ≤ gz := by omega
  have nerz : gr ≠ gz := by omega
  have neez : ge ≠ gz := by omega
  replace ha0 := ha0.keep hbY
  replace hb0 := hb0.keep hbY
  replace hB := below2 hB hbY
  go_upto_region 1 with fail
  rw [← hY, ← hgz, ← hge, ← hgr]
  clear hY hbY hle hgr hge hgz
  obtain ⟨r0, r1, r2, r3, rf⟩ := cells4 rr
  go_wp2_with fail
  clear r0 r1 r2 r3 rf
  go_at_call 26; refine (cC _ ha0 hb0).mono ?_; rintro e w2 ⟨rfl, hb⟩
  replace rr := RowAt.below rr hb
  replace re := RowAt.below re hb
  replace rz := RowAt.below rz hb
  replace ha0 := ha0.keep hb
  replace hb0 := hb0.keep hb
  replace hB := below2 hB hb
  clear hb
  cases kr
  · have HV := H0 (.inl rfl)
    clear H0 H14 H10 HK1 HK2 HK3 HK4 HK5 HK6 hk6 cM cY cP cD cL cE
    obtain ⟨z0, z1, z2, z3, zf⟩ := cells4 rz
    go_wp2_with fail
    (try simp only [Exit.inBlock, Exit.then])
    refine bodyPost_ret (v := .tuple #[.agg #[.int .i64 0, .bool false, .slice none 0 0, .slice none 0 0], .int .i64 2]) ?_ rfl ⟨_, _, _, _, _, _, by first | (rw [HV.out]; done) | (rw [HV.out]; rfl), by rw [HV.out]; exact (c25 _).1, by rw [HV.out]; exact (c25 _).2, ?_⟩
    · rw [results_cell_tmp rfl]
      go_simp
    · exact set4_bl hB lez _ _ _ _
  obtain ⟨e0, e1, e2, e3, e4, e5, e6, e7, e8, e9, e10, e11, ef⟩ := cells12 re
  go_wp2_with fail
  clear e0 e1 e2 e3 e4 e5 e6 e7 e8 e9 e10 e11 ef
  go_at_call 62; refine (cM _).mono ?_; rintro e w3 ⟨rfl, hb⟩
  replace rr := RowAt.below rr hb
  replace re := RowAt.below re hb
  replace rz := RowAt.below rz hb
  replace ha0 := ha0.keep hb
  replace hb0 := hb0.keep hb
  replace hB := below2 hB hb
  clear hb
  cases ke
  · have HV := H0 (.inr rfl)
    clear H0 H14 H10 HK1 HK2 HK3 HK4 HK5 HK6 hk6 cY cP cD cL cE
    obtain ⟨z0, z1, z2, z3, zf⟩ := cells4 rz
    go_wp2_with fail
    (try simp only [Exit.inBlock, Exit.then])
    refine bodyPost_ret (v := .tuple #[.agg #[.int .i64 0, .bool false, .slice none 0 0, .slice none 0 0], .int .i64 2]) ?_ rfl ⟨_, _, _, _, _, _, by first | (rw [HV.out]; done) | (rw [HV.out]; rfl), by rw [HV.out]; exact (c25 _).1, by rw [HV.out]; exact (c25 _).2, ?_⟩
    · rw [results_cell_tmp rfl]
      go_simp
    · exact set4_bl hB lez _ _ _ _
  replace H14 := H14 (by first | rfl | trivial) (by first | rfl | trivial)
  replace H10 := H10 (by first | rfl | trivial) (by first | rfl | trivial)
  replace HK1 := HK1 (by first | rfl | trivial) (by first | rfl | trivial)
  replace HK2 := HK2 (by first | rfl | trivial) (by first | rfl | trivial)
  replace HK3 := HK3 (by first | rfl | trivial) (by first | rfl | trivial)
  replace HK4 := HK4 (by first | rfl | trivial) (by first | rfl | trivial)
  replace HK5 := HK5 (by first | rfl | trivial) (by first | rfl | trivial)
  replace HK6 := HK6 (by first | rfl | trivial) (by first | rfl | trivial)
  replace hk6 := hk6 (by first | rfl | trivial) (by first | rfl | trivial)
  replace cY := cY (by first | rfl | trivial)
  clear H0
  obtain ⟨r0, r1, r2, r3, rf⟩ := cells4 rr
  go_wp2_with fail
  clear r0 r1 r2 r3 rf
  go_at_call 13; refine (cY _ ha0 hb0).mono ?_; rintro e w4 ⟨oa1, na1, ma1, ob1, nb1, mb1, rfl, ha1, hb1, hb⟩
  replace rr := RowAt.below rr hb
  replace re := RowAt.below re hb
  replace rz := RowAt.below rz hb
  replace ha0 := ha0.keep hb
  replace hb0 := hb0.keep hb
  replace hB := below2 hB hb
  clear hb
  clear ha0 hb0
  obtain ⟨r0, r1, r2, r3, rf⟩ := cells4 rr
  obtain ⟨Y5, hY⟩ : ∃ Y, Y = ((((w4.setCell ⟨gr, 0, none⟩ (.int .i64 id)).setCell ⟨gr, 1, none⟩ (.bool up)).setCell ⟨gr, 2, none⟩ (.slice oa1 na1 ma1)).setCell ⟨gr, 3, none⟩ (.slice ob1 nb1 mb1)) := ⟨_, rfl⟩
  have hG : w4.grownBy Y5 (some gr) := by rw [hY]; exact set4_gr _ _ _ _ _ _
  replace hB : Below w.heap.size w Y5 := by rw [hY]; exact set4_bl hB ler _ _ _ _
  replace ha1 := rts_apart ha1 rr hG
  replace hb1 := lks_apart hb1 rr hG
  replace rr : RowAt Y5 gr [.int .i64 id, .bool up, .slice oa1 na1 ma1, .slice ob1 nb1 mb1] 51 := by rw [hY]; exact set4_row rr _ _ _ _
  replace re := RowAt.gkeep re hG (by intro h; injection h with h; omega)
  replace rz := RowAt.gkeep rz hG (by intro h; injection h with h; omega)
  go_upto_region 4 with fail
  clear r0 r1 r2 r3 rf
  rw [← hY]
  clear hY hG
  clear cY
  by_cases hid : router = id
  · replace H10 := H10 hid
    replace HK1 := HK1 hid
    replace HK2 := HK2 hid
    replace HK3 := HK3 hid
    replace HK4 := HK4 hid
    replace HK5 := HK5 hid
    replace HK6 := HK6 hid
    clear H14
    subst hid
    have hK1 : (kind == 1) = decide (kind = 1) := rfl
    obtain ⟨K, hK⟩ : ∃ K, K = decide (kind = 1) := ⟨_, rfl⟩
    by_cases hst : K = up
    · have HV := H10 (by rw [← hK]; exact hst)
      rw [← hK] at hK1
      have hq : (up == K) = true := by simp [hst]
      clear H10 HK1 HK2 HK3 HK4 HK5 HK6 hk6 cP cD cL cE hK hst
      obtain ⟨r0, r1, r2, r3, rf⟩ := cells4 rr
      obtain ⟨e0, e1, e2, e3, e4, e5, e6, e7, e8, e9, e10, e11, ef⟩ := cells12 re
      obtain ⟨z0, z1, z2, z3, zf⟩ := cells4 rz
      go_wp2_with fail
      (try simp only [Exit.inBlock, Exit.then])
      refine bodyPost_ret (v := .tuple #[.agg #[.int .i64 router, .bool up, .slice oa1 na1 ma1, .slice ob1 nb1 mb1], .int .i64 10]) ?_ rfl ⟨_, _, _, _, _, _, by first | (rw [HV.out]; done) | (rw [HV.out]; rfl), by rw [HV.out]; exact rts_apart ha1 rz (set4_gr _ _ _ _ _ _), by rw [HV.out]; exact lks_apart hb1 rz (set4_gr _ _ _ _ _ _), ?_⟩
      · rw [results_cell_tmp rfl]
        go_simp
      · exact set4_bl hB lez _ _ _ _
    have hst2 : ¬ decide (kind = 1) = up := by rw [← hK]; exact hst
    replace HK1 := HK1 hst2
    replace HK2 := HK2 hst2
    replace HK3 := HK3 hst2
    replace HK4 := HK4 hst2
    replace HK5 := HK5 hst2
    replace HK6 := HK6 hst2
    rw [← hK] at hK1
    have hq : (up == K) = false := beq_eq_false_iff_ne.2 (fun h => hst h.symm)
    clear H10 hst hst2
    rcases hk6 with rfl | rfl | rfl | rfl | rfl | rfl
    · have HV := HK1 rfl
      clear HK1 HK2 HK3 HK4 HK5 HK6 cP cD cL cE
      have hKv : K = true := hK
      clear hK1 hK
      subst hKv
      obtain ⟨e0, e1, e2, e3, e4, e5, e6, e7, e8, e9, e10, e11, ef⟩ := cells12 re
      obtain ⟨r0, r1, r2, r3, rf⟩ := cells4 rr
      obtain ⟨Y6, hY⟩ : ∃ Y, Y = Y5.setCell ⟨gr, 1, none⟩ (.bool true) := ⟨_, rfl⟩
      have hG : Y5.grownBy Y6 (some gr) := by rw [hY]; exact gset (grefl _ _)
      replace hB : Below w.heap.size w Y6 := by rw [hY]; exact bset hB ler
      replace ha1 := rts_apart ha1 rr hG
      replace hb1 := lks_apart hb1 rr hG
      replace rr : RowAt Y6 gr [.int .i64 router, .bool true, .slice oa1 na1 ma1, .slice ob1 nb1 mb1] 51 := by rw [hY]; exact RowAt.set1 rr 1 _
      replace re := RowAt.gkeep re hG (by intro h; injection h with h; omega)
      replace rz := RowAt.gkeep rz hG (by intro h; injection h with h; omega)
      go_upto_region 27 with fail
      clear e0 e1 e2 e3 e4 e5 e6 e7 e8 e9 e10 e11 ef r0 r1 r2 r3 rf
      rw [← hY]
      clear hY hG
      obtain ⟨r0, r1, r2, r3, rf⟩ := cells4 rr
      obtain ⟨z0, z1, z2, z3, zf⟩ := cells4 rz
      go_wp2_with fail
      (try simp only [Exit.inBlock, Exit.then])
      refine bodyPost_ret (v := .tuple #[.agg #[.int .i64 router, .bool true, .slice oa1 na1 ma1, .slice ob1 nb1 mb1], .int .i64 0]) ?_ rfl ⟨_, _, _, _, _, _, by first | (rw [HV.out]; done) | (rw [HV.out]; rfl), by rw [HV.out]; exact rts_apart ha1 rz (set4_gr _ _ _ _ _ _), by rw [HV.out]; exact lks_apart hb1 rz (set4_gr _ _ _ _ _ _), ?_⟩
      · rw [results_cell_tmp rfl]
        go_simp
      · exact set4_bl hB lez _ _ _ _
    · have HV := HK2 rfl
      clear HK1 HK2 HK3 HK4 HK5 HK6 cP cD cL cE
      have hKv : K = false := hK
      clear hK1 hK
      subst hKv
      obtain ⟨r0, r1, r2, r3, rf⟩ := cells4 rr
      obtain ⟨e0, e1, e2, e3, e4, e5, e6, e7, e8, e9, e10, e11, ef⟩ := cells12 re
      obtain ⟨z0, z1, z2, z3, zf⟩ := cells4 rz
      go_wp2_with fail
      (try simp only [Exit.inBlock, Exit.then])
      refine bodyPost_ret (v := .tuple #[.agg #[.int .i64 router, .bool false, .slice none 0 0, .slice none 0 0], .int .i64 0]) ?_ rfl ⟨_, _, _, _, _, _, by first | (rw [HV.out]; done) | (rw [HV.out]; rfl), by rw [HV.out]; exact (c25 _).1, by rw [HV.out]; exact (c25 _).2, ?_⟩
      · rw [results_cell_tmp rfl]
        go_simp
      · exact set4_bl hB lez _ _ _ _
    · have HV := HK3 rfl
      clear HK1 HK2 HK3 HK4 HK5 HK6 cD cL cE
      have hKv : K = false := hK
      clear hK1 hK
      subst hKv
      obtain ⟨r0, r1, r2, r3, rf⟩ := cells4 rr
      obtain ⟨e0, e1, e2, e3, e4, e5, e6, e7, e8, e9, e10, e11, ef⟩ := cells12 re
      go_wp2_with fail
      clear r0 r1 r2 r3 rf e0 e1 e2 e3 e4 e5 e6 e7 e8 e9 e10 e11 ef
      go_at_call 64; refine (cP _ _ ha1).mono ?_; rintro e w6 ⟨o6, n6, m6, rfl, ha6, hb⟩
      replace rr := RowAt.below rr hb
      replace re := RowAt.below re hb
      replace rz := RowAt.below rz hb
      replace ha1 := ha1.keep hb
      replace hb1 := hb1.keep hb
      replace hB := below2 hB hb
      clear hb
      clear cP
      by_cases hz : Tp.2 = 0
      · replace HV : Hid (A = (⟨router, up, Tp.1, lks⟩, 0)) := by show _ = _; rw [HV.out, if_pos hz]
        have hzb : (Tp.2 != 0) = false := by simpa using hz
        clear hz
        clear ha1
        obtain ⟨r0, r1, r2, r3, rf⟩ := cells4 rr
        obtain ⟨Y7, hY⟩ : ∃ Y, Y = w6.setCell ⟨gr, 2, none⟩ (.slice o6 n6 m6) := ⟨_, rfl⟩
        have hG : w6.grownBy Y7 (some gr) := by rw [hY]; exact gset (grefl _ _)
        replace hB : Below w.heap.size w Y7 := by rw [hY]; exact bset hB ler
        replace hb1 := lks_apart hb1 rr hG
        replace ha6 := rts_apart ha6 rr hG
        replace rr : RowAt Y7 gr [.int .i64 router, .bool up, .slice o6 n6 m6, .slice ob1 nb1 mb1] 51 := by rw [hY]; exact RowAt.set1 rr 2 _
        replace re := RowAt.gkeep re hG (by intro h; injection h with h; omega)
        replace rz := RowAt.gkeep rz hG (by intro h; injection h with h; omega)
        go_upto_region 27 with fail
        clear r0 r1 r2 r3 rf
        rw [← hY]
        clear hY hG
        obtain ⟨r0, r1, r2, r3, rf⟩ := cells4 rr
        obtain ⟨z0, z1, z2, z3, zf⟩ := cells4 rz
        go_wp2_with fail
        (try simp only [Exit.inBlock, Exit.then])
        refine bodyPost_ret (v := .tuple #[.agg #[.int .i64 router, .bool up, .slice o6 n6 m6, .slice ob1 nb1 mb1], .int .i64 0]) ?_ rfl ⟨_, _, _, _, _, _, by first | (rw [HV.out]; done) | (rw [HV.out]; rfl), by rw [HV.out]; exact rts_apart ha6 rz (set4_gr _ _ _ _ _ _), by rw [HV.out]; exact lks_apart hb1 rz (set4_gr _ _ _ _ _ _), ?_⟩
        · rw [results_cell_tmp rfl]
          go_simp
        · exact set4_bl hB lez _ _ _ _
      · replace HV : Hid (A = (⟨router, up, rts, lks⟩, Tp.2)) := by show _ = _; rw [HV.out, if_neg hz]
        have hzb : (Tp.2 != 0) = true := by simpa using hz
        clear hz
        obtain ⟨r0, r1, r2, r3, rf⟩ := cells4 rr
        obtain ⟨z0, z1, z2, z3, zf⟩ := cells4 rz
        go_wp2_with fail
        (try simp only [Exit.inBlock, Exit.then])
        refine bodyPost_ret (v := .tuple #[.agg #[.int .i64 router, .bool up, .slice oa1 na1 ma1, .slice ob1 nb1 mb1], .int .i64 Tp.2]) ?_ rfl ⟨_, _, _, _, _, _, by first | (rw [HV.out]; done) | (rw [HV.out]; rfl), by rw [HV.out]; exact rts_apart ha1 rz (set4_gr _ _ _ _ _ _), by rw [HV.out]; exact lks_apart hb1 rz (set4_gr _ _ _ _ _ _), ?_⟩
        · rw [results_cell_tmp rfl]
          go_simp
        · exact set4_bl hB lez _ _ _ _
    · have HV := HK4 rfl
      clear HK1 HK2 HK3 HK4 HK5 HK6 cP cL cE
      have hKv : K = false := hK
      clear hK1 hK
      subst hKv
      obtain ⟨r0, r1, r2, r3, rf⟩ := cells4 rr
      obtain ⟨e0, e1, e2, e3, e4, e5, e6, e7, e8, e9, e10, e11, ef⟩ := cells12 re
      go_wp2_with fail
      clear r0 r1 r2 r3 rf e0 e1 e2 e3 e4 e5 e6 e7 e8 e9 e10 e11 ef
      go_at_call 65; refine (cD _ _ ha1).mono ?_; rintro e w6 ⟨o6, n6, m6, rfl, ha6, hb⟩
      replace rr := RowAt.below rr hb
      replace re := RowAt.below re hb
      replace rz := RowAt.below rz hb
      replace ha1 := ha1.keep hb
      replace hb1 := hb1.keep hb
      replace hB := below2 hB hb
      clear hb
      clear cD
      clear ha1
      obtain ⟨r0, r1, r2, r3, rf⟩ := cells4 rr
      obtain ⟨Y7, hY⟩ : ∃ Y, Y = w6.setCell ⟨gr, 2, none⟩ (.slice o6 n6 m6) := ⟨_, rfl⟩
      have hG : w6.grownBy Y7 (some gr) := by rw [hY]; exact gset (grefl _ _)
      replace hB : Below w.heap.size w Y7 := by rw [hY]; exact bset hB ler
      replace hb1 := lks_apart hb1 rr hG
      replace ha6 := rts_apart ha6 rr hG
      replace rr : RowAt Y7 gr [.int .i64 router, .bool up, .slice o6 n6 m6, .slice ob1 nb1 mb1] 51 := by rw [hY]; exact RowAt.set1 rr 2 _
      replace re := RowAt.gkeep re hG (by intro h; injection h with h; omega)
      replace rz := RowAt.gkeep rz hG (by intro h; injection h with h; omega)
      go_upto_region 27 with fail
      clear r0 r1 r2 r3 rf
      rw [← hY]
      clear hY hG
      obtain ⟨r0, r1, r2, r3, rf⟩ := cells4 rr
      obtain ⟨z0, z1, z2, z3, zf⟩ := cells4 rz
      go_wp2_with fail
      (try simp only [Exit.inBlock, Exit.then])
      refine bodyPost_ret (v := .tuple #[.agg #[.int .i64 router, .bool up, .slice o6 n6 m6, .slice ob1 nb1 mb1], .int .i64 0]) ?_ rfl ⟨_, _, _, _, _, _, by first | (rw [HV.out]; done) | (rw [HV.out]; rfl), by rw [HV.out]; exact rts_apart ha6 rz (set4_gr _ _ _ _ _ _), by rw [HV.out]; exact lks_apart hb1 rz (set4_gr _ _ _ _ _ _), ?_⟩
      · rw [results_cell_tmp rfl]
        go_simp
      · exact set4_bl hB lez _ _ _ _
    · have HV := HK5 rfl
      clear HK1 HK2 HK3 HK4 HK5 HK6 cP cD cE
      have hKv : K = false := hK
      clear hK1 hK
      subst hKv
      obtain ⟨r0, r1, r2, r3, rf⟩ := cells4 rr
      obtain ⟨e0, e1, e2, e3, e4, e5, e6, e7, e8, e9, e10, e11, ef⟩ := cells12 re
      go_wp2_with fail
      clear r0 r1 r2 r3 rf e0 e1 e2 e3 e4 e5 e6 e7 e8 e9 e10 e11 ef
      go_at_call 66; refine (cL _ _ hb1).mono ?_; rintro e w6 ⟨o6, n6, m6, rfl, hb6, hb⟩
      replace rr := RowAt.below rr hb
      replace re := RowAt.below re hb
      replace rz := RowAt.below rz hb
      replace ha1 := ha1.keep hb
      replace hb1 := hb1.keep hb
      replace hB := below2 hB hb
      clear hb
      clear cL
      by_cases hz : Lp.2 = 0
      · replace HV : Hid (A = (⟨router, up, rts, Lp.1⟩, 0)) := by show _ = _; rw [HV.out, if_pos hz]
        have hzb : (Lp.2 != 0) = false := by simpa using hz
        clear hz
        clear hb1
        obtain ⟨r0, r1, r2, r3, rf⟩ := cells4 rr
        obtain ⟨Y7, hY⟩ : ∃ Y, Y = w6.setCell ⟨gr, 3, none⟩ (.slice o6 n6 m6) := ⟨_, rfl⟩
        have hG : w6.grownBy Y7 (some gr) := by rw [hY]; exact gset (grefl _ _)
        replace hB : Below w.heap.size w Y7 := by rw [hY]; exact bset hB ler
        replace ha1 := rts_apart ha1 rr hG
        replace hb6 := lks_apart hb6 rr hG
        replace rr : RowAt Y7 gr [.int .i64 router, .bool up, .slice oa1 na1 ma1, .slice o6 n6 m6] 51 := by rw [hY]; exact RowAt.set1 rr 3 _
        replace re := RowAt.gkeep re hG (by intro h; injection h with h; omega)
        replace rz := RowAt.gkeep rz hG (by intro h; injection h with h; omega)
        go_upto_region 27 with fail
        clear r0 r1 r2 r3 rf
        rw [← hY]
        clear hY hG
        obtain ⟨r0, r1, r2, r3, rf⟩ := cells4 rr
        obtain ⟨z0, z1, z2, z3, zf⟩ := cells4 rz
        go_wp2_with fail
        (try simp only [Exit.inBlock, Exit.then])
        refine bodyPost_ret (v := .tuple #[.agg #[.int .i64 router, .bool up, .slice oa1 na1 ma1, .slice o6 n6 m6], .int .i64 0]) ?_ rfl ⟨_, _, _, _, _, _, by first | (rw [HV.out]; done) | (rw [HV.out]; rfl), by rw [HV.out]; exact rts_apart ha1 rz (set4_gr _ _ _ _ _ _), by rw [HV.out]; exact lks_apart hb6 rz (set4_gr _ _ _ _ _ _), ?_⟩
        · rw [results_cell_tmp rfl]
          go_simp
        · exact set4_bl hB lez _ _ _ _
      · replace HV : Hid (A = (⟨router, up, rts, lks⟩, Lp.2)) := by show _ = _; rw [HV.out, if_neg hz]
        have hzb : (Lp.2 != 0) = true := by simpa using hz
        clear hz
        obtain ⟨r0, r1, r2, r3, rf⟩ := cells4 rr
        obtain ⟨z0, z1, z2, z3, zf⟩ := cells4 rz
        go_wp2_with fail
        (try simp only [Exit.inBlock, Exit.then])
        refine bodyPost_ret (v := .tuple #[.agg #[.int .i64 router, .bool up, .slice oa1 na1 ma1, .slice ob1 nb1 mb1], .int .i64 Lp.2]) ?_ rfl ⟨_, _, _, _, _, _, by first | (rw [HV.out]; done) | (rw [HV.out]; rfl), by rw [HV.out]; exact rts_apart ha1 rz (set4_gr _ _ _ _ _ _), by rw [HV.out]; exact lks_apart hb1 rz (set4_gr _ _ _ _ _ _), ?_⟩
        · rw [results_cell_tmp rfl]
          go_simp
        · exact set4_bl hB lez _ _ _ _
    · have HV := HK6 rfl
      clear HK1 HK2 HK3 HK4 HK5 HK6 cP cD cL
      have hKv : K = false := hK
      clear hK1 hK
      subst hKv
      obtain ⟨r0, r1, r2, r3, rf⟩ := cells4 rr
      obtain ⟨e0, e1, e2, e3, e4, e5, e6, e7, e8, e9, e10, e11, ef⟩ := cells12 re
      go_wp2_with fail
      clear r0 r1 r2 r3 rf e0 e1 e2 e3 e4 e5 e6 e7 e8 e9 e10 e11 ef
      go_at_call 67; refine (cE _ _ hb1).mono ?_; rintro e w6 ⟨o6, n6, m6, rfl, hb6, hb⟩
      replace rr := RowAt.below rr hb
      replace re := RowAt.below re hb
      replace rz := RowAt.below rz hb
      replace ha1 := ha1.keep hb
      replace hb1 := hb1.keep hb
      replace hB := below2 hB hb
      clear hb
      clear cE
      clear hb1
      obtain ⟨r0, r1, r2, r3, rf⟩ := cells4 rr
      obtain ⟨Y7, hY⟩ : ∃ Y, Y = w6.setCell ⟨gr, 3, none⟩ (.slice o6 n6 m6) := ⟨_, rfl⟩
      have hG : w6.grownBy Y7 (some gr) := by rw [hY]; exact gset (grefl _ _)
      replace hB : Below w.heap.size w Y7 := by rw [hY]; exact bset hB ler
      replace ha1 := rts_apart ha1 rr hG
      replace hb6 := lks_apart hb6 rr hG
      replace rr : RowAt Y7 gr [.int .i64 router, .bool up, .slice oa1 na1 ma1, .slice o6 n6 m6] 51 := by rw [hY]; exact RowAt.set1 rr 3 _
      replace re := RowAt.gkeep re hG (by intro h; injection h with h; omega)
      replace rz := RowAt.gkeep rz hG (by intro h; injection h with h; omega)
      go_upto_region 27 with fail
      clear r0 r1 r2 r3 rf
      rw [← hY]
      clear hY hG
      obtain ⟨r0, r1, r2, r3, rf⟩ := cells4 rr
      obtain ⟨z0, z1, z2, z3, zf⟩ := cells4 rz
      go_wp2_with fail
      (try simp only [Exit.inBlock, Exit.then])
      refine bodyPost_ret (v := .tuple #[.agg #[.int .i64 router, .bool up, .slice oa1 na1 ma1, .slice o6 n6 m6], .int .i64 0]) ?_ rfl ⟨_, _, _, _, _, _, by first | (rw [HV.out]; done) | (rw [HV.out]; rfl), by rw [HV.out]; exact rts_apart ha1 rz (set4_gr _ _ _ _ _ _), by rw [HV.out]; exact lks_apart hb6 rz (set4_gr _ _ _ _ _ _), ?_⟩
      · rw [results_cell_tmp rfl]
        go_simp
      · exact set4_bl hB lez _ _ _ _
  · have HV := H14 hid
    have hq : (router != id) = true := by simpa using hid
    clear H14 H10 HK1 HK2 HK3 HK4 HK5 HK6 hk6 cP cD cL cE hid
    obtain ⟨r0, r1, r2, r3, rf⟩ := cells4 rr
    obtain ⟨e0, e1, e2, e3, e4, e5, e6, e7, e8, e9, e10, e11, ef⟩ := cells12 re
    obtain ⟨z0, z1, z2, z3, zf⟩ := cells4 rz
    go_wp2_with fail
    (try simp only [Exit.inBlock, Exit.then])
    refine bodyPost_ret (v := .tuple #[.agg #[.int .i64 id, .bool up, .slice oa1 na1 ma1, .slice ob1 nb1 mb1], .int .i64 14]) ?_ rfl ⟨_, _, _, _, _, _, by first | (rw [HV.out]; done) | (rw [HV.out]; rfl), by rw [HV.out]; exact rts_apart ha1 rz (set4_gr _ _ _ _ _ _), by rw [HV.out]; exact lks_apart hb1 rz (set4_gr _ _ _ _ _ _), ?_⟩
    · rw [results_cell_tmp rfl]
      go_simp
    · exact set4_bl hB lez _ _ _ _
theorem rapply_any (R : Ro) (e : Ev) (a b : Value) (w : World) (ha : HasRts w a R.rts) (hb : HasLks w b R.lks) (hf : FitRo R) (he : FitE e) :
    Calls Tryz.prog 38 #[.agg #[.int .i64 R.id, .bool R.up, a, b], evV e] w (RoIs (applyRo R e).1 (applyRo R e).2 w) := by
  obtain ⟨o2, m2, rfl, _⟩ := Lk.HasRow.slice ha
  obtain ⟨o3, m3, rfl, _⟩ := Lk.HasRow.slice hb
  have hA : okRo R = true → okE e = true → applyRo R e = if misRo R e = 0 then takeRo R e else (R, misRo R e) := fun h1 h2 => by unfold applyRo; rw [h1, h2]; rfl
  have hM : e.router = R.id → ¬ decide ((e.kind : Int) = 1) = R.up → misRo R e = 0 := fun h1 h2 => by
    unfold misRo
    rw [if_pos h1, if_neg (fun h => h2 (by rw [← h]; exact decide_eq_decide.2 (by omega)))]
  have h3 : FitR ⟨e.pf, e.act⟩ := ⟨⟨he.len, he.n⟩, he.act⟩
  have h4 : FitP e.pf := ⟨he.len, he.n⟩
  have sl : ∀ (W : World) (u : Value) (l : List Rt), HasRts W u l → ∃ o n m, u = .slice o n m := fun W u l h => by obtain ⟨o, c, e, _⟩ := Lk.HasRow.slice h; exact ⟨_, _, _, e⟩
  have sm : ∀ (W : World) (u : Value) (l : List Lk), HasLks W u l → ∃ o n m, u = .slice o n m := fun W u l h => by obtain ⟨o, c, e, _⟩ := Lk.HasRow.slice h; exact ⟨_, _, _, e⟩
  refine rapply_walk R.id R.up R.rts R.lks o2 o3 _ _ m2 m3 e.kind e.router e.seq e.time e.pf.six _ _ e.pf.len e.act.k e.act.i e.iface e.peer (okRo R) (okE e) _ (Tr.putT R.rts ⟨e.pf, e.act⟩) (Tr.delT R.rts e.pf).1 (Tr.delT R.rts e.pf).2 (Lk.putL R.lks ⟨e.iface, e.peer⟩) (Lk.delL R.lks e.iface).1 (Lk.delL R.lks e.iface).2 w ha hb
    (fun W h h' => rcheck_any R _ _ W h h' hf.rts) (fun W => Msg.rcheckE_any e W he) (fun hk W h h' => copy_any R _ _ W h h' (by have := okRo_parts hk; omega) (by have := okRo_parts hk; omega)) ?_ ?_ ?_ ?_ ?_ ?_ ?_ ?_ ?_ ?_ ?_ ?_ ?_ ?_
  · intro W u h
    refine (Tr.rput_any R.rts u ⟨e.pf, e.act⟩ W h hf.rts h3).mono ?_
    rintro x w' ⟨v, rfl, hh, hb'⟩
    obtain ⟨o, n, m, rfl⟩ := sl _ _ _ hh
    exact ⟨o, n, m, rfl, hh, hb'⟩
  · intro W u h
    refine (Tr.rdel_any R.rts u e.pf W h hf.rts h4).mono ?_
    rintro x w' ⟨v, rfl, hh, hb'⟩
    obtain ⟨o, n, m, rfl⟩ := sl _ _ _ hh
    exact ⟨o, n, m, rfl, hh, hb'⟩
  · intro W u h
    refine (Lk.rput_any R.lks u ⟨e.iface, e.peer⟩ W h).mono ?_
    rintro x w' ⟨v, rfl, hh, hb'⟩
    obtain ⟨o, n, m, rfl⟩ := sm _ _ _ hh
    exact ⟨o, n, m, rfl, hh, hb'⟩
  · intro W u h
    refine (Lk.rdel_any R.lks u e.iface W h).mono ?_
    rintro x w' ⟨v, rfl, hh, hb'⟩
    obtain ⟨o, n, m, rfl⟩ := sm _ _ _ hh
    exact ⟨o, n, m, rfl, hh, hb'⟩
  · intro h
    show _ = _
    unfold applyRo
    rcases h with h | h <;> rw [h]
    · rfl
    · rw [Bool.and_false]; rfl
  · intro k1 k2 h
    show _ = _
    have : misRo R e = 14 := by unfold misRo; rw [if_neg h]
    rw [hA k1 k2, this]; rfl
  · intro k1 k2 h h'
    show _ = _
    have : misRo R e = 10 := by unfold misRo; rw [if_pos h, if_pos (by rw [← h']; exact decide_eq_decide.2 (by omega))]
    rw [hA k1 k2, this]; rfl
  · intro k1 k2 h h' hk
    show _ = _
    have hk : e.kind = 1 := by omega
    rw [hA k1 k2, if_pos (hM h h')]
    unfold takeRo
    rw [if_pos hk]
  · intro k1 k2 h h' hk
    show _ = _
    have hk : e.kind = 2 := by omega
    rw [hA k1 k2, if_pos (hM h h')]
    unfold takeRo
    rw [if_neg (by omega), if_pos hk]
  · intro k1 k2 h h' hk
    show _ = _
    have hk : e.kind = 3 := by omega
    have hr := apply_right k1 k2 (hM h h')
    rw [hA k1 k2, if_pos (hM h h')]
    have hT : takeRo R e = (⟨R.id, R.up, (Tr.putT R.rts ⟨e.pf, e.act⟩).1, R.lks⟩, (Tr.putT R.rts ⟨e.pf, e.act⟩).2) := by
      unfold takeRo
      rw [if_neg (by omega), if_neg (by omega), if_pos hk]
    rw [hT] at hr ⊢
    simp only at hr
    by_cases h0 : (Tr.putT R.rts ⟨e.pf, e.act⟩).2 = 0
    · rw [if_pos h0, h0]
    · rw [if_neg h0]
      rcases hr with hr | hr
      · exact absurd hr.1 h0
      · rw [hr.2]
  · intro k1 k2 h h' hk
    show _ = _
    have hk : e.kind = 4 := by omega
    rw [hA k1 k2, if_pos (hM h h')]
    unfold takeRo
    rw [if_neg (by omega), if_neg (by omega), if_neg (by omega), if_pos hk]
  · intro k1 k2 h h' hk
    show _ = _
    have hk : e.kind = 5 := by omega
    have hr := apply_right k1 k2 (hM h h')
    rw [hA k1 k2, if_pos (hM h h')]
    have hT : takeRo R e = (⟨R.id, R.up, R.rts, (Lk.putL R.lks ⟨e.iface, e.peer⟩).1⟩, (Lk.putL R.lks ⟨e.iface, e.peer⟩).2) := by
      unfold takeRo
      rw [if_neg (by omega), if_neg (by omega), if_neg (by omega), if_neg (by omega), if_pos hk]
    rw [hT] at hr ⊢
    simp only at hr
    by_cases h0 : (Lk.putL R.lks ⟨e.iface, e.peer⟩).2 = 0
    · rw [if_pos h0, h0]
    · rw [if_neg h0]
      rcases hr with hr | hr
      · exact absurd hr.1 h0
      · rw [hr.2]
  · intro k1 k2 h h' hk
    show _ = _
    have hk : e.kind = 6 := by omega
    rw [hA k1 k2, if_pos (hM h h')]
    unfold takeRo
    rw [if_neg (by omega), if_neg (by omega), if_neg (by omega), if_neg (by omega), if_neg (by omega), if_pos hk]
  · intro k1 k2
    have := (okE_parts k2).1
    omega
end Go.Proofs.YtkjhnefbcnnjlaaGreat.Fib
