/- The document's Put of links. -/
import Derived.Test.YtedgmnnbmonhkaaLkRefD
set_option linter.unusedVariables false
namespace Go.Proofs.Ytedgmnnbmonhkaa.Lk
open Go.RowKit Go.Shelf
open Go.Proofs.Ytedgmnnbmonhkaa.Addr (RowAt below2 below_drew below_new bset RowAt.lt RowAt.cell RowAt.frozen RowAt.below RowAt.drew RowAt.new RowAt.alloc cells2)
attribute [-go_sem] Builtin.append_
set_option maxHeartbeats 8000000 in
set_option maxRecDepth 20000 in
theorem rput_any (l : List Lk) (v : Value) (x : Lk) (w : World) (hl : HasLks w v l) :
    Calls Try.prog 8 #[v, .agg #[.int .i64 x.iface, .int .i64 x.peer]] w fun e w' => ∃ u, e = .returned (.tuple #[u, .int .i64 (putL l x).2]) ∧ HasLks w' u (putL l x).1 ∧ Below w.heap.size w w' := by
  obtain ⟨o, c, rfl, hc1, hc2⟩ := HasRow.slice hl
  have cc := fun W (hb : Below w.heap.size w W) => rcheck_any l _ W (hl.keep hb)
  have c1 := fun W => one_any x W
  have hck : checkL l = if okL l then 0 else 2 := rfl
  rw [hck] at cc
  have hPd : putL l x = if okL l && okK x then (if (others l x.iface).length = 32 then (others l x.iface, 8) else (aheadL l x.iface ++ ([x] ++ behindL l x.iface), 0)) else ([], 2) := rfl
  obtain ⟨X, hX⟩ : ∃ X, X = w.alloc (.cells #[.int .i64 x.iface, .int .i64 x.peer] 24) := ⟨_, rfl⟩
  have hB : Below w.heap.size w X := by rw [hX]; exact below_new (Below.refl _ _) _
  have r0 : RowAt X w.heap.size [.int .i64 x.iface, .int .i64 x.peer] 24 := by rw [hX]; exact RowAt.new _ _ _
  cases hok : okL l
  · rw [hok] at cc hPd
    simp only [Bool.false_eq_true, if_false, Bool.false_and] at cc hPd
    rw [hPd]
    clear hPd
    go_enter Try.func8, Try.ntmps8
    go_upto_region 1 with fail
    rw [← hX]
    clear hX
    go_wp2_with fail
    go_at_call 13; refine (cc _ hB).mono ?_; rintro e w1 ⟨rfl, hb1⟩
    go_wp2_with fail
    go_ret2
    exact ⟨_, rfl, hasRow_nil _ 2, below2 hB hb1⟩
  rw [hok] at cc hPd
  simp only [if_true, Bool.true_and] at cc hPd
  cases hox : okK x
  · rw [hox] at c1 hPd
    simp only [Bool.false_eq_true, if_false] at hPd
    rw [hPd]
    clear hPd
    obtain ⟨a, b⟩ := x
    simp only at *
    go_enter Try.func8, Try.ntmps8
    go_upto_region 1 with fail
    rw [← hX]
    clear hX
    go_wp2_with fail
    go_at_call 13; refine (cc _ hB).mono ?_; rintro e w1 ⟨rfl, hb1⟩
    replace r0 := RowAt.below r0 hb1
    obtain ⟨y0, y1, yf⟩ := cells2 r0
    go_wp2_with fail
    go_at_call 27; refine (c1 _).mono ?_; rintro e w2 ⟨rfl, hb2⟩
    go_wp2_with fail
    go_ret2
    exact ⟨_, rfl, hasRow_nil _ 2, below2 (below2 hB hb1) hb2⟩
  rw [hox] at c1 hPd
  simp only [if_true] at hPd
  have hlen := okL_len hok
  have cp := fun W (hb : Below w.heap.size w W) => parts_any l _ x.iface W (hl.keep hb) (by omega)
  obtain ⟨hs1, hs2⟩ := others_split (okL_up hok) x.iface
  have HCL : Hid (∀ W : World, Below w.heap.size w W → ∃ v' w3, (∀ ty, (Builtin.append_ #[22, 22] ty #[.slice (some ⟨W.heap.size, 0, none⟩) 0 0, .slice o l.length c]).run Try.prog (W.alloc (.cells #[] 24)) = .ok v' w3) ∧ HasLks w3 v' l ∧ Below W.heap.size W w3) := fun W hb => by
    have hk := (hl.keep hb).keep (below_new (Below.refl _ W) (.cells #[] 24))
    obtain ⟨v', w3, hrun, h1, h2⟩ := append_row info_lk Try.underlying22 rfl (by decide) (empty_own W 24 2) hk (one_links l) (by omega) (by omega) (by simp)
    rw [Nat.zero_add, List.nil_append] at h1
    exact ⟨v', w3, hrun, hasRow_own h1, ((Below.refl _ W).alloc (Nat.le_refl _) _).grown h2 (by simp) (fun k e => by simp [Value.ownBlock] at e; omega)⟩
  have hall : (ofL l x.iface).length = 0 → others l x.iface = l := fun h => others_none (fun j hj hc => by
    have : l[j] ∈ ofL l x.iface := List.mem_filter.2 ⟨List.getElem_mem hj, by simpa using hc⟩
    rw [List.eq_nil_of_length_eq_zero h] at this
    simp at this)
  obtain ⟨P, hP⟩ : ∃ P, P = putL l x := ⟨_, rfl⟩
  have HP1 : Hid ((ofL l x.iface).length = 0 ∧ l.length = 32 → P = (l, 8)) := fun ⟨h1, h2⟩ => by rw [hP, hPd, if_pos (by rw [hall h1]; exact h2), hall h1]
  have HP2 : Hid (¬ ((ofL l x.iface).length = 0 ∧ l.length = 32) → P = (aheadL l x.iface ++ [x] ++ behindL l x.iface, 0)) := fun h => by rw [hP, hPd, if_neg (by omega), List.append_assoc]
  have HAB : Hid ((aheadL l x.iface).length + (behindL l x.iface).length ≤ 32) := by show _ ≤ _; rw [← List.length_append, ← hs1]; omega
  rw [← hP]
  obtain ⟨n, hn⟩ : ∃ n, n = l.length := ⟨_, rfl⟩
  rw [← hn] at HP1 HP2 HCL hlen hc1 cc cp ⊢
  have hni : (n : Int) ≤ 32 := by omega
  clear hP hPd hs1 hs2 hall hl hck hn
  have HXL : Hid (∀ W : World, HasLks (W.alloc (.cells #[.int .i64 x.iface, .int .i64 x.peer] 24)) (.slice (some ⟨W.heap.size, 0, none⟩) 1 1) [x]) := fun W => lit_lk W x
  generalize aheadL l x.iface = A at *
  generalize behindL l x.iface = C at *
  generalize ofL l x.iface = F at *
  obtain ⟨a, b⟩ := x
  simp only at *
  go_enter Try.func8, Try.ntmps8
  go_upto_region 1 with fail
  rw [← hX]
  clear hX
  go_wp2_with fail
  go_at_call 13; refine (cc _ hB).mono ?_; rintro e w1 ⟨rfl, hb1⟩
  replace r0 := RowAt.below r0 hb1
  replace hB := below2 hB hb1
  clear hb1 cc
  obtain ⟨y0, y1, yf⟩ := cells2 r0
  go_wp2_with fail
  go_at_call 27; refine (c1 _).mono ?_; rintro e w2 ⟨rfl, hb2⟩
  replace r0 := RowAt.below r0 hb2
  replace hB := below2 hB hb2
  clear hb2 c1 y0 y1 yf
  obtain ⟨y0, y1, yf⟩ := cells2 r0
  go_wp2_with fail
  go_at_call 28; refine (cp _ hB).mono ?_; rintro e w3 ⟨u, y, z, rfl, hO⟩
  replace r0 := RowAt.below r0 hO.bl
  obtain ⟨oy, cy, rfl, hy1, hy2⟩ := HasRow.slice (hasRow_own hO.ov)
  have hB3 := below2 hB hO.bl
  obtain ⟨m, hm⟩ : ∃ m, m = F.length := ⟨_, rfl⟩
  rw [← hm] at HP1 HP2 ⊢
  clear cp y0 y1 yf hy1
  by_cases h0 : m = 0 ∧ n = 32
  · have HV : Hid (P = (l, 8)) := HP1.out h0
    obtain ⟨v', w4, hrun, hh, hb4⟩ := HCL.out w3 hB3
    obtain ⟨hm0, hn32⟩ := h0
    clear hm
    subst hm0 hn32
    clear HP1 HP2 hO HCL
    go_wp2_with fail
    go_ret2
    exact ⟨_, by rw [HV.out]; rfl, by rw [HV.out]; exact hh, below2 hB3 hb4⟩
  · have HV : Hid (P = (A ++ [⟨a, b⟩] ++ C, 0)) := HP2.out h0
    have hO2 := hO.below (below_new (Below.refl _ w3) (.cells #[.int .i64 a, .int .i64 b] 24))
    obtain ⟨g, cap, w4, hrun1, hO3⟩ := hO2.app (HXL.out w3) (by simp) (by have := HAB.out; simp; omega)
    obtain ⟨v', w5, hrun2, hh, hb5⟩ := hO3.join (by have := HAB.out; rw [List.length_append]; simp; omega)
    have hbw : Below w.heap.size w w5 := hB.trans (Below.mono hb5 hB.size)
    generalize (A ++ [(⟨a, b⟩ : Lk)]).length = mA at hrun1 hrun2
    obtain ⟨y0, y1, yf⟩ := cells2 r0
    clear HP1 HP2 HCL hO hO2 hO3 hm hb5
    by_cases hm0 : m = 0
    · have hn32 : ((n : Int) == 32) = false := beq_eq_false_iff_ne.2 (by omega)
      have hn33 : ¬ n = 32 := by omega
      subst hm0
      clear h0
      go_wp2_with fail
      go_ret2
      exact ⟨_, by rw [HV.out]; rfl, by rw [HV.out]; exact hh, hbw⟩
    · have hm1 : ((m : Int) == 0) = false := beq_eq_false_iff_ne.2 (by omega)
      clear h0
      go_wp2_with fail
      go_ret2
      exact ⟨_, by rw [HV.out]; rfl, by rw [HV.out]; exact hh, hbw⟩
end Go.Proofs.Ytedgmnnbmonhkaa.Lk
