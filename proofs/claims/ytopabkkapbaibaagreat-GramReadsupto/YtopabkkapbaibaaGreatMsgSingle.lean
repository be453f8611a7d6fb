/- What single, isSix and number read off a tape. -/
import Derived.Test.YtopabkkapbaibaaGreatMsgTape
set_option linter.unusedVariables false
namespace Go.Proofs.YtopabkkapbaibaaGreat.Msg
open Go.RowKit
open Go.Proofs.YtopabkkapbaibaaGreat.Addr (Pf okP checkP wideN firstN kP hiN loN adV pfV RowAt below2 below_drew below_new bset RowAt.lt RowAt.cell RowAt.frozen RowAt.below RowAt.drew RowAt.new RowAt.alloc gdrew gset gbelow galloc grefl cells2 cells4 results_cell)

theorem single_ek (g : Nat) (l : List UInt8) (W : World) (h : Rd W g l false) (hl : (l.length : Int) ≤ 200000000000000) :
    Calls Tryz.prog 49 #[.pointer (some ⟨g, 0, none⟩)] W (RdPost (fun n : Nat => Value.int .u8 (n : Int)) W g (f1 l)) := by
  have ct := take_any g l 1 W h hl (by decide)
  cases l with
  | nil =>
    go_enter Tryz.func49, Tryz.ntmps49
    go_wp2_with fail
    go_at_call 70; refine ct.mono ?_; rintro e w1 ⟨h1, h2⟩
    obtain ⟨rfl, rfl⟩ := h1 (by decide)
    clear h1 h2
    go_wp2_with fail
    go_ret2
    exact ⟨0, [], rfl, h, grefl _ _⟩
  | cons b t =>
    have e0 := byte_at [b] 0 (by rw [size_list]; simp)
    go_enter Tryz.func49, Tryz.ntmps49
    go_wp2_with fail
    go_at_call 70; refine ct.mono ?_; rintro e w1 ⟨h1, h2⟩
    obtain ⟨rfl, hr, hg⟩ := h2 (by simp)
    clear h1 h2
    go_wp2_with fail
    go_ret2
    exact ⟨rfl, hr, hg⟩
theorem single_ak (g : Nat) (l : List UInt8) (W : World) (h : Rd W g l false) (hl : (l.length : Int) ≤ 200000000000000) :
    Calls Tryz.prog 82 #[.pointer (some ⟨g, 0, none⟩)] W (RdPost (fun n : Nat => Value.int .u8 (n : Int)) W g (f1 l)) := by
  have ct := take_any g l 1 W h hl (by decide)
  cases l with
  | nil =>
    go_enter Tryz.func82, Tryz.ntmps82
    go_wp2_with fail
    go_at_call 70; refine ct.mono ?_; rintro e w1 ⟨h1, h2⟩
    obtain ⟨rfl, rfl⟩ := h1 (by decide)
    clear h1 h2
    go_wp2_with fail
    go_ret2
    exact ⟨0, [], rfl, h, grefl _ _⟩
  | cons b t =>
    have e0 := byte_at [b] 0 (by rw [size_list]; simp)
    go_enter Tryz.func82, Tryz.ntmps82
    go_wp2_with fail
    go_at_call 70; refine ct.mono ?_; rintro e w1 ⟨h1, h2⟩
    obtain ⟨rfl, hr, hg⟩ := h2 (by simp)
    clear h1 h2
    go_wp2_with fail
    go_ret2
    exact ⟨rfl, hr, hg⟩
theorem single_by (g : Nat) (l : List UInt8) (W : World) (h : Rd W g l false) (hl : (l.length : Int) ≤ 200000000000000) :
    Calls Tryz.prog 75 #[.pointer (some ⟨g, 0, none⟩)] W (RdPost (fun n : Nat => Value.int .u8 (n : Int)) W g (f1 l)) := by
  have ct := take_any g l 1 W h hl (by decide)
  cases l with
  | nil =>
    go_enter Tryz.func75, Tryz.ntmps75
    go_wp2_with fail
    go_at_call 70; refine ct.mono ?_; rintro e w1 ⟨h1, h2⟩
    obtain ⟨rfl, rfl⟩ := h1 (by decide)
    clear h1 h2
    go_wp2_with fail
    go_ret2
    exact ⟨0, [], rfl, h, grefl _ _⟩
  | cons b t =>
    have e0 := byte_at [b] 0 (by rw [size_list]; simp)
    go_enter Tryz.func75, Tryz.ntmps75
    go_wp2_with fail
    go_at_call 70; refine ct.mono ?_; rintro e w1 ⟨h1, h2⟩
    obtain ⟨rfl, hr, hg⟩ := h2 (by simp)
    clear h1 h2
    go_wp2_with fail
    go_ret2
    exact ⟨rfl, hr, hg⟩
theorem isSix_any (g : Nat) (l : List UInt8) (W : World) (h : Rd W g l false) (hl : (l.length : Int) ≤ 200000000000000) :
    Calls Tryz.prog 73 #[.pointer (some ⟨g, 0, none⟩)] W (RdPost (fun b : Bool => Value.bool b) W g (fSix l)) := by
  have ct := single_by g l W h hl
  cases l with
  | nil =>
    go_enter Tryz.func73, Tryz.ntmps73
    go_wp2_with fail
    go_at_call 75; refine ct.mono ?_; rintro e w1 ⟨v, t, rfl, hr, hg⟩
    generalize (v : Int) = x
    cases hx : (x == 6)
    all_goals
      go_wp2_with fail
      go_ret2
      exact ⟨_, _, rfl, hr, hg⟩
  | cons b t =>
    have hb := b.toNat_lt
    have key : (fSix (b :: t) = some (true, t) ∧ b.toNat = 6) ∨ (fSix (b :: t) = some (false, t) ∧ b.toNat = 4) ∨ (fSix (b :: t) = none ∧ b.toNat ≠ 6 ∧ b.toNat ≠ 4) := by
      unfold fSix
      by_cases h6 : b = 6
      · left; subst h6; exact ⟨rfl, rfl⟩
      · by_cases h4 : b = 4
        · right; left; subst h4; exact ⟨rfl, rfl⟩
        · right; right
          simp only [h6, h4, if_false]
          exact ⟨trivial, fun e => h6 (UInt8.toNat_inj.1 e), fun e => h4 (UInt8.toNat_inj.1 e)⟩
    generalize fSix (b :: t) = S at key ⊢
    rcases key with ⟨rfl, hk⟩ | ⟨rfl, hk⟩ | ⟨rfl, hk, hk2⟩
    · go_enter Tryz.func73, Tryz.ntmps73
      go_wp2_with fail
      go_at_call 75; refine ct.mono ?_; rintro e w1 ⟨rfl, hr, hg⟩
      rw [hk]
      clear hk hb
      go_wp2_with fail
      go_ret2
      exact ⟨rfl, hr, hg⟩
    · go_enter Tryz.func73, Tryz.ntmps73
      go_wp2_with fail
      go_at_call 75; refine ct.mono ?_; rintro e w1 ⟨rfl, hr, hg⟩
      rw [hk]
      clear hk hb
      go_wp2_with fail
      go_ret2
      exact ⟨rfl, hr, hg⟩
    · have q1 : ((b.toNat : Int) == 6) = false := beq_eq_false_iff_ne.2 (by omega)
      have q2 : ((b.toNat : Int) == 4) = false := beq_eq_false_iff_ne.2 (by omega)
      go_enter Tryz.func73, Tryz.ntmps73
      go_wp2_with fail
      go_at_call 75; refine ct.mono ?_; rintro e w1 ⟨rfl, hr, hg⟩
      clear hk hk2 hb
      go_wp2_with fail
      go_ret2
      exact ⟨_, _, rfl, hr, hg⟩
theorem undrew {W w1 : World} (hb : Below W.drew.heap.size W.drew w1) : Below W.heap.size W w1 := ⟨hb.os, hb.tape, hb.output, hb.size, fun k hk => hb.block k hk⟩
theorem take10 (l : List UInt8) (m : Nat) (hm : m = min l.length 10) : l.take 10 = l.take m := by
  rw [hm]
  rcases Nat.le_total l.length 10 with h | h
  · rw [Nat.min_eq_left h, List.take_of_length_le h, List.take_of_length_le (Nat.le_refl _)]
  · rw [Nat.min_eq_right h]
theorem getGo_len (l : List UInt8) {n : Nat} {r : List UInt8} (h : getGo 0 0 l = (n, r, 0)) : r.length ≤ l.length := by
  have := (getGo_back h).2
  rw [← this, List.length_append]; omega
theorem rdN_cases (l : List UInt8) : (rdN l = none ∧ (getGo 0 0 (l.take 10)).2.2 ≠ 0) ∨ (rdN l = some ((getGo 0 0 (l.take 10)).1, l.drop ((l.take 10).length - (getGo 0 0 (l.take 10)).2.1.length)) ∧ (getGo 0 0 (l.take 10)).2.2 = 0 ∧ (getGo 0 0 (l.take 10)).1 < 18446744073709551616 ∧ (getGo 0 0 (l.take 10)).2.1.length ≤ (l.take 10).length) := by
  unfold rdN
  by_cases h : (getGo 0 0 (l.take 10)).2.2 = 0
  · right
    obtain ⟨a, b, c⟩ : ∃ a b, getGo 0 0 (l.take 10) = (a, b, 0) := ⟨_, _, Prod.ext rfl (Prod.ext rfl h)⟩
    rw [if_pos h]
    refine ⟨rfl, h, ?_, ?_⟩
    · rw [c]; exact (getGo_back c).1
    · rw [c]; exact getGo_len _ c
  · left; rw [if_neg h]; exact ⟨rfl, h⟩
theorem fI_cases (l : List UInt8) : (fI l = none ∧ (getGo 0 0 (l.take 10)).2.2 ≠ 0) ∨ (fI l = some (((getGo 0 0 (l.take 10)).1 : Int), l.drop ((l.take 10).length - (getGo 0 0 (l.take 10)).2.1.length)) ∧ (getGo 0 0 (l.take 10)).2.2 = 0 ∧ (getGo 0 0 (l.take 10)).1 ≤ 9223372036854775807 ∧ (getGo 0 0 (l.take 10)).2.1.length ≤ (l.take 10).length) ∨ (fI l = none ∧ (getGo 0 0 (l.take 10)).2.2 = 0 ∧ 9223372036854775807 < (getGo 0 0 (l.take 10)).1 ∧ (getGo 0 0 (l.take 10)).1 < 18446744073709551616) := by
  unfold fI
  rcases rdN_cases l with ⟨h1, h2⟩ | ⟨h1, h2, h3, h4⟩
  · left; rw [h1]; exact ⟨rfl, h2⟩
  · right
    rw [h1]
    simp only
    by_cases hc : (getGo 0 0 (l.take 10)).1 ≤ 9223372036854775807
    · left; rw [if_pos hc]; exact ⟨rfl, h2, hc, h4⟩
    · right; rw [if_neg hc]; exact ⟨rfl, h2, by omega, h3⟩
set_option maxHeartbeats 2000000 in
theorem number_int (g : Nat) (l : List UInt8) (W : World) (h : Rd W g l false) (hl : (l.length : Int) ≤ 200000000000000) :
    Calls Tryz.prog 51 #[.pointer (some ⟨g, 0, none⟩)] W (RdPost (fun n : Int => Value.int .i64 n) W g (fI l)) := by
  have hcases := fI_cases l
  obtain ⟨m, hm⟩ : ∃ m, m = min l.length 10 := ⟨_, rfl⟩
  have htm : l.take 10 = l.take m := take10 l m hm
  have hmi : min (l.length : Int) 10 = (m : Int) := by omega
  have hml : m ≤ l.length := by omega
  have hmli : (m : Int) ≤ (l.length : Int) := by omega
  have hm10 : (m : Int) ≤ 10 := by omega
  have e1 := take_pre l m hml
  have hlen : (l.take m).length = m := by rw [List.length_take]; omega
  have cg := fun W => get_any ⟨(l.take m).toArray⟩ W (by rw [size_list, hlen]; omega)
  have hgs : getS ⟨(l.take m).toArray⟩ = getGo 0 0 (l.take m) := by unfold getS; simp
  rw [hgs] at cg
  clear hgs
  rw [htm] at hcases
  generalize fI l = S at hcases ⊢
  generalize getGo 0 0 (l.take m) = G at hcases cg
  obtain ⟨n, b, y⟩ := G
  simp only at hcases cg
  obtain ⟨x0, x1, xf⟩ := cells2 h
  have hlt := RowAt.lt h
  have hsz := size_list (l.take m)
  rw [hlen] at hsz hcases
  have hbz := size_list b
  have hmn : min l.length 10 = m := hm.symm
  clear hm
  rcases hcases with ⟨rfl, hy⟩ | ⟨rfl, hy, hn, hbm⟩ | ⟨rfl, hy, hn, hn2⟩
  · have hy' : (y != 0) = true := by simp [hy]
    clear hy htm
    go_enter Tryz.func51, Tryz.ntmps51
    go_wp2_with fail
    go_region
    go_wp2_with fail
    go_at_call 71; refine (cg _).mono ?_; rintro e w1 ⟨rfl, hb⟩
    go_wp2_with fail
    go_ret2
    exact ⟨0, l, rfl, RowAt.below h (undrew hb), gbelow (grefl _ _) (undrew hb)⟩
  · subst hy
    have hbl : (b.length : Int) ≤ (m : Int) := by omega
    have hq : m - b.length ≤ l.length := by omega
    have hqi : (m : Int) - (b.length : Int) = ((m - b.length : Nat) : Int) := by omega
    have e2 := drop_suf l (m - b.length) hq
    generalize m - b.length = q at *
    have hqli : (q : Int) ≤ (l.length : Int) := by omega
    have hni : (n : Int) ≤ 9223372036854775807 := by omega
    have hw : IntKind.i64.wrap (n : Int) = (n : Int) := by rw [IntKind.wrap_i64]; omega
    clear htm
    go_enter Tryz.func51, Tryz.ntmps51
    go_wp2_with fail
    go_region
    go_wp2_with fail
    go_at_call 71; refine (cg _).mono ?_; rintro e w1 ⟨rfl, hb⟩
    have hb' : Below W.heap.size W w1 := undrew hb
    have h1 : Rd w1 g l false := RowAt.below h hb'
    clear hb x0 x1 xf hlt
    obtain ⟨x0, x1, xf⟩ := cells2 h1
    have hlt := RowAt.lt h1
    have HR : Hid (Rd (w1.setCell ⟨g, 0, none⟩ (.string ⟨(l.drop q).toArray⟩)) g (l.drop q) false) := set1 h1 0 _
    have hG : W.grownBy (w1.setCell ⟨g, 0, none⟩ (.string ⟨(l.drop q).toArray⟩)) (some g) := gset (gbelow (grefl _ _) hb')
    clear h h1
    go_wp2_with fail
    go_ret2
    exact ⟨rfl, HR.out, hG⟩
  · subst hy
    have hni : (n : Int) ≤ 18446744073709551615 := by omega
    have hw : IntKind.i64.wrap (n : Int) = (n : Int) - 18446744073709551616 := by rw [IntKind.wrap_i64]; omega
    generalize (n : Int) = ni at *
    have hneg : decide (ni - 18446744073709551616 < 0) = true := decide_eq_true (by omega)
    clear htm
    go_enter Tryz.func51, Tryz.ntmps51
    go_wp2_with fail
    go_region
    go_wp2_with fail
    go_at_call 71; refine (cg _).mono ?_; rintro e w1 ⟨rfl, hb⟩
    go_wp2_with fail
    go_ret2
    exact ⟨0, l, rfl, RowAt.below h (undrew hb), gbelow (grefl _ _) (undrew hb)⟩
set_option maxHeartbeats 2000000 in
theorem number_i64 (g : Nat) (l : List UInt8) (W : World) (h : Rd W g l false) (hl : (l.length : Int) ≤ 200000000000000) :
    Calls Tryz.prog 55 #[.pointer (some ⟨g, 0, none⟩)] W (RdPost (fun n : Int => Value.int .i64 n) W g (fI l)) := by
  have hcases := fI_cases l
  obtain ⟨m, hm⟩ : ∃ m, m = min l.length 10 := ⟨_, rfl⟩
  have htm : l.take 10 = l.take m := take10 l m hm
  have hmi : min (l.length : Int) 10 = (m : Int) := by omega
  have hml : m ≤ l.length := by omega
  have hmli : (m : Int) ≤ (l.length : Int) := by omega
  have hm10 : (m : Int) ≤ 10 := by omega
  have e1 := take_pre l m hml
  have hlen : (l.take m).length = m := by rw [List.length_take]; omega
  have cg := fun W => get_any ⟨(l.take m).toArray⟩ W (by rw [size_list, hlen]; omega)
  have hgs : getS ⟨(l.take m).toArray⟩ = getGo 0 0 (l.take m) := by unfold getS; simp
  rw [hgs] at cg
  clear hgs
  rw [htm] at hcases
  generalize fI l = S at hcases ⊢
  generalize getGo 0 0 (l.take m) = G at hcases cg
  obtain ⟨n, b, y⟩ := G
  simp only at hcases cg
  obtain ⟨x0, x1, xf⟩ := cells2 h
  have hlt := RowAt.lt h
  have hsz := size_list (l.take m)
  rw [hlen] at hsz hcases
  have hbz := size_list b
  have hmn : min l.length 10 = m := hm.symm
  clear hm
  rcases hcases with ⟨rfl, hy⟩ | ⟨rfl, hy, hn, hbm⟩ | ⟨rfl, hy, hn, hn2⟩
  · have hy' : (y != 0) = true := by simp [hy]
    clear hy htm
    go_enter Tryz.func55, Tryz.ntmps55
    go_wp2_with fail
    go_region
    go_wp2_with fail
    go_at_call 71; refine (cg _).mono ?_; rintro e w1 ⟨rfl, hb⟩
    go_wp2_with fail
    go_ret2
    exact ⟨0, l, rfl, RowAt.below h (undrew hb), gbelow (grefl _ _) (undrew hb)⟩
  · subst hy
    have hbl : (b.length : Int) ≤ (m : Int) := by omega
    have hq : m - b.length ≤ l.length := by omega
    have hqi : (m : Int) - (b.length : Int) = ((m - b.length : Nat) : Int) := by omega
    have e2 := drop_suf l (m - b.length) hq
    generalize m - b.length = q at *
    have hqli : (q : Int) ≤ (l.length : Int) := by omega
    have hni : (n : Int) ≤ 9223372036854775807 := by omega
    have hw : IntKind.i64.wrap (n : Int) = (n : Int) := by rw [IntKind.wrap_i64]; omega
    clear htm
    go_enter Tryz.func55, Tryz.ntmps55
    go_wp2_with fail
    go_region
    go_wp2_with fail
    go_at_call 71; refine (cg _).mono ?_; rintro e w1 ⟨rfl, hb⟩
    have hb' : Below W.heap.size W w1 := undrew hb
    have h1 : Rd w1 g l false := RowAt.below h hb'
    clear hb x0 x1 xf hlt
    obtain ⟨x0, x1, xf⟩ := cells2 h1
    have hlt := RowAt.lt h1
    have HR : Hid (Rd (w1.setCell ⟨g, 0, none⟩ (.string ⟨(l.drop q).toArray⟩)) g (l.drop q) false) := set1 h1 0 _
    have hG : W.grownBy (w1.setCell ⟨g, 0, none⟩ (.string ⟨(l.drop q).toArray⟩)) (some g) := gset (gbelow (grefl _ _) hb')
    clear h h1
    go_wp2_with fail
    go_ret2
    exact ⟨rfl, HR.out, hG⟩
  · subst hy
    have hni : (n : Int) ≤ 18446744073709551615 := by omega
    have hw : IntKind.i64.wrap (n : Int) = (n : Int) - 18446744073709551616 := by rw [IntKind.wrap_i64]; omega
    generalize (n : Int) = ni at *
    have hneg : decide (ni - 18446744073709551616 < 0) = true := decide_eq_true (by omega)
    clear htm
    go_enter Tryz.func55, Tryz.ntmps55
    go_wp2_with fail
    go_region
    go_wp2_with fail
    go_at_call 71; refine (cg _).mono ?_; rintro e w1 ⟨rfl, hb⟩
    go_wp2_with fail
    go_ret2
    exact ⟨0, l, rfl, RowAt.below h (undrew hb), gbelow (grefl _ _) (undrew hb)⟩
set_option maxHeartbeats 2000000 in
theorem number_u64 (g : Nat) (l : List UInt8) (W : World) (h : Rd W g l false) (hl : (l.length : Int) ≤ 200000000000000) :
    Calls Tryz.prog 53 #[.pointer (some ⟨g, 0, none⟩)] W (RdPost (fun n : Nat => Value.int .u64 (n : Int)) W g (rdN l)) := by
  have hcases := rdN_cases l
  obtain ⟨m, hm⟩ : ∃ m, m = min l.length 10 := ⟨_, rfl⟩
  have htm : l.take 10 = l.take m := take10 l m hm
  have hmi : min (l.length : Int) 10 = (m : Int) := by omega
  have hml : m ≤ l.length := by omega
  have hmli : (m : Int) ≤ (l.length : Int) := by omega
  have hm10 : (m : Int) ≤ 10 := by omega
  have e1 := take_pre l m hml
  have hlen : (l.take m).length = m := by rw [List.length_take]; omega
  have cg := fun W => get_any ⟨(l.take m).toArray⟩ W (by rw [size_list, hlen]; omega)
  have hgs : getS ⟨(l.take m).toArray⟩ = getGo 0 0 (l.take m) := by unfold getS; simp
  rw [hgs] at cg
  clear hgs
  rw [htm] at hcases
  generalize rdN l = S at hcases ⊢
  generalize getGo 0 0 (l.take m) = G at hcases cg
  obtain ⟨n, b, y⟩ := G
  simp only at hcases cg
  obtain ⟨x0, x1, xf⟩ := cells2 h
  have hlt := RowAt.lt h
  have hsz := size_list (l.take m)
  rw [hlen] at hsz hcases
  have hbz := size_list b
  have hmn : min l.length 10 = m := hm.symm
  clear hm
  rcases hcases with ⟨rfl, hy⟩ | ⟨rfl, hy, hn, hbm⟩ 
  · have hy' : (y != 0) = true := by simp [hy]
    clear hy htm
    go_enter Tryz.func53, Tryz.ntmps53
    go_wp2_with fail
    go_region
    go_wp2_with fail
    go_at_call 71; refine (cg _).mono ?_; rintro e w1 ⟨rfl, hb⟩
    go_wp2_with fail
    go_ret2
    exact ⟨0, l, rfl, RowAt.below h (undrew hb), gbelow (grefl _ _) (undrew hb)⟩
  · subst hy
    have hbl : (b.length : Int) ≤ (m : Int) := by omega
    have hq : m - b.length ≤ l.length := by omega
    have hqi : (m : Int) - (b.length : Int) = ((m - b.length : Nat) : Int) := by omega
    have e2 := drop_suf l (m - b.length) hq
    generalize m - b.length = q at *
    have hqli : (q : Int) ≤ (l.length : Int) := by omega
    have hni : (n : Int) ≤ 18446744073709551615 := by omega
    clear htm
    go_enter Tryz.func53, Tryz.ntmps53
    go_wp2_with fail
    go_region
    go_wp2_with fail
    go_at_call 71; refine (cg _).mono ?_; rintro e w1 ⟨rfl, hb⟩
    have hb' : Below W.heap.size W w1 := undrew hb
    have h1 : Rd w1 g l false := RowAt.below h hb'
    clear hb x0 x1 xf hlt
    obtain ⟨x0, x1, xf⟩ := cells2 h1
    have hlt := RowAt.lt h1
    have HR : Hid (Rd (w1.setCell ⟨g, 0, none⟩ (.string ⟨(l.drop q).toArray⟩)) g (l.drop q) false) := set1 h1 0 _
    have hG : W.grownBy (w1.setCell ⟨g, 0, none⟩ (.string ⟨(l.drop q).toArray⟩)) (some g) := gset (gbelow (grefl _ _) hb')
    clear h h1
    go_wp2_with fail
    go_ret2
    exact ⟨rfl, HR.out, hG⟩
end Go.Proofs.YtopabkkapbaibaaGreat.Msg
