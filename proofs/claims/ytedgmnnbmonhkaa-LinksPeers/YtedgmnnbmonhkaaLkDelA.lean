/- slices.DeleteFunc of right links, whole; links.Del. -/
import Derived.Test.YtedgmnnbmonhkaaLkDel
set_option linter.unusedVariables false
namespace Go.Proofs.Ytedgmnnbmonhkaa.Lk
open Go.RowKit
open Go.Proofs.Ytedgmnnbmonhkaa.Addr (RowAt below2 below_drew below_new bset RowAt.lt RowAt.cell RowAt.frozen RowAt.below RowAt.drew RowAt.new RowAt.alloc cells2)
attribute [-go_sem] Builtin.append_
set_option maxHeartbeats 2000000 in
theorem delf_none (v : Value) (g : Nat) (w : World) (o : Option Addr) (n c : Nat) (hv : v = .slice o n c)
    (ci : ∀ W : World, Below w.heap.size w W → Calls Try.prog 24 #[v, .func (.func 31) #[] #[.pointer (some ⟨g, 0, none⟩)]] W fun e w' => e = .returned (.int .i64 (-1)) ∧ Below W.heap.size W w') :
    Calls Try.prog 21 #[v, .func (.func 31) #[] #[.pointer (some ⟨g, 0, none⟩)]] w fun e w' => e = .returned v ∧ Below w.heap.size w w' := by
  subst hv
  go_enter Try.func21, Try.ntmps21
  go_wp2_with fail
  go_at_call 24; refine (ci _ (Below.refl _ _)).mono ?_; rintro e w1 ⟨rfl, hb1⟩
  go_wp2_with fail
  go_ret
  exact ⟨rfl, hb1⟩
theorem delf_any (l : List Lk) (v : Value) (i : Int) (g B : Nat) (w : World) (hok : okL l = true) (hown : w.ownsRow B 24 2 v l.length (lkCs l)) (hBw : B ≤ w.heap.size) (hg : w.cell? ⟨g, 0, none⟩ = some (.int .i64 i)) (hgl : g < w.heap.size) (hgr : v.ownBlock ≠ some g) :
    Calls Try.prog 21 #[v, .func (.func 31) #[] #[.pointer (some ⟨g, 0, none⟩)]] w fun e w' => ∃ u, e = .returned u ∧ w'.ownsRow B 24 2 u (others l i).length (lkCs (others l i)) ∧ u.ownBlock = v.ownBlock ∧ Below B w w' := by
  have hl : HasLks w v l := hasRow_own hown
  have hlen := okL_len2 hok
  rcases find_idx l i with ⟨h1, h2⟩ | ⟨k, hk, h1, h2⟩
  · have hot : others l i = l := others_none (fun j hj hc => by
      have := List.find?_eq_none.1 h1 l[j] (List.getElem_mem hj)
      simp [hc] at this)
    obtain ⟨o, c, hv, _, _⟩ := HasRow.slice hl
    rw [hot]
    refine (delf_none v g w o _ c hv (fun W hb => ?_)).mono ?_
    · have := idxOf_any l v i g W (hl.keep hb) ((hb.cell (p := ⟨g, 0, none⟩) hgl).trans hg) (Nat.lt_of_lt_of_le hgl hb.size)
      rw [h2] at this
      exact this
    · rintro e w' ⟨rfl, hb⟩
      exact ⟨v, rfl, own_below hown hb, rfl, Below.mono hb hBw⟩
  · have hi : l[k].iface = i := by have := List.find?_some h1; simpa using this
    rcases hown.2 with ⟨_, h0⟩ | ⟨gr, cap, cur, rfl, hgb, hgc, hnc, hcm, hcs, htk⟩
    · omega
    · have hgg : g ≠ gr := fun e => hgr (by rw [e]; rfl)
      refine (delf_at l k gr cap l.length g B i w rfl hk (fun _ => hi) (okL_up hok) (by omega) hown hgb hBw ⟨hnc, by unfold maxLen at hcm; exact hcm⟩ hg hgl hgg (fun W hb => ?_)).mono ?_
      · have := idxOf_any l _ i g W (hl.keep hb) ((hb.cell (p := ⟨g, 0, none⟩) hgl).trans hg) (Nat.lt_of_lt_of_le hgl hb.size)
        rw [h2] at this
        exact this
      · rintro e w' ⟨rfl, ho, hb⟩
        have hot : others l i = l.take k ++ l.drop (k + 1) := by rw [← hi]; exact others_at (okL_up hok) hk
        have hol : (others l i).length = l.length - 1 := by rw [hot, List.length_append, List.length_take, List.length_drop]; omega
        refine ⟨_, rfl, ?_, rfl, hb⟩
        rw [hol, hot]
        exact ho
set_option maxHeartbeats 4000000 in
set_option maxRecDepth 20000 in
theorem del_any (l : List Lk) (v : Value) (i : Int) (w : World) (hl : HasLks w v l) :
    Calls Try.prog 9 #[v, .int .i64 i] w fun e w' => ∃ u, e = .returned (.tuple #[u, .int .i64 (delL l i).2]) ∧ HasLks w' u (delL l i).1 ∧ Below w.heap.size w w' := by
  obtain ⟨o, c, rfl, hc1, hc2⟩ := HasRow.slice hl
  have cc := fun W (hb : Below w.heap.size w W) => check_any l _ W (hl.keep hb)
  have co := fun W => of_any i W
  have hck : checkL l = if okL l then 0 else 2 := rfl
  rw [hck] at cc
  cases hok : okL l
  · have hP : delL l i = ([], 2) := by unfold delL; rw [hok]; rfl
    rw [hok] at cc
    simp only [Bool.false_eq_true, if_false] at cc
    rw [hP]
    go_enter Try.func9, Try.ntmps9
    go_wp2_with fail
    go_at_call 12; refine (cc _ (Below.refl _ _)).mono ?_; rintro e w1 ⟨rfl, hb1⟩
    go_wp2_with fail
    go_ret2
    exact ⟨_, rfl, hasRow_nil _ 2, hb1⟩
  · have hlen := okL_len2 hok
    have hP : delL l i = (others l i, if (others l i).length = l.length then 3 else 0) := by unfold delL; rw [hok]; rfl
    rw [hP]
    rw [hok] at cc
    simp only [if_true] at cc
    have cl := fun W (hb : Below w.heap.size w W) => clone_any l _ W (hl.keep hb) (by omega)
    have cd := fun (W : World) (v : Value) (g B : Nat) => delf_any l v i g B W hok
    obtain ⟨m, hm⟩ : ∃ m, m = (others l i).length := ⟨_, rfl⟩
    obtain ⟨n, hn⟩ : ∃ n, n = l.length := ⟨_, rfl⟩
    have HMN : Hid (m = (others l i).length ∧ n = l.length) := ⟨hm, hn⟩
    have HOT : Hid (∀ (W : World) (u : Value) (B : Nat), W.ownsRow B 24 2 u (others l i).length (lkCs (others l i)) → HasLks W u (others l i) ∧ ∃ ou cu, u = .slice ou m cu) := fun W u B h => ⟨hasRow_own h, by obtain ⟨ou, cu, e, _, _⟩ := HasRow.slice (hasRow_own h); exact ⟨ou, cu, by rw [hm]; exact e⟩⟩
    rw [← hn] at hlen hc1 cl cc ⊢
    have hmn : (m : Int) ≤ 32 := by
      have : m ≤ n := by rw [hm, hn]; exact List.length_filter_le _ _
      omega
    have hni : (n : Int) ≤ 32 := by omega
    rw [show (if (others l i).length = n then (3 : Int) else 0) = if m = n then 3 else 0 by rw [hm]]
    obtain ⟨yy, hyy⟩ : ∃ yy : Int, yy = if m = n then 3 else 0 := ⟨_, rfl⟩
    have HY : Hid (yy = if m = n then 3 else 0) := hyy
    rw [← hyy]
    clear hP hck hm hn hl hyy
    go_enter Try.func9, Try.ntmps9
    go_wp2_with fail
    go_at_call 12; refine (cc _ (Below.refl _ _)).mono ?_; rintro e w1 ⟨rfl, hb1⟩
    go_wp2_with fail
    go_at_call 22; refine (cl _ hb1).mono ?_; rintro e w2 ⟨u2, rfl, ho2, hb2⟩
    go_wp2_with fail
    go_at_call 23; refine (co _).mono ?_; rintro e w3 ⟨rfl, hw3⟩
    have hb3 : Below w2.heap.size w2 w3 := by rw [hw3]; exact below_new (Below.refl _ _) _
    have r3 : RowAt w3 w2.heap.size [.int .i64 i] 3 := by rw [hw3]; exact RowAt.new _ _ _
    have hgr : u2.ownBlock ≠ some w2.heap.size := fun e => by have := (ho2.lt _ e).2; omega
    have ho3 := own_below ho2 hb3
    have hBw : w1.heap.size ≤ w3.heap.size := Nat.le_trans hb2.size hb3.size
    clear hw3 ho2
    generalize w2.heap.size = g at r3 hgr ⊢
    go_wp2_with fail
    go_at_call 21; refine (cd _ _ g w1.heap.size (by rw [← HMN.out.2]; exact ho3) hBw (r3.cell 0) r3.lt hgr).mono ?_; rintro e w4 ⟨u4, rfl, ho4, _, hb4⟩
    obtain ⟨hh, ou, cu, rfl⟩ := HOT.out _ _ _ ho4
    have hbw : Below w.heap.size w w4 := hb1.trans ((Below.mono ((below2 hb2 hb3).trans hb4) hb1.size))
    by_cases hmn2 : m = n
    · have hmm : ((m : Int) == (n : Int)) = true := by rw [hmn2]; simp
      have HV : Hid (yy = 3) := by show _ = _; rw [HY.out, if_pos hmn2]
      clear cd cl cc co ho3 ho4 hb2 hb3 hb4 hb1 hmn2 HY
      go_wp2_with fail
      go_ret2
      exact ⟨_, by have h := HV.out; subst h; rfl, hh, hbw⟩
    · have hmm : ((m : Int) == (n : Int)) = false := beq_eq_false_iff_ne.2 (by omega)
      have HV : Hid (yy = 0) := by show _ = _; rw [HY.out, if_neg hmn2]
      clear cd cl cc co ho3 ho4 hb2 hb3 hb4 hb1 hmn2 HY
      go_wp2_with fail
      go_ret2
      exact ⟨_, by have h := HV.out; subst h; rfl, hh, hbw⟩
end Go.Proofs.Ytedgmnnbmonhkaa.Lk
