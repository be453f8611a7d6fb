/- The document's Del and Put of links. -/
import Derived.Test.YtedgmnnbmonhkaaLkRefM
import Derived.Test.YtedgmnnbmonhkaaLkRefP
set_option linter.unusedVariables false
namespace Go.Proofs.Ytedgmnnbmonhkaa.Lk
open Go.RowKit Go.Shelf
open Go.Proofs.Ytedgmnnbmonhkaa.Addr (RowAt below2 below_drew below_new bset RowAt.lt RowAt.cell RowAt.frozen RowAt.below RowAt.drew RowAt.new RowAt.alloc cells2)
attribute [-go_sem] Builtin.append_
/-- the first of three rows takes the third -/
theorem Own3.join {w W : World} {u v t : Value} {a b c : List Lk} (h : Own3 w W u v t a b c) (hb : a.length + c.length ≤ 1000) :
    ∃ v' w3, (∀ ty, (Builtin.append_ #[22, 22] ty #[u, t]).run Try.prog W = .ok v' w3) ∧ HasLks w3 v' (a ++ c) ∧ Below w.heap.size w w3 := by
  obtain ⟨v', w3, hrun, h1, h2⟩ := append_row info_lk Try.underlying22 rfl (by decide) h.ou (show HasRow W t 2 c.length (lkCs c) from hasRow_own h.ot) (one_links c) (by omega) (by omega) h.bl.size
  refine ⟨v', w3, hrun, ?_, h.bl.grown h2 h.bl.size (fun k e => (h.ou.lt k e).1)⟩
  rw [← lkCs_app, ← List.length_append] at h1
  exact hasRow_own h1
set_option maxHeartbeats 4000000 in
set_option maxRecDepth 20000 in
theorem rdel_any (l : List Lk) (v : Value) (i : Int) (w : World) (hl : HasLks w v l) :
    Calls Try.prog 10 #[v, .int .i64 i] w fun e w' => ∃ u, e = .returned (.tuple #[u, .int .i64 (delL l i).2]) ∧ HasLks w' u (delL l i).1 ∧ Below w.heap.size w w' := by
  have cc := fun W (hb : Below w.heap.size w W) => rcheck_any l _ W (hl.keep hb)
  have hck : checkL l = if okL l then 0 else 2 := rfl
  rw [hck] at cc
  cases hok : okL l
  · have hP : delL l i = ([], 2) := by unfold delL; rw [hok]; rfl
    rw [hok] at cc
    simp only [Bool.false_eq_true, if_false] at cc
    rw [hP]
    go_enter Try.func10, Try.ntmps10
    go_wp2_with fail
    go_at_call 13; refine (cc _ (Below.refl _ _)).mono ?_; rintro e w1 ⟨rfl, hb1⟩
    go_wp2_with fail
    go_ret2
    exact ⟨_, rfl, hasRow_nil _ 2, hb1⟩
  · have hlen := okL_len hok
    have cp := fun W (hb : Below w.heap.size w W) => parts_any l v i W (hl.keep hb) (by omega)
    obtain ⟨hs1, hs2⟩ := others_split (okL_up hok) i
    have hP : delL l i = (aheadL l i ++ behindL l i, if (ofL l i).length = 0 then 3 else 0) := by
      unfold delL
      rw [hok]
      simp only [if_true]
      rw [← hs1]
      congr 1
      by_cases h : (ofL l i).length = 0
      · rw [if_pos h, if_pos (by omega)]
      · rw [if_neg h, if_neg (by omega)]
    have hab : (aheadL l i).length + (behindL l i).length ≤ 1000 := by rw [← List.length_append, ← hs1]; omega
    rw [hok] at cc
    simp only [if_true] at cc
    have HAB : Hid ((aheadL l i).length + (behindL l i).length ≤ 1000) := hab
    rw [hP]
    clear hP hck hs1 hs2 hl hab
    generalize aheadL l i = A at *
    generalize behindL l i = C at *
    generalize ofL l i = F at *
    obtain ⟨yy, hyy⟩ : ∃ yy : Int, yy = if F.length = 0 then 3 else 0 := ⟨_, rfl⟩
    have HY : Hid (yy = if F.length = 0 then 3 else 0) := hyy
    rw [← hyy]
    clear hyy
    go_enter Try.func10, Try.ntmps10
    go_wp2_with fail
    go_at_call 13; refine (cc _ (Below.refl _ _)).mono ?_; rintro e w1 ⟨rfl, hb1⟩
    go_wp2_with fail
    go_at_call 28; refine (cp _ hb1).mono ?_; rintro e w2 ⟨x, y, z, rfl, hO⟩
    obtain ⟨oy, cy, rfl, hy1, hy2⟩ := HasRow.slice (hasRow_own hO.ov)
    obtain ⟨v', w3, hrun, hh, hb3⟩ := hO.join HAB.out
    have hbw : Below w.heap.size w w3 := hb1.trans (Below.mono hb3 hb1.size)
    clear cp cc hO hb1 hb3
    by_cases h0 : F.length = 0
    · have HV : Hid (yy = 3) := by show _ = _; rw [HY.out, if_pos h0]
      rw [h0]
      clear HY h0 hy1
      go_wp2_with fail
      go_ret2
      exact ⟨_, by have h := HV.out; subst h; rfl, hh, hbw⟩
    · have HV : Hid (yy = 0) := by show _ = _; rw [HY.out, if_neg h0]
      obtain ⟨m, hm⟩ : ∃ m, m = F.length := ⟨_, rfl⟩
      have hm0 : ((m : Int) == 0) = false := beq_eq_false_iff_ne.2 (by omega)
      have hm1 : ¬ (m = 0) := by omega
      rw [← hm]
      clear HY h0 hy1 hm
      go_wp2_with fail
      go_ret2
      exact ⟨_, by have h := HV.out; subst h; rfl, hh, hbw⟩
end Go.Proofs.Ytedgmnnbmonhkaa.Lk
