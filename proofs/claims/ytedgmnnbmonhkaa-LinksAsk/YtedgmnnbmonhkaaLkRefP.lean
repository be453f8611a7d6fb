/- The document's Peer and Del of links. -/
import Derived.Test.YtedgmnnbmonhkaaLkParts
set_option linter.unusedVariables false
namespace Go.Proofs.Ytedgmnnbmonhkaa.Lk
open Go.RowKit
open Go.Proofs.Ytedgmnnbmonhkaa.Addr (RowAt below2 below_drew below_new bset RowAt.lt RowAt.cell RowAt.frozen RowAt.below RowAt.drew RowAt.new RowAt.alloc cells2)
attribute [-go_sem] Builtin.append_
theorem find_of (l : List Lk) (i : Int) : findL l i = (ofL l i).head? := by
  unfold findL ofL
  rw [List.head?_filter]
theorem okL_len {l : List Lk} (h : okL l = true) : l.length ≤ 32 := by
  unfold okL at h
  simp only [Bool.and_eq_true, decide_eq_true_eq] at h
  exact h.1
set_option maxHeartbeats 4000000 in
set_option maxRecDepth 20000 in
theorem rpeer_any (l : List Lk) (v : Value) (i : Int) (w : World) (hl : HasLks w v l) :
    Calls Try.prog 16 #[v, .int .i64 i] w fun e w' => e = .returned (.tuple #[.int .i64 (peerL l i).1, .int .i64 (peerL l i).2]) ∧ Below w.heap.size w w' := by
  have cc := fun W (hb : Below w.heap.size w W) => rcheck_any l _ W (hl.keep hb)
  have hck : checkL l = if okL l then 0 else 2 := rfl
  rw [hck] at cc
  cases hok : okL l
  · have hP : peerL l i = (0, 2) := by unfold peerL; rw [hok]; rfl
    rw [hok] at cc
    simp only [Bool.false_eq_true, if_false] at cc
    rw [hP]
    go_enter Try.func16, Try.ntmps16
    go_wp2_with fail
    go_at_call 13; refine (cc _ (Below.refl _ _)).mono ?_; rintro e w1 ⟨rfl, hb1⟩
    go_wp2_with fail
    go_ret2
    exact ⟨rfl, hb1⟩
  · have hlen := okL_len hok
    have cp := fun W (hb : Below w.heap.size w W) => parts_any l v i W (hl.keep hb) (by omega)
    have hP : peerL l i = match findL l i with | some s => ((s.peer, 0) : Int × Int) | none => (0, 3) := by unfold peerL; rw [hok]; rfl
    rw [find_of] at hP
    rw [hok] at cc
    simp only [if_true] at cc
    cases hB : ofL l i with
    | nil =>
      rw [hB] at hP cp
      simp only [List.head?_nil] at hP
      rw [hP]
      clear hP hck hok hlen hl hB
      go_enter Try.func16, Try.ntmps16
      go_wp2_with fail
      go_at_call 13; refine (cc _ (Below.refl _ _)).mono ?_; rintro e w1 ⟨rfl, hb1⟩
      go_wp2_with fail
      go_at_call 28; refine (cp _ hb1).mono ?_; rintro e w2 ⟨x, y, z, rfl, hO⟩
      obtain ⟨oy, cy, rfl, _, _⟩ := HasRow.slice (hasRow_own hO.ov)
      have hbw := below2 hb1 hO.bl
      simp only [List.length_nil]
      go_wp2_with fail
      go_ret2
      exact ⟨rfl, hbw⟩
    | cons s t =>
      rw [hB] at hP cp
      simp only [List.head?_cons] at hP
      rw [hP]
      clear hP hck hok hlen hl hB
      go_enter Try.func16, Try.ntmps16
      go_wp2_with fail
      go_at_call 13; refine (cc _ (Below.refl _ _)).mono ?_; rintro e w1 ⟨rfl, hb1⟩
      go_wp2_with fail
      go_at_call 28; refine (cp _ hb1).mono ?_; rintro e w2 ⟨x, y, z, rfl, hO⟩
      have hh : HasLks w2 y (s :: t) := hasRow_own hO.ov
      have hbw := below2 hb1 hO.bl
      obtain ⟨oy, cy, rfl, hy1, hy2⟩ := HasRow.slice hh
      obtain ⟨g1, i1, rfl, hg1, a0, a1⟩ := HasLks.cell hh 0 (by simp)
      simp only [List.getElem_cons_zero, Nat.zero_mul, Nat.add_zero] at a0 a1
      clear hO hh cp cc
      obtain ⟨sa, sb⟩ := s
      simp only at a0 a1
      obtain ⟨m, hm⟩ : ∃ m, m = (Lk.mk sa sb :: t).length := ⟨_, rfl⟩
      have hm0 : 0 < m := by rw [hm]; simp
      have hm1 : (0 : Int) < (m : Int) := by omega
      have hm2 : ¬ ((m : Int) = 0) := by omega
      rw [← hm]
      clear hm hy1
      go_wp2_with fail
      go_ret2
      exact ⟨rfl, hbw⟩
end Go.Proofs.Ytedgmnnbmonhkaa.Lk
