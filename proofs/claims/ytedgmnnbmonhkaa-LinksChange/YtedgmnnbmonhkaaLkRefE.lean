/- The document's Peers of links. -/
import Derived.Test.YtedgmnnbmonhkaaLkPeersM
import Derived.Test.YtedgmnnbmonhkaaLkIns3
import Derived.Test.YtedgmnnbmonhkaaLkRefP
set_option linter.unusedVariables false
namespace Go.Proofs.Ytedgmnnbmonhkaa.Lk
open Go.RowKit
open Go.Proofs.Ytedgmnnbmonhkaa.Addr (RowAt below2 below_drew below_new bset RowAt.lt RowAt.cell RowAt.frozen RowAt.below RowAt.drew RowAt.new RowAt.alloc cells2 RowAt.gkeep)
attribute [-go_sem] Builtin.append_
theorem info_int : (Try.prog.info? 3).map (fun i => (i.zero, i.size, i.bytes)) = some (some (.int .i64 0), 1, 8) := by kernel_rfl
theorem size_int : (Try.prog.info? 3).map (·.size) = some 1 := by kernel_rfl
theorem one_ints (l : List Int) : ∀ x ∈ intCs l, x.oneCell' = true := by
  intro x hx
  obtain ⟨p, _, rfl⟩ := List.mem_map.1 hx
  rfl
theorem intCs_len (l : List Int) : (intCs l).length = l.length := by simp [intCs]
theorem intCs_app (a b : List Int) : intCs (a ++ b) = intCs a ++ intCs b := by simp [intCs]
theorem lit_int (W : World) (x : Int) : HasInts (W.alloc (.cells #[.int .i64 x] 3)) (.slice (some ⟨W.heap.size, 0, none⟩) 1 1) [x] :=
  ⟨rfl, .inr ⟨_, 1, rfl, Nat.le_refl _, by omega, fun _ => ⟨rfl, by simp⟩, fun j _ => by
    have h := RowAt.cell (RowAt.new W [.int .i64 x] 3) j
    rw [addr_add, Nat.zero_add]
    exact h⟩⟩
/-- what becomes of the row: one more at its end, the rest moved, and the new one put -/
theorem put_ints {w0 W : World} {B : Nat} {u : Value} {O : List Int} (p : Int) (i : Nat) (hi : i ≤ O.length) (ho : W.ownsRow B 3 1 u O.length (intCs O)) (hB : B ≤ W.heap.size) (hb0 : Below B w0 W) (hO : O.length ≤ 1000) :
    ∃ g cap W2 W3, (∀ ty, (Builtin.append_ #[35, 35] ty #[u, .slice (some ⟨W.heap.size, 0, none⟩) 1 1]).run Try.prog (W.alloc (.cells #[.int .i64 0] 3)) = .ok (.slice (some ⟨g, 0, none⟩) (O.length + 1) cap) W2) ∧ O.length + 1 ≤ cap ∧ cap ≤ 9223372036854775807 ∧
      (∀ sT ty o0, (i < O.length → o0 = i + 1) → (Builtin.copy_ #[35, sT] ty #[.slice (some ⟨g, o0, none⟩) (O.length + 1 - (i + 1)) (cap - (i + 1)), .slice (some ⟨g, i, none⟩) (O.length + 1 - i) (cap - i)]).run Try.prog W2.drew = .ok (goInt (O.length - i : Nat)) W3) ∧
      (∃ z, W3.cell? ⟨g, i, none⟩ = some z) ∧ (∀ j, W3.frozen? ⟨g, j, none⟩ = false) ∧ (W3.setCell ⟨g, i, none⟩ (.int .i64 p)).ownsRow B 3 1 (.slice (some ⟨g, 0, none⟩) (O.length + 1) cap) (O.length + 1) (intCs (O.take i ++ p :: O.drop i)) ∧
      B ≤ g ∧ Below B w0 W3 ∧ B ≤ W3.heap.size ∧ (∀ t cs e, RowAt W t cs e → u.ownBlock ≠ some t → e ≠ 3 → RowAt W3 t cs e ∧ t ≠ g) := by
  have hbN : Below W.heap.size W (W.alloc (.cells #[.int .i64 0] 3)) := below_new (Below.refl _ _) _
  have hB1 : B ≤ (W.alloc (.cells #[.int .i64 0] 3)).heap.size := Nat.le_trans hB hbN.size
  obtain ⟨v', W2, hrun, h1, h2⟩ := append_row info_int Try.underlying35 rfl (by decide) (own_below ho hbN) (lit_int W 0) (one_ints [0]) (by simp only [List.length_cons, List.length_nil]; omega) (by simp only [List.length_cons, List.length_nil]; omega) hB1
  have hl1 := intCs_len O
  simp only [List.length_cons, List.length_nil, Nat.zero_add] at h1
  rcases h1.2 with ⟨_, h0⟩ | ⟨g, cap, cur, rfl, hgb, hgc, hnc, hcm, hcs, htk⟩
  · omega
  have hb2 : Below B w0 W2 := (hb0.trans (Below.mono hbN hB)).grown h2 hB1 (fun k e => (ho.lt k e).1)
  have hB2 : B ≤ W2.heap.size := Nat.le_trans hB1 h2.size
  have htt : ∀ t cs e, RowAt W t cs e → u.ownBlock ≠ some t → e ≠ 3 → RowAt W2 t cs e ∧ t ≠ g := fun t cs e hr hne he => by
    have hr2 : RowAt W2 t cs e := RowAt.gkeep (hr.below hbN) h2 (fun h => hne h.symm)
    refine ⟨hr2, fun h => he ?_⟩
    subst h
    have h3 : W2.heap[t]? = some (.cells cs.toArray e (0, 0)) := hr2
    rw [hgc] at h3
    injection h3 with h3
    injection h3 with h4 h5
    exact h5.symm
  obtain ⟨W3, hr3, h3, h4⟩ : ∃ W3, (∀ sT ty o0, (i < O.length → o0 = i + 1) → (Builtin.copy_ #[35, sT] ty #[.slice (some ⟨g, o0, none⟩) (O.length + 1 - (i + 1)) (cap - (i + 1)), .slice (some ⟨g, i, none⟩) (O.length + 1 - i) (cap - i)]).run Try.prog W2.drew = .ok (goInt (O.length - i : Nat)) W3) ∧ W3.ownsRow B 3 1 (.slice (some ⟨g, 0, none⟩) (O.length + 1) cap) (O.length + 1) ((intCs O ++ intCs [0]).take (i + 1) ++ (intCs O).drop i) ∧ W2.drew.grownBy W3 (some g) := by
    have hl2 : (intCs O ++ intCs [0]).length = O.length + 1 := by rw [List.length_append, hl1]; rfl
    have hsrc : ∀ j v, ((intCs O).drop i)[j]? = some v → W2.drew.cell? ((⟨g, i, none⟩ : Addr).add j) = some v := fun j v hj => by
      have hjl := (List.getElem?_eq_some_iff.1 hj).1
      rw [List.length_drop, hl1] at hjl
      rw [addr_add, show W2.drew.cell? ⟨g, i + j, none⟩ = W2.cell? ⟨g, i + j, none⟩ from rfl, h1.cellAt _ (by omega), List.getElem?_append_left (by omega), ← List.getElem?_drop]
      exact hj
    have h1d : W2.drew.ownsRow B 3 1 (.slice (some ⟨g, 0, none⟩) (O.length + 1) cap) (O.length + 1) (intCs O ++ intCs [0]) := h1
    have h1c : ∀ v ∈ (intCs O).drop i, v.oneCell' = true := fun v hv => one_ints O v (List.mem_of_mem_drop hv)
    by_cases hio : i < O.length
    · obtain ⟨W3, r1, r2, r3⟩ := own_copy Try.underlying35 size_int h1d (i + 1) (O.length + 1 - (i + 1)) (cap - (i + 1)) ⟨g, i, none⟩ (O.length + 1 - i) (cap - i) (O.length - i) ((intCs O).drop i) (by simp only [Nat.min_def]; split <;> omega) (by rw [List.length_drop, hl1]; omega) (by omega) hsrc h1c
      refine ⟨W3, fun sT ty o0 h0 => ?_, ?_, r3⟩
      · rw [h0 hio]
        have := r1 sT ty
        rw [Nat.mul_one] at this
        exact this
      · rw [List.drop_of_length_le (l := intCs O ++ intCs [0]) (by omega), List.append_nil, Nat.mul_one] at r2
        exact r2
    · have hie : i = O.length := by omega
      refine ⟨W2.drew, fun sT ty o0 _ => ?_, ?_, ⟨rfl, rfl, rfl, Nat.le_refl _, fun _ _ _ => rfl⟩⟩
      · obtain ⟨i0, hi0, hz0, hz1, hz2⟩ := info_parts info_int
        have hm1 : O.length - i = 0 := by omega
        have hld : (loadCells ⟨g, i, none⟩ 0).run Try.prog W2.drew = .ok #[] W2.drew := by simpa using run_loadCells_list (P := Try.prog) W2.drew ⟨g, i, none⟩ [] (by simp)
        simp [Builtin.copy_, run_underlying Try.underlying35, Builtin.lenOf, Builtin.firstCells, sizeOf, typeInfo, hi0, hm1, hld, storeCells]
      · rw [List.take_of_length_le (by omega), List.drop_of_length_le (by omega), List.append_nil]
        exact h1d
  have h5 := h3.stored i (.int .i64 p)
  have hfin : ((intCs O ++ intCs [0]).take (i + 1) ++ (intCs O).drop i).set i (.int .i64 p) = intCs (O.take i ++ p :: O.drop i) := by
    have e1 : (intCs O ++ intCs [0]).take (i + 1) = (intCs O).take i ++ ((intCs O ++ intCs [0]).drop i).take 1 := by
      rw [List.take_add, List.take_append_of_le_length (by omega)]
    have e2 : (((intCs O ++ intCs [0]).drop i).take 1).length = 1 := by rw [List.length_take, List.length_drop, List.length_append, hl1]; simp [intCs]; omega
    obtain ⟨z, hz⟩ : ∃ z, ((intCs O ++ intCs [0]).drop i).take 1 = [z] := List.length_eq_one_iff.1 e2
    rw [e1, hz, List.append_assoc, List.set_append_right _ _ (by rw [List.length_take]; omega), List.length_take, Nat.min_eq_left (by omega), Nat.sub_self, List.singleton_append, List.set_cons_zero, intCs_app]
    simp [intCs]
  rw [hfin] at h5
  refine ⟨g, cap, W2, W3, hrun, hnc, by unfold maxLen at hcm; exact hcm, hr3, ?_, fun j => h3.frozenAt j, h5.1, hgb, ?_, ?_, fun t cs e h6 h7 h8 => ?_⟩
  · have := h3.cellAt i (by omega)
    exact ⟨_, this.trans (List.getElem?_eq_getElem (by rw [h3.1]; omega))⟩
  · exact (below_drew hb2).grown h4 hB2 (fun k e => by injection e with e; omega)
  · exact Nat.le_trans hB2 h4.size
  · obtain ⟨k1, k2⟩ := htt t cs e h6 h7 h8
    exact ⟨RowAt.gkeep (X := W2.drew) k1 h4 (fun h => by injection h with h; exact k2 h), k2⟩
end Go.Proofs.Ytedgmnnbmonhkaa.Lk
