/- slices.Sorted(maps.Keys(m)) of a set of numbers. -/
import Derived.Test.YtedgmnnbmonhkaaLkPeersM
import Derived.Test.YtedgmnnbmonhkaaShelf
import Derived.Test.YtedgmnnbmonhkaaLkParts
set_option linter.unusedVariables false
namespace Go.Proofs.Ytedgmnnbmonhkaa.Lk
open Go.RowKit Go.Maps Go.Sort Go.Shelf
theorem keys_any (mb : Option Nat) (W : World) : Calls Try.prog 30 #[.map mb] W fun e w' => e = .returned (.func (.func 36) #[] #[.pointer (some ⟨W.heap.size, 0, none⟩)]) ∧ w' = W.alloc (.cells #[.map mb] 49) :=
  (callsIn_wide (n := 6)).1 (AnyZI.keys_in Try.keysA Fence.wide 6 trivial rfl mb W)
theorem sorts_at (m : Nat) : AnyZI.SortsIn Try.prog Try.sortedA_ren Fence.wide m :=
  ⟨fun blk off cap ss W hH hblk hsz => callsIn_wide.2 (Try.slices_Sort_int blk off cap ss W hH hblk hsz),
   fun p cap W => callsIn_wide.2 (Try.slices_Sort_int_none p cap W)⟩
theorem keyed_int : Keyed Try.prog 3 := int_keyed Try.underlying3
/-- a map that is a set of numbers -/
def Noted (W : World) (b n : Nat) (S : List Int) : Prop := ∃ D : DataW Unit, W.ownsMap Try.prog 3 unitElem b n D ∧ ∀ x, Maps.has D (.int .i64 x) = true ↔ x ∈ S
set_option maxHeartbeats 1000000 in
theorem sorted_any (b nn : Nat) (S : List Int) (w : World) (hup : S.Pairwise (· < ·)) (h : Noted w b nn S) (hn : nn ≤ 1000) :
    Calls Try.prog 29 #[.func (.func 36) #[] #[.pointer (some ⟨w.heap.size, 0, none⟩)]] (w.alloc (.cells #[.map (some b)] 49)) fun e w' => ∃ v, e = .returned v ∧ HasInts w' v S ∧ Below w.heap.size w w' := by
  obtain ⟨D0, hown, hS⟩ := h
  have hbl := hown.lt
  have hsz := hown.size_le
  have hseq : SeqGives Fence.wide 2 Try.prog 36 #[.pointer (some ⟨w.heap.size, 0, none⟩)] encZ (fun ss => ss.Perm (intKeys D0)) (Maps.size D0) (w.alloc (.cells #[.map (some b)] 49)) :=
    AnyZI.keys_gives (ρ := Try.keysA_ren) { Try.keysA with } Fence.wide _ trivial rfl (by omega) w.heap.size b nn D0 _ (by simp) (by simp) (by
      obtain ⟨es, clock, hb, Ft, hs, hD⟩ := hown
      exact ⟨es, clock, (Below.heap_alloc _ _ b hbl).trans hb, Ft, hs, hD⟩)
  have cS := AnyZI.sorted_in Try.sortedA Fence.wide 5 trivial trivial trivial trivial rfl (by omega) (sorts_at _) (enters_of Try.func35 (by kernel_rfl) rfl) 36 #[.pointer (some ⟨w.heap.size, 0, none⟩)] trivial (enters_of Try.func36 (by kernel_rfl) rfl) _ _ (by unfold maxLen; omega) (by omega) _ hseq
  change CallsIn _ _ Try.prog 29 _ _ _ at cS
  refine (callsIn_wide.1 cS).mono ?_
  rintro e w' ⟨v, ss, rfl, hperm, hrow, hnil, hb⟩
  have hP : S.Perm (intKeys D0) := CollectedI.perm (left := fun _ => false) ⟨hup.imp (fun h => by omega), fun x => by rw [hS x]; simp⟩ hown keyed_int Try.underlying3 (fun _ => rfl)
  have hE : ss.mergeSort leI = S := by
    rw [mergeSort_of_perm_i (hperm.trans hP.symm)]
    exact List.mergeSort_of_pairwise (hup.imp (fun h => by simp only [leI, decide_eq_true_eq]; omega))
  have hl : ss.length = S.length := (hperm.trans hP.symm).length_eq
  refine ⟨v, rfl, ?_, ((Below.refl _ w).alloc (Nat.le_refl _) _).trans (hb.mono (by simp))⟩
  show HasRow _ _ _ _ _
  have hr := hasRow_own hrow
  rw [hl] at hr
  have hm : (ss.mergeSort (fun x y => decide (x ≤ y))).map encZ = intCs S := by
    have : ss.mergeSort (fun x y => decide (x ≤ y)) = S := hE
    rw [this]
    rfl
  rw [hm] at hr
  exact hr
end Go.Proofs.Ytedgmnnbmonhkaa.Lk
