/- What an event changes in a net, plain. -/
import Derived.Test.YtkjhnefbcnnjlaaGreatNv21
import Derived.Test.YtkjhnefbcnnjlaaGreatNv28
set_option linter.unusedVariables false
namespace Go.Proofs.YtkjhnefbcnnjlaaGreat.Nt
open Go.Proofs.YtkjhnefbcnnjlaaGreat.Fib
theorem up_oneR {L : List Ro} (h : UpR L) {x y : Ro} (hx : x ∈ L) (hy : y ∈ L) (e : x.id = y.id) : x = y := by
  obtain ⟨j, hj, rfl⟩ := List.getElem_of_mem hx
  obtain ⟨k, hk, rfl⟩ := List.getElem_of_mem hy
  rcases Nat.lt_trichotomy j k with g | g | g
  · have := List.pairwise_iff_getElem.1 h j k hj hk g
    omega
  · subst g; rfl
  · have := List.pairwise_iff_getElem.1 h k j hk hj g
    omega
end Go.Proofs.YtkjhnefbcnnjlaaGreat.Nt
