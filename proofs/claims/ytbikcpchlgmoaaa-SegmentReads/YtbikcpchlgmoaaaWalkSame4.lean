/- What the document's Same returns of two rows of the same texts. -/
import Derived.Test.YtbikcpchlgmoaaaWalkRef4
set_option linter.unusedVariables false
namespace Go.Proofs.Ytbikcpchlgmoaaa.Frame
open Go.RowKit

set_option maxHeartbeats 1000000 in
theorem same_any (v u : Value) (zs : List (List UInt8)) (w : World) (h1 : HasStrs w v zs) (h2 : HasStrs w u zs) (hz : zs.length ≤ 1000000000) :
    Calls Try.prog 21 #[v, u] w fun e w' => e = .returned (.bool true) ∧ Below w.heap.size w w' := by
  obtain ⟨o1, cap1, rfl, g1⟩ := h1
  obtain ⟨o2, cap2, rfl, g2⟩ := h2
  obtain ⟨n, hn⟩ : ∃ n, n = zs.length := ⟨_, rfl⟩
  have HN : Hid (n = zs.length) := hn
  have hnz : n ≤ 1000000000 := by omega
  rw [← hn]
  clear hn
  go_enter Try.func21, Try.ntmps21
  go_wp2_with fail
  go_loopw [13] (fun i wr => ∃ k : Nat, k ≤ n ∧ i = .int .i64 k ∧ Below w.heap.size w wr) (fun i _ => n - (intOf i).toNat)
  case atStart => exact ⟨0, by omega, rfl, Below.refl _ _⟩
  case round =>
    obtain ⟨k, hk, rfl, hB⟩ := hrel
    by_cases hlt : k < n
    · have hkz : k < zs.length := by rw [← HN.out]; exact hlt
      obtain ⟨b1, i1, rfl, q1, l1⟩ := g1 k hkz
      obtain ⟨b2, i2, rfl, q2, l2⟩ := g2 k hkz
      have r1 := ((hB.cell (p := ⟨b1, i1 + k, none⟩) l1)).trans q1
      have r2 := ((hB.cell (p := ⟨b2, i2 + k, none⟩) l2)).trans q2
      unfold strV at r1 r2
      generalize (⟨(zs[k]).toArray⟩ : ByteArray) = P at r1 r2
      clear q1 q2
      go_wp2_with fail
      go_quiet (fail)
      go_wp2
      go_roundw
      case rel => exact ⟨k + 1, by omega, by go_num, by first | exact hB | exact hB.drew | exact below_drewN hB _⟩
      case measure => simp [intOf]; omega
    · obtain rfl : k = n := by omega
      go_wp2
      go_ret
      exact ⟨rfl, hB⟩
end Go.Proofs.Ytbikcpchlgmoaaa.Frame
