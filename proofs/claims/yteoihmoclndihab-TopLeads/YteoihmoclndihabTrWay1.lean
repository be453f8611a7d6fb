/- The iterator of the way, walked. -/
import Derived.Test.YteoihmoclndihabTrWay
import Derived.Sort.CutIn
import Derived.Sort.LoopGhostIn
import Derived.Deep.RegionHeld3
set_option linter.unusedVariables false
namespace Go.Proofs.Yteoihmoclndihab.Tr
open Go.RowKit Go.Shelf
open Go.Proofs.Yteoihmoclndihab.Lk (HasRow)
open Go.Proofs.Yteoihmoclndihab.Addr (Pf okP wideN kP hasB coversB rightB hiN loN RowAt below2 below_drew below_new bset RowAt.lt RowAt.cell RowAt.frozen RowAt.below RowAt.drew RowAt.new RowAt.alloc RowAt.set1 cells2)
attribute [local go_sem] Oper.semAt_some
/-- a row of nodes opened: what over is asked of -/
theorem trie_open {f : Nat} {W : World} {Q : Nat → Prop} {six : Bool} {v : Value} {L : List Rt} (h : HasTrie f W Q six v L) : ∃ (s : List Seg) (us : List Value), us.length = s.length ∧ L = flat s ∧ Good s six ∧ HasRow W v 11 s.length (nodeCs s us) ∧ (∀ i (h : i < us.length), ∃ o n c, us[i] = .slice o n c) ∧ ∀ i (h : i < s.length) (h2 : i < us.length), HasTrie (f - 1) W Q six us[i] s[i].2 := by
  cases f with
  | zero =>
    obtain ⟨rfl, rfl⟩ := h
    exact ⟨[], [], rfl, rfl, good_nil six, Lk.hasRow_nil W 11, fun i h => by simp at h, fun i h => by simp at h⟩
  | succ f =>
    obtain ⟨s, us, h1, h2, h3, h4, h5, h6⟩ := h
    exact ⟨s, us, h1, h2, h3, h4, fun i h => trie_slice (h6 i (by omega) h), h6⟩
theorem flat_len (s : List Seg) : s.length ≤ (flat s).length := by
  induction s with
  | nil => exact Nat.le_refl _
  | cons x s ih =>
    show _ ≤ ((x.1 :: x.2) ++ flat s).length
    rw [List.length_append, List.length_cons, List.length_cons]
    omega
/-- between two rounds of the iterator -/
def WS (B : Nat) (W : World) (six : Bool) (a g5 b2 b3 : Nat) (full pre : List Rt) (is : Bool) : Prop :=
  (∃ cs, cs.length = 11 ∧ RowAt W g5 cs 102) ∧ (is = false → full = pre) ∧ (is = true → ∃ f r o n c S, WayI B W six a g5 b2 b3 f r (.slice o n c) S ∧ S.length ≤ 256 ∧ full = pre ++ (r :: S.filter (hasR six a)))
/-- what over's answer means for the way -/
theorem ov_way {s : List Seg} {us : List Value} {six : Bool} {a : Nat} {e : Ending} (hg : Good s six) (h : OvR s us six a e) : ((flat s).filter (hasR six a) = [] ∧ e = .returned (.tuple #[zeroN, .bool false])) ∨ ∃ (i : Nat) (h1 : i < s.length) (h2 : i < us.length), (flat s).filter (hasR six a) = s[i].1 :: s[i].2.filter (hasR six a) ∧ e = .returned (.tuple #[nodeV s[i].1 us[i], .bool true]) := by
  obtain ⟨k, hk, ⟨h1, h2⟩ | ⟨h1, h2, h3, h4, h5⟩⟩ := h
  · exact .inl ⟨over_none hg hk h1, h2⟩
  · exact .inr ⟨k - 1, h1, h2, over_some hg hk h3 h1 h4, h5⟩
end Go.Proofs.Yteoihmoclndihab.Tr
