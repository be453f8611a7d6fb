/- The iterator of the way: its word. -/
import Derived.Test.YteoihmoclndihabTrWay1
import Derived.Test.YteoihmoclndihabRngCells
set_option linter.unusedVariables false
namespace Go.Proofs.Yteoihmoclndihab.Tr
open Go.RowKit Go.Shelf
open Go.Proofs.Yteoihmoclndihab.Rng
open Go.Proofs.Yteoihmoclndihab.Lk (HasRow)
open Go.Proofs.Yteoihmoclndihab.Addr (Pf okP wideN kP hasB coversB rightB hiN loN RowAt below2 below_drew below_new bset RowAt.lt RowAt.cell RowAt.frozen RowAt.below RowAt.drew RowAt.new RowAt.alloc RowAt.set1 cells2)
attribute [local go_sem] Oper.semAt_some
theorem flat_part {s : List Seg} {i : Nat} (h : i < s.length) : s[i].2.length ≤ (flat s).length := by
  have h1 : s[i].2.Sublist (flat s) := (List.sublist_cons_self s[i].1 s[i].2).trans (by
    unfold flat
    exact List.sublist_flatten_of_mem (List.mem_map.2 ⟨s[i], List.getElem_mem h, rfl⟩))
  exact h1.length_le
theorem step_over {f : Nat} {W : World} {Q : Nat → Prop} {six : Bool} {v : Value} {L : List Rt} {a : Nat} (h : HasTrie f W Q six v L) (hQ : ∀ b, Q b → b < W.heap.size) (ha : a < 2 ^ 128) (hl : L.length ≤ 256) :
    (L.filter (hasR six a) = [] → Calls Try.prog 52 #[v, .bool six, .agg #[.int .u64 (hiN a : Int), .int .u64 (loN a : Int)]] W fun e w' => e = .returned (.tuple #[zeroN, .bool false]) ∧ Below W.heap.size W w') ∧
    (L.filter (hasR six a) ≠ [] → Calls Try.prog 52 #[v, .bool six, .agg #[.int .u64 (hiN a : Int), .int .u64 (loN a : Int)]] W fun e w' => ∃ r o n c S, e = .returned (.tuple #[nodeV r (.slice o n c), .bool true]) ∧ L.filter (hasR six a) = r :: S.filter (hasR six a) ∧ S.length ≤ 256 ∧ HasTrie (f - 1) w' Q six (.slice o n c) S ∧ Below W.heap.size W w') := by
  obtain ⟨s, us, h1, rfl, h3, h4, h5, h6⟩ := trie_open h
  have hs : s.length ≤ 256 := Nat.le_trans (flat_len s) hl
  have co := over_any six W h4 h1 h5 h3 ha hs
  constructor
  · intro hn
    refine co.mono ?_
    rintro e w' ⟨ho, hb⟩
    rcases ov_way h3 ho with ⟨_, he⟩ | ⟨i, _, _, hf, _⟩
    · exact ⟨he, hb⟩
    · rw [hn] at hf; cases hf
  · intro hn
    refine co.mono ?_
    rintro e w' ⟨ho, hb⟩
    rcases ov_way h3 ho with ⟨hf, _⟩ | ⟨i, hi, hi2, hf, he⟩
    · exact absurd hf hn
    · obtain ⟨o, n, c, hu⟩ := h5 i hi2
      have ht := h6 i hi hi2
      rw [hu] at he ht
      exact ⟨s[i].1, o, n, c, s[i].2, he, hf, Nat.le_trans (flat_part hi) hl, ht.below hQ hb, hb⟩
theorem grown_b {W W' : World} (g : Nat) (h : Below W.heap.size W W') : W.grownBy W' (some g) := ⟨h.os, h.tape, h.output, h.size, fun k hk _ => h.block k hk⟩
theorem grown_s {W W' : World} {g : Nat} (h : W.grownBy W' (some g)) (k : Nat) (v : Value) : W.grownBy (W'.setCell ⟨g, k, none⟩ v) (some g) :=
  ⟨h.os, h.tape, h.output, by simp; exact h.size, fun j hj hn => (heap_setCell_other W' ⟨g, k, none⟩ j v (fun e => hn (by simp at e; rw [e]))).trans (h.block j hj hn)⟩
/-- the eleven cells of a node, stored anew -/
abbrev putN (W : World) (g : Nat) (s0 : Bool) (s1 s2 s3 : Int) (z0 : Bool) (z1 z2 z3 s4 s5 : Int) (u : Value) : World := ((((((((((W.setCell ⟨g, 0, none⟩ (.bool s0)).setCell ⟨g, 1, none⟩ (.int .u64 s1)).setCell ⟨g, 2, none⟩ (.int .u64 s2)).setCell ⟨g, 3, none⟩ (.int .i64 s3)).setCell ⟨g, 4, none⟩ (.bool z0)).setCell ⟨g, 5, none⟩ (.int .u64 z1)).setCell ⟨g, 6, none⟩ (.int .u64 z2)).setCell ⟨g, 7, none⟩ (.int .i64 z3)).setCell ⟨g, 8, none⟩ (.int .u8 s4)).setCell ⟨g, 9, none⟩ (.int .i64 s5)).setCell ⟨g, 10, none⟩ u
theorem putN_row {W : World} {g : Nat} {cs : List Value} {t : TypeId} (h : RowAt W g cs t) (hl : cs.length = 11) (s0 : Bool) (s1 s2 s3 : Int) (z0 : Bool) (z1 z2 z3 s4 s5 : Int) (u : Value) : RowAt (putN W g s0 s1 s2 s3 z0 z1 z2 z3 s4 s5 u) g [.bool s0, .int .u64 s1, .int .u64 s2, .int .i64 s3, .bool z0, .int .u64 z1, .int .u64 z2, .int .i64 z3, .int .u8 s4, .int .i64 s5, u] t := by
  match cs, hl with
  | [c0, c1, c2, c3, c4, c5, c6, c7, c8, c9, c10], _ => exact ((((((((((h.set1 0 _).set1 1 _).set1 2 _).set1 3 _).set1 4 _).set1 5 _).set1 6 _).set1 7 _).set1 8 _).set1 9 _).set1 10 _
theorem putN_grown {W0 W : World} {g : Nat} (h : W0.grownBy W (some g)) (s0 : Bool) (s1 s2 s3 : Int) (z0 : Bool) (z1 z2 z3 s4 s5 : Int) (u : Value) : W0.grownBy (putN W g s0 s1 s2 s3 z0 z1 z2 z3 s4 s5 u) (some g) :=
  grown_s (grown_s (grown_s (grown_s (grown_s (grown_s (grown_s (grown_s (grown_s (grown_s (grown_s h 0 _) 1 _) 2 _) 3 _) 4 _) 5 _) 6 _) 7 _) 8 _) 9 _) 10 _
theorem row_other {W W' : World} {g k : Nat} {cs : List Value} {t : TypeId} (h : RowAt W k cs t) (hg : W.grownBy W' (some g)) (hne : k ≠ g) : RowAt W' k cs t := (hg.block k (RowAt.lt h) (by intro e; injection e with e; exact hne e)).trans h
end Go.Proofs.Yteoihmoclndihab.Tr
