/- The iterator of the way, walked. -/
import Derived.Test.YtaaedgfacnaggaaTs11
import Derived.Sort.CutIn
import Derived.Sort.LoopGhostIn
import Derived.Deep.RegionHeld3
import Derived.Test.YtaaedgfacnaggaaProg
import Derived.RangeFuncNested
import Derived.RangeFuncBound
import Derived.RangeFuncCalls
import Derived.RangeFuncLeaves
import Derived.RangeFuncBox
set_option linter.unusedVariables false
namespace Go.Proofs.Ytaaedgfacnaggaa.Tr
open Go.RowKit Go.Shelf
open Go.Proofs.Ytaaedgfacnaggaa.Lk (HasRow)
open Go.Proofs.Ytaaedgfacnaggaa.Addr (RowAt)
attribute [local go_sem] Oper.semAt_some
/-- a row of nodes opened: what over is asked of -/
theorem trie_open {f : Nat} {W : World} {Q : Nat → Prop} {six : Bool} {v : Value} {L : List Rt} (h : HasTrie f W Q six v L) : ∃ (s : List Seg) (us : List Value), us.length = s.length ∧ L = flat s ∧ Good s six ∧ HasRow W v 11 s.length (nodeCs s us) ∧ (∀ i (h : i < us.length), ∃ o n c, us[i] = .slice o n c) ∧ ∀ i (h : i < s.length) (h2 : i < us.length), HasTrie (f - 1) W Q six us[i] s[i].2 := by
  cases f with
  | zero =>
    obtain ⟨rfl, rfl⟩ := h
    exact ⟨[], [], rfl, rfl, good_nil six, Lk.hasRow_nil W 11, fun i h => by simp at h, fun i h => by simp at h⟩
  | succ f =>
    obtain ⟨s, us, h1, h2, h3, h4, h5, h6⟩ := h
    exact ⟨s, us, h1, h2, h3, h4, fun i h => trie_slice (h6 i (by omega) h), h6⟩
theorem flat_len (s : List Seg) : s.length ≤ (flat s).length := by
  induction s with
  | nil => exact Nat.le_refl _
  | cons x s ih =>
    show _ ≤ ((x.1 :: x.2) ++ flat s).length
    rw [List.length_append, List.length_cons, List.length_cons]
    omega
/-- between two rounds of the iterator -/
def WS (B : Nat) (W : World) (six : Bool) (a g5 b2 b3 : Nat) (full pre : List Rt) (is : Bool) : Prop :=
  (∃ cs, cs.length = 11 ∧ RowAt W g5 cs 81) ∧ (is = false → full = pre) ∧ (is = true → ∃ f r o n c S, WayI B W six a g5 b2 b3 f r (.slice o n c) S ∧ S.length ≤ 256 ∧ full = pre ++ (r :: S.filter (hasR six a)))
/-- what over's answer means for the way -/
theorem ov_way {s : List Seg} {us : List Value} {six : Bool} {a : Nat} {e : Ending} (hg : Good s six) (h : OvR s us six a e) : ((flat s).filter (hasR six a) = [] ∧ e = .returned (.tuple #[zeroN, .bool false])) ∨ ∃ (i : Nat) (h1 : i < s.length) (h2 : i < us.length), (flat s).filter (hasR six a) = s[i].1 :: s[i].2.filter (hasR six a) ∧ e = .returned (.tuple #[nodeV s[i].1 us[i], .bool true]) := by
  obtain ⟨k, hk, ⟨h1, h2⟩ | ⟨h1, h2, h3, h4, h5⟩⟩ := h
  · exact .inl ⟨over_none hg hk h1, h2⟩
  · exact .inr ⟨k - 1, h1, h2, over_some hg hk h3 h1 h4, h5⟩
end Go.Proofs.Ytaaedgfacnaggaa.Tr
namespace Go.Proofs.Ytaaedgfacnaggaa.Rng
open Go.RowKit
/-- what says nothing of blocks from B on -/
def Held {β : Type} (B : Nat) (J : β → World → Prop) : Prop := ∀ s W W' row, J s W → W.grownBy W' row → (∀ r, row = some r → B ≤ r) → J s W'
/-- the iterator's word -/
def Tells {α : Type} (n : Nat) (P : Program) (g : Nat) (lb : Array Value) (encs : α → Array Value) (Kp : World → World → Prop) (S : List α → Prop) (N : Nat) (w : World) : Prop :=
  ∀ (l : Nat) (J : List α → World → Prop) (W : World), Below w.heap.size w W → Held W.heap.size J →
    (∀ pre x W1, J pre W1 → pre.length < N → YieldAt Fence.wide (n - 1) P l (encs x) W1 fun e W' => e = .returned (.bool true) ∧ J (pre ++ [x]) W' ∧ Kp W1 W') →
    J [] W → CallsIn Fence.wide n P g (#[.func (.yield l) #[] #[]] ++ lb) W fun e W' => (∃ v, e = .returned v) ∧ ∃ xs, S xs ∧ J xs W'
theorem Held.put {β : Type} {B : Nat} {J : β → World → Prop} (h : Held B J) {s : β} {W : World} {l : Nat} (o : Obj) (hs : J s W) (hl : B ≤ l) : J s (W.putObj l o) :=
  h s W _ (some l) hs (grownBy_putObj' W l o) (fun r e => by cases e; exact hl)
theorem range_cells {α : Type} {n : Nat} {P : Program} {g : Operand} {ps : Array Tmp} {assign body : Code} {Q : Exit → Act → World → Prop} {a : Act} {w : World}
    (h1 : 1 ≤ n) {gf : Nat} {lb : Array Value} (hg : a.eval g = .func (.func gf) #[] lb) (eg : ∀ args w, (callFunc gf args).run P w = .ok (.enter gf args) w)
    {encs : α → Array Value} {Kp : World → World → Prop} {S : List α → Prop} {N : Nat} (hseq : Tells (n - 1) P gf lb encs Kp S N w)
    (hKt : ∀ {A B C : World}, Kp A B → Kp B C → Kp A C) (hKb : ∀ (W : World) (l : Nat) (o o' : Obj), W.heap[l]? = some o → o.isCells = false → Kp W (W.putObj l o')) (hps : ∀ x, (encs x).size = ps.size)
    (I : List α → World → Prop) (hI : Held w.heap.size I) (h0 : I [] w) (Ax : α → Act → World → Prop) (hAx : ∀ x a' W l o o', Ax x a' W → W.heap[l]? = some o → o.isCells = false → Ax x a' (W.putObj l o'))
    (hassign : ∀ (l : Nat) (pre : List α) (x : α) (W : World) (K : Act → World → Prop), I pre W → (∀ a' W', KeepsFrom w.heap.size W W' → Kp W W' → I pre W' → Ax x a' W' → K a' W') →
      assign.wpIn (Fence.wide.inRound l) (n - 1 - 1) P (Exit.then K (fun _ _ _ => False)) { tmps := (ps.zip (encs x)).foldl (fun t (p, v) => t.setIfInBounds p v) a.tmps, defers := [] } W)
    (hbody : ∀ (l : Nat) (pre : List α) (x : α) (a' : Act) (W : World), I pre W → Ax x a' W → body.wpIn (Fence.wide.inRound l) (n - 1 - 1) P (fun e _ W' => e = .normal ∧ KeepsFrom w.heap.size W W' ∧ Kp W W' ∧ I (pre ++ [x]) W') a' W)
    (hdone : ∀ (D : Nat) (xs : List α) (W : World), w.heap.size ≤ D → S xs → I xs W → W.heap[D]? = some (.deferred (some [])) → Q .normal { a with defers := { target := .collected D, args := #[] } :: a.defers } W) :
    (Code.rangeFunc g ps assign body).wpIn Fence.wide n P Q a w := by
  refine wpIn_rangeFunc fun fn hfn => ?_
  obtain ⟨rc, hrc⟩ : ∃ rc : LoopState → Loop, rc = fun st => { state := st, pending := none, fn, tmps := a.tmps, params := ps, assign, body, defers := w.heap.size } := ⟨_, rfl⟩
  obtain ⟨D, hD⟩ : ∃ D, D = w.heap.size := ⟨_, rfl⟩
  obtain ⟨V, hV⟩ : ∃ V, V = (w.alloc (.deferred (some []))).alloc (.loop (rc .ready)) := ⟨_, rfl⟩
  have hVs : V.heap.size = D + 2 := by rw [hV, World.size_alloc, World.size_alloc, hD]
  have hVr : V.heap[D + 1]? = some (.loop (rc .ready)) := by
    have := World.alloc_heap_new (w.alloc (.deferred (some []))) (.loop (rc .ready))
    rw [World.size_alloc, ← hV, ← hD] at this
    exact this
  have hVd : V.heap[D]? = some (.deferred (some [])) := by rw [hV, hD]; exact (Below.heap_alloc _ _ _ (by simp)).trans (World.alloc_heap_new w _)
  have hVb : Below w.heap.size w V := by rw [hV]; exact ((Below.refl _ w).alloc (Nat.le_refl _) _).alloc (by simp) _
  have hVI : I [] V := by
    rw [hV]
    exact hI _ _ _ none (hI _ _ _ none h0 (World.grownBy_alloc _ _ none) (fun r e => by cases e)) (World.grownBy_alloc _ _ none) (fun r e => by cases e)
  refine ⟨D + 1, [{ target := .collected D, args := #[] }], V, { target := .fn (.func gf) lb, args := #[.func (.yield (D + 1)) #[] #[]] }, V, gf, #[.func (.yield (D + 1)) #[] #[]] ++ lb, V, ?_, ?_, fun _ _ => trivial, ?_, fun _ => h1, ?_⟩
  · rw [hV, hrc, hD]; exact run_enterLoop_outer _ _ _ _ _
  · simp only [resolve, hg]
    simp [go_sem]
  · simp [invoke, go_sem, eg]
  refine (hseq (D + 1) (fun pre W => I pre W ∧ W.heap[D + 1]? = some (.loop (rc .ready)) ∧ W.heap[D]? = some (.deferred (some []))) V hVb ?_ ?_ ⟨hVI, hVr, hVd⟩).mono ?_
  · intro s A B row hs hgr hr
    have keep : ∀ k o, k < D + 2 → A.heap[k]? = some o → B.heap[k]? = some o := fun k o hk ho => (hgr.block k (Array.getElem?_eq_some_iff.1 ho).1 (fun e => by have := hr k e.symm; omega)).trans ho
    exact ⟨hI s A B row hs.1 hgr (fun r e => by have := hr r e; omega), keep _ _ (by omega) hs.2.1, keep _ _ (by omega) hs.2.2⟩
  · rintro pre x W ⟨hi, hl, hk⟩ hlen
    have hy := run_yield (P := P) (args := encs x) hl (by rw [hrc]; exact hps x)
    rw [hrc] at hy
    refine ⟨fn, _, assign, body, hy, roundIn_of_wpIn hfn (hassign _ pre x W _ hi ?_)⟩
    clear hy
    intro a' Wa kf kp ia ax
    have la := kf.same _ _ (by omega) hl rfl
    have ka := kf.same _ _ (by omega) hk rfl
    refine ⟨_, run_beginRound la (by rw [hrc]), ?_⟩
    obtain ⟨Wb, hWb⟩ : ∃ Wb, Wb = Wa.putObj (D + 1) (.loop { rc .ready with state := .busy }) := ⟨_, rfl⟩
    have lb2 : Wb.heap[D + 1]? = some (.loop { rc .ready with state := .busy }) := by rw [hWb]; exact World.putObj_heap_same (Array.getElem?_eq_some_iff.1 la).1
    have kb2 : Wb.heap[D]? = some (.deferred (some [])) := by rw [hWb]; exact (World.putObj_heap_other (by omega)).trans ka
    have kpb : Kp W Wb := by rw [hWb]; exact hKt kp (hKb _ _ _ _ la rfl)
    have ib : I pre Wb := by rw [hWb]; exact hI.put _ ia (by omega)
    have axb : Ax x a' Wb := by rw [hWb]; exact hAx _ _ _ _ _ _ ax la rfl
    rw [← hWb]
    refine wpIn_mono (hbody _ pre x a' Wb ib axb) ?_
    rintro e a3 W3 ⟨rfl, kf3, kp3, i3⟩
    have l3 := kf3.same _ _ (by omega) lb2 rfl
    have k3 := kf3.same _ _ (by omega) kb2 rfl
    have hend := run_endRound (P := P) none l3
    refine ⟨_, _, hend, rfl, ⟨hI.put _ i3 (by omega), ?_, (World.putObj_heap_other (by omega)).trans k3⟩, hKt (hKt kpb kp3) (hKb _ _ _ _ l3 rfl)⟩
    rw [hrc]
    exact World.putObj_heap_same (Array.getElem?_eq_some_iff.1 l3).1
  · rintro e W2 ⟨⟨v, rfl⟩, xs, hS, hi, hl, hk⟩
    refine ⟨none, _, by have := run_endLoop (P := P) hl (by rw [hrc]; simp); rw [hrc] at this; exact this, ?_⟩
    exact hdone D xs _ (by omega) hS (hI.put _ hi (by omega)) ((World.putObj_heap_other (by omega)).trans hk)
end Go.Proofs.Ytaaedgfacnaggaa.Rng
namespace Go.Proofs.Ytaaedgfacnaggaa.Tr
open Go.RowKit Go.Shelf
open Go.Proofs.Ytaaedgfacnaggaa.Rng
open Go.Proofs.Ytaaedgfacnaggaa.Addr (hiN loN RowAt RowAt.lt RowAt.below RowAt.set1)
attribute [local go_sem] Oper.semAt_some
theorem flat_part {s : List Seg} {i : Nat} (h : i < s.length) : s[i].2.length ≤ (flat s).length := by
  have h1 : s[i].2.Sublist (flat s) := (List.sublist_cons_self s[i].1 s[i].2).trans (by
    unfold flat
    exact List.sublist_flatten_of_mem (List.mem_map.2 ⟨s[i], List.getElem_mem h, rfl⟩))
  exact h1.length_le
theorem step_over {f : Nat} {W : World} {Q : Nat → Prop} {six : Bool} {v : Value} {L : List Rt} {a : Nat} (h : HasTrie f W Q six v L) (hQ : ∀ b, Q b → b < W.heap.size) (ha : a < 2 ^ 128) (hl : L.length ≤ 256) :
    (L.filter (hasR six a) = [] → Calls Try.prog 42 #[v, .bool six, .agg #[.int .u64 (hiN a : Int), .int .u64 (loN a : Int)]] W fun e w' => e = .returned (.tuple #[zeroN, .bool false]) ∧ Below W.heap.size W w') ∧
    (L.filter (hasR six a) ≠ [] → Calls Try.prog 42 #[v, .bool six, .agg #[.int .u64 (hiN a : Int), .int .u64 (loN a : Int)]] W fun e w' => ∃ r o n c S, e = .returned (.tuple #[nodeV r (.slice o n c), .bool true]) ∧ L.filter (hasR six a) = r :: S.filter (hasR six a) ∧ S.length ≤ 256 ∧ HasTrie (f - 1) w' Q six (.slice o n c) S ∧ Below W.heap.size W w') := by
  obtain ⟨s, us, h1, rfl, h3, h4, h5, h6⟩ := trie_open h
  have hs : s.length ≤ 256 := Nat.le_trans (flat_len s) hl
  have co := over_any six W h4 h1 h5 h3 ha hs
  constructor
  · intro hn
    refine co.mono ?_
    rintro e w' ⟨ho, hb⟩
    rcases ov_way h3 ho with ⟨_, he⟩ | ⟨i, _, _, hf, _⟩
    · exact ⟨he, hb⟩
    · rw [hn] at hf; cases hf
  · intro hn
    refine co.mono ?_
    rintro e w' ⟨ho, hb⟩
    rcases ov_way h3 ho with ⟨hf, _⟩ | ⟨i, hi, hi2, hf, he⟩
    · exact absurd hf hn
    · obtain ⟨o, n, c, hu⟩ := h5 i hi2
      have ht := h6 i hi hi2
      rw [hu] at he ht
      exact ⟨s[i].1, o, n, c, s[i].2, he, hf, Nat.le_trans (flat_part hi) hl, ht.below hQ hb, hb⟩
theorem grown_b {W W' : World} (g : Nat) (h : Below W.heap.size W W') : W.grownBy W' (some g) := ⟨h.os, h.tape, h.output, h.size, fun k hk _ => h.block k hk⟩
theorem grown_s {W W' : World} {g : Nat} (h : W.grownBy W' (some g)) (k : Nat) (v : Value) : W.grownBy (W'.setCell ⟨g, k, none⟩ v) (some g) :=
  ⟨h.os, h.tape, h.output, by simp; exact h.size, fun j hj hn => (heap_setCell_other W' ⟨g, k, none⟩ j v (fun e => hn (by simp at e; rw [e]))).trans (h.block j hj hn)⟩
/-- the eleven cells of a node, stored anew -/
abbrev putN (W : World) (g : Nat) (s0 : Bool) (s1 s2 s3 : Int) (z0 : Bool) (z1 z2 z3 s4 s5 : Int) (u : Value) : World := ((((((((((W.setCell ⟨g, 0, none⟩ (.bool s0)).setCell ⟨g, 1, none⟩ (.int .u64 s1)).setCell ⟨g, 2, none⟩ (.int .u64 s2)).setCell ⟨g, 3, none⟩ (.int .i64 s3)).setCell ⟨g, 4, none⟩ (.bool z0)).setCell ⟨g, 5, none⟩ (.int .u64 z1)).setCell ⟨g, 6, none⟩ (.int .u64 z2)).setCell ⟨g, 7, none⟩ (.int .i64 z3)).setCell ⟨g, 8, none⟩ (.int .u8 s4)).setCell ⟨g, 9, none⟩ (.int .i64 s5)).setCell ⟨g, 10, none⟩ u
theorem putN_row {W : World} {g : Nat} {cs : List Value} {t : TypeId} (h : RowAt W g cs t) (hl : cs.length = 11) (s0 : Bool) (s1 s2 s3 : Int) (z0 : Bool) (z1 z2 z3 s4 s5 : Int) (u : Value) : RowAt (putN W g s0 s1 s2 s3 z0 z1 z2 z3 s4 s5 u) g [.bool s0, .int .u64 s1, .int .u64 s2, .int .i64 s3, .bool z0, .int .u64 z1, .int .u64 z2, .int .i64 z3, .int .u8 s4, .int .i64 s5, u] t := by
  match cs, hl with
  | [c0, c1, c2, c3, c4, c5, c6, c7, c8, c9, c10], _ => exact ((((((((((h.set1 0 _).set1 1 _).set1 2 _).set1 3 _).set1 4 _).set1 5 _).set1 6 _).set1 7 _).set1 8 _).set1 9 _).set1 10 _
theorem putN_grown {W0 W : World} {g : Nat} (h : W0.grownBy W (some g)) (s0 : Bool) (s1 s2 s3 : Int) (z0 : Bool) (z1 z2 z3 s4 s5 : Int) (u : Value) : W0.grownBy (putN W g s0 s1 s2 s3 z0 z1 z2 z3 s4 s5 u) (some g) :=
  grown_s (grown_s (grown_s (grown_s (grown_s (grown_s (grown_s (grown_s (grown_s (grown_s (grown_s h 0 _) 1 _) 2 _) 3 _) 4 _) 5 _) 6 _) 7 _) 8 _) 9 _) 10 _
theorem row_other {W W' : World} {g k : Nat} {cs : List Value} {t : TypeId} (h : RowAt W k cs t) (hg : W.grownBy W' (some g)) (hne : k ≠ g) : RowAt W' k cs t := (hg.block k (RowAt.lt h) (by intro e; injection e with e; exact hne e)).trans h
end Go.Proofs.Ytaaedgfacnaggaa.Tr
namespace Go.Proofs.Ytaaedgfacnaggaa.Tr
open Go.RowKit Go.Shelf
open Go.Proofs.Ytaaedgfacnaggaa.Rng
open Go.Proofs.Ytaaedgfacnaggaa.Addr (hiN loN RowAt below2 below_drew below_new bset RowAt.lt RowAt.cell RowAt.frozen RowAt.below RowAt.drew RowAt.new RowAt.alloc)
attribute [local go_sem] Oper.semAt_some
/-- the iterator's state with a node -/
theorem ws_true {B a g5 b2 b3 : Nat} {w3 wc : World} {six : Bool} {full pre : List Rt} {f : Nat} {r : Rt} {o : Option Addr} {n c : Nat} {S : List Rt} {Q : Nat → Prop} (hrow : RowAt wc g5 (nodeC r (.slice o n c)) 81) (ht : HasTrie f w3 Q six (.slice o n c) S) (hQ : ∀ b, Q b → B ≤ b ∧ b < wc.heap.size ∧ b ≠ g5 ∧ wc.heap[b]? = w3.heap[b]?) (hsz : w3.heap.size ≤ wc.heap.size) (h2 : RowAt wc b2 [.bool six] 4) (h3 : RowAt wc b3 [.int .u64 (hiN a : Int), .int .u64 (loN a : Int)] 25) (hg : B ≤ g5) (hS : S.length ≤ 256) (hfull : full = pre ++ (r :: S.filter (hasR six a))) : WS B wc six a g5 b2 b3 full pre true :=
  ⟨⟨_, rfl, hrow⟩, (fun h => by cases h), fun _ => ⟨f, r, o, n, c, S, ⟨hrow, (HasTrie.keepQ f ht (fun b hb => (hQ b hb).2.2.2) hsz).mono _ (fun b hb => ⟨(hQ b hb).1, (hQ b hb).2.1, (hQ b hb).2.2.1⟩), h2, h3, hg⟩, hS, hfull⟩⟩
theorem ws_false {B a g5 b2 b3 : Nat} {wc : World} {six : Bool} {full pre : List Rt} {cs : List Value} (hrow : RowAt wc g5 cs 81) (hc : cs.length = 11) (hfull : full = pre) : WS B wc six a g5 b2 b3 full pre false :=
  ⟨⟨cs, hc, hrow⟩, fun _ => hfull, (fun h => by cases h)⟩
/-- the state behind the first region -/
structure W0 (B : Nat) (W wc : World) (six : Bool) (a g5 b2 b3 : Nat) (full : List Rt) (is : Bool) : Prop where
  bl : Below W.heap.size W wc
  ge : W.heap.size ≤ g5
  ws : WS B wc six a g5 b2 b3 full [] is
theorem rka {W W' : World} {cs : List Value} {t : TypeId} (h : Below (W.alloc (.cells cs.toArray t)).heap.size (W.alloc (.cells cs.toArray t)) W') : RowAt W' W.heap.size cs t := (RowAt.new W cs t).below h
theorem rkb {W W' : World} {cs : List Value} {t : TypeId} (h : Below (W.alloc (.cells cs.toArray t)).drew.heap.size (W.alloc (.cells cs.toArray t)).drew W') : RowAt W' W.heap.size cs t := (RowAt.new W cs t).drew.below h
theorem rkc {W W' : World} {cs : List Value} {t : TypeId} (h : Below (W.drew.alloc (.cells cs.toArray t)).heap.size (W.drew.alloc (.cells cs.toArray t)) W') : RowAt W' W.heap.size cs t := (RowAt.new W.drew cs t).below h
theorem bputN {B0 : Nat} {W0 W : World} {g : Nat} (h : Below B0 W0 W) (hg : B0 ≤ g) (s0 : Bool) (s1 s2 s3 : Int) (z0 : Bool) (z1 z2 z3 s4 s5 : Int) (u : Value) : Below B0 W0 (putN W g s0 s1 s2 s3 z0 z1 z2 z3 s4 s5 u) :=
  bset (bset (bset (bset (bset (bset (bset (bset (bset (bset (bset h hg) hg) hg) hg) hg) hg) hg) hg) hg) hg) hg
theorem sputN (W : World) (g : Nat) (s0 : Bool) (s1 s2 s3 : Int) (z0 : Bool) (z1 z2 z3 s4 s5 : Int) (u : Value) : (putN W g s0 s1 s2 s3 z0 z1 z2 z3 s4 s5 u).heap.size = W.heap.size := by unfold putN; simp
theorem w0_fn {B a b2 b3 : Nat} {W w3 : World} {six : Bool} {full : List Rt} (hbA : Below W.heap.size W w3) (hfe : full = []) : W0 B W (w3.alloc (.cells #[.bool false, .int .u64 0, .int .u64 0, .int .i64 0, .bool false, .int .u64 0, .int .u64 0, .int .i64 0, .int .u8 0, .int .i64 0, .slice none 0 0] 81)) six a w3.heap.size b2 b3 full false :=
  ⟨below_new hbA _, hbA.size, ws_false (RowAt.new w3 [_, _, _, _, _, _, _, _, _, _, _] _) rfl hfe⟩
theorem w0_fa {B a b2 b3 : Nat} {W w3 : World} {six : Bool} {full : List Rt} (hbA : Below W.heap.size W w3) (hE : RowAt w3 W.heap.size [.bool false, .int .u64 0, .int .u64 0, .int .i64 0, .bool false, .int .u64 0, .int .u64 0, .int .i64 0, .int .u8 0, .int .i64 0, .slice none 0 0] 81) (hfe : full = []) : W0 B W ((((((((((((w3.setCell ⟨W.heap.size, 0, none⟩ (.bool false)).setCell ⟨W.heap.size, 1, none⟩ (.int .u64 0)).setCell ⟨W.heap.size, 2, none⟩ (.int .u64 0)).setCell ⟨W.heap.size, 3, none⟩ (.int .i64 0)).setCell ⟨W.heap.size, 4, none⟩ (.bool false)).setCell ⟨W.heap.size, 5, none⟩ (.int .u64 0)).setCell ⟨W.heap.size, 6, none⟩ (.int .u64 0)).setCell ⟨W.heap.size, 7, none⟩ (.int .i64 0)).setCell ⟨W.heap.size, 8, none⟩ (.int .u8 0)).setCell ⟨W.heap.size, 9, none⟩ (.int .i64 0)).setCell ⟨W.heap.size, 10, none⟩ (.slice none 0 0))) six a W.heap.size b2 b3 full false :=
  ⟨bputN hbA (Nat.le_refl _) _ _ _ _ _ _ _ _ _ _ _, Nat.le_refl _, ws_false (putN_row hE rfl _ _ _ _ _ _ _ _ _ _ _) rfl hfe⟩
theorem w0_tn {B a b2 b3 : Nat} {W w3 : World} {six : Bool} {full : List Rt} {r : Rt} {o : Option Addr} {n c : Nat} {S : List Rt} (hbA : Below W.heap.size W w3) (ht3 : HasTrie 256 w3 (fun b => B ≤ b ∧ b < W.heap.size) six (.slice o n c) S) (HB2 : ∀ V : World, Below W.heap.size W V → RowAt V b2 [.bool six] 4 ∧ RowAt V b3 [.int .u64 (hiN a : Int), .int .u64 (loN a : Int)] 25) (hBW : B ≤ W.heap.size) (hSl : S.length ≤ 256) (hfr : full = r :: S.filter (hasR six a)) : W0 B W (w3.alloc (.cells #[.bool r.pf.six, .int .u64 (hiN r.pf.n : Int), .int .u64 (loN r.pf.n : Int), .int .i64 r.pf.len, .bool r.pf.six, .int .u64 (hiN r.pf.n : Int), .int .u64 (loN r.pf.n : Int), .int .i64 r.pf.len, .int .u8 (r.act.k : Int), .int .i64 r.act.i, .slice o n c] 81)) six a w3.heap.size b2 b3 full true :=
  ⟨below_new hbA _, hbA.size, ws_true (r := r) (RowAt.new w3 [_, _, _, _, _, _, _, _, _, _, _] _) ht3 (fun b hb => ⟨hb.1, by have h1 := hb.2; have h2 := hbA.size; simp; omega, by have h1 := hb.2; have h2 := hbA.size; omega, (Below.heap_alloc w3 _ _ (Nat.lt_of_lt_of_le hb.2 hbA.size))⟩) (by simp) (HB2 _ (below_new hbA _)).1 (HB2 _ (below_new hbA _)).2 (Nat.le_trans hBW hbA.size) hSl hfr⟩
theorem w0_ta {B a b2 b3 : Nat} {W w3 : World} {six : Bool} {full : List Rt} {r : Rt} {o : Option Addr} {n c : Nat} {S : List Rt} (hbA : Below W.heap.size W w3) (hE : RowAt w3 W.heap.size [.bool false, .int .u64 0, .int .u64 0, .int .i64 0, .bool false, .int .u64 0, .int .u64 0, .int .i64 0, .int .u8 0, .int .i64 0, .slice none 0 0] 81) (ht3 : HasTrie 256 w3 (fun b => B ≤ b ∧ b < W.heap.size) six (.slice o n c) S) (HB2 : ∀ V : World, Below W.heap.size W V → RowAt V b2 [.bool six] 4 ∧ RowAt V b3 [.int .u64 (hiN a : Int), .int .u64 (loN a : Int)] 25) (hBW : B ≤ W.heap.size) (hSl : S.length ≤ 256) (hfr : full = r :: S.filter (hasR six a)) : W0 B W ((((((((((((w3.setCell ⟨W.heap.size, 0, none⟩ (.bool r.pf.six)).setCell ⟨W.heap.size, 1, none⟩ (.int .u64 (hiN r.pf.n : Int))).setCell ⟨W.heap.size, 2, none⟩ (.int .u64 (loN r.pf.n : Int))).setCell ⟨W.heap.size, 3, none⟩ (.int .i64 r.pf.len)).setCell ⟨W.heap.size, 4, none⟩ (.bool r.pf.six)).setCell ⟨W.heap.size, 5, none⟩ (.int .u64 (hiN r.pf.n : Int))).setCell ⟨W.heap.size, 6, none⟩ (.int .u64 (loN r.pf.n : Int))).setCell ⟨W.heap.size, 7, none⟩ (.int .i64 r.pf.len)).setCell ⟨W.heap.size, 8, none⟩ (.int .u8 (r.act.k : Int))).setCell ⟨W.heap.size, 9, none⟩ (.int .i64 r.act.i)).setCell ⟨W.heap.size, 10, none⟩ (.slice o n c))) six a W.heap.size b2 b3 full true :=
  ⟨bputN hbA (Nat.le_refl _) _ _ _ _ _ _ _ _ _ _ _, Nat.le_refl _, ws_true (r := r) (putN_row hE rfl _ _ _ _ _ _ _ _ _ _ _) ht3 (fun b hb => ⟨hb.1, Nat.lt_of_lt_of_le (Nat.lt_of_lt_of_le hb.2 hbA.size) (Nat.le_of_eq (sputN w3 W.heap.size r.pf.six (hiN r.pf.n : Int) (loN r.pf.n : Int) r.pf.len r.pf.six (hiN r.pf.n : Int) (loN r.pf.n : Int) r.pf.len (r.act.k : Int) r.act.i (.slice o n c)).symm), by have h1 := hb.2; omega, ((putN_grown (World.grownBy.refl w3 _) _ _ _ _ _ _ _ _ _ _ _).block b (Nat.lt_of_lt_of_le hb.2 hbA.size) (fun e => by injection e with e; have := hb.2; omega))⟩) (Nat.le_of_eq (sputN w3 W.heap.size r.pf.six (hiN r.pf.n : Int) (loN r.pf.n : Int) r.pf.len r.pf.six (hiN r.pf.n : Int) (loN r.pf.n : Int) r.pf.len (r.act.k : Int) r.act.i (.slice o n c)).symm) (HB2 _ (bputN hbA (Nat.le_refl _) _ _ _ _ _ _ _ _ _ _ _)).1 (HB2 _ (bputN hbA (Nat.le_refl _) _ _ _ _ _ _ _ _ _ _ _)).2 hBW hSl hfr⟩
set_option maxHeartbeats 16000000 in
set_option maxRecDepth 20000 in
theorem way1_tells {B g : Nat} {u0 u1 : Value} {K0 K1 : List Rt} (six : Bool) (a n b1 b2 b3 bL bW : Nat) (w : World) (hT : TrieAt B w g u0 u1 257 K0 K1) (h1 : RowAt w b1 [.pointer (some ⟨g, 0, none⟩)] 42) (h2 : RowAt w b2 [.bool six] 4) (h3 : RowAt w b3 [.int .u64 (hiN a : Int), .int .u64 (loN a : Int)] 25)
    (hL : bL < B) (hW : bW < B) (hb2 : B ≤ b2) (hb3 : B ≤ b3) (ha : a < 2 ^ 128) (hl : (if six then K1 else K0).length ≤ 256) :
    Tells n Try.prog 40 #[.pointer (some ⟨b1, 0, none⟩), .pointer (some ⟨b2, 0, none⟩), .pointer (some ⟨b3, 0, none⟩)] encW (Kw bL bW) (fun xs => xs = (if six then K1 else K0).filter (hasR six a)) ((if six then K1 else K0).filter (hasR six a)).length w := by
  intro lp J W hWb hJ hY h0
  have hT' := hT.below hWb
  have r1 := h1.below hWb
  have r2 := h2.below hWb
  have r3 := h3.below hWb
  obtain ⟨uK, hK⟩ : ∃ uK, uK = if six then u1 else u0 := ⟨_, rfl⟩
  obtain ⟨K, hKK⟩ : ∃ K, K = if six then K1 else K0 := ⟨_, rfl⟩
  have htr : HasTrie 257 W (fun b => B ≤ b ∧ b < W.heap.size) six uK K := by
    rw [hK, hKK]
    cases six with
    | true => exact hT'.t1
    | false => exact hT'.t0
  have hcell : W.cell? ⟨g, kindN six, none⟩ = some uK := by
    rw [hK]
    cases six with
    | true => exact hT'.row.cell 1
    | false => exact hT'.row.cell 0
  have ck := fun W => kind_any six W
  have hkd : (kindN six : Int) = 0 ∨ (kindN six : Int) = 1 := by cases six <;> simp [kindN]
  rw [← hKK] at hl hY ⊢
  obtain ⟨full, hfull⟩ : ∃ full, full = K.filter (hasR six a) := ⟨_, rfl⟩
  rw [← hfull] at hY ⊢
  have hgl : g < W.heap.size := hT'.row.lt
  obtain ⟨oK, nK, cK, rfl⟩ := trie_slice htr
  have HW : Hid (∀ V : World, Below W.heap.size W V → HasTrie 257 V (fun b => B ≤ b ∧ b < W.heap.size) six (.slice oK nK cK) K) := fun V hb => htr.below (fun b hb => hb.2) hb
  have HB : Hid (∀ V : World, Below W.heap.size W V → RowAt V b1 [.pointer (some ⟨g, 0, none⟩)] 42 ∧ RowAt V b2 [.bool six] 4 ∧ RowAt V b3 [.int .u64 (hiN a : Int), .int .u64 (loN a : Int)] 25 ∧ V.cell? ⟨g, kindN six, none⟩ = some (.slice oK nK cK)) := fun V hb => ⟨r1.below hb, r2.below hb, r3.below hb, (hb.cell (p := ⟨g, kindN six, none⟩) hgl).trans hcell⟩
  have HSO : Hid (∀ V : World, Below W.heap.size W V → (full = [] → Calls Try.prog 42 #[.slice oK nK cK, .bool six, .agg #[.int .u64 (hiN a : Int), .int .u64 (loN a : Int)]] V fun e w' => e = .returned (.tuple #[zeroN, .bool false]) ∧ Below V.heap.size V w') ∧ (full ≠ [] → Calls Try.prog 42 #[.slice oK nK cK, .bool six, .agg #[.int .u64 (hiN a : Int), .int .u64 (loN a : Int)]] V fun e w' => ∃ r o n c S, e = .returned (.tuple #[nodeV r (.slice o n c), .bool true]) ∧ full = r :: S.filter (hasR six a) ∧ S.length ≤ 256 ∧ HasTrie 256 w' (fun b => B ≤ b ∧ b < W.heap.size) six (.slice o n c) S ∧ Below V.heap.size V w')) := fun V hb => by
    rw [hfull]
    exact step_over (HW.out V hb) (fun b hq => Nat.lt_of_lt_of_le hq.2 hb.size) ha hl
  have hs2 : b2 < W.heap.size := r2.lt
  have hs3 : b3 < W.heap.size := r3.lt
  clear hT hT' h1 h2 h3 htr hcell hfull hKK hK r1 r2 r3 HW
  show CallsIn Fence.wide n Try.prog 40 #[.func (.yield lp) #[] #[], .pointer (some ⟨b1, 0, none⟩), .pointer (some ⟨b2, 0, none⟩), .pointer (some ⟨b3, 0, none⟩)] W _
  refine callsIn_of_wp Try.func40 rfl trivial ?_ rfl
  simp only [Try.ntmps40, List.size_toArray, List.length_cons, List.length_nil, Nat.reduceAdd, Nat.reduceSub, Array.replicate_succ, Array.replicate_zero, List.push_toArray, List.append_toArray, List.nil_append, List.cons_append]
  have hk0 : (0 : Int) ≤ (kindN six : Int) := by omega
  have hk2 : (kindN six : Int) < 2 := by omega
  obtain ⟨z1, hz1⟩ : ∃ z1, z1 = (hiN a : Int) := ⟨_, rfl⟩
  obtain ⟨z2, hz2⟩ : ∃ z2, z2 = (loN a : Int) := ⟨_, rfl⟩
  rw [← hz1, ← hz2] at HSO HB
  have HZ : Hid (z1 = (hiN a : Int) ∧ z2 = (loN a : Int)) := ⟨hz1, hz2⟩
  generalize kindN six = kd at *
  have HSK : Hid (∀ V : World, Below W.heap.size W V → V.cell? ⟨b1, 0, none⟩ = some (.pointer (some ⟨g, 0, none⟩)) ∧ V.cell? ⟨b2, 0, none⟩ = some (.bool six) ∧ V.cell? ⟨b3, 0, none⟩ = some (.int .u64 z1) ∧ V.cell? ⟨b3, 1, none⟩ = some (.int .u64 z2) ∧ V.cell? ⟨g, kd, none⟩ = some (.slice oK nK cK)) := fun V hb => ⟨(HB.out V hb).1.cell 0, (HB.out V hb).2.1.cell 0, (HB.out V hb).2.2.1.cell 0, (HB.out V hb).2.2.1.cell 1, (HB.out V hb).2.2.2⟩
  have HB2 : Hid (∀ V : World, Below W.heap.size W V → RowAt V b2 [.bool six] 4 ∧ RowAt V b3 [.int .u64 (hiN a : Int), .int .u64 (loN a : Int)] 25) := fun V hb => ⟨(HB.out V hb).2.1, by rw [← HZ.out.1, ← HZ.out.2]; exact (HB.out V hb).2.2.1⟩
  have HBW : Hid (B ≤ W.heap.size) := Nat.le_trans hb2 (Nat.le_of_lt hs2)
  clear hz1 hz2 hkd
  have hzn : zeroN = .agg #[.bool false, .int .u64 0, .int .u64 0, .int .i64 0, .bool false, .int .u64 0, .int .u64 0, .int .i64 0, .int .u8 0, .int .i64 0, .slice none 0 0] := rfl
  rw [hzn] at HSO
  unfold nodeV at HSO
  clear hzn
  gi_wp2_with fail
  refine wpIn_wide.2 ?_
  go_cut [5, 6] (fun d5 d6 wc => ∃ (g5 : Nat) (is : Bool), d5 = .pointer (some ⟨g5, 0, none⟩) ∧ d6 = .bool is ∧ Hid (W0 B W wc six a g5 b2 b3 full is))
  case first =>
    by_cases hfe : full = []
    · have hbA : Below W.heap.size W W := Below.refl _ _
      go_region_held3 (fun V => V.cell? ⟨b1, 0, none⟩ = some (.pointer (some ⟨g, 0, none⟩)) ∧ V.cell? ⟨b2, 0, none⟩ = some (.bool six) ∧ V.cell? ⟨b3, 0, none⟩ = some (.int .u64 z1) ∧ V.cell? ⟨b3, 1, none⟩ = some (.int .u64 z2) ∧ V.cell? ⟨g, kd, none⟩ = some (.slice oK nK cK))
        (first
          | (refine HSK.out _ ?_
             repeat' (first | with_reducible exact hbA | with_reducible apply below_drew | with_reducible apply below_new | with_reducible refine bset ?_ (by have := hbA.size; first | omega | (simp; omega)))))
        (first
          | (go_at_call 41; with_reducible refine (ck _).mono ?_; rintro e w2 ⟨rfl, rfl⟩)
          | (go_at_call 42
             refine (((HSO.out _ (by repeat' (first | with_reducible exact hbA | with_reducible apply below_drew | with_reducible apply below_new))).1 hfe).mono ?_); rintro e w3 ⟨rfl, hb3⟩
             have hbN : Below W.heap.size W w3 := below2 (by repeat' (first | with_reducible exact hbA | with_reducible apply below_drew | with_reducible apply below_new)) hb3
             clear hbA
             have hbA := hbN
             clear hbN
             (first | (have hE : RowAt w3 W.heap.size [.bool false, .int .u64 0, .int .u64 0, .int .i64 0, .bool false, .int .u64 0, .int .u64 0, .int .i64 0, .int .u8 0, .int .i64 0, .slice none 0 0] 81 := (by with_reducible first | exact rka hb3 | exact rkb hb3 | exact rkc hb3); have f0 := hE.cell 0; have f1 := hE.cell 1; have f2 := hE.cell 2; have f3 := hE.cell 3; have f4 := hE.cell 4; have f5 := hE.cell 5; have f6 := hE.cell 6; have f7 := hE.cell 7; have f8 := hE.cell 8; have f9 := hE.cell 9; have f10 := hE.cell 10; simp only [List.getElem?_cons_zero, List.getElem?_cons_succ] at f0 f1 f2 f3 f4 f5 f6 f7 f8 f9 f10; have ff := hE.frozen; have hfl := hE.lt) | skip)))
      all_goals go_wp2_with fail
      all_goals go_meet
      all_goals refine ⟨_, _, rfl, rfl, ?_⟩
      all_goals show W0 _ _ _ _ _ _ _ _ _ _
      all_goals first
        | with_reducible exact w0_fn hbA hfe
        | with_reducible exact w0_fa hbA hE hfe
    · have hbA : Below W.heap.size W W := Below.refl _ _
      go_region_held3 (fun V => V.cell? ⟨b1, 0, none⟩ = some (.pointer (some ⟨g, 0, none⟩)) ∧ V.cell? ⟨b2, 0, none⟩ = some (.bool six) ∧ V.cell? ⟨b3, 0, none⟩ = some (.int .u64 z1) ∧ V.cell? ⟨b3, 1, none⟩ = some (.int .u64 z2) ∧ V.cell? ⟨g, kd, none⟩ = some (.slice oK nK cK))
        (first
          | (refine HSK.out _ ?_
             repeat' (first | with_reducible exact hbA | with_reducible apply below_drew | with_reducible apply below_new | with_reducible refine bset ?_ (by have := hbA.size; first | omega | (simp; omega)))))
        (first
          | (go_at_call 41; with_reducible refine (ck _).mono ?_; rintro e w2 ⟨rfl, rfl⟩)
          | (go_at_call 42
             refine (((HSO.out _ (by repeat' (first | with_reducible exact hbA | with_reducible apply below_drew | with_reducible apply below_new))).2 hfe).mono ?_); rintro e w3 ⟨r, o, nn, cc, S, rfl, hfr, hSl, ht3, hb3⟩
             have hbN : Below W.heap.size W w3 := below2 (by repeat' (first | with_reducible exact hbA | with_reducible apply below_drew | with_reducible apply below_new)) hb3
             clear hbA
             have hbA := hbN
             clear hbN
             (first | (have hE : RowAt w3 W.heap.size [.bool false, .int .u64 0, .int .u64 0, .int .i64 0, .bool false, .int .u64 0, .int .u64 0, .int .i64 0, .int .u8 0, .int .i64 0, .slice none 0 0] 81 := (by with_reducible first | exact rka hb3 | exact rkb hb3 | exact rkc hb3); have f0 := hE.cell 0; have f1 := hE.cell 1; have f2 := hE.cell 2; have f3 := hE.cell 3; have f4 := hE.cell 4; have f5 := hE.cell 5; have f6 := hE.cell 6; have f7 := hE.cell 7; have f8 := hE.cell 8; have f9 := hE.cell 9; have f10 := hE.cell 10; simp only [List.getElem?_cons_zero, List.getElem?_cons_succ] at f0 f1 f2 f3 f4 f5 f6 f7 f8 f9 f10; have ff := hE.frozen; have hfl := hE.lt) | skip)))
      all_goals go_wp2_with fail
      all_goals go_meet
      all_goals refine ⟨_, _, rfl, rfl, ?_⟩
      all_goals show W0 _ _ _ _ _ _ _ _ _ _
      all_goals first
        | with_reducible exact w0_tn hbA ht3 HB2.out HBW.out hSl hfr
        | with_reducible exact w0_ta hbA hE ht3 HB2.out HBW.out hSl hfr
  case rest =>
    obtain ⟨g5, is, rfl, rfl, HC⟩ := hcut
    have hg5 := HC.out.ge
    have hJ0 : J [] wc := hJ [] W wc none h0 ⟨HC.out.bl.os, HC.out.bl.tape, HC.out.bl.output, HC.out.bl.size, fun k hk _ => HC.out.bl.block k hk⟩ (fun r e => by cases e)
    have HWS : Hid (WS B wc six a g5 b2 b3 full [] is) := HC.out.ws
    have hbne2 : b2 ≠ g5 := by omega
    have hbne3 : b3 ≠ g5 := by omega
    have HBL : Hid (B ≤ g5) := Nat.le_trans HBW.out hg5
    clear HC HSO HSK HB h0 ck
    gi_wp2_with fail
    gi_loopg [6] full.length (fun k u6 wr => ∃ (pre : List Rt) (is : Bool), u6 = .bool is ∧ k = full.length - pre.length ∧ J pre wr ∧ Hid (WS B wr six a g5 b2 b3 full pre is))
    case atStart => exact ⟨[], is, rfl, by simp, hJ0, HWS⟩
    case round =>
      obtain ⟨pre, is2, rfl, hk, hJs, HS⟩ := hrel
      cases is2
      · have hfu := HS.out.2.1 rfl
        gi_wp2
        refine ⟨fun _ e => (by cases e), ?_⟩
        gi_wp2
        (try simp only [Exit.inBlock, Exit.then])
        refine bodyPost_end (results_none rfl _ _ _) rfl ?_
        exact ⟨⟨_, rfl⟩, full, rfl, by rw [hfu]; exact hJs⟩
      · obtain ⟨f, r, o, nn, cc, S, hI, hSl, hfu⟩ := HS.out.2.2 rfl
        have hM : pre.length < full.length := by rw [hfu]; simp
        obtain ⟨c0, c1, c2, c3, c4, c5, c6, c7, c8, c9, c10⟩ := eleven_at (i := 0) (fun t ht => by rw [Nat.zero_add]; exact hI.node.cell t)
        simp only [Nat.zero_add] at c0 c1 c2 c3 c4 c5 c6 c7 c8 c9 c10
        obtain ⟨fn, tmps, assign, body, hy, hR⟩ := hY pre r _ hJs hM
        unfold encW at hy
        gi_wp2
        refine ⟨fun h => by simp [Fence.wide] at h, ?_⟩
        refine hR.mono ?_
        rintro e W3 ⟨rfl, hJ3, hk3⟩
        have hgB := HBL.out
        have n3 := rowAt_kw hI.node hk3 (by omega) (by omega)
        have s3 := rowAt_kw hI.s6 hk3 (by omega) (by omega)
        have a3 := rowAt_kw hI.ad hk3 (by omega) (by omega)
        have t3 : HasTrie f W3 (fun b => B ≤ b ∧ b < wr.heap.size ∧ b ≠ g5) six (.slice o nn cc) S := HasTrie.keepC f hI.tr (fun b o hq ho hc => hk3.2 b o (by have := hq.1; omega) (by have := hq.1; omega) ho hc) hk3.1
        obtain ⟨cA, cB⟩ := step_over t3 (fun b hb => Nat.lt_of_lt_of_le hb.2.1 hk3.1) ha hSl
        rw [show zeroN = .agg #[.bool false, .int .u64 0, .int .u64 0, .int .i64 0, .bool false, .int .u64 0, .int .u64 0, .int .i64 0, .int .u8 0, .int .i64 0, .slice none 0 0] from rfl] at cA
        unfold nodeV at cB
        have x0 : W3.cell? ⟨g5, 10, none⟩ = some (.slice o nn cc) := n3.cell 10
        have x1 : W3.cell? ⟨b2, 0, none⟩ = some (.bool six) := s3.cell 0
        have x2 : W3.cell? ⟨b3, 0, none⟩ = some (.int .u64 (hiN a : Int)) := a3.cell 0
        have x3 : W3.cell? ⟨b3, 1, none⟩ = some (.int .u64 (loN a : Int)) := a3.cell 1
        have xf := n3.frozen
        have hkk : full.length - (pre ++ [r]).length < gk := by rw [hk, List.length_append]; simp; omega
        clear c0 c1 c2 c3 c4 c5 c6 c7 c8 c9 c10 hI HS hJs
        by_cases hSe : S.filter (hasR six a) = []
        · gi_wp2_with fail
          refine ⟨trivial, fun h => by simp [Fence.wide] at h, ?_⟩
          gi_at_call 42; refine (callsIn_wide.2 (cA hSe)).mono ?_; rintro e w4 ⟨rfl, hb4⟩
          have n4 := n3.below hb4
          have hb2r := s3.below hb4
          have hb3r := a3.below hb4
          obtain ⟨d0, d1, d2, d3, d4, d5, d6, d7, d8, d9, d10⟩ := eleven_at (i := 0) (fun t ht => by rw [Nat.zero_add]; exact n4.cell t)
          simp only [Nat.zero_add] at d0 d1 d2 d3 d4 d5 d6 d7 d8 d9 d10
          have df := n4.frozen
          have dl := n4.lt
          have hgr := putN_grown (grown_b g5 hb4) false 0 0 0 false 0 0 0 0 0 (.slice none 0 0)
          have hJ5 := hJ (pre ++ [r]) W3 _ (some g5) hJ3 hgr (fun r e => by injection e with e; omega)
          have HW5 : Hid (WS B (putN w4 g5 false 0 0 0 false 0 0 0 0 0 (.slice none 0 0)) six a g5 b2 b3 full (pre ++ [r]) false) := ws_false (putN_row n4 rfl _ _ _ _ _ _ _ _ _ _ _) rfl (by rw [hfu, hSe])
          clear cA cB x0 x1 x2 x3 xf n3 n4 s3 a3 t3 hk3 hJ3 hR hy
          gi_wp2
          gi_roundg (full.length - (pre ++ [r]).length)
          case measure => exact hkk
          case rel => exact ⟨pre ++ [r], false, rfl, rfl, hJ5, HW5⟩
        · gi_wp2_with fail
          refine ⟨trivial, fun h => by simp [Fence.wide] at h, ?_⟩
          gi_at_call 42; refine (callsIn_wide.2 (cB hSe)).mono ?_; rintro e w4 ⟨r2, o2, n2, cc2, S2, rfl, hfr2, hS2, ht4, hb4⟩
          have n4 := n3.below hb4
          have hb2r := s3.below hb4
          have hb3r := a3.below hb4
          obtain ⟨d0, d1, d2, d3, d4, d5, d6, d7, d8, d9, d10⟩ := eleven_at (i := 0) (fun t ht => by rw [Nat.zero_add]; exact n4.cell t)
          simp only [Nat.zero_add] at d0 d1 d2 d3 d4 d5 d6 d7 d8 d9 d10
          have df := n4.frozen
          have dl := n4.lt
          have hgr := putN_grown (grown_b g5 hb4) r2.pf.six (hiN r2.pf.n : Int) (loN r2.pf.n : Int) r2.pf.len r2.pf.six (hiN r2.pf.n : Int) (loN r2.pf.n : Int) r2.pf.len (r2.act.k : Int) r2.act.i (.slice o2 n2 cc2)
          have hJ5 := hJ (pre ++ [r]) W3 _ (some g5) hJ3 hgr (fun r e => by injection e with e; omega)
          have HW5 : Hid (WS B (putN w4 g5 r2.pf.six (hiN r2.pf.n : Int) (loN r2.pf.n : Int) r2.pf.len r2.pf.six (hiN r2.pf.n : Int) (loN r2.pf.n : Int) r2.pf.len (r2.act.k : Int) r2.act.i (.slice o2 n2 cc2)) six a g5 b2 b3 full (pre ++ [r]) true) := ws_true (r := r2) (putN_row n4 rfl _ _ _ _ _ _ _ _ _ _ _) ht4 (fun b hb => ⟨hb.1, by rw [sputN]; have h1 := hb.2.1; have h2 := hk3.1; have h3 := hb4.size; omega, hb.2.2, ((putN_grown (World.grownBy.refl w4 _) _ _ _ _ _ _ _ _ _ _ _).block b (by have h1 := hb.2.1; have h2 := hk3.1; have h3 := hb4.size; omega) (fun e => by injection e with e; exact hb.2.2 e))⟩) (by rw [sputN]; exact Nat.le_refl _) (row_other hb2r (putN_grown (World.grownBy.refl w4 _) _ _ _ _ _ _ _ _ _ _ _) hbne2) (row_other hb3r (putN_grown (World.grownBy.refl w4 _) _ _ _ _ _ _ _ _ _ _ _) hbne3) HBL.out hS2 (by rw [hfu, hfr2]; simp)
          clear cA cB x0 x1 x2 x3 xf n3 n4 s3 a3 t3 hk3 hJ3 hR hy
          gi_wp2
          gi_roundg (full.length - (pre ++ [r]).length)
          case measure => exact hkk
          case rel => exact ⟨pre ++ [r], true, rfl, rfl, hJ5, HW5⟩
end Go.Proofs.Ytaaedgfacnaggaa.Tr
