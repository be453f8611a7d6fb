/- The iterator of the way, walked for a loop whose body may leave; its trie lies in blocks of their own. -/
import Derived.Test.YtaaedgfacnaggaaTs12
set_option linter.unusedVariables false
namespace Go.Proofs.Ytaaedgfacnaggaa.Rng
open Go.RowKit
/-- the iterator's word, where the body may leave -/
def TellsB {α : Type} (n : Nat) (P : Program) (g : Nat) (lb : Array Value) (encs : α → Array Value) (Kp : World → World → Prop) (S : List α → Prop) (N : Nat) (w : World) : Prop :=
  ∀ (l : Nat) (J Jx : List α → World → Prop) (W : World), Below w.heap.size w W → Held W.heap.size J → Held W.heap.size Jx →
    (∀ pre x W1, J pre W1 → pre.length < N → (∃ rest, S (pre ++ x :: rest)) → YieldAt Fence.wide (n - 1) P l (encs x) W1 fun e W' => (e = .returned (.bool true) ∧ J (pre ++ [x]) W' ∧ Kp W1 W') ∨ (e = .returned (.bool false) ∧ Jx (pre ++ [x]) W' ∧ Kp W1 W')) →
    J [] W → CallsIn Fence.wide n P g (#[.func (.yield l) #[] #[]] ++ lb) W fun e W' => (∃ v, e = .returned v) ∧ ((∃ xs, S xs ∧ J xs W') ∨ ∃ xs, Jx xs W')
theorem range_cellsB {α : Type} {n : Nat} {P : Program} {g : Operand} {ps : Array Tmp} {assign body : Code} {Q : Exit → Act → World → Prop} {a : Act} {w : World}
    (h1 : 1 ≤ n) {gf : Nat} {lb : Array Value} (hg : a.eval g = .func (.func gf) #[] lb) (eg : ∀ args w, (callFunc gf args).run P w = .ok (.enter gf args) w)
    {encs : α → Array Value} {Kp : World → World → Prop} {S : List α → Prop} {N : Nat} (hseq : TellsB (n - 1) P gf lb encs Kp S N w)
    (hKt : ∀ {A B C : World}, Kp A B → Kp B C → Kp A C) (hKb : ∀ (W : World) (l : Nat) (o o' : Obj), W.heap[l]? = some o → o.isCells = false → Kp W (W.putObj l o')) (hps : ∀ x, (encs x).size = ps.size)
    (I : List α → World → Prop) (hI : Held w.heap.size I) (Ix : Nat → List α → World → Prop) (hIx : ∀ id, Held w.heap.size (Ix id)) (h0 : I [] w) (Ax : α → Act → World → Prop) (hAx : ∀ x a' W l o o', Ax x a' W → W.heap[l]? = some o → o.isCells = false → Ax x a' (W.putObj l o'))
    (hassign : ∀ (l : Nat) (pre : List α) (x : α) (W : World) (K : Act → World → Prop), I pre W → (∀ a' W', KeepsFrom w.heap.size W W' → Kp W W' → I pre W' → Ax x a' W' → K a' W') →
      assign.wpIn (Fence.wide.inRound l) (n - 1 - 1) P (Exit.then K (fun _ _ _ => False)) { tmps := (ps.zip (encs x)).foldl (fun t (p, v) => t.setIfInBounds p v) a.tmps, defers := [] } W)
    (hbody : ∀ (l : Nat) (pre : List α) (x : α) (a' : Act) (W : World), I pre W → (∃ rest, S (pre ++ x :: rest)) → Ax x a' W → body.wpIn (Fence.wide.inRound l) (n - 1 - 1) P (fun e _ W' => (e = .normal ∧ KeepsFrom w.heap.size W W' ∧ Kp W W' ∧ I (pre ++ [x]) W') ∨ ∃ id, e = .exit id ∧ KeepsFrom w.heap.size W W' ∧ Kp W W' ∧ Ix id (pre ++ [x]) W') a' W)
    (hdone : ∀ (D : Nat) (xs : List α) (W : World), w.heap.size ≤ D → S xs → I xs W → W.heap[D]? = some (.deferred (some [])) → Q .normal { a with defers := { target := .collected D, args := #[] } :: a.defers } W)
    (hstop : ∀ (D id : Nat) (xs : List α) (W : World), w.heap.size ≤ D → Ix id xs W → W.heap[D]? = some (.deferred (some [])) → (Code.exit id).wpIn Fence.wide n P Q { a with defers := { target := .collected D, args := #[] } :: a.defers } W) :
    (Code.rangeFunc g ps assign body).wpIn Fence.wide n P Q a w := by
  refine wpIn_rangeFunc fun fn hfn => ?_
  obtain ⟨rc, hrc⟩ : ∃ rc : LoopState → Loop, rc = fun st => { state := st, pending := none, fn, tmps := a.tmps, params := ps, assign, body, defers := w.heap.size } := ⟨_, rfl⟩
  obtain ⟨D, hD⟩ : ∃ D, D = w.heap.size := ⟨_, rfl⟩
  obtain ⟨V, hV⟩ : ∃ V, V = (w.alloc (.deferred (some []))).alloc (.loop (rc .ready)) := ⟨_, rfl⟩
  have hVs : V.heap.size = D + 2 := by rw [hV, World.size_alloc, World.size_alloc, hD]
  have hVr : V.heap[D + 1]? = some (.loop (rc .ready)) := by
    have := World.alloc_heap_new (w.alloc (.deferred (some []))) (.loop (rc .ready))
    rw [World.size_alloc, ← hV, ← hD] at this
    exact this
  have hVd : V.heap[D]? = some (.deferred (some [])) := by rw [hV, hD]; exact (Below.heap_alloc _ _ _ (by simp)).trans (World.alloc_heap_new w _)
  have hVb : Below w.heap.size w V := by rw [hV]; exact ((Below.refl _ w).alloc (Nat.le_refl _) _).alloc (by simp) _
  have hVI : I [] V := by
    rw [hV]
    exact hI _ _ _ none (hI _ _ _ none h0 (World.grownBy_alloc _ _ none) (fun r e => by cases e)) (World.grownBy_alloc _ _ none) (fun r e => by cases e)
  refine ⟨D + 1, [{ target := .collected D, args := #[] }], V, { target := .fn (.func gf) lb, args := #[.func (.yield (D + 1)) #[] #[]] }, V, gf, #[.func (.yield (D + 1)) #[] #[]] ++ lb, V, ?_, ?_, fun _ _ => trivial, ?_, fun _ => h1, ?_⟩
  · rw [hV, hrc, hD]; exact run_enterLoop_outer _ _ _ _ _
  · simp only [resolve, hg]
    simp [go_sem]
  · simp [invoke, go_sem, eg]
  refine (hseq (D + 1) (fun pre W => I pre W ∧ W.heap[D + 1]? = some (.loop (rc .ready)) ∧ W.heap[D]? = some (.deferred (some []))) (fun pre W => ∃ id, Ix id pre W ∧ W.heap[D + 1]? = some (.loop { rc .ready with state := .done, pending := some (.exit id) }) ∧ W.heap[D]? = some (.deferred (some []))) V hVb ?_ ?_ ?_ ⟨hVI, hVr, hVd⟩).mono ?_
  · intro s A B row hs hgr hr
    have keep : ∀ k o, k < D + 2 → A.heap[k]? = some o → B.heap[k]? = some o := fun k o hk ho => (hgr.block k (Array.getElem?_eq_some_iff.1 ho).1 (fun e => by have := hr k e.symm; omega)).trans ho
    exact ⟨hI s A B row hs.1 hgr (fun r e => by have := hr r e; omega), keep _ _ (by omega) hs.2.1, keep _ _ (by omega) hs.2.2⟩
  · rintro s A B row ⟨id, hs, h1, h2⟩ hgr hr
    have keep : ∀ k o, k < D + 2 → A.heap[k]? = some o → B.heap[k]? = some o := fun k o hk ho => (hgr.block k (Array.getElem?_eq_some_iff.1 ho).1 (fun e => by have := hr k e.symm; omega)).trans ho
    exact ⟨id, hIx id s A B row hs hgr (fun r e => by have := hr r e; omega), keep _ _ (by omega) h1, keep _ _ (by omega) h2⟩
  · rintro pre x W ⟨hi, hl, hk⟩ hlen hrest
    have hy := run_yield (P := P) (args := encs x) hl (by rw [hrc]; exact hps x)
    rw [hrc] at hy
    refine ⟨fn, _, assign, body, hy, roundIn_of_wpIn hfn (hassign _ pre x W _ hi ?_)⟩
    clear hy
    intro a' Wa kf kp ia ax
    have la := kf.same _ _ (by omega) hl rfl
    have ka := kf.same _ _ (by omega) hk rfl
    refine ⟨_, run_beginRound la (by rw [hrc]), ?_⟩
    obtain ⟨Wb, hWb⟩ : ∃ Wb, Wb = Wa.putObj (D + 1) (.loop { rc .ready with state := .busy }) := ⟨_, rfl⟩
    have lb2 : Wb.heap[D + 1]? = some (.loop { rc .ready with state := .busy }) := by rw [hWb]; exact World.putObj_heap_same (Array.getElem?_eq_some_iff.1 la).1
    have kb2 : Wb.heap[D]? = some (.deferred (some [])) := by rw [hWb]; exact (World.putObj_heap_other (by omega)).trans ka
    have kpb : Kp W Wb := by rw [hWb]; exact hKt kp (hKb _ _ _ _ la rfl)
    have ib : I pre Wb := by rw [hWb]; exact hI.put _ ia (by omega)
    have axb : Ax x a' Wb := by rw [hWb]; exact hAx _ _ _ _ _ _ ax la rfl
    rw [← hWb]
    refine wpIn_mono (hbody _ pre x a' Wb ib hrest axb) ?_
    rintro e a3 W3 (⟨rfl, kf3, kp3, i3⟩ | ⟨id, rfl, kf3, kp3, i3⟩)
    · have l3 := kf3.same _ _ (by omega) lb2 rfl
      have k3 := kf3.same _ _ (by omega) kb2 rfl
      have hend := run_endRound (P := P) none l3
      refine ⟨_, _, hend, .inl ⟨rfl, ⟨hI.put _ i3 (by omega), ?_, (World.putObj_heap_other (by omega)).trans k3⟩, hKt (hKt kpb kp3) (hKb _ _ _ _ l3 rfl)⟩⟩
      rw [hrc]
      exact World.putObj_heap_same (Array.getElem?_eq_some_iff.1 l3).1
    · have l3 := kf3.same _ _ (by omega) lb2 rfl
      have k3 := kf3.same _ _ (by omega) kb2 rfl
      have hend := run_endRound (P := P) (some (.exit id)) l3
      refine ⟨_, _, hend, .inr ⟨rfl, ⟨id, (hIx id).put _ i3 (by omega), ?_, (World.putObj_heap_other (by omega)).trans k3⟩, hKt (hKt kpb kp3) (hKb _ _ _ _ l3 rfl)⟩⟩
      rw [hrc]
      exact World.putObj_heap_same (Array.getElem?_eq_some_iff.1 l3).1
  · rintro e W2 ⟨⟨v, rfl⟩, h2⟩
    rcases h2 with ⟨xs, hS, hi, hl, hk⟩ | ⟨xs, id, hi, hl, hk⟩
    · refine ⟨none, _, by have := run_endLoop (P := P) hl (by rw [hrc]; simp); rw [hrc] at this; exact this, ?_⟩
      exact hdone D xs _ (by omega) hS (hI.put _ hi (by omega)) ((World.putObj_heap_other (by omega)).trans hk)
    · refine ⟨some (.exit id), _, by have := run_endLoop (P := P) hl (by simp); exact this, ?_⟩
      exact hstop D id xs _ (by omega) ((hIx id).put _ hi (by omega)) ((World.putObj_heap_other (by omega)).trans hk)
end Go.Proofs.Ytaaedgfacnaggaa.Rng
namespace Go.Proofs.Ytaaedgfacnaggaa.Tr
open Go.RowKit Go.Shelf
open Go.Proofs.Ytaaedgfacnaggaa.Rng
open Go.Proofs.Ytaaedgfacnaggaa.Addr (hiN loN RowAt below2 below_drew below_new bset RowAt.lt RowAt.cell RowAt.frozen RowAt.below RowAt.new RowAt.alloc)
attribute [local go_sem] Oper.semAt_some
/-- the iterator between two rounds, its trie in blocks of their own -/
structure WayJ (Q : Nat → Prop) (W : World) (six : Bool) (a g5 b2 b3 : Nat) (f : Nat) (r : Rt) (u : Value) (S : List Rt) : Prop where
  node : RowAt W g5 (nodeC r u) 81
  tr : HasTrie f W Q six u S
  s6 : RowAt W b2 [.bool six] 4
  ad : RowAt W b3 [.int .u64 (hiN a : Int), .int .u64 (loN a : Int)] 25
def WJ (Q : Nat → Prop) (W : World) (six : Bool) (a g5 b2 b3 : Nat) (full pre : List Rt) (is : Bool) : Prop :=
  (∃ cs, cs.length = 11 ∧ RowAt W g5 cs 81) ∧ (is = false → full = pre) ∧ (is = true → ∃ f r o n c S, WayJ Q W six a g5 b2 b3 f r (.slice o n c) S ∧ S.length ≤ 256 ∧ full = pre ++ (r :: S.filter (hasR six a)))
theorem wj_true {Q : Nat → Prop} {a g5 b2 b3 : Nat} {w3 wc : World} {six : Bool} {full pre : List Rt} {f : Nat} {r : Rt} {o : Option Addr} {n c : Nat} {S : List Rt} (hrow : RowAt wc g5 (nodeC r (.slice o n c)) 81) (ht : HasTrie f w3 Q six (.slice o n c) S) (hQ : ∀ b, Q b → wc.heap[b]? = w3.heap[b]?) (hsz : w3.heap.size ≤ wc.heap.size) (h2 : RowAt wc b2 [.bool six] 4) (h3 : RowAt wc b3 [.int .u64 (hiN a : Int), .int .u64 (loN a : Int)] 25) (hS : S.length ≤ 256) (hfull : full = pre ++ (r :: S.filter (hasR six a))) : WJ Q wc six a g5 b2 b3 full pre true :=
  ⟨⟨_, rfl, hrow⟩, (fun h => by cases h), fun _ => ⟨f, r, o, n, c, S, ⟨hrow, HasTrie.keepQ f ht hQ hsz, h2, h3⟩, hS, hfull⟩⟩
theorem wj_false {Q : Nat → Prop} {a g5 b2 b3 : Nat} {wc : World} {six : Bool} {full pre : List Rt} {cs : List Value} (hrow : RowAt wc g5 cs 81) (hc : cs.length = 11) (hfull : full = pre) : WJ Q wc six a g5 b2 b3 full pre false :=
  ⟨⟨cs, hc, hrow⟩, fun _ => hfull, (fun h => by cases h)⟩
structure WJ0 (Q : Nat → Prop) (W wc : World) (six : Bool) (a g5 b2 b3 : Nat) (full : List Rt) (is : Bool) : Prop where
  bl : Below W.heap.size W wc
  ge : W.heap.size ≤ g5
  ws : WJ Q wc six a g5 b2 b3 full [] is
theorem wj_fn {Q : Nat → Prop} {a b2 b3 : Nat} {W w3 : World} {six : Bool} {full : List Rt} (hbA : Below W.heap.size W w3) (hfe : full = []) : WJ0 Q W (w3.alloc (.cells #[.bool false, .int .u64 0, .int .u64 0, .int .i64 0, .bool false, .int .u64 0, .int .u64 0, .int .i64 0, .int .u8 0, .int .i64 0, .slice none 0 0] 81)) six a w3.heap.size b2 b3 full false :=
  ⟨below_new hbA _, hbA.size, wj_false (RowAt.new w3 [_, _, _, _, _, _, _, _, _, _, _] _) rfl hfe⟩
theorem wj_fa {Q : Nat → Prop} {a b2 b3 : Nat} {W w3 : World} {six : Bool} {full : List Rt} (hbA : Below W.heap.size W w3) (hE : RowAt w3 W.heap.size [.bool false, .int .u64 0, .int .u64 0, .int .i64 0, .bool false, .int .u64 0, .int .u64 0, .int .i64 0, .int .u8 0, .int .i64 0, .slice none 0 0] 81) (hfe : full = []) : WJ0 Q W (((((((((((w3.setCell ⟨W.heap.size, 0, none⟩ (.bool false)).setCell ⟨W.heap.size, 1, none⟩ (.int .u64 0)).setCell ⟨W.heap.size, 2, none⟩ (.int .u64 0)).setCell ⟨W.heap.size, 3, none⟩ (.int .i64 0)).setCell ⟨W.heap.size, 4, none⟩ (.bool false)).setCell ⟨W.heap.size, 5, none⟩ (.int .u64 0)).setCell ⟨W.heap.size, 6, none⟩ (.int .u64 0)).setCell ⟨W.heap.size, 7, none⟩ (.int .i64 0)).setCell ⟨W.heap.size, 8, none⟩ (.int .u8 0)).setCell ⟨W.heap.size, 9, none⟩ (.int .i64 0)).setCell ⟨W.heap.size, 10, none⟩ (.slice none 0 0)) six a W.heap.size b2 b3 full false :=
  ⟨bputN hbA (Nat.le_refl _) _ _ _ _ _ _ _ _ _ _ _, Nat.le_refl _, wj_false (putN_row hE rfl _ _ _ _ _ _ _ _ _ _ _) rfl hfe⟩
theorem wj_tn {Q : Nat → Prop} {a b2 b3 : Nat} {W w3 : World} {six : Bool} {full : List Rt} {r : Rt} {o : Option Addr} {n c : Nat} {S : List Rt} (hbA : Below W.heap.size W w3) (ht3 : HasTrie 256 w3 Q six (.slice o n c) S) (hQ : ∀ b, Q b → b < W.heap.size) (HB2 : ∀ V : World, Below W.heap.size W V → RowAt V b2 [.bool six] 4 ∧ RowAt V b3 [.int .u64 (hiN a : Int), .int .u64 (loN a : Int)] 25) (hSl : S.length ≤ 256) (hfr : full = r :: S.filter (hasR six a)) : WJ0 Q W (w3.alloc (.cells #[.bool r.pf.six, .int .u64 (hiN r.pf.n : Int), .int .u64 (loN r.pf.n : Int), .int .i64 r.pf.len, .bool r.pf.six, .int .u64 (hiN r.pf.n : Int), .int .u64 (loN r.pf.n : Int), .int .i64 r.pf.len, .int .u8 (r.act.k : Int), .int .i64 r.act.i, .slice o n c] 81)) six a w3.heap.size b2 b3 full true :=
  ⟨below_new hbA _, hbA.size, wj_true (r := r) (RowAt.new w3 [_, _, _, _, _, _, _, _, _, _, _] _) ht3 (fun b hb => Below.heap_alloc w3 _ _ (Nat.lt_of_lt_of_le (hQ b hb) hbA.size)) (by simp) (HB2 _ (below_new hbA _)).1 (HB2 _ (below_new hbA _)).2 hSl hfr⟩
theorem wj_ta {Q : Nat → Prop} {a b2 b3 : Nat} {W w3 : World} {six : Bool} {full : List Rt} {r : Rt} {o : Option Addr} {n c : Nat} {S : List Rt} (hbA : Below W.heap.size W w3) (hE : RowAt w3 W.heap.size [.bool false, .int .u64 0, .int .u64 0, .int .i64 0, .bool false, .int .u64 0, .int .u64 0, .int .i64 0, .int .u8 0, .int .i64 0, .slice none 0 0] 81) (ht3 : HasTrie 256 w3 Q six (.slice o n c) S) (hQ : ∀ b, Q b → b < W.heap.size) (HB2 : ∀ V : World, Below W.heap.size W V → RowAt V b2 [.bool six] 4 ∧ RowAt V b3 [.int .u64 (hiN a : Int), .int .u64 (loN a : Int)] 25) (hSl : S.length ≤ 256) (hfr : full = r :: S.filter (hasR six a)) : WJ0 Q W (((((((((((w3.setCell ⟨W.heap.size, 0, none⟩ (.bool r.pf.six)).setCell ⟨W.heap.size, 1, none⟩ (.int .u64 (hiN r.pf.n : Int))).setCell ⟨W.heap.size, 2, none⟩ (.int .u64 (loN r.pf.n : Int))).setCell ⟨W.heap.size, 3, none⟩ (.int .i64 r.pf.len)).setCell ⟨W.heap.size, 4, none⟩ (.bool r.pf.six)).setCell ⟨W.heap.size, 5, none⟩ (.int .u64 (hiN r.pf.n : Int))).setCell ⟨W.heap.size, 6, none⟩ (.int .u64 (loN r.pf.n : Int))).setCell ⟨W.heap.size, 7, none⟩ (.int .i64 r.pf.len)).setCell ⟨W.heap.size, 8, none⟩ (.int .u8 (r.act.k : Int))).setCell ⟨W.heap.size, 9, none⟩ (.int .i64 r.act.i)).setCell ⟨W.heap.size, 10, none⟩ (.slice o n c)) six a W.heap.size b2 b3 full true :=
  ⟨bputN hbA (Nat.le_refl _) _ _ _ _ _ _ _ _ _ _ _, Nat.le_refl _, wj_true (r := r) (putN_row hE rfl _ _ _ _ _ _ _ _ _ _ _) ht3 (fun b hb => (putN_grown (World.grownBy.refl w3 _) _ _ _ _ _ _ _ _ _ _ _).block b (Nat.lt_of_lt_of_le (hQ b hb) hbA.size) (fun e => by injection e with e; have := hQ b hb; omega)) (Nat.le_of_eq (sputN w3 W.heap.size r.pf.six (hiN r.pf.n : Int) (loN r.pf.n : Int) r.pf.len r.pf.six (hiN r.pf.n : Int) (loN r.pf.n : Int) r.pf.len (r.act.k : Int) r.act.i (.slice o n c)).symm) (HB2 _ (bputN hbA (Nat.le_refl _) _ _ _ _ _ _ _ _ _ _ _)).1 (HB2 _ (bputN hbA (Nat.le_refl _) _ _ _ _ _ _ _ _ _ _ _)).2 hSl hfr⟩
set_option maxHeartbeats 16000000 in
set_option maxRecDepth 20000 in
theorem way2_tellsB {Q : Nat → Prop} {g : Nat} {u0 u1 uK : Value} {K : List Rt} (six : Bool) (a n b1 b2 b3 bL : Nat) (w : World) (hT : RowAt w g [u0, u1] 85) (hK : uK = if six then u1 else u0) (hTr : HasTrie 257 w Q six uK K) (h1 : RowAt w b1 [.pointer (some ⟨g, 0, none⟩)] 42) (h2 : RowAt w b2 [.bool six] 4) (h3 : RowAt w b3 [.int .u64 (hiN a : Int), .int .u64 (loN a : Int)] 25)
    (hQ0 : ∀ b, Q b → b < w.heap.size ∧ b ≠ bL) (hLw : bL < w.heap.size) (hn2 : b2 ≠ bL) (hn3 : b3 ≠ bL) (ha : a < 2 ^ 128) (hl : K.length ≤ 256) :
    TellsB n Try.prog 40 #[.pointer (some ⟨b1, 0, none⟩), .pointer (some ⟨b2, 0, none⟩), .pointer (some ⟨b3, 0, none⟩)] encW (Kw bL bL) (fun xs => xs = K.filter (hasR six a)) (K.filter (hasR six a)).length w := by
  intro lp J Jx W hWb hJ hJx hY h0
  have hT' := hT.below hWb
  have r1 := h1.below hWb
  have r2 := h2.below hWb
  have r3 := h3.below hWb
  have hLW : bL < W.heap.size := Nat.lt_of_lt_of_le hLw hWb.size
  have hQ : ∀ b, Q b → b < W.heap.size := fun b hb => Nat.lt_of_lt_of_le (hQ0 b hb).1 hWb.size
  have hQ2 : ∀ b, Q b → b ≠ bL := fun b hb => (hQ0 b hb).2
  have htr : HasTrie 257 W Q six uK K := HasTrie.below hTr (fun b hb => (hQ0 b hb).1) hWb
  have hcell : W.cell? ⟨g, kindN six, none⟩ = some uK := by
    rw [hK]
    cases six with
    | true => exact hT'.cell 1
    | false => exact hT'.cell 0
  clear hTr hQ0 hLw
  have ck := fun W => kind_any six W
  have hkd : (kindN six : Int) = 0 ∨ (kindN six : Int) = 1 := by cases six <;> simp [kindN]
  obtain ⟨full, hfull⟩ : ∃ full, full = K.filter (hasR six a) := ⟨_, rfl⟩
  rw [← hfull] at hY ⊢
  have hgl : g < W.heap.size := hT'.lt
  obtain ⟨oK, nK, cK, rfl⟩ := trie_slice htr
  have HW : Hid (∀ V : World, Below W.heap.size W V → HasTrie 257 V Q six (.slice oK nK cK) K) := fun V hb => HasTrie.below htr hQ hb
  have HB : Hid (∀ V : World, Below W.heap.size W V → RowAt V b1 [.pointer (some ⟨g, 0, none⟩)] 42 ∧ RowAt V b2 [.bool six] 4 ∧ RowAt V b3 [.int .u64 (hiN a : Int), .int .u64 (loN a : Int)] 25 ∧ V.cell? ⟨g, kindN six, none⟩ = some (.slice oK nK cK)) := fun V hb => ⟨r1.below hb, r2.below hb, r3.below hb, (hb.cell (p := ⟨g, kindN six, none⟩) hgl).trans hcell⟩
  have HSO : Hid (∀ V : World, Below W.heap.size W V → (full = [] → Calls Try.prog 42 #[.slice oK nK cK, .bool six, .agg #[.int .u64 (hiN a : Int), .int .u64 (loN a : Int)]] V fun e w' => e = .returned (.tuple #[zeroN, .bool false]) ∧ Below V.heap.size V w') ∧ (full ≠ [] → Calls Try.prog 42 #[.slice oK nK cK, .bool six, .agg #[.int .u64 (hiN a : Int), .int .u64 (loN a : Int)]] V fun e w' => ∃ r o n c S, e = .returned (.tuple #[nodeV r (.slice o n c), .bool true]) ∧ full = r :: S.filter (hasR six a) ∧ S.length ≤ 256 ∧ HasTrie 256 w' Q six (.slice o n c) S ∧ Below V.heap.size V w')) := fun V hb => by
    rw [hfull]
    exact step_over (HW.out V hb) (fun b hq => Nat.lt_of_lt_of_le (hQ b hq) hb.size) ha hl
  have hs2 : b2 < W.heap.size := r2.lt
  have hs3 : b3 < W.heap.size := r3.lt
  clear hT hT' h1 h2 h3 htr hcell hfull hK r1 r2 r3 HW
  show CallsIn Fence.wide n Try.prog 40 #[.func (.yield lp) #[] #[], .pointer (some ⟨b1, 0, none⟩), .pointer (some ⟨b2, 0, none⟩), .pointer (some ⟨b3, 0, none⟩)] W _
  refine callsIn_of_wp Try.func40 rfl trivial ?_ rfl
  simp only [Try.ntmps40, List.size_toArray, List.length_cons, List.length_nil, Nat.reduceAdd, Nat.reduceSub, Array.replicate_succ, Array.replicate_zero, List.push_toArray, List.append_toArray, List.nil_append, List.cons_append]
  have hk0 : (0 : Int) ≤ (kindN six : Int) := by omega
  have hk2 : (kindN six : Int) < 2 := by omega
  obtain ⟨z1, hz1⟩ : ∃ z1, z1 = (hiN a : Int) := ⟨_, rfl⟩
  obtain ⟨z2, hz2⟩ : ∃ z2, z2 = (loN a : Int) := ⟨_, rfl⟩
  rw [← hz1, ← hz2] at HSO HB
  have HZ : Hid (z1 = (hiN a : Int) ∧ z2 = (loN a : Int)) := ⟨hz1, hz2⟩
  generalize kindN six = kd at *
  have HSK : Hid (∀ V : World, Below W.heap.size W V → V.cell? ⟨b1, 0, none⟩ = some (.pointer (some ⟨g, 0, none⟩)) ∧ V.cell? ⟨b2, 0, none⟩ = some (.bool six) ∧ V.cell? ⟨b3, 0, none⟩ = some (.int .u64 z1) ∧ V.cell? ⟨b3, 1, none⟩ = some (.int .u64 z2) ∧ V.cell? ⟨g, kd, none⟩ = some (.slice oK nK cK)) := fun V hb => ⟨(HB.out V hb).1.cell 0, (HB.out V hb).2.1.cell 0, (HB.out V hb).2.2.1.cell 0, (HB.out V hb).2.2.1.cell 1, (HB.out V hb).2.2.2⟩
  have HB2 : Hid (∀ V : World, Below W.heap.size W V → RowAt V b2 [.bool six] 4 ∧ RowAt V b3 [.int .u64 (hiN a : Int), .int .u64 (loN a : Int)] 25) := fun V hb => ⟨(HB.out V hb).2.1, by rw [← HZ.out.1, ← HZ.out.2]; exact (HB.out V hb).2.2.1⟩
  have HQ : Hid (∀ b, Q b → b < W.heap.size) := hQ
  have HQ2 : Hid (∀ b, Q b → b ≠ bL) := hQ2
  clear hQ hQ2
  clear hz1 hz2 hkd
  have hzn : zeroN = .agg #[.bool false, .int .u64 0, .int .u64 0, .int .i64 0, .bool false, .int .u64 0, .int .u64 0, .int .i64 0, .int .u8 0, .int .i64 0, .slice none 0 0] := rfl
  rw [hzn] at HSO
  unfold nodeV at HSO
  clear hzn
  gi_wp2_with fail
  refine wpIn_wide.2 ?_
  go_cut [5, 6] (fun d5 d6 wc => ∃ (g5 : Nat) (is : Bool), d5 = .pointer (some ⟨g5, 0, none⟩) ∧ d6 = .bool is ∧ Hid (WJ0 Q W wc six a g5 b2 b3 full is))
  case first =>
    by_cases hfe : full = []
    · have hbA : Below W.heap.size W W := Below.refl _ _
      go_region_held3 (fun V => V.cell? ⟨b1, 0, none⟩ = some (.pointer (some ⟨g, 0, none⟩)) ∧ V.cell? ⟨b2, 0, none⟩ = some (.bool six) ∧ V.cell? ⟨b3, 0, none⟩ = some (.int .u64 z1) ∧ V.cell? ⟨b3, 1, none⟩ = some (.int .u64 z2) ∧ V.cell? ⟨g, kd, none⟩ = some (.slice oK nK cK))
        (first
          | (refine HSK.out _ ?_
             repeat' (first | with_reducible exact hbA | with_reducible apply below_drew | with_reducible apply below_new | with_reducible refine bset ?_ (by have := hbA.size; first | omega | (simp; omega)))))
        (first
          | (go_at_call 41; with_reducible refine (ck _).mono ?_; rintro e w2 ⟨rfl, rfl⟩)
          | (go_at_call 42
             refine (((HSO.out _ (by repeat' (first | with_reducible exact hbA | with_reducible apply below_drew | with_reducible apply below_new))).1 hfe).mono ?_); rintro e w3 ⟨rfl, hb3⟩
             have hbN : Below W.heap.size W w3 := below2 (by repeat' (first | with_reducible exact hbA | with_reducible apply below_drew | with_reducible apply below_new)) hb3
             clear hbA
             have hbA := hbN
             clear hbN
             (first | (have hE : RowAt w3 W.heap.size [.bool false, .int .u64 0, .int .u64 0, .int .i64 0, .bool false, .int .u64 0, .int .u64 0, .int .i64 0, .int .u8 0, .int .i64 0, .slice none 0 0] 81 := (by with_reducible first | exact rka hb3 | exact rkb hb3 | exact rkc hb3); have f0 := hE.cell 0; have f1 := hE.cell 1; have f2 := hE.cell 2; have f3 := hE.cell 3; have f4 := hE.cell 4; have f5 := hE.cell 5; have f6 := hE.cell 6; have f7 := hE.cell 7; have f8 := hE.cell 8; have f9 := hE.cell 9; have f10 := hE.cell 10; simp only [List.getElem?_cons_zero, List.getElem?_cons_succ] at f0 f1 f2 f3 f4 f5 f6 f7 f8 f9 f10; have ff := hE.frozen; have hfl := hE.lt) | skip)))
      all_goals go_wp2_with fail
      all_goals go_meet
      all_goals refine ⟨_, _, rfl, rfl, ?_⟩
      all_goals show WJ0 _ _ _ _ _ _ _ _ _ _
      all_goals first
        | with_reducible exact wj_fn hbA hfe
        | with_reducible exact wj_fa hbA hE hfe
    · have hbA : Below W.heap.size W W := Below.refl _ _
      go_region_held3 (fun V => V.cell? ⟨b1, 0, none⟩ = some (.pointer (some ⟨g, 0, none⟩)) ∧ V.cell? ⟨b2, 0, none⟩ = some (.bool six) ∧ V.cell? ⟨b3, 0, none⟩ = some (.int .u64 z1) ∧ V.cell? ⟨b3, 1, none⟩ = some (.int .u64 z2) ∧ V.cell? ⟨g, kd, none⟩ = some (.slice oK nK cK))
        (first
          | (refine HSK.out _ ?_
             repeat' (first | with_reducible exact hbA | with_reducible apply below_drew | with_reducible apply below_new | with_reducible refine bset ?_ (by have := hbA.size; first | omega | (simp; omega)))))
        (first
          | (go_at_call 41; with_reducible refine (ck _).mono ?_; rintro e w2 ⟨rfl, rfl⟩)
          | (go_at_call 42
             refine (((HSO.out _ (by repeat' (first | with_reducible exact hbA | with_reducible apply below_drew | with_reducible apply below_new))).2 hfe).mono ?_); rintro e w3 ⟨r, o, nn, cc, S, rfl, hfr, hSl, ht3, hb3⟩
             have hbN : Below W.heap.size W w3 := below2 (by repeat' (first | with_reducible exact hbA | with_reducible apply below_drew | with_reducible apply below_new)) hb3
             clear hbA
             have hbA := hbN
             clear hbN
             (first | (have hE : RowAt w3 W.heap.size [.bool false, .int .u64 0, .int .u64 0, .int .i64 0, .bool false, .int .u64 0, .int .u64 0, .int .i64 0, .int .u8 0, .int .i64 0, .slice none 0 0] 81 := (by with_reducible first | exact rka hb3 | exact rkb hb3 | exact rkc hb3); have f0 := hE.cell 0; have f1 := hE.cell 1; have f2 := hE.cell 2; have f3 := hE.cell 3; have f4 := hE.cell 4; have f5 := hE.cell 5; have f6 := hE.cell 6; have f7 := hE.cell 7; have f8 := hE.cell 8; have f9 := hE.cell 9; have f10 := hE.cell 10; simp only [List.getElem?_cons_zero, List.getElem?_cons_succ] at f0 f1 f2 f3 f4 f5 f6 f7 f8 f9 f10; have ff := hE.frozen; have hfl := hE.lt) | skip)))
      all_goals go_wp2_with fail
      all_goals go_meet
      all_goals refine ⟨_, _, rfl, rfl, ?_⟩
      all_goals show WJ0 _ _ _ _ _ _ _ _ _ _
      all_goals first
        | with_reducible exact wj_tn hbA ht3 HQ.out HB2.out hSl hfr
        | with_reducible exact wj_ta hbA hE ht3 HQ.out HB2.out hSl hfr
  case rest =>
    obtain ⟨g5, is, rfl, rfl, HC⟩ := hcut
    have hg5 := HC.out.ge
    have hJ0 : J [] wc := hJ [] W wc none h0 ⟨HC.out.bl.os, HC.out.bl.tape, HC.out.bl.output, HC.out.bl.size, fun k hk _ => HC.out.bl.block k hk⟩ (fun r e => by cases e)
    have HWS : Hid (WJ Q wc six a g5 b2 b3 full [] is) := HC.out.ws
    have hbne2 : b2 ≠ g5 := by omega
    have hbne3 : b3 ≠ g5 := by omega
    clear HC HSO HSK HB h0 ck
    gi_wp2_with fail
    gi_loopg [6] full.length (fun k u6 wr => ∃ (pre : List Rt) (is : Bool), u6 = .bool is ∧ k = full.length - pre.length ∧ J pre wr ∧ Hid (WJ Q wr six a g5 b2 b3 full pre is))
    case atStart => exact ⟨[], is, rfl, by simp, hJ0, HWS⟩
    case round =>
      obtain ⟨pre, is2, rfl, hk, hJs, HS⟩ := hrel
      cases is2
      · have hfu := HS.out.2.1 rfl
        gi_wp2
        refine ⟨fun _ e => (by cases e), ?_⟩
        gi_wp2
        (try simp only [Exit.inBlock, Exit.then])
        refine bodyPost_end (results_none rfl _ _ _) rfl ?_
        exact ⟨⟨_, rfl⟩, .inl ⟨full, rfl, by rw [hfu]; exact hJs⟩⟩
      · obtain ⟨f, r, o, nn, cc, S, hI, hSl, hfu⟩ := HS.out.2.2 rfl
        have hM : pre.length < full.length := by rw [hfu]; simp
        obtain ⟨c0, c1, c2, c3, c4, c5, c6, c7, c8, c9, c10⟩ := eleven_at (i := 0) (fun t ht => by rw [Nat.zero_add]; exact hI.node.cell t)
        simp only [Nat.zero_add] at c0 c1 c2 c3 c4 c5 c6 c7 c8 c9 c10
        obtain ⟨fn, tmps, assign, body, hy, hR⟩ := hY pre r _ hJs hM ⟨_, hfu.symm⟩
        unfold encW at hy
        gi_wp2
        refine ⟨fun h => by simp [Fence.wide] at h, ?_⟩
        refine hR.mono ?_
        rintro e W3 (⟨rfl, hJ3, hk3⟩ | ⟨rfl, hJ3, hk3⟩)
        rotate_left
        · clear c0 c1 c2 c3 c4 c5 c6 c7 c8 c9 c10 hI HS hJs hy hR
          gi_wp2
          (try simp only [Exit.inBlock, Exit.then])
          refine bodyPost_end (results_none rfl _ _ _) rfl ?_
          exact ⟨⟨_, rfl⟩, .inr ⟨_, hJ3⟩⟩
        have n3 := rowAt_kw hI.node hk3 (by omega) (by omega)
        have s3 := rowAt_kw hI.s6 hk3 (by omega) (by omega)
        have a3 := rowAt_kw hI.ad hk3 (by omega) (by omega)
        have t3 : HasTrie f W3 Q six (.slice o nn cc) S := HasTrie.keepC f hI.tr (fun b o hq ho hc => hk3.2 b o (HQ2.out b hq) (HQ2.out b hq) ho hc) hk3.1
        have hW3 : W.heap.size ≤ W3.heap.size := by have := RowAt.lt n3; omega
        obtain ⟨cA, cB⟩ := step_over t3 (fun b hb => Nat.lt_of_lt_of_le (HQ.out b hb) hW3) ha hSl
        rw [show zeroN = .agg #[.bool false, .int .u64 0, .int .u64 0, .int .i64 0, .bool false, .int .u64 0, .int .u64 0, .int .i64 0, .int .u8 0, .int .i64 0, .slice none 0 0] from rfl] at cA
        unfold nodeV at cB
        have x0 : W3.cell? ⟨g5, 10, none⟩ = some (.slice o nn cc) := n3.cell 10
        have x1 : W3.cell? ⟨b2, 0, none⟩ = some (.bool six) := s3.cell 0
        have x2 : W3.cell? ⟨b3, 0, none⟩ = some (.int .u64 (hiN a : Int)) := a3.cell 0
        have x3 : W3.cell? ⟨b3, 1, none⟩ = some (.int .u64 (loN a : Int)) := a3.cell 1
        have xf := n3.frozen
        have hkk : full.length - (pre ++ [r]).length < gk := by rw [hk, List.length_append]; simp; omega
        clear c0 c1 c2 c3 c4 c5 c6 c7 c8 c9 c10 hI HS hJs
        by_cases hSe : S.filter (hasR six a) = []
        · gi_wp2_with fail
          refine ⟨trivial, fun h => by simp [Fence.wide] at h, ?_⟩
          gi_at_call 42; refine (callsIn_wide.2 (cA hSe)).mono ?_; rintro e w4 ⟨rfl, hb4⟩
          have n4 := n3.below hb4
          have hb2r := s3.below hb4
          have hb3r := a3.below hb4
          obtain ⟨d0, d1, d2, d3, d4, d5, d6, d7, d8, d9, d10⟩ := eleven_at (i := 0) (fun t ht => by rw [Nat.zero_add]; exact n4.cell t)
          simp only [Nat.zero_add] at d0 d1 d2 d3 d4 d5 d6 d7 d8 d9 d10
          have df := n4.frozen
          have dl := n4.lt
          have hgr := putN_grown (grown_b g5 hb4) false 0 0 0 false 0 0 0 0 0 (.slice none 0 0)
          have hJ5 := hJ (pre ++ [r]) W3 _ (some g5) hJ3 hgr (fun r e => by injection e with e; omega)
          have HW5 : Hid (WJ Q (putN w4 g5 false 0 0 0 false 0 0 0 0 0 (.slice none 0 0)) six a g5 b2 b3 full (pre ++ [r]) false) := wj_false (putN_row n4 rfl _ _ _ _ _ _ _ _ _ _ _) rfl (by rw [hfu, hSe])
          clear cA cB x0 x1 x2 x3 xf n3 n4 s3 a3 t3 hk3 hJ3 hR hy
          gi_wp2
          gi_roundg (full.length - (pre ++ [r]).length)
          case measure => exact hkk
          case rel => exact ⟨pre ++ [r], false, rfl, rfl, hJ5, HW5⟩
        · gi_wp2_with fail
          refine ⟨trivial, fun h => by simp [Fence.wide] at h, ?_⟩
          gi_at_call 42; refine (callsIn_wide.2 (cB hSe)).mono ?_; rintro e w4 ⟨r2, o2, n2, cc2, S2, rfl, hfr2, hS2, ht4, hb4⟩
          have n4 := n3.below hb4
          have hb2r := s3.below hb4
          have hb3r := a3.below hb4
          obtain ⟨d0, d1, d2, d3, d4, d5, d6, d7, d8, d9, d10⟩ := eleven_at (i := 0) (fun t ht => by rw [Nat.zero_add]; exact n4.cell t)
          simp only [Nat.zero_add] at d0 d1 d2 d3 d4 d5 d6 d7 d8 d9 d10
          have df := n4.frozen
          have dl := n4.lt
          have hgr := putN_grown (grown_b g5 hb4) r2.pf.six (hiN r2.pf.n : Int) (loN r2.pf.n : Int) r2.pf.len r2.pf.six (hiN r2.pf.n : Int) (loN r2.pf.n : Int) r2.pf.len (r2.act.k : Int) r2.act.i (.slice o2 n2 cc2)
          have hJ5 := hJ (pre ++ [r]) W3 _ (some g5) hJ3 hgr (fun r e => by injection e with e; omega)
          have HW5 : Hid (WJ Q (putN w4 g5 r2.pf.six (hiN r2.pf.n : Int) (loN r2.pf.n : Int) r2.pf.len r2.pf.six (hiN r2.pf.n : Int) (loN r2.pf.n : Int) r2.pf.len (r2.act.k : Int) r2.act.i (.slice o2 n2 cc2)) six a g5 b2 b3 full (pre ++ [r]) true) := wj_true (r := r2) (putN_row n4 rfl _ _ _ _ _ _ _ _ _ _ _) ht4 (fun b hb => (putN_grown (World.grownBy.refl w4 _) _ _ _ _ _ _ _ _ _ _ _).block b (by have h1 := HQ.out b hb; have h3 := hb4.size; omega) (fun e => by injection e with e; have h1 := HQ.out b hb; omega)) (by rw [sputN]; exact Nat.le_refl _) (row_other hb2r (putN_grown (World.grownBy.refl w4 _) _ _ _ _ _ _ _ _ _ _ _) hbne2) (row_other hb3r (putN_grown (World.grownBy.refl w4 _) _ _ _ _ _ _ _ _ _ _ _) hbne3) hS2 (by rw [hfu, hfr2]; simp)
          clear cA cB x0 x1 x2 x3 xf n3 n4 s3 a3 t3 hk3 hJ3 hR hy
          gi_wp2
          gi_roundg (full.length - (pre ++ [r]).length)
          case measure => exact hkk
          case rel => exact ⟨pre ++ [r], true, rfl, rfl, hJ5, HW5⟩
end Go.Proofs.Ytaaedgfacnaggaa.Tr
