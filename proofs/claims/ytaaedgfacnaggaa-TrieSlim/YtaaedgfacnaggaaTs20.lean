/- trie.upper. -/
import Derived.Test.YtaaedgfacnaggaaTs13
import Derived.Test.YtaaedgfacnaggaaTs19
import Derived.Test.YtaaedgfacnaggaaTs17
set_option linter.unusedVariables false
namespace Go.Proofs.Ytaaedgfacnaggaa.Tr
open Go.RowKit
open Go.Proofs.Ytaaedgfacnaggaa.Msg (Ac okA eqP eqP_iff eqP_not)
open Go.Proofs.Ytaaedgfacnaggaa.Addr (Pf okP hasB coversB rightB)
def eqA (a b : Ac) : Bool := decide (a.k = b.k) && decide (a.i = b.i)
theorem eqA_iff (a b : Ac) : eqA a b = true ↔ a = b := by
  obtain ⟨a, b⟩ := a
  rename_i c
  obtain ⟨c, d⟩ := c
  unfold eqA
  simp only [Bool.and_eq_true, decide_eq_true_eq, Msg.Ac.mk.injEq]
theorem eqA_not (a b : Ac) : eqA a b = false ↔ a ≠ b := by rw [← Bool.not_eq_true, eqA_iff]
/-- an upper one -/
def upQ (r x : Rt) : Bool := !eqP x.pf r.pf && coversB x.pf r.pf
def actL (xs : List Rt) : Ac := (lastR xs).act
def slimR (l : List Rt) (r : Rt) : Bool := !eqA (actL (l.filter (upQ r))) r.act
def slimT (l : List Rt) : List Rt × Int := if okT l then (l.filter (slimR l), 0) else ([], 2)
def aboveT (l : List Rt) (p : Pf) : List Rt := (l.filter (hasR p.six p.n)).takeWhile (fun x => !eqP x.pf p)
def stepU (r b x : Rt) : Rt := if (!eqP x.pf r.pf && coversB x.pf r.pf) && decide (b.pf.len < x.pf.len) then x else b
def rupper (l : List Rt) (r : Rt) : Rt := l.foldl (stepU r) startR
def rkeep (l : List Rt) (r : Rt) : Bool := decide ((rupper l r).pf.len < 0) || !eqA (rupper l r).act r.act
theorem has_self {p : Pf} (h : okP p = true) : hasB p p.six p.n = true := by
  obtain ⟨h1, h2, h3, h4⟩ := ok_parts h
  exact (has_iff h _ _).2 ⟨rfl, h3, Nat.le_refl _, by have := Nat.two_pow_pos (Addr.kP p); omega⟩
theorem filter_sub {α : Type} {f g : α → Bool} (h : ∀ x, f x = true → g x = true) (l : List α) : (l.filter g).filter f = l.filter f := by
  rw [List.filter_filter]
  congr 1
  funext x
  cases hf : f x with
  | false => simp
  | true => rw [h x hf]; rfl
/-- on an address's way the upper ones of a route are those ahead of it -/
theorem upper_ahead {l A B : List Rt} {r : Rt} {six : Bool} {a : Nat} (hu : Up l) (he : l.filter (hasR six a) = A ++ r :: B) : l.filter (upQ r) = A := by
  have hm : ∀ x ∈ A ++ r :: B, hasB x.pf six a = true := fun x hx => by
    rw [← he] at hx
    exact (List.mem_filter.1 hx).2
  have hr := hm r (by simp)
  have hU : Up (A ++ r :: B) := by rw [← he]; exact hu.filter _
  obtain ⟨uA, uB, uAB⟩ := List.pairwise_append.1 hU
  have g1 : A.filter (upQ r) = A := List.filter_eq_self.2 (fun x hx => by
    have hlt := uAB x hx r (by simp)
    have := later_long hlt (hm x (List.mem_append_left _ hx)) hr
    unfold upQ
    rw [this.2, (eqP_not _ _).2 (fun e => ltP_irr _ (e ▸ hlt))]
    rfl)
  have g2 : (r :: B).filter (upQ r) = [] := List.filter_eq_nil_iff.2 (fun x hx => by
    unfold upQ
    rcases List.mem_cons.1 hx with rfl | hx
    · rw [(eqP_iff _ _).2 rfl]; simp
    · have hlt := (List.pairwise_cons.1 uB).1 x hx
      have := later_long hlt hr (hm x (List.mem_append_right _ (List.mem_cons_of_mem _ hx)))
      cases hc : coversB x.pf r.pf with
      | false => simp
      | true =>
        have := (covers_parts hc).2.1
        omega)
  have g3 : ∀ x, upQ r x = true → hasR six a x = true := fun x hx => by
    unfold upQ at hx
    rw [Bool.and_eq_true] at hx
    exact covers_has hx.2 hr
  rw [← filter_sub g3 l, he, List.filter_append, g1, g2, List.append_nil]
theorem mem_split {l : List Rt} {r : Rt} {six : Bool} {a : Nat} (hr : r ∈ l) (hb : hasB r.pf six a = true) : ∃ A B, l.filter (hasR six a) = A ++ r :: B :=
  List.append_of_mem (List.mem_filter.2 ⟨hr, hb⟩)
/-- the program's upper one is the last one ahead -/
theorem above_eq {l : List Rt} {r : Rt} (hu : Up l) (hr : r ∈ l) (ho : okP r.pf = true) : aboveT l r.pf = l.filter (upQ r) := by
  obtain ⟨A, B, he⟩ := mem_split hr (has_self ho)
  rw [upper_ahead hu he]
  unfold aboveT
  rw [he]
  have hU : Up (A ++ r :: B) := by rw [← he]; exact hu.filter _
  obtain ⟨uA, uB, uAB⟩ := List.pairwise_append.1 hU
  rw [List.takeWhile_append_of_pos (fun x hx => ?_), List.takeWhile_cons, (eqP_iff r.pf r.pf).2 rfl]
  · simp
  · have hlt := uAB x hx r (by simp)
    rw [(eqP_not _ _).2 (fun e => ltP_irr _ (e ▸ hlt))]
    rfl
/-- the document's is, too -/
theorem rupper_last {r : Rt} : ∀ (l : List Rt), Up l → rupper l r = (l.filter (upQ r)).getLast?.getD startR := by
  intro l
  unfold rupper
  rw [← List.reverse_reverse l]
  generalize l.reverse = m
  induction m with
  | nil => intro _; rfl
  | cons x m ih =>
    intro hu
    rw [List.reverse_cons] at hu ⊢
    have hp := List.pairwise_append.1 hu
    have ih := ih hp.1
    rw [List.foldl_append, ih, List.filter_append]
    show stepU r _ x = _
    unfold stepU
    show (if upQ r x && _ then _ else _) = _
    cases hh : upQ r x with
    | false =>
      rw [Bool.false_and, List.filter_cons_of_neg (by rw [hh]; simp)]
      simp
    | true =>
      rw [List.filter_cons_of_pos hh, List.filter_nil]
      have hc : coversB x.pf r.pf = true := by unfold upQ at hh; rw [Bool.and_eq_true] at hh; exact hh.2
      have hx := (covers_parts hc).2.2
      have hlt : ((m.reverse.filter (upQ r)).getLast?.getD startR).pf.len < x.pf.len := by
        cases hL : (m.reverse.filter (upQ r)).getLast? with
        | none =>
          have := (ok_parts (has_ok hx)).1
          show (-1 : Int) < _
          omega
        | some y =>
          have hy := List.mem_of_getLast? hL
          obtain ⟨h1, h2⟩ := List.mem_filter.1 hy
          have hy2 : coversB y.pf r.pf = true := by unfold upQ at h2; rw [Bool.and_eq_true] at h2; exact h2.2
          exact (later_long (hp.2.2 y h1 x (by simp)) (covers_parts hy2).2.2 hx).1
      rw [decide_eq_true hlt]
      simp
theorem okA_zero {x : Ac} (h : okA x = true) : x ≠ ⟨0, 0⟩ := by
  rintro rfl
  revert h
  decide
theorem rkeep_eq {l : List Rt} {r : Rt} (hu : Up l) (ho : okA r.act = true) : rkeep l r = slimR l r := by
  unfold rkeep slimR actL lastR
  rw [rupper_last l hu]
  cases hL : (l.filter (upQ r)).getLast? with
  | none =>
    simp only [Option.getD_none]
    rw [show eqA zeroR.act r.act = false from (eqA_not _ _).2 (fun e => okA_zero ho e.symm), show decide (startR.pf.len < 0) = true from rfl]
    rfl
  | some y =>
    have hy := List.mem_of_getLast? hL
    obtain ⟨h1, h2⟩ := List.mem_filter.1 hy
    have hc : coversB y.pf r.pf = true := by unfold upQ at h2; rw [Bool.and_eq_true] at h2; exact h2.2
    have := (ok_parts (has_ok (covers_parts hc).2.2)).1
    simp only [Option.getD_some]
    rw [decide_eq_false (by omega), Bool.false_or]
theorem ok_filter {l : List Rt} (f : Rt → Bool) (h : okT l = true) : okT (l.filter f) = true := by
  obtain ⟨h1, h2, h3⟩ := (okT_iff _).1 h
  have := List.length_filter_le f l
  exact (okT_iff _).2 ⟨by omega, fun x hx => h2 x (List.mem_filter.1 hx).1, h3.filter _⟩
theorem filter_comm {α : Type} (f g : α → Bool) (l : List α) : (l.filter f).filter g = (l.filter g).filter f := by
  rw [List.filter_filter, List.filter_filter]
  congr 1
  funext x
  exact Bool.and_comm _ _
/-- along a way the last action stays -/
theorem slim_way {l : List Rt} {six : Bool} {a : Nat} (h : okT l = true) : ∀ (m B : List Rt), l.filter (hasR six a) = m.reverse ++ B → actL (m.reverse.filter (slimR l)) = actL m.reverse ∧ (m.reverse.filter (slimR l) = [] ↔ m.reverse = []) := by
  obtain ⟨h1, h2, h3⟩ := (okT_iff _).1 h
  intro m
  induction m with
  | nil => intro B _; exact ⟨rfl, Iff.rfl⟩
  | cons r m ih =>
    intro B he
    rw [List.reverse_cons, List.append_assoc] at he
    have ih := ih _ he
    have hup := upper_ahead h3 (B := B) he
    have hr : r ∈ l := by
      have : r ∈ l.filter (hasR six a) := by rw [he]; simp
      exact (List.mem_filter.1 this).1
    have hok : okA r.act = true := by have := h2 r hr; unfold okR at this; rw [Bool.and_eq_true] at this; exact this.2
    rw [List.reverse_cons, List.filter_append]
    cases hk : slimR l r with
    | true =>
      rw [List.filter_cons_of_pos hk, List.filter_nil]
      refine ⟨?_, by simp⟩
      unfold actL
      rw [lastR_snoc, lastR_snoc]
    | false =>
      rw [List.filter_cons_of_neg (by rw [hk]; simp), List.filter_nil, List.append_nil]
      have he2 : actL m.reverse = r.act := by
        unfold slimR at hk
        rw [hup] at hk
        exact (eqA_iff _ _).1 (by simpa using hk)
      refine ⟨?_, ?_⟩
      · rw [ih.1, he2]
        unfold actL
        rw [lastR_snoc]
      · constructor
        · intro e
          have := ih.2.1 e
          rw [this] at he2
          exact absurd he2.symm (okA_zero hok)
        · intro e; simp at e
theorem slim_all {l A B : List Rt} {six : Bool} {a : Nat} (h : okT l = true) (he : l.filter (hasR six a) = A ++ B) : actL (A.filter (slimR l)) = actL A ∧ (A.filter (slimR l) = [] ↔ A = []) := by
  have := slim_way h A.reverse B (by rw [List.reverse_reverse]; exact he)
  rw [List.reverse_reverse] at this
  exact this
/-- of each address the action stays -/
theorem slim_long {l : List Rt} (h : okT l = true) (six : Bool) (a : Nat) : (longT (l.filter (slimR l)) six a).2 = (longT l six a).2 ∧ (longT (l.filter (slimR l)) six a).1.act = (longT l six a).1.act := by
  unfold longT
  rw [h, ok_filter _ h]
  cases hr : rightB six a with
  | false => exact ⟨rfl, rfl⟩
  | true =>
    simp only [Bool.and_self, if_true]
    have := slim_all (A := l.filter (hasR six a)) (B := []) (six := six) (a := a) h (by simp)
    rw [filter_comm]
    refine ⟨?_, this.1⟩
    unfold codeR
    by_cases e : l.filter (hasR six a) = []
    · rw [if_pos (List.length_eq_zero_iff.2 (this.2.2 e)), if_pos (List.length_eq_zero_iff.2 e)]
    · rw [if_neg (fun e2 => e (this.2.1 (List.length_eq_zero_iff.1 e2))), if_neg (fun e2 => e (List.length_eq_zero_iff.1 e2))]
/-- slim once more -/
theorem slim_twice {l : List Rt} (h : okT l = true) : slimT (l.filter (slimR l)) = (l.filter (slimR l), 0) := by
  unfold slimT
  rw [ok_filter _ h]
  simp only [if_true]
  rw [show (l.filter (slimR l)).filter (slimR (l.filter (slimR l))) = l.filter (slimR l) from List.filter_eq_self.2 (fun r hr => ?_)]
  obtain ⟨h1, h2, h3⟩ := (okT_iff _).1 h
  obtain ⟨m1, m2⟩ := List.mem_filter.1 hr
  have hp : okP r.pf = true := by have := h2 r m1; unfold okR at this; rw [Bool.and_eq_true] at this; exact this.1
  obtain ⟨A, B, he⟩ := mem_split m1 (has_self hp)
  have hup := upper_ahead h3 he
  have ha := (slim_all h he).1
  unfold slimR at m2 ⊢
  rw [hup] at m2
  rw [show List.filter (upQ r) (List.filter (fun r => !eqA (actL (List.filter (upQ r) l)) r.act) l) = A.filter (slimR l) from by rw [filter_comm, hup]; rfl, ha]
  exact m2
theorem slim_ok {l : List Rt} (h : okT l = true) : slimT l = (l.filter (slimR l), 0) := by unfold slimT; rw [h]; rfl
theorem slim_not {l : List Rt} (h : okT l = false) : slimT l = ([], 2) := by unfold slimT; rw [h]; rfl
end Go.Proofs.Ytaaedgfacnaggaa.Tr
namespace Go.Proofs.Ytaaedgfacnaggaa.Tr
open Go.RowKit Go.Shelf
open Go.Proofs.Ytaaedgfacnaggaa.Rng
open Go.Proofs.Ytaaedgfacnaggaa.Msg (eqP pf_eqb)
open Go.Proofs.Ytaaedgfacnaggaa.Addr (Pf hiN loN RowAt below2 below_new RowAt.lt RowAt.cell RowAt.frozen RowAt.below RowAt.new RowAt.alloc RowAt.set1 cells4 results_cell)
attribute [local go_sem] Oper.semAt_some
/-- between two rounds -/
structure UI (m n₀ bR bA bP : Nat) (p : Pf) (w : World) (pre : List Rt) (W : World) : Prop where
  sz : m ≤ W.heap.size
  ab : RowAt W bA (rtC (lastR pre)) 37
  re : RowAt W bR (rtC zeroR) 37
  pr : RowAt W bP [.bool p.six, .int .u64 (hiN p.n : Int), .int .u64 (loN p.n : Int), .int .i64 p.len] 32
  bl : Below n₀ w W
  ne : ∀ x ∈ pre, eqP x.pf p = false
theorem ui_held {m n₀ bR bA bP B : Nat} {p : Pf} {w : World} (h0 : n₀ ≤ w.heap.size) (h1 : bR < B) (h2 : bA < B) (h3 : bP < B) (hB : n₀ ≤ B) : Held B (UI m n₀ bR bA bP p w) := by
  intro s A C row h hg hr
  have keep : ∀ k cs t, k < B → RowAt A k cs t → RowAt C k cs t := fun k cs t hk hrow => (hg.block k (RowAt.lt hrow) (fun e => by have := hr k e.symm; omega)).trans hrow
  exact ⟨Nat.le_trans h.sz hg.size, keep _ _ _ h2 h.ab, keep _ _ _ h1 h.re, keep _ _ _ h3 h.pr, h.bl.grown hg (Nat.le_trans h0 h.bl.size) (fun k e => by have := hr k e; omega), h.ne⟩
/-- where the loop was left -/
def UX (m n₀ bR bA bP : Nat) (p : Pf) (full : List Rt) (w : World) (id : Nat) (xs : List Rt) (W : World) : Prop :=
  id = 0 ∧ ∃ pre x rest, xs = pre ++ [x] ∧ full = pre ++ x :: rest ∧ eqP x.pf p = true ∧ UI m n₀ bR bA bP p w pre W
theorem ux_held {m n₀ bR bA bP B : Nat} {p : Pf} {full : List Rt} {w : World} (h0 : n₀ ≤ w.heap.size) (h1 : bR < B) (h2 : bA < B) (h3 : bP < B) (hB : n₀ ≤ B) (id : Nat) : Held B (UX m n₀ bR bA bP p full w id) := by
  rintro s A C row ⟨e, pre, x, rest, e1, e2, e3, h⟩ hg hr
  exact ⟨e, pre, x, rest, e1, e2, e3, ui_held h0 h1 h2 h3 hB pre A C row h hg hr⟩
theorem take_all {l : List Rt} {p : Pf} (h : ∀ x ∈ l, eqP x.pf p = false) : l.takeWhile (fun x => !eqP x.pf p) = l := by
  induction l with
  | nil => rfl
  | cons x l ih => rw [List.takeWhile_cons, h x (by simp)]; simp [ih (fun y hy => h y (List.mem_cons_of_mem _ hy))]
theorem take_at {pre rest : List Rt} {x : Rt} {p : Pf} (h : ∀ y ∈ pre, eqP y.pf p = false) (hx : eqP x.pf p = true) : (pre ++ x :: rest).takeWhile (fun x => !eqP x.pf p) = pre := by
  rw [List.takeWhile_append_of_pos (fun y hy => by rw [h y hy]; rfl), List.takeWhile_cons, hx]
  simp
set_option maxHeartbeats 8000000 in
set_option maxRecDepth 20000 in
theorem upper_any {Q : Nat → Prop} {g : Nat} {u0 u1 : Value} {K0 K1 : List Rt} (l : List Rt) (p : Pf) (w : World) (hT : RowAt w g [u0, u1] 85) (ht0 : HasTrie 257 w Q false u0 K0) (ht1 : HasTrie 257 w Q true u1 K1) (hQ : ∀ b, Q b → b < w.heap.size)
    (hfil : ∀ six a, (if six then K1 else K0).filter (hasR six a) = l.filter (hasR six a)) (hln : ∀ six : Bool, (if six then K1 else K0).length ≤ 256) (hp : p.n < 2 ^ 128) :
    Calls Try.prog 11 #[.pointer (some ⟨g, 0, none⟩), .agg #[.bool p.six, .int .u64 (hiN p.n : Int), .int .u64 (loN p.n : Int), .int .i64 p.len]] w fun e w' => e = .returned (rtA (lastR (aboveT l p))) ∧ Below w.heap.size w w' := by
  have cw := fun g W => way_any g p.six (hiN p.n : Int) (loN p.n : Int) W
  obtain ⟨X, hX⟩ : ∃ X, X = ((w.alloc (.cells #[.bool p.six, .int .u64 (hiN p.n : Int), .int .u64 (loN p.n : Int), .int .i64 p.len] 32)).alloc (.cells #[.bool false, .int .u64 0, .int .u64 0, .int .i64 0, .int .u8 0, .int .i64 0] 37)).alloc (.cells #[.bool false, .int .u64 0, .int .u64 0, .int .i64 0, .int .u8 0, .int .i64 0] 37) := ⟨_, rfl⟩
  have e1 : (w.alloc (.cells #[.bool p.six, .int .u64 (hiN p.n : Int), .int .u64 (loN p.n : Int), .int .i64 p.len] 32)).heap.size = w.heap.size + 1 := World.size_alloc _ _
  have e2 : ((w.alloc (.cells #[.bool p.six, .int .u64 (hiN p.n : Int), .int .u64 (loN p.n : Int), .int .i64 p.len] 32)).alloc (.cells #[.bool false, .int .u64 0, .int .u64 0, .int .i64 0, .int .u8 0, .int .i64 0] 37)).heap.size = w.heap.size + 1 + 1 := by rw [World.size_alloc, e1]
  have hB : Below w.heap.size w X := by rw [hX]; exact below_new (below_new (below_new (Below.refl _ _) _) _) _
  have rP : RowAt X w.heap.size [.bool p.six, .int .u64 (hiN p.n : Int), .int .u64 (loN p.n : Int), .int .i64 p.len] 32 := by rw [hX]; exact ((RowAt.new _ _ _).alloc _).alloc _
  have rR : RowAt X (w.heap.size + 1) (rtC zeroR) 37 := by rw [hX, ← e1]; exact (RowAt.new _ _ _).alloc _
  have rA : RowAt X (w.heap.size + 1 + 1) (rtC zeroR) 37 := by rw [hX, ← e2]; exact RowAt.new _ _ _
  clear e1 e2
  obtain ⟨bP, hbP⟩ : ∃ bP, bP = w.heap.size := ⟨_, rfl⟩
  refine (callsIn_wide (n := 5)).1 ?_
  refine callsIn_of_wp_marks Try.func11 rfl trivial ?_ rfl
  simp only [Try.ntmps11, List.size_toArray, List.length_cons, List.length_nil, Nat.reduceAdd, Nat.reduceSub, Array.replicate_succ, Array.replicate_zero, List.push_toArray, List.append_toArray, List.nil_append, List.cons_append]
  gi_upto_region 2 with fail
  rw [← hX]
  clear hX
  obtain ⟨q0, q1, q2, q3, qf⟩ := cells4 rP
  gi_wp2_with fail
  refine ⟨trivial, ?_⟩
  gi_at_call 20
  refine (callsIn_wide.2 (cw _ _)).mono ?_
  rintro e w4 ⟨rfl, rfl⟩
  obtain ⟨V, hV⟩ : ∃ V, V = ((X.alloc (.cells #[.pointer (some ⟨g, 0, none⟩)] 42)).alloc (.cells #[.bool p.six] 4)).alloc (.cells #[.int .u64 (hiN p.n : Int), .int .u64 (loN p.n : Int)] 25) := ⟨_, rfl⟩
  have hXV : Below X.heap.size X V := by rw [hV]; exact below_new (below_new (below_new (Below.refl _ _) _) _) _
  have e1 : (X.alloc (.cells #[.pointer (some ⟨g, 0, none⟩)] 42)).heap.size = X.heap.size + 1 := World.size_alloc _ _
  have e2 : ((X.alloc (.cells #[.pointer (some ⟨g, 0, none⟩)] 42)).alloc (.cells #[.bool p.six] 4)).heap.size = X.heap.size + 1 + 1 := by rw [World.size_alloc, e1]
  have v1 : RowAt V X.heap.size [.pointer (some ⟨g, 0, none⟩)] 42 := by rw [hV]; exact ((RowAt.new _ _ _).alloc _).alloc _
  have v2 : RowAt V (X.heap.size + 1) [.bool p.six] 4 := by rw [hV, ← e1]; exact (RowAt.new _ _ _).alloc _
  have v3 : RowAt V (X.heap.size + 1 + 1) [.int .u64 (hiN p.n : Int), .int .u64 (loN p.n : Int)] 25 := by rw [hV, ← e2]; exact RowAt.new _ _ _
  rw [← hV]
  clear hV e1 e2 cw q0 q1 q2 q3 qf
  have hwV := below2 hB hXV
  have hAX : w.heap.size + 1 + 1 < X.heap.size := rA.lt
  have hXs := hXV.size
  obtain ⟨K, hK⟩ : ∃ K, K = if p.six then K1 else K0 := ⟨_, rfl⟩
  have hTr : HasTrie 257 V Q p.six (if p.six then u1 else u0) K := by
    rw [hK]
    cases p.six with
    | true => exact HasTrie.below ht1 hQ hwV
    | false => exact HasTrie.below ht0 hQ hwV
  have hKl : K.length ≤ 256 := by rw [hK]; exact hln p.six
  have hKf : K.filter (hasR p.six p.n) = l.filter (hasR p.six p.n) := by rw [hK]; exact hfil p.six p.n
  have hTV := hT.below hwV
  have I0 : UI V.heap.size w.heap.size (w.heap.size + 1) (w.heap.size + 1 + 1) w.heap.size p w [] V := ⟨Nat.le_refl _, rA.below hXV, rR.below hXV, rP.below hXV, hwV, fun x hx => by cases hx⟩
  clear rA rR rP ht0 ht1 hfil hln hK
  gi_wp2_with fail
  refine range_cellsB (α := Rt) (by omega) (gf := 40) (lb := #[.pointer (some ⟨X.heap.size, 0, none⟩), .pointer (some ⟨X.heap.size + 1, 0, none⟩), .pointer (some ⟨X.heap.size + 1 + 1, 0, none⟩)]) rfl (enters_of Try.func40 (by kernel_rfl) rfl)
    (way2_tellsB (Q := Q) p.six p.n (5 - 1) X.heap.size (X.heap.size + 1) (X.heap.size + 1 + 1) (w.heap.size + 1 + 1) V hTV rfl hTr v1 v2 v3 (fun b hb => ⟨Nat.lt_of_lt_of_le (hQ b hb) hwV.size, by have := hQ b hb; omega⟩) (by omega) (by omega) (by omega) hp hKl) kw_t kw_b (fun _ => rfl)
    (UI V.heap.size w.heap.size (w.heap.size + 1) (w.heap.size + 1 + 1) w.heap.size p w) (ui_held (Nat.le_refl _) (by omega) (by omega) (by omega) hwV.size)
    (UX V.heap.size w.heap.size (w.heap.size + 1) (w.heap.size + 1 + 1) w.heap.size p (K.filter (hasR p.six p.n)) w) (ux_held (Nat.le_refl _) (by omega) (by omega) (by omega) hwV.size) I0
    (fun x a' W => ∃ Bx, RowAt W Bx (rtC x) 37 ∧ V.heap.size ≤ Bx ∧ a' = { tmps := #[.pointer (some ⟨g, 0, none⟩), .agg #[.bool p.six, .int .u64 (hiN p.n : Int), .int .u64 (loN p.n : Int), .int .i64 p.len], undef, .pointer (some ⟨w.heap.size, 0, none⟩), .pointer (some ⟨w.heap.size + 1, 0, none⟩), .pointer (some ⟨w.heap.size + 1 + 1, 0, none⟩), .pointer (some ⟨Bx, 0, none⟩), .pointer (some ⟨g, 0, none⟩), .pointer (some ⟨w.heap.size, 0, none⟩), .bool p.six, .pointer (some ⟨w.heap.size, 1, none⟩), .agg #[.int .u64 (hiN p.n : Int), .int .u64 (loN p.n : Int)], .func (.func 40) #[] #[.pointer (some ⟨X.heap.size, 0, none⟩), .pointer (some ⟨X.heap.size + 1, 0, none⟩), .pointer (some ⟨X.heap.size + 1 + 1, 0, none⟩)], .agg #[.bool x.pf.six, .int .u64 (hiN x.pf.n : Int), .int .u64 (loN x.pf.n : Int), .int .i64 x.pf.len, .int .u8 (x.act.k : Int), .int .i64 x.act.i], undef, undef, undef, undef, undef, undef], defers := [] })
    (fun x a' W l o o' ⟨Bx, h1, h2, h3⟩ ho hc => ⟨Bx, (World.putObj_heap_other (fun e => by subst e; have h4 : W.heap[Bx]? = _ := h1; rw [h4] at ho; injection ho with ho; subst ho; cases hc)).trans h1, h2, h3⟩)
    ?assign ?body ?done ?stop
  case assign =>
    rintro lp pre x W K hI hK
    have hA := hK _ (W.alloc (.cells #[.bool x.pf.six, .int .u64 (hiN x.pf.n : Int), .int .u64 (loN x.pf.n : Int), .int .i64 x.pf.len, .int .u8 (x.act.k : Int), .int .i64 x.act.i] 37)) ((KeepsOthers.alloc W _).from _) ⟨by simp, fun b o _ _ h _ => (Below.heap_alloc W _ b (Array.getElem?_eq_some_iff.1 h).1).trans h⟩ (ui_held (B := V.heap.size) (Nat.le_refl _) (by omega) (by omega) (by omega) hwV.size pre W _ none hI (World.grownBy_alloc W _ none) (fun r e => by cases e)) ⟨W.heap.size, RowAt.new W (rtC x) _, hI.sz, rfl⟩
    unfold encW
    gi_wp2
    exact hA
  case body =>
    rintro lp pre x a' W hI ⟨rest, hrest⟩ ⟨Bx, hx, hge, rfl⟩
    have cE := fun W => pf_eqb x.pf p W
    obtain ⟨c0, c1, c2, c3, c4, c5⟩ := six_at (i := 0) (fun t ht => by rw [Nat.zero_add]; exact hx.cell t)
    obtain ⟨d0, d1, d2, d3, d4, d5⟩ := six_at (i := 0) (fun t ht => by rw [Nat.zero_add]; exact hI.ab.cell t)
    simp only [Nat.zero_add] at c0 c1 c2 c3 c4 c5 d0 d1 d2 d3 d4 d5
    have df := hI.ab.frozen
    obtain ⟨q0, q1, q2, q3, qf⟩ := cells4 hI.pr
    have hdl := hI.ab.lt
    cases hE : eqP x.pf p
    · rw [hE] at cE
      obtain ⟨W5, hW5⟩ : ∃ W5, W5 = ((((((W.setCell ⟨w.heap.size + 1 + 1, 0, none⟩ (.bool x.pf.six)).setCell ⟨w.heap.size + 1 + 1, 1, none⟩ (.int .u64 (hiN x.pf.n : Int))).setCell ⟨w.heap.size + 1 + 1, 2, none⟩ (.int .u64 (loN x.pf.n : Int))).setCell ⟨w.heap.size + 1 + 1, 3, none⟩ (.int .i64 x.pf.len)).setCell ⟨w.heap.size + 1 + 1, 4, none⟩ (.int .u8 (x.act.k : Int))).setCell ⟨w.heap.size + 1 + 1, 5, none⟩ (.int .i64 x.act.i)) := ⟨_, rfl⟩
      have hg5 : W.grownBy W5 (some (w.heap.size + 1 + 1)) := by rw [hW5]; exact grown_s (grown_s (grown_s (grown_s (grown_s (grown_s (World.grownBy.refl W _) 0 _) 1 _) 2 _) 3 _) 4 _) 5 _
      have r5 : RowAt W5 (w.heap.size + 1 + 1) (rtC x) 37 := by rw [hW5]; exact (((((hI.ab.set1 0 _).set1 1 _).set1 2 _).set1 3 _).set1 4 _).set1 5 _
      have HL : Hid (UI V.heap.size w.heap.size (w.heap.size + 1) (w.heap.size + 1 + 1) w.heap.size p w (pre ++ [x]) W5) := by
        refine ⟨Nat.le_trans hI.sz hg5.size, by rw [lastR_snoc]; exact r5, row_other hI.re hg5 (by omega), row_other hI.pr hg5 (by omega), hI.bl.grown hg5 hI.bl.size (fun k e => by injection e with e; omega), fun y hy => ?_⟩
        rcases List.mem_append.1 hy with hy | hy
        · exact hI.ne y hy
        · rw [List.mem_singleton.1 hy]; exact hE
      have HK : Hid (KeepsFrom V.heap.size W W5 ∧ Kw (w.heap.size + 1 + 1) (w.heap.size + 1 + 1) W W5) := by
        refine ⟨KeepsFrom.of_grownBy hg5 (fun j e => by injection e with e; omega), hg5.size, fun b o h1 h2 h3 h4 => ?_⟩
        rw [hg5.block b (Array.getElem?_eq_some_iff.1 h3).1 (fun e => by injection e with e; exact h1 e)]
        exact h3
      have HW5 : Hid (W5 = ((((((W.setCell ⟨w.heap.size + 1 + 1, 0, none⟩ (.bool x.pf.six)).setCell ⟨w.heap.size + 1 + 1, 1, none⟩ (.int .u64 (hiN x.pf.n : Int))).setCell ⟨w.heap.size + 1 + 1, 2, none⟩ (.int .u64 (loN x.pf.n : Int))).setCell ⟨w.heap.size + 1 + 1, 3, none⟩ (.int .i64 x.pf.len)).setCell ⟨w.heap.size + 1 + 1, 4, none⟩ (.int .u8 (x.act.k : Int))).setCell ⟨w.heap.size + 1 + 1, 5, none⟩ (.int .i64 x.act.i))) := hW5
      clear hW5 hg5 r5
      gi_wp2
      rw [← HW5.out]
      exact ⟨HK.out.1, HK.out.2, HL.out⟩
    · rw [hE] at cE
      have HX : Hid (UX V.heap.size w.heap.size (w.heap.size + 1) (w.heap.size + 1 + 1) w.heap.size p (K.filter (hasR p.six p.n)) w 0 (pre ++ [x]) W) := ⟨rfl, pre, x, rest, rfl, hrest.symm, hE, hI⟩
      clear hI
      gi_wp2
      exact .inr ⟨0, rfl, KeepsFrom.of_grownBy (World.grownBy.refl W none) (fun j e => by cases e), ⟨Nat.le_refl _, fun b o _ _ h _ => h⟩, HX.out⟩
  case done =>
    rintro D pre W hD hS hI hK
    have hL : lastR pre = lastR (aboveT l p) := by
      unfold aboveT
      rw [← hKf, ← hS, take_all hI.ne]
    clear hS
    obtain ⟨R, hR⟩ : ∃ R, R = lastR (aboveT l p) := ⟨_, rfl⟩
    have hab := hI.ab
    rw [hL, ← hR] at hab
    have HRT : Hid (rtA (lastR (aboveT l p)) = .agg #[.bool R.pf.six, .int .u64 (hiN R.pf.n : Int), .int .u64 (loN R.pf.n : Int), .int .i64 R.pf.len, .int .u8 (R.act.k : Int), .int .i64 R.act.i]) := by rw [← hR]; exact rfl
    have hre := hI.re
    have hbl := hI.bl
    clear hI hR hL
    obtain ⟨d0, d1, d2, d3, d4, d5⟩ := six_at (i := 0) (fun t ht => by rw [Nat.zero_add]; exact hab.cell t)
    obtain ⟨f0, f1, f2, f3, f4, f5⟩ := six_at (i := 0) (fun t ht => by rw [Nat.zero_add]; exact hre.cell t)
    simp only [Nat.zero_add] at d0 d1 d2 d3 d4 d5 f0 f1 f2 f3 f4 f5
    have ff := hre.frozen
    have hdl := hab.lt
    have hfl := hre.lt
    generalize R.pf.six = s0 at *
    generalize (hiN R.pf.n : Int) = s1 at *
    generalize (loN R.pf.n : Int) = s2 at *
    generalize R.pf.len = s3 at *
    generalize (R.act.k : Int) = s4 at *
    generalize R.act.i = s5 at *
    obtain ⟨W7, hW7⟩ : ∃ W7, W7 = ((((((W.setCell ⟨w.heap.size + 1, 0, none⟩ (.bool s0)).setCell ⟨w.heap.size + 1, 1, none⟩ (.int .u64 s1)).setCell ⟨w.heap.size + 1, 2, none⟩ (.int .u64 s2)).setCell ⟨w.heap.size + 1, 3, none⟩ (.int .i64 s3)).setCell ⟨w.heap.size + 1, 4, none⟩ (.int .u8 s4)).setCell ⟨w.heap.size + 1, 5, none⟩ (.int .i64 s5)) := ⟨_, rfl⟩
    have r7 : RowAt W7 (w.heap.size + 1) [.bool s0, .int .u64 s1, .int .u64 s2, .int .i64 s3, .int .u8 s4, .int .i64 s5] 37 := by rw [hW7]; exact ((((((hre.set1 0 _).set1 1 _).set1 2 _).set1 3 _).set1 4 _).set1 5 _)
    have hg7 : W.grownBy W7 (some (w.heap.size + 1)) := by
      rw [hW7]
      exact (grown_s (grown_s (grown_s (grown_s (grown_s (grown_s (World.grownBy.refl W (some (w.heap.size + 1))) 0 (.bool s0)) 1 (.int .u64 s1)) 2 (.int .u64 s2)) 3 (.int .i64 s3)) 4 (.int .u8 s4)) 5 (.int .i64 s5))
    have hK7 : W7.heap[D]? = some (.deferred (some [])) := (hg7.block D (Array.getElem?_eq_some_iff.1 hK).1 (fun e => by injection e with e; omega)).trans hK
    have hb7 : Below w.heap.size w W7 := hbl.grown hg7 hbl.size (fun k e => by injection e with e; omega)
    have r8 : RowAt (W7.putObj D (.deferred none)) (w.heap.size + 1) [.bool s0, .int .u64 s1, .int .u64 s2, .int .i64 s3, .int .u8 s4, .int .i64 s5] 37 := (World.putObj_heap_other (by omega)).trans r7
    have hb8 : Below w.heap.size w (W7.putObj D (.deferred none)) := hb7.trans (belowK_b (w := w) (Nat.le_refl _) W7 D _ _ (by omega) hK7 rfl rfl)
    have y0 := r8.cell 0
    have y1 := r8.cell 1
    have y2 := r8.cell 2
    have y3 := r8.cell 3
    have y4 := r8.cell 4
    have y5 := r8.cell 5
    simp only [List.getElem?_cons_zero, List.getElem?_cons_succ] at y0 y1 y2 y3 y4 y5
    gi_wp2_with fail
    rw [← hW7]
    clear hW7 d0 d1 d2 d3 d4 d5 f0 f1 f2 f3 f4 f5 ff hg7 r7 hre hab
    gi_wp2
    refine ⟨by simp, .inl ⟨_, _, rfl, run_takeDeferred (w := W7) hK7, ?_⟩⟩
    refine ⟨.agg #[.bool s0, .int .u64 s1, .int .u64 s2, .int .i64 s3, .int .u8 s4, .int .i64 s5], ?_, ?_⟩
    · rw [results_cell rfl]
      go_simp
    · exact ⟨by rw [HRT.out], hb8⟩
  case stop =>
    rintro D id xs W hD ⟨rfl, pre, x, rest, _, hS, hE, hI⟩ hK
    have hL : lastR pre = lastR (aboveT l p) := by
      unfold aboveT
      rw [← hKf, hS, take_at hI.ne hE]
    clear hS hE
    obtain ⟨R, hR⟩ : ∃ R, R = lastR (aboveT l p) := ⟨_, rfl⟩
    have hab := hI.ab
    rw [hL, ← hR] at hab
    have HRT : Hid (rtA (lastR (aboveT l p)) = .agg #[.bool R.pf.six, .int .u64 (hiN R.pf.n : Int), .int .u64 (loN R.pf.n : Int), .int .i64 R.pf.len, .int .u8 (R.act.k : Int), .int .i64 R.act.i]) := by rw [← hR]; exact rfl
    have hre := hI.re
    have hbl := hI.bl
    clear hI hR hL
    obtain ⟨d0, d1, d2, d3, d4, d5⟩ := six_at (i := 0) (fun t ht => by rw [Nat.zero_add]; exact hab.cell t)
    obtain ⟨f0, f1, f2, f3, f4, f5⟩ := six_at (i := 0) (fun t ht => by rw [Nat.zero_add]; exact hre.cell t)
    simp only [Nat.zero_add] at d0 d1 d2 d3 d4 d5 f0 f1 f2 f3 f4 f5
    have ff := hre.frozen
    have hdl := hab.lt
    have hfl := hre.lt
    generalize R.pf.six = s0 at *
    generalize (hiN R.pf.n : Int) = s1 at *
    generalize (loN R.pf.n : Int) = s2 at *
    generalize R.pf.len = s3 at *
    generalize (R.act.k : Int) = s4 at *
    generalize R.act.i = s5 at *
    obtain ⟨W7, hW7⟩ : ∃ W7, W7 = ((((((W.setCell ⟨w.heap.size + 1, 0, none⟩ (.bool s0)).setCell ⟨w.heap.size + 1, 1, none⟩ (.int .u64 s1)).setCell ⟨w.heap.size + 1, 2, none⟩ (.int .u64 s2)).setCell ⟨w.heap.size + 1, 3, none⟩ (.int .i64 s3)).setCell ⟨w.heap.size + 1, 4, none⟩ (.int .u8 s4)).setCell ⟨w.heap.size + 1, 5, none⟩ (.int .i64 s5)) := ⟨_, rfl⟩
    have r7 : RowAt W7 (w.heap.size + 1) [.bool s0, .int .u64 s1, .int .u64 s2, .int .i64 s3, .int .u8 s4, .int .i64 s5] 37 := by rw [hW7]; exact ((((((hre.set1 0 _).set1 1 _).set1 2 _).set1 3 _).set1 4 _).set1 5 _)
    have hg7 : W.grownBy W7 (some (w.heap.size + 1)) := by
      rw [hW7]
      exact (grown_s (grown_s (grown_s (grown_s (grown_s (grown_s (World.grownBy.refl W (some (w.heap.size + 1))) 0 (.bool s0)) 1 (.int .u64 s1)) 2 (.int .u64 s2)) 3 (.int .i64 s3)) 4 (.int .u8 s4)) 5 (.int .i64 s5))
    have hK7 : W7.heap[D]? = some (.deferred (some [])) := (hg7.block D (Array.getElem?_eq_some_iff.1 hK).1 (fun e => by injection e with e; omega)).trans hK
    have hb7 : Below w.heap.size w W7 := hbl.grown hg7 hbl.size (fun k e => by injection e with e; omega)
    have r8 : RowAt (W7.putObj D (.deferred none)) (w.heap.size + 1) [.bool s0, .int .u64 s1, .int .u64 s2, .int .i64 s3, .int .u8 s4, .int .i64 s5] 37 := (World.putObj_heap_other (by omega)).trans r7
    have hb8 : Below w.heap.size w (W7.putObj D (.deferred none)) := hb7.trans (belowK_b (w := w) (Nat.le_refl _) W7 D _ _ (by omega) hK7 rfl rfl)
    have y0 := r8.cell 0
    have y1 := r8.cell 1
    have y2 := r8.cell 2
    have y3 := r8.cell 3
    have y4 := r8.cell 4
    have y5 := r8.cell 5
    simp only [List.getElem?_cons_zero, List.getElem?_cons_succ] at y0 y1 y2 y3 y4 y5
    gi_wp2_with fail
    rw [← hW7]
    clear hW7 d0 d1 d2 d3 d4 d5 f0 f1 f2 f3 f4 f5 ff hg7 r7 hre hab
    gi_wp2
    refine ⟨by simp, .inl ⟨_, _, rfl, run_takeDeferred (w := W7) hK7, ?_⟩⟩
    refine ⟨.agg #[.bool s0, .int .u64 s1, .int .u64 s2, .int .i64 s3, .int .u8 s4, .int .i64 s5], ?_, ?_⟩
    · rw [results_cell rfl]
      go_simp
    · exact ⟨by rw [HRT.out], hb8⟩
end Go.Proofs.Ytaaedgfacnaggaa.Tr
