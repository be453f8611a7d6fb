/- Seats as plain data, and rows of them in memory. -/
import Derived.Test.YtopabkkapbaibaaGreatMsgChk3
import Derived.Test.YtopabkkapbaibaaGreatMsgPref
import Derived.Laws.IdiomStrings
import Derived.OneCell
import Derived.Shelf.Abstract
import Derived.ChangeAlike
set_option linter.unusedVariables false
namespace Go.Proofs.YtopabkkapbaibaaGreat.Ord
open Go.RowKit
open Go.Proofs.YtopabkkapbaibaaGreat.Msg (Ev okE checkE evV evC FitE)
open Go.Proofs.YtopabkkapbaibaaGreat.Addr (RowAt below2 below_drew below_new bset RowAt.lt RowAt.cell RowAt.frozen RowAt.below RowAt.drew RowAt.new RowAt.alloc gdrew gset gbelow galloc grefl gfinal cells2 cells4)

structure St where
  router : Int
  seq : Nat
  time : Int
  up : Bool
def stC (s : St) : List Value := [.int .i64 s.router, .int .u64 (s.seq : Int), .int .i64 s.time, .bool s.up]
def stV (s : St) : Value := .agg (stC s).toArray
structure FitS (s : St) : Prop where
  router : -9223372036854775808 ≤ s.router ∧ s.router ≤ 9223372036854775807
  seq : (s.seq : Int) ≤ 18446744073709551615
  time : -9223372036854775808 ≤ s.time ∧ s.time ≤ 9223372036854775807
def zeroS : St := ⟨0, 0, 0, false⟩
def okS (s : St) : Bool := decide (0 ≤ s.router) && decide (s.router ≤ 1048576) && decide (1 ≤ s.seq) && decide (s.seq ≤ 1099511627776) && decide (0 ≤ s.time) && decide (s.time ≤ 1099511627776)
/-- the seats rise by router behind a bound -/
def rise : Option Int → List St → Bool
  | _, [] => true
  | none, s :: l => okS s && rise (some s.router) l
  | some r, s :: l => okS s && decide (r < s.router) && rise (some s.router) l
def okL (l : List St) : Bool := decide (l.length ≤ 64) && rise none l
def checkL (l : List St) : Int := if okL l then 0 else 2
def findL (l : List St) (r : Int) : Option St := l.find? (fun s => decide (s.router = r))
def seatOf (l : List St) (r : Int) : St := (findL l r).getD zeroS
def isIn (l : List St) (r : Int) : Bool := (findL l r).isSome
def askL (l : List St) (e : Ev) (h : Int) : Int := if okL l && okE e then (if h < -1 ∨ 1099511627776 < h then 1 else 0) else 2
def misL (l : List St) (e : Ev) (h : Int) : Int :=
  if isIn l e.router = false ∧ e.kind ≠ 1 then 14
  else if e.seq ≠ (seatOf l e.router).seq + 1 then 12
  else if e.time < (seatOf l e.router).time ∨ e.time ≤ h then 13
  else if decide (e.kind = 1) = (seatOf l e.router).up then 10
  else if isIn l e.router = false ∧ l.length = 64 then 8
  else 0
def mayL (l : List St) (e : Ev) (h : Int) : Int := if askL l e h = 0 then misL l e h else askL l e h
def ahead (l : List St) (r : Int) : List St := l.filter (fun s => decide (s.router < r))
def behind (l : List St) (r : Int) : List St := l.filter (fun s => decide (r < s.router))
def seatedL (l : List St) (s : St) : List St := ahead l s.router ++ ([s] ++ behind l s.router)
def nextL (l : List St) (e : Ev) (h : Int) : List St × Int :=
  if askL l e h = 0 then (if misL l e h = 0 then (seatedL l ⟨e.router, e.seq, e.time, decide (e.kind ≠ 2)⟩, 0) else (l, misL l e h)) else ([], askL l e h)
def allL (h : Int) : List St → List Ev → Nat → List St × Nat × Int
  | l, [], k => (l, k, 0)
  | l, e :: t, k => if (nextL l e h).2 = 0 then allL h (nextL l e h).1 t (k + 1) else (l, k, (nextL l e h).2)
/-- a row that lies in memory: n elements of sz cells each -/
def HasRow (W : World) (v : Value) (sz n : Nat) (cs : List Value) : Prop :=
  cs.length = n * sz ∧ ((v = .slice none 0 0 ∧ n = 0) ∨ ∃ a cap, v = .slice (some a) n cap ∧ n ≤ cap ∧ cap ≤ 9223372036854775807 ∧ (0 < n → a.spot = none ∧ a.block < W.heap.size) ∧ ∀ j, j < n * sz → W.cell? (a.add j) = cs[j]?)
theorem addr_add (b o j : Nat) : (⟨b, o, none⟩ : Addr).add j = ⟨b, o + j, none⟩ := by unfold Addr.add; split <;> simp_all
theorem hasRow_nil (W : World) (sz : Nat) : HasRow W (.slice none 0 0) sz 0 [] := ⟨by simp, .inl ⟨rfl, rfl⟩⟩
theorem hasRow_own {W : World} {B e sz n : Nat} {v : Value} {cs : List Value} (h : W.ownsRow B e sz v n cs) : HasRow W v sz n cs := by
  refine ⟨h.1, ?_⟩
  rcases h.2 with h0 | ⟨g, cap, cur, rfl, hg, hgb, hnc, hcm, rest⟩
  · exact .inl h0
  · refine .inr ⟨⟨g, 0, none⟩, cap, rfl, hnc, by unfold maxLen at hcm; exact hcm, fun _ => ⟨rfl, (Array.getElem?_eq_some_iff.1 hgb).1⟩, fun j hj => ?_⟩
    rw [← h.cellAt j hj, addr_add, Nat.zero_add]
theorem HasRow.keep {W W' : World} {v : Value} {sz n : Nat} {cs : List Value} (h : HasRow W v sz n cs) (hb : Below W.heap.size W W') : HasRow W' v sz n cs := by
  refine ⟨h.1, ?_⟩
  rcases h.2 with h0 | ⟨a, cap, e, h1, h2, h3, h4⟩
  · exact .inl h0
  · refine .inr ⟨a, cap, e, h1, h2, fun h => ⟨(h3 h).1, Nat.lt_of_lt_of_le (h3 h).2 hb.size⟩, fun j hj => ?_⟩
    have hn : 0 < n := by rcases Nat.eq_zero_or_pos n with h0 | h0; rw [h0] at hj; omega; exact h0
    obtain ⟨b, i, s⟩ := a
    obtain ⟨hs, hlt⟩ := h3 hn
    simp only at hs hlt
    subst hs
    have h5 := h4 j hj
    rw [addr_add] at h5 ⊢
    rw [← h5]
    exact hb.cell (p := ⟨b, i + j, none⟩) hlt
theorem HasRow.slice {W : World} {v : Value} {sz n : Nat} {cs : List Value} (h : HasRow W v sz n cs) : ∃ o cap, v = .slice o n cap ∧ n ≤ cap ∧ cap ≤ 9223372036854775807 := by
  rcases h.2 with ⟨h0, rfl⟩ | ⟨a, cap, e, h1, h2, h3, h4⟩
  · exact ⟨none, 0, h0, Nat.le_refl _, by omega⟩
  · exact ⟨some a, cap, e, h1, h2⟩
theorem HasRow.at {W : World} {o : Option Addr} {m cap sz n : Nat} {cs : List Value} (h : HasRow W (.slice o m cap) sz n cs) (hn : 0 < n) : m = n ∧ ∃ b i, o = some ⟨b, i, none⟩ ∧ b < W.heap.size ∧ ∀ j, j < n * sz → W.cell? ⟨b, i + j, none⟩ = cs[j]? := by
  rcases h.2 with ⟨h0, h1⟩ | ⟨a, c, e, h1, h2, h3, h4⟩
  · omega
  · injection e with e1 e2 e3
    subst e1
    obtain ⟨b, i, s⟩ := a
    obtain ⟨hs, hlt⟩ := h3 hn
    simp only at hs hlt
    subst hs
    exact ⟨e2, b, i, rfl, hlt, fun j hj => by rw [← h4 j hj, addr_add]⟩
def stCs (l : List St) : List Value := l.flatMap stC
theorem stCs_len (l : List St) : (stCs l).length = l.length * 4 := by
  induction l with
  | nil => rfl
  | cons s l ih =>
    show (stC s ++ stCs l).length = _
    rw [List.length_append, ih, List.length_cons]
    show 4 + _ = _
    omega
theorem stCs_app (a b : List St) : stCs (a ++ b) = stCs a ++ stCs b := by unfold stCs; rw [List.flatMap_append]
theorem one_seats (l : List St) : ∀ x ∈ stCs l, x.oneCell' = true := by
  intro x hx
  obtain ⟨p, _, h⟩ := List.mem_flatMap.1 hx
  simp only [stC, List.mem_cons, List.not_mem_nil, or_false] at h
  rcases h with rfl | rfl | rfl | rfl <;> rfl
/-- rows of seats -/
def HasSts (W : World) (v : Value) (l : List St) : Prop := HasRow W v 4 l.length (stCs l)
theorem HasSts.keep {W W' : World} {v : Value} {l : List St} (h : HasSts W v l) (hb : Below W.heap.size W W') : HasSts W' v l := HasRow.keep h hb
theorem stCs_at (l : List St) : ∀ j (h : j < l.length), (stCs l)[4 * j]? = some (.int .i64 l[j].router) ∧ (stCs l)[4 * j + 1]? = some (.int .u64 (l[j].seq : Int)) ∧ (stCs l)[4 * j + 2]? = some (.int .i64 l[j].time) ∧ (stCs l)[4 * j + 3]? = some (.bool l[j].up) := by
  induction l with
  | nil => intro j h; simp at h
  | cons p ps ih =>
    intro j h
    cases j with
    | zero => exact ⟨rfl, rfl, rfl, rfl⟩
    | succ j =>
      have := ih j (by simpa using h)
      rw [show stCs (p :: ps) = .int .i64 p.router :: .int .u64 (p.seq : Int) :: .int .i64 p.time :: .bool p.up :: stCs ps from rfl, show 4 * (j + 1) = 4 * j + 1 + 1 + 1 + 1 by omega]
      simp only [List.getElem?_cons_succ, List.getElem_cons_succ]
      exact this
theorem HasSts.cell {W : World} {o : Option Addr} {m cap : Nat} {l : List St} (h : HasSts W (.slice o m cap) l) (j : Nat) (hj : j < l.length) : ∃ b i, o = some ⟨b, i, none⟩ ∧ b < W.heap.size ∧ W.cell? ⟨b, i + j * 4, none⟩ = some (.int .i64 l[j].router) ∧ W.cell? ⟨b, i + j * 4 + 1, none⟩ = some (.int .u64 (l[j].seq : Int)) ∧ W.cell? ⟨b, i + j * 4 + 2, none⟩ = some (.int .i64 l[j].time) ∧ W.cell? ⟨b, i + j * 4 + 3, none⟩ = some (.bool l[j].up) := by
  obtain ⟨_, b, i, e, hb, hc⟩ := HasRow.at h (by omega)
  obtain ⟨h0, h1, h2, h3⟩ := stCs_at l j hj
  refine ⟨b, i, e, hb, ?_, ?_, ?_, ?_⟩
  · rw [hc (j * 4) (by omega), Nat.mul_comm]; exact h0
  · rw [Nat.add_assoc, hc (j * 4 + 1) (by omega), Nat.mul_comm]; exact h1
  · rw [Nat.add_assoc, hc (j * 4 + 2) (by omega), Nat.mul_comm]; exact h2
  · rw [Nat.add_assoc, hc (j * 4 + 3) (by omega), Nat.mul_comm]; exact h3
def NewIn (w : World) (v : Value) : Prop := ∀ a n c, v = .slice (some a) n c → w.heap.size ≤ a.block
end Go.Proofs.YtopabkkapbaibaaGreat.Ord
