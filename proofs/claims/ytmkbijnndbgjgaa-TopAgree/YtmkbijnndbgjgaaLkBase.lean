/- Links, plain, and rows of them in memory. -/
import Derived.Test.YtmkbijnndbgjgaaAddrQuiet
import Derived.Laws.AppendOwn
import Derived.OwnWalk
set_option linter.unusedVariables false
namespace Go.Proofs.Ytmkbijnndbgjgaa.Lk
open Go.RowKit
open Go.Proofs.Ytmkbijnndbgjgaa.Addr (RowAt below2 below_drew below_new bset)
/-- a link, plain -/
structure Lk where
  iface : Int
  peer : Int
def lkC (x : Lk) : List Value := [.int .i64 x.iface, .int .i64 x.peer]
def lkV (x : Lk) : Value := .agg (lkC x).toArray
def FitL (x : Lk) : Prop := (-9223372036854775808 ≤ x.iface ∧ x.iface ≤ 9223372036854775807) ∧ (-9223372036854775808 ≤ x.peer ∧ x.peer ≤ 9223372036854775807)
def okK (x : Lk) : Bool := decide (0 ≤ x.iface) && decide (x.iface ≤ 65536) && decide (0 ≤ x.peer) && decide (x.peer ≤ 1048576)
/-- the links rise by interface behind a bound -/
def rise : Option Int → List Lk → Bool
  | _, [] => true
  | none, s :: l => okK s && rise (some s.iface) l
  | some r, s :: l => okK s && decide (r < s.iface) && rise (some s.iface) l
def okL (l : List Lk) : Bool := decide (l.length ≤ 32) && rise none l
def checkL (l : List Lk) : Int := if okL l then 0 else 2
def findL (l : List Lk) (i : Int) : Option Lk := l.find? (fun s => decide (s.iface = i))
def peerL (l : List Lk) (i : Int) : Int × Int := if okL l then (match findL l i with | some s => (s.peer, 0) | none => (0, 3)) else (0, 2)
def aheadL (l : List Lk) (i : Int) : List Lk := l.filter (fun s => decide (s.iface < i))
def behindL (l : List Lk) (i : Int) : List Lk := l.filter (fun s => decide (i < s.iface))
def others (l : List Lk) (i : Int) : List Lk := l.filter (fun s => !decide (s.iface = i))
def delL (l : List Lk) (i : Int) : List Lk × Int := if okL l then (others l i, if (others l i).length = l.length then 3 else 0) else ([], 2)
def putL (l : List Lk) (x : Lk) : List Lk × Int := if okL l && okK x then (if (others l x.iface).length = 32 then (others l x.iface, 8) else (aheadL l x.iface ++ ([x] ++ behindL l x.iface), 0)) else ([], 2)
/-- a row that lies in memory: n elements of sz cells each -/
def HasRow (W : World) (v : Value) (sz n : Nat) (cs : List Value) : Prop :=
  cs.length = n * sz ∧ ((v = .slice none 0 0 ∧ n = 0) ∨ ∃ a cap, v = .slice (some a) n cap ∧ n ≤ cap ∧ cap ≤ 9223372036854775807 ∧ (0 < n → a.spot = none ∧ a.block < W.heap.size) ∧ ∀ j, j < n * sz → W.cell? (a.add j) = cs[j]?)
theorem addr_add (b o j : Nat) : (⟨b, o, none⟩ : Addr).add j = ⟨b, o + j, none⟩ := by unfold Addr.add; split <;> simp_all
theorem hasRow_nil (W : World) (sz : Nat) : HasRow W (.slice none 0 0) sz 0 [] := ⟨by simp, .inl ⟨rfl, rfl⟩⟩
theorem hasRow_own {W : World} {B e sz n : Nat} {v : Value} {cs : List Value} (h : W.ownsRow B e sz v n cs) : HasRow W v sz n cs := by
  refine ⟨h.1, ?_⟩
  rcases h.2 with h0 | ⟨g, cap, cur, rfl, hg, hgb, hnc, hcm, rest⟩
  · exact .inl h0
  · refine .inr ⟨⟨g, 0, none⟩, cap, rfl, hnc, by unfold maxLen at hcm; exact hcm, fun _ => ⟨rfl, (Array.getElem?_eq_some_iff.1 hgb).1⟩, fun j hj => ?_⟩
    rw [← h.cellAt j hj, addr_add, Nat.zero_add]
theorem HasRow.keep {W W' : World} {v : Value} {sz n : Nat} {cs : List Value} (h : HasRow W v sz n cs) (hb : Below W.heap.size W W') : HasRow W' v sz n cs := by
  refine ⟨h.1, ?_⟩
  rcases h.2 with h0 | ⟨a, cap, e, h1, h2, h3, h4⟩
  · exact .inl h0
  · refine .inr ⟨a, cap, e, h1, h2, fun h => ⟨(h3 h).1, Nat.lt_of_lt_of_le (h3 h).2 hb.size⟩, fun j hj => ?_⟩
    have hn : 0 < n := by rcases Nat.eq_zero_or_pos n with h0 | h0; rw [h0] at hj; omega; exact h0
    obtain ⟨b, i, s⟩ := a
    obtain ⟨hs, hlt⟩ := h3 hn
    simp only at hs hlt
    subst hs
    have h5 := h4 j hj
    rw [addr_add] at h5 ⊢
    rw [← h5]
    exact hb.cell (p := ⟨b, i + j, none⟩) hlt
theorem HasRow.slice {W : World} {v : Value} {sz n : Nat} {cs : List Value} (h : HasRow W v sz n cs) : ∃ o cap, v = .slice o n cap ∧ n ≤ cap ∧ cap ≤ 9223372036854775807 := by
  rcases h.2 with ⟨h0, rfl⟩ | ⟨a, cap, e, h1, h2, h3, h4⟩
  · exact ⟨none, 0, h0, Nat.le_refl _, by omega⟩
  · exact ⟨some a, cap, e, h1, h2⟩
theorem HasRow.at {W : World} {o : Option Addr} {m cap sz n : Nat} {cs : List Value} (h : HasRow W (.slice o m cap) sz n cs) (hn : 0 < n) : m = n ∧ ∃ b i, o = some ⟨b, i, none⟩ ∧ b < W.heap.size ∧ ∀ j, j < n * sz → W.cell? ⟨b, i + j, none⟩ = cs[j]? := by
  rcases h.2 with ⟨h0, h1⟩ | ⟨a, c, e, h1, h2, h3, h4⟩
  · omega
  · injection e with e1 e2 e3
    subst e1
    obtain ⟨b, i, s⟩ := a
    obtain ⟨hs, hlt⟩ := h3 hn
    simp only at hs hlt
    subst hs
    exact ⟨e2, b, i, rfl, hlt, fun j hj => by rw [← h4 j hj, addr_add]⟩
def lkCs (l : List Lk) : List Value := l.flatMap lkC
theorem lkCs_len (l : List Lk) : (lkCs l).length = l.length * 2 := by
  induction l with
  | nil => rfl
  | cons s l ih =>
    show (lkC s ++ lkCs l).length = _
    rw [List.length_append, ih, List.length_cons]
    show 2 + _ = _
    omega
theorem lkCs_app (a b : List Lk) : lkCs (a ++ b) = lkCs a ++ lkCs b := by unfold lkCs; rw [List.flatMap_append]
theorem one_links (l : List Lk) : ∀ x ∈ lkCs l, x.oneCell' = true := by
  intro x hx
  obtain ⟨p, _, h⟩ := List.mem_flatMap.1 hx
  simp only [lkC, List.mem_cons, List.not_mem_nil, or_false] at h
  rcases h with rfl | rfl <;> rfl
def HasLks (W : World) (v : Value) (l : List Lk) : Prop := HasRow W v 2 l.length (lkCs l)
theorem HasLks.keep {W W' : World} {v : Value} {l : List Lk} (h : HasLks W v l) (hb : Below W.heap.size W W') : HasLks W' v l := HasRow.keep h hb
theorem lkCs_at (l : List Lk) : ∀ j (h : j < l.length), (lkCs l)[2 * j]? = some (.int .i64 l[j].iface) ∧ (lkCs l)[2 * j + 1]? = some (.int .i64 l[j].peer) := by
  induction l with
  | nil => intro j h; simp at h
  | cons p ps ih =>
    intro j h
    cases j with
    | zero => exact ⟨rfl, rfl⟩
    | succ j =>
      have := ih j (by simpa using h)
      rw [show lkCs (p :: ps) = .int .i64 p.iface :: .int .i64 p.peer :: lkCs ps from rfl, show 2 * (j + 1) = 2 * j + 1 + 1 by omega]
      simp only [List.getElem?_cons_succ, List.getElem_cons_succ]
      exact this
theorem HasLks.cell {W : World} {o : Option Addr} {m cap : Nat} {l : List Lk} (h : HasLks W (.slice o m cap) l) (j : Nat) (hj : j < l.length) : ∃ b i, o = some ⟨b, i, none⟩ ∧ b < W.heap.size ∧ W.cell? ⟨b, i + j * 2, none⟩ = some (.int .i64 l[j].iface) ∧ W.cell? ⟨b, i + j * 2 + 1, none⟩ = some (.int .i64 l[j].peer) := by
  obtain ⟨_, b, i, e, hb, hc⟩ := HasRow.at h (by omega)
  have h2 := lkCs_at l j hj
  exact ⟨b, i, e, hb, by rw [hc (j * 2) (by omega), Nat.mul_comm]; exact h2.1, by rw [Nat.add_assoc, hc (j * 2 + 1) (by omega), Nat.mul_comm]; exact h2.2⟩
def NewIn (w : World) (v : Value) : Prop := ∀ a n c, v = .slice (some a) n c → w.heap.size ≤ a.block
end Go.Proofs.Ytmkbijnndbgjgaa.Lk
