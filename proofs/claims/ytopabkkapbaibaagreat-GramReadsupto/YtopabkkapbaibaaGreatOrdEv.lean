/- Rows of events in memory. -/
import Derived.Test.YtopabkkapbaibaaGreatOrdBase
set_option linter.unusedVariables false
namespace Go.Proofs.YtopabkkapbaibaaGreat.Ord
open Go.RowKit
open Go.Proofs.YtopabkkapbaibaaGreat.Msg (Ev okE checkE evV evC FitE)
open Go.Proofs.YtopabkkapbaibaaGreat.Addr (hiN loN RowAt below2 below_drew below_new RowAt.new)
def evCs (l : List Ev) : List Value := l.flatMap evC
theorem evCs_len (l : List Ev) : (evCs l).length = l.length * 12 := by
  induction l with
  | nil => rfl
  | cons s l ih =>
    show (evC s ++ evCs l).length = _
    rw [List.length_append, ih, List.length_cons]
    show 12 + _ = _
    omega
/-- rows of events -/
def HasEvs (W : World) (v : Value) (l : List Ev) : Prop := HasRow W v 12 l.length (evCs l)
theorem HasEvs.keep {W W' : World} {v : Value} {l : List Ev} (h : HasEvs W v l) (hb : Below W.heap.size W W') : HasEvs W' v l := HasRow.keep h hb
theorem evCs_at (l : List Ev) : ∀ j (h : j < l.length), (evCs l)[12 * j]? = some (.int .u8 (l[j].kind : Int)) ∧ (evCs l)[12 * j + 1]? = some (.int .i64 l[j].router) ∧ (evCs l)[12 * j + 2]? = some (.int .u64 (l[j].seq : Int)) ∧ (evCs l)[12 * j + 3]? = some (.int .i64 l[j].time) ∧ (evCs l)[12 * j + 4]? = some (.bool l[j].pf.six) ∧ (evCs l)[12 * j + 5]? = some (.int .u64 (hiN l[j].pf.n : Int)) ∧ (evCs l)[12 * j + 6]? = some (.int .u64 (loN l[j].pf.n : Int)) ∧ (evCs l)[12 * j + 7]? = some (.int .i64 l[j].pf.len) ∧ (evCs l)[12 * j + 8]? = some (.int .u8 (l[j].act.k : Int)) ∧ (evCs l)[12 * j + 9]? = some (.int .i64 l[j].act.i) ∧ (evCs l)[12 * j + 10]? = some (.int .i64 l[j].iface) ∧ (evCs l)[12 * j + 11]? = some (.int .i64 l[j].peer) := by
  induction l with
  | nil => intro j h; simp at h
  | cons p ps ih =>
    intro j h
    cases j with
    | zero => exact ⟨rfl, rfl, rfl, rfl, rfl, rfl, rfl, rfl, rfl, rfl, rfl, rfl⟩
    | succ j =>
      have := ih j (by simpa using h)
      rw [show evCs (p :: ps) = .int .u8 (p.kind : Int) :: .int .i64 p.router :: .int .u64 (p.seq : Int) :: .int .i64 p.time :: .bool p.pf.six :: .int .u64 (hiN p.pf.n : Int) :: .int .u64 (loN p.pf.n : Int) :: .int .i64 p.pf.len :: .int .u8 (p.act.k : Int) :: .int .i64 p.act.i :: .int .i64 p.iface :: .int .i64 p.peer :: evCs ps from rfl, show 12 * (j + 1) = 12 * j + 1 + 1 + 1 + 1 + 1 + 1 + 1 + 1 + 1 + 1 + 1 + 1 by omega]
      simp only [List.getElem?_cons_succ, List.getElem_cons_succ]
      exact this
theorem HasEvs.cell {W : World} {o : Option Addr} {m cap : Nat} {l : List Ev} (h : HasEvs W (.slice o m cap) l) (j : Nat) (hj : j < l.length) : ∃ b i, o = some ⟨b, i, none⟩ ∧ b < W.heap.size ∧ W.cell? ⟨b, i + j * 12, none⟩ = some (.int .u8 (l[j].kind : Int)) ∧ W.cell? ⟨b, i + j * 12 + 1, none⟩ = some (.int .i64 l[j].router) ∧ W.cell? ⟨b, i + j * 12 + 2, none⟩ = some (.int .u64 (l[j].seq : Int)) ∧ W.cell? ⟨b, i + j * 12 + 3, none⟩ = some (.int .i64 l[j].time) ∧ W.cell? ⟨b, i + j * 12 + 4, none⟩ = some (.bool l[j].pf.six) ∧ W.cell? ⟨b, i + j * 12 + 5, none⟩ = some (.int .u64 (hiN l[j].pf.n : Int)) ∧ W.cell? ⟨b, i + j * 12 + 6, none⟩ = some (.int .u64 (loN l[j].pf.n : Int)) ∧ W.cell? ⟨b, i + j * 12 + 7, none⟩ = some (.int .i64 l[j].pf.len) ∧ W.cell? ⟨b, i + j * 12 + 8, none⟩ = some (.int .u8 (l[j].act.k : Int)) ∧ W.cell? ⟨b, i + j * 12 + 9, none⟩ = some (.int .i64 l[j].act.i) ∧ W.cell? ⟨b, i + j * 12 + 10, none⟩ = some (.int .i64 l[j].iface) ∧ W.cell? ⟨b, i + j * 12 + 11, none⟩ = some (.int .i64 l[j].peer) := by
  obtain ⟨_, b, i, e, hb, hc⟩ := HasRow.at h (by omega)
  obtain ⟨h0, h1, h2, h3, h4, h5, h6, h7, h8, h9, h10, h11⟩ := evCs_at l j hj
  refine ⟨b, i, e, hb, ?_, ?_, ?_, ?_, ?_, ?_, ?_, ?_, ?_, ?_, ?_, ?_⟩
  · rw [hc (j * 12) (by omega), Nat.mul_comm]; exact h0
  · rw [Nat.add_assoc, hc (j * 12 + 1) (by omega), Nat.mul_comm]; exact h1
  · rw [Nat.add_assoc, hc (j * 12 + 2) (by omega), Nat.mul_comm]; exact h2
  · rw [Nat.add_assoc, hc (j * 12 + 3) (by omega), Nat.mul_comm]; exact h3
  · rw [Nat.add_assoc, hc (j * 12 + 4) (by omega), Nat.mul_comm]; exact h4
  · rw [Nat.add_assoc, hc (j * 12 + 5) (by omega), Nat.mul_comm]; exact h5
  · rw [Nat.add_assoc, hc (j * 12 + 6) (by omega), Nat.mul_comm]; exact h6
  · rw [Nat.add_assoc, hc (j * 12 + 7) (by omega), Nat.mul_comm]; exact h7
  · rw [Nat.add_assoc, hc (j * 12 + 8) (by omega), Nat.mul_comm]; exact h8
  · rw [Nat.add_assoc, hc (j * 12 + 9) (by omega), Nat.mul_comm]; exact h9
  · rw [Nat.add_assoc, hc (j * 12 + 10) (by omega), Nat.mul_comm]; exact h10
  · rw [Nat.add_assoc, hc (j * 12 + 11) (by omega), Nat.mul_comm]; exact h11
end Go.Proofs.YtopabkkapbaibaaGreat.Ord
