/- Rows of spans in memory; the field of the addresses of a kind. -/
import Derived.Test.YtmkbijnndbgjgaaSpMath
import Derived.Test.YtmkbijnndbgjgaaLkBase
set_option linter.unusedVariables false
namespace Go.Proofs.Ytmkbijnndbgjgaa.Sp
open Go.RowKit
open Go.Proofs.Ytmkbijnndbgjgaa.Addr (wideN rightB hiN loN adV RowAt below2 below_drew below_new bset cmpN nextE prevE)
open Go.Proofs.Ytmkbijnndbgjgaa.Lk (HasRow hasRow_own)
def spC (s : Sp) : List Value := [.int .u64 (hiN s.1 : Int), .int .u64 (loN s.1 : Int), .int .u64 (hiN s.2 : Int), .int .u64 (loN s.2 : Int)]
def spV (s : Sp) : Value := .agg #[.int .u64 (hiN s.1 : Int), .int .u64 (loN s.1 : Int), .int .u64 (hiN s.2 : Int), .int .u64 (loN s.2 : Int)]
def FitS (s : Sp) : Prop := s.1 < 2 ^ 128 ∧ s.2 < 2 ^ 128
def spCs (l : List Sp) : List Value := l.flatMap spC
theorem spCs_len (l : List Sp) : (spCs l).length = l.length * 4 := by
  induction l with
  | nil => rfl
  | cons s l ih =>
    show (spC s ++ spCs l).length = _
    rw [List.length_append, ih, List.length_cons]
    show 4 + _ = _
    omega
theorem spCs_app (a b : List Sp) : spCs (a ++ b) = spCs a ++ spCs b := by unfold spCs; rw [List.flatMap_append]
theorem spCs_one (s : Sp) : spCs [s] = spC s := by simp [spCs]
theorem one_sps (l : List Sp) : ∀ x ∈ spCs l, x.oneCell' = true := by
  intro x hx
  obtain ⟨p, _, h⟩ := List.mem_flatMap.1 hx
  simp only [spC, List.mem_cons, List.not_mem_nil, or_false] at h
  rcases h with rfl | rfl | rfl | rfl <;> rfl
def HasSps (W : World) (v : Value) (l : List Sp) : Prop := HasRow W v 4 l.length (spCs l)
theorem HasSps.keep {W W' : World} {v : Value} {l : List Sp} (h : HasSps W v l) (hb : Below W.heap.size W W') : HasSps W' v l := HasRow.keep h hb
theorem hasSps_nil (W : World) : HasSps W (.slice none 0 0) [] := Lk.hasRow_nil W 4
theorem spCs_at (l : List Sp) : ∀ j (h : j < l.length), (spCs l)[4 * j]? = some (.int .u64 (hiN l[j].1 : Int)) ∧ (spCs l)[4 * j + 1]? = some (.int .u64 (loN l[j].1 : Int)) ∧ (spCs l)[4 * j + 2]? = some (.int .u64 (hiN l[j].2 : Int)) ∧ (spCs l)[4 * j + 3]? = some (.int .u64 (loN l[j].2 : Int)) := by
  induction l with
  | nil => intro j h; simp at h
  | cons p ps ih =>
    intro j h
    cases j with
    | zero => exact ⟨rfl, rfl, rfl, rfl⟩
    | succ j =>
      have := ih j (by simpa using h)
      rw [show spCs (p :: ps) = .int .u64 (hiN p.1 : Int) :: .int .u64 (loN p.1 : Int) :: .int .u64 (hiN p.2 : Int) :: .int .u64 (loN p.2 : Int) :: spCs ps from rfl, show 4 * (j + 1) = 4 * j + 1 + 1 + 1 + 1 by omega]
      rw [show 4 * j + 1 + 1 + 1 + 1 + 1 = (4 * j + 1) + 1 + 1 + 1 + 1 by omega, show 4 * j + 1 + 1 + 1 + 1 + 2 = (4 * j + 2) + 1 + 1 + 1 + 1 by omega, show 4 * j + 1 + 1 + 1 + 1 + 3 = (4 * j + 3) + 1 + 1 + 1 + 1 by omega]
      simp only [List.getElem?_cons_succ, List.getElem_cons_succ]
      exact this
theorem HasSps.cell {W : World} {o : Option Addr} {m cap : Nat} {l : List Sp} (h : HasSps W (.slice o m cap) l) (j : Nat) (hj : j < l.length) : ∃ b i, o = some ⟨b, i, none⟩ ∧ b < W.heap.size ∧ W.cell? ⟨b, i + j * 4, none⟩ = some (.int .u64 (hiN l[j].1 : Int)) ∧ W.cell? ⟨b, i + j * 4 + 1, none⟩ = some (.int .u64 (loN l[j].1 : Int)) ∧ W.cell? ⟨b, i + j * 4 + 2, none⟩ = some (.int .u64 (hiN l[j].2 : Int)) ∧ W.cell? ⟨b, i + j * 4 + 3, none⟩ = some (.int .u64 (loN l[j].2 : Int)) := by
  obtain ⟨_, b, i, e, hb, hc⟩ := HasRow.at h (by omega)
  have h2 := spCs_at l j hj
  exact ⟨b, i, e, hb, by rw [hc (j * 4) (by omega), Nat.mul_comm]; exact h2.1, by rw [Nat.add_assoc, hc (j * 4 + 1) (by omega), Nat.mul_comm]; exact h2.2.1, by rw [Nat.add_assoc, hc (j * 4 + 2) (by omega), Nat.mul_comm]; exact h2.2.2.1, by rw [Nat.add_assoc, hc (j * 4 + 3) (by omega), Nat.mul_comm]; exact h2.2.2.2⟩
/-- a box that holds a kind of addresses -/
def SixAt (W : World) (g : Nat) (six : Bool) : Prop := W.cell? ⟨g, 0, none⟩ = some (.bool six) ∧ g < W.heap.size
theorem SixAt.keep {W W' : World} {g : Nat} {six : Bool} (h : SixAt W g six) (hb : Below W.heap.size W W') : SixAt W' g six := ⟨(hb.cell (p := ⟨g, 0, none⟩) h.2).trans h.1, Nat.lt_of_lt_of_le h.2 hb.size⟩
def f0 (g : Nat) : Value := .func (.func 87) #[] #[.pointer (some ⟨g, 0, none⟩)]
def f1 : Value := .func (.func 89) #[] #[]
def f2 (g : Nat) : Value := .func (.func 90) #[] #[.pointer (some ⟨g, 0, none⟩)]
def f3 (g : Nat) : Value := .func (.func 92) #[] #[.pointer (some ⟨g, 0, none⟩)]
/-- the field of the addresses of the kind that box g holds -/
def fdV (g : Nat) : Value := .agg #[f0 g, f1, f2 g, f3 g]
end Go.Proofs.Ytmkbijnndbgjgaa.Sp
