/- Rows of addresses in memory; cuts, plain. -/
import Derived.Test.YtmkbijnndbgjgaaLkBase
import Derived.Test.YtmkbijnndbgjgaaAddrLast
import Derived.Test.YtmkbijnndbgjgaaAddrNext
set_option linter.unusedVariables false
namespace Go.Proofs.Ytmkbijnndbgjgaa.Ct
open Go.RowKit
open Go.Proofs.Ytmkbijnndbgjgaa.Addr (hiN loN adV cmpN)
open Go.Proofs.Ytmkbijnndbgjgaa.Lk (HasRow addr_add hasRow_own)
def adC (n : Nat) : List Value := [.int .u64 (hiN n : Int), .int .u64 (loN n : Int)]
def adCs (l : List Nat) : List Value := l.flatMap adC
theorem adCs_len (l : List Nat) : (adCs l).length = l.length * 2 := by
  induction l with
  | nil => rfl
  | cons s l ih =>
    show (adC s ++ adCs l).length = _
    rw [List.length_append, ih, List.length_cons]
    show 2 + _ = _
    omega
theorem adCs_app (a b : List Nat) : adCs (a ++ b) = adCs a ++ adCs b := by unfold adCs; rw [List.flatMap_append]
theorem one_ads (l : List Nat) : ∀ x ∈ adCs l, x.oneCell' = true := by
  intro x hx
  obtain ⟨p, _, h⟩ := List.mem_flatMap.1 hx
  simp only [adC, List.mem_cons, List.not_mem_nil, or_false] at h
  rcases h with rfl | rfl <;> rfl
def HasAds (W : World) (v : Value) (l : List Nat) : Prop := HasRow W v 2 l.length (adCs l)
theorem HasAds.keep {W W' : World} {v : Value} {l : List Nat} (h : HasAds W v l) (hb : Below W.heap.size W W') : HasAds W' v l := Lk.HasRow.keep h hb
theorem adCs_at (l : List Nat) : ∀ j (h : j < l.length), (adCs l)[2 * j]? = some (.int .u64 (hiN l[j] : Int)) ∧ (adCs l)[2 * j + 1]? = some (.int .u64 (loN l[j] : Int)) := by
  induction l with
  | nil => intro j h; simp at h
  | cons p ps ih =>
    intro j h
    cases j with
    | zero => exact ⟨rfl, rfl⟩
    | succ j =>
      have := ih j (by simpa using h)
      rw [show adCs (p :: ps) = .int .u64 (hiN p : Int) :: .int .u64 (loN p : Int) :: adCs ps from rfl, show 2 * (j + 1) = 2 * j + 1 + 1 by omega]
      simp only [List.getElem?_cons_succ, List.getElem_cons_succ]
      exact this
theorem HasAds.cell {W : World} {o : Option Addr} {m cap : Nat} {l : List Nat} (h : HasAds W (.slice o m cap) l) (j : Nat) (hj : j < l.length) : ∃ b i, o = some ⟨b, i, none⟩ ∧ b < W.heap.size ∧ W.cell? ⟨b, i + j * 2, none⟩ = some (.int .u64 (hiN l[j] : Int)) ∧ W.cell? ⟨b, i + j * 2 + 1, none⟩ = some (.int .u64 (loN l[j] : Int)) := by
  obtain ⟨_, b, i, e, hb, hc⟩ := Lk.HasRow.at h (by omega)
  have h2 := adCs_at l j hj
  exact ⟨b, i, e, hb, by rw [hc (j * 2) (by omega), Nat.mul_comm]; exact h2.1, by rw [Nat.add_assoc, hc (j * 2 + 1) (by omega), Nat.mul_comm]; exact h2.2⟩
theorem adCs_set (m : List Nat) (x : Nat) : ∀ j, j < m.length → ((adCs m).set (j * 2) (.int .u64 (hiN x : Int))).set (j * 2 + 1) (.int .u64 (loN x : Int)) = adCs (m.set j x) := by
  induction m with
  | nil => intro j h; simp at h
  | cons y m ih =>
    intro j h
    cases j with
    | zero => rfl
    | succ j =>
      have := ih j (by simpa using h)
      rw [show adCs (y :: m) = .int .u64 (hiN y : Int) :: .int .u64 (loN y : Int) :: adCs m from rfl, show (j + 1) * 2 = j * 2 + 1 + 1 by omega, List.set_cons_succ, List.set_cons_succ, List.set_cons_succ, List.set_cons_succ, this]
      rfl
theorem adCs_take (l : List Nat) : ∀ j, (adCs l).take (j * 2) = adCs (l.take j) := by
  induction l with
  | nil => intro j; simp [adCs]
  | cons x l ih =>
    intro j
    cases j with
    | zero => simp [adCs]
    | succ j =>
      show (adC x ++ adCs l).take ((j + 1) * 2) = adC x ++ adCs (l.take j)
      rw [List.take_append, ← ih j]
      congr 1
      · rw [List.take_of_length_le (by show 2 ≤ _; omega)]
      · show (adCs l).take ((j + 1) * 2 - 2) = _
        congr 1
        omega
theorem adCs_drop (l : List Nat) : ∀ j, (adCs l).drop (j * 2) = adCs (l.drop j) := by
  induction l with
  | nil => intro j; simp [adCs]
  | cons x l ih =>
    intro j
    cases j with
    | zero => simp
    | succ j =>
      show (adC x ++ adCs l).drop ((j + 1) * 2) = adCs (l.drop j)
      rw [List.drop_append, ← ih j, List.drop_of_length_le (l := adC x) (by show 2 ≤ _; omega), List.nil_append]
      show (adCs l).drop ((j + 1) * 2 - 2) = _
      congr 1
      omega
/-- rising numbers -/
abbrev Up (l : List Nat) : Prop := l.Pairwise (· < ·)
theorem ext_up : ∀ (a b : List Nat), Up a → Up b → (∀ z, z ∈ a ↔ z ∈ b) → a = b := by
  intro a
  induction a with
  | nil =>
    intro b _ _ h
    cases b with
    | nil => rfl
    | cons y b => exact absurd ((h y).2 List.mem_cons_self) (by simp)
  | cons x a ih =>
    intro b ha hb h
    cases b with
    | nil => exact absurd ((h x).1 List.mem_cons_self) (by simp)
    | cons y b =>
      have h1 := List.pairwise_cons.1 ha
      have h2 := List.pairwise_cons.1 hb
      have hxy : x = y := by
        rcases List.mem_cons.1 ((h x).1 List.mem_cons_self) with e | e
        · exact e
        · rcases List.mem_cons.1 ((h y).2 List.mem_cons_self) with e2 | e2
          · exact e2.symm
          · have := h2.1 x e; have := h1.1 y e2; omega
      subst hxy
      congr 1
      refine ih b h1.2 h2.2 (fun z => ?_)
      constructor
      · intro hz
        rcases List.mem_cons.1 ((h z).1 (List.mem_cons_of_mem _ hz)) with e | e
        · subst e; have := h1.1 z hz; omega
        · exact e
      · intro hz
        rcases List.mem_cons.1 ((h z).2 (List.mem_cons_of_mem _ hz)) with e | e
        · subst e; have := h2.1 z hz; omega
        · exact e
/-- a number put where it belongs, once -/
def insN (l : List Nat) (a : Nat) : List Nat := l.filter (fun x => decide (x < a)) ++ a :: l.filter (fun x => decide (a < x))
theorem mem_insN (l : List Nat) (a z : Nat) : z ∈ insN l a ↔ z = a ∨ z ∈ l := by
  unfold insN
  simp only [List.mem_append, List.mem_filter, List.mem_cons, decide_eq_true_eq]
  constructor
  · rintro (h | h | h)
    · exact .inr h.1
    · exact .inl h
    · exact .inr h.1
  · rintro (h | h)
    · exact .inr (.inl h)
    · rcases Nat.lt_trichotomy z a with g | g | g
      · exact .inl ⟨h, g⟩
      · exact .inr (.inl g)
      · exact .inr (.inr ⟨h, g⟩)
theorem up_insN {l : List Nat} (h : Up l) (a : Nat) : Up (insN l a) := by
  unfold insN
  refine List.pairwise_append.2 ⟨h.sublist List.filter_sublist, List.pairwise_cons.2 ⟨fun z hz => by simpa using (List.mem_filter.1 hz).2, h.sublist List.filter_sublist⟩, fun x hx y hy => ?_⟩
  have h1 := (List.mem_filter.1 hx).2
  simp only [decide_eq_true_eq] at h1
  rcases List.mem_cons.1 hy with rfl | hy
  · exact h1
  · have h2 := (List.mem_filter.1 hy).2
    simp only [decide_eq_true_eq] at h2
    omega
/-- numbers in order, each once -/
def sortN (l : List Nat) : List Nat := l.foldl insN []
theorem sortN_from (l : List Nat) : ∀ out, Up out → Up (l.foldl insN out) ∧ ∀ z, z ∈ l.foldl insN out ↔ z ∈ out ∨ z ∈ l := by
  induction l with
  | nil => intro out h; exact ⟨h, fun z => by simp⟩
  | cons a l ih =>
    intro out h
    obtain ⟨i1, i2⟩ := ih (insN out a) (up_insN h a)
    refine ⟨i1, fun z => ?_⟩
    rw [List.foldl_cons, i2, mem_insN, List.mem_cons]
    constructor
    · rintro ((h | h) | h)
      · exact .inr (.inl h)
      · exact .inl h
      · exact .inr (.inr h)
    · rintro (h | h | h)
      · exact .inl (.inr h)
      · exact .inl (.inl h)
      · exact .inr h
theorem up_sortN (l : List Nat) : Up (sortN l) := (sortN_from l [] List.Pairwise.nil).1
theorem mem_sortN (l : List Nat) (z : Nat) : z ∈ sortN l ↔ z ∈ l := by
  have := (sortN_from l [] List.Pairwise.nil).2 z
  unfold sortN
  simpa using this
theorem sortN_of {l m : List Nat} (hm : Up m) (h : ∀ z, z ∈ m ↔ z ∈ l) : m = sortN l := ext_up _ _ hm (up_sortN l) (fun z => by rw [h, mem_sortN])
end Go.Proofs.Ytmkbijnndbgjgaa.Ct
