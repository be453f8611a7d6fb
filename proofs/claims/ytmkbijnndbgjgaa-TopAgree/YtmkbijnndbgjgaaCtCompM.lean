/- Numbers in order, each once, in place: plain. -/
import Derived.Test.YtmkbijnndbgjgaaCtBase
set_option linter.unusedVariables false
namespace Go.Proofs.Ytmkbijnndbgjgaa.Ct
/-- numbers that do not fall -/
abbrev Le (l : List Nat) : Prop := l.Pairwise (· ≤ ·)
theorem Le.at {d : List Nat} (h : Le d) {j k : Nat} (hj : j ≤ k) (hk : k < d.length) (hj2 : j < d.length) : d[j] ≤ d[k] := by
  rcases Nat.lt_or_eq_of_le hj with g | g
  · exact List.pairwise_iff_getElem.1 h j k hj2 hk g
  · subst g; exact Nat.le_refl _
/-- what is there while numbers are put together: M the row now, q where the next one goes, j the one that is looked at -/
structure CI (d M : List Nat) (q j : Nat) : Prop where
  len : M.length = d.length
  q1 : 1 ≤ q
  qj : q < j
  jn : j ≤ d.length
  up : Up (M.take q)
  mem : ∀ z, z ∈ M.take q ↔ z ∈ d.take j
  rest : ∀ t, j - 1 ≤ t → M[t]? = d[t]?
theorem take_mem_succ {d : List Nat} {j : Nat} (h : j < d.length) (z : Nat) : z ∈ d.take (j + 1) ↔ z ∈ d.take j ∨ z = d[j] := by
  rw [List.take_succ_eq_append_getElem h, List.mem_append, List.mem_singleton]
theorem mem_take_at {d : List Nat} {j k : Nat} (h : j < k) (hk : j < d.length) : d[j] ∈ d.take k := by
  rw [List.mem_take_iff_getElem]
  exact ⟨j, by omega, rfl⟩
theorem CI.start {d : List Nat} {k : Nat} (hk : 1 ≤ k) (hn : k < d.length) (hu : Up (d.take k)) (e : d[k] = d[k - 1]) : CI d d k (k + 1) where
  len := rfl
  q1 := hk
  qj := by omega
  jn := by omega
  up := hu
  mem := fun z => by
    rw [take_mem_succ hn]
    constructor
    · intro h; exact .inl h
    · rintro (h | h)
      · exact h
      · rw [h, e]; exact mem_take_at (by omega) (by omega)
  rest := fun t _ => rfl
theorem CI.skip {d M : List Nat} {q j : Nat} (h : CI d M q j) (hj : j < d.length) (e : d[j] = d[j - 1]) : CI d M q (j + 1) where
  len := h.len
  q1 := h.q1
  qj := by have := h.qj; omega
  jn := by omega
  up := h.up
  mem := fun z => by
    rw [h.mem, take_mem_succ hj]
    constructor
    · intro h; exact .inl h
    · rintro (g | g)
      · exact g
      · rw [g, e]; have := h.qj; exact mem_take_at (by omega) (by omega)
  rest := fun t ht => h.rest t (by omega)
theorem CI.put {d M : List Nat} {q j : Nat} (hd : Le d) (h : CI d M q j) (hj : j < d.length) (e : ¬ d[j] = d[j - 1]) : CI d (M.set q d[j]) (q + 1) (j + 1) := by
  have hq := h.qj
  have hqM : q < M.length := by rw [h.len]; omega
  have hlt : d[j - 1] < d[j] := by
    have := hd.at (j := j - 1) (k := j) (by omega) hj (by omega)
    omega
  have htk : (M.set q d[j]).take (q + 1) = M.take q ++ [d[j]] := by
    rw [List.take_succ_eq_append_getElem (by rw [List.length_set]; exact hqM), List.take_set, List.set_eq_of_length_le (by rw [List.length_take]; omega), List.getElem_set_self]
  have hall : ∀ z ∈ M.take q, z ≤ d[j - 1] := fun z hz => by
    have := (h.mem z).1 hz
    obtain ⟨t, ht, rfl⟩ := List.mem_take_iff_getElem.1 this
    exact hd.at (by omega) (by omega) (by omega)
  refine ⟨by rw [List.length_set]; exact h.len, by omega, by omega, by omega, ?_, fun z => ?_, fun t ht => ?_⟩
  · rw [htk]
    refine List.pairwise_append.2 ⟨h.up, List.pairwise_singleton _ _, fun a ha b hb => ?_⟩
    rw [List.mem_singleton] at hb
    subst hb
    have := hall a ha
    omega
  · rw [htk, List.mem_append, List.mem_singleton, h.mem, take_mem_succ hj]
  · rw [List.getElem?_set_ne (by omega)]
    exact h.rest t (by omega)
theorem CI.done {d M : List Nat} {q : Nat} (h : CI d M q d.length) : M.take q = sortN d := sortN_of h.up (fun z => by rw [h.mem, List.take_length])
theorem CI.at0 {d M : List Nat} {q j : Nat} (h : CI d M q j) (hj : j < d.length) (hM : j < M.length) : M[j] = d[j] := by
  have := h.rest j (by omega)
  rw [List.getElem?_eq_getElem hM, List.getElem?_eq_getElem hj] at this
  injection this
theorem CI.at1 {d M : List Nat} {q j : Nat} (h : CI d M q j) (hj : j - 1 < d.length) (hM : j - 1 < M.length) : M[j - 1] = d[j - 1] := by
  have := h.rest (j - 1) (by omega)
  rw [List.getElem?_eq_getElem hM, List.getElem?_eq_getElem hj] at this
  injection this
theorem up_step {d : List Nat} (hd : Le d) {k : Nat} (hk : 1 ≤ k) (hn : k < d.length) (hu : Up (d.take k)) (e : ¬ d[k] = d[k - 1]) : Up (d.take (k + 1)) := by
  rw [List.take_succ_eq_append_getElem hn]
  refine List.pairwise_append.2 ⟨hu, List.pairwise_singleton _ _, fun a ha b hb => ?_⟩
  rw [List.mem_singleton] at hb
  subst hb
  obtain ⟨t, ht, rfl⟩ := List.mem_take_iff_getElem.1 ha
  have h1 := hd.at (j := t) (k := k - 1) (by omega) (by omega) (by omega)
  have h2 := hd.at (j := k - 1) (k := k) (by omega) hn (by omega)
  omega
theorem up_one {d : List Nat} (h : d.length ≤ 1) : Up d := by
  match d, h with
  | [], _ => exact List.Pairwise.nil
  | [a], _ => exact List.pairwise_singleton _ _
  | a :: b :: l, h => simp at h
theorem sortN_up {d : List Nat} (h : Up d) : sortN d = d := (sortN_of h (fun z => Iff.rfl)).symm
end Go.Proofs.Ytmkbijnndbgjgaa.Ct
