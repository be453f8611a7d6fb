/- Plain mathematics: rows and texts that are put are read as they were, and what is read has the bytes that it was read from. -/
import Derived.Test.YtjgieaijdkmadaaWalkRows
import Derived.Test.YtjgieaijdkmadaaMathGet
set_option linter.unusedVariables false
namespace Go.Proofs.Ytjgieaijdkmadaa

theorem numsGo_all (ns : List Int) (more : List UInt8) (h : ∀ n ∈ ns, 0 ≤ n ∧ n ≤ 18446744073709551615) : ∀ acc, numsGo ns.length acc (allL ns ++ more) = (acc ++ ns, more, 0) := by
  induction ns with
  | nil => intro acc; simp [numsGo, allL]
  | cons n ns ih =>
    intro acc
    have hn := h n (by simp)
    have hg : getGo 0 0 (allL (n :: ns) ++ more) = (n.toNat, allL ns ++ more, 0) := by
      have := getGo_put (allL ns ++ more) n.toNat 0 0 (by simp; omega) (.inl rfl) (by omega)
      simpa [allL] using this
    rw [List.length_cons, numsGo_ok hg, ih (fun m hm => h m (by simp [hm])), Int.toNat_of_nonneg hn.1]
    simp
theorem getRowL_row (ns : List Int) (more : List UInt8) (hl : ns.length ≤ 4096) (h : ∀ n ∈ ns, 0 ≤ n ∧ n ≤ 18446744073709551615) : getRowL (rowL ns ++ more) = (ns, more, 0) := by
  have hg : getGo 0 0 (rowL ns ++ more) = (ns.length, allL ns ++ more, 0) := by
    have := getGo_put (allL ns ++ more) ns.length 0 0 (by simp; omega) (.inl rfl) (by omega)
    simpa [rowL] using this
  rw [getRowL_ok hg hl, numsGo_all ns more h]
  simp
theorem getTextL_text (t more : List UInt8) (hl : t.length ≤ 32768) : getTextL (textL t ++ more) = (t, more, 0) := by
  have hg : getGo 0 0 (textL t ++ more) = (t.length, t ++ more, 0) := by
    have := getGo_put (t ++ more) t.length 0 0 (by simp; omega) (.inl rfl) (by omega)
    simpa [textL] using this
  rw [getTextL_ok hg hl (by simp)]
  simp
theorem getGo_back {l : List UInt8} {n : Nat} {r : List UInt8} (h : getGo 0 0 l = (n, r, 0)) : n < 18446744073709551616 ∧ putL n ++ r = l := by
  obtain ⟨m, e1, e2, e3, e4⟩ := put_getGo l 0 0 n r (by omega) h
  have hn : n = m := by simpa using e1
  subst hn
  exact ⟨by simp at e4; omega, e2⟩
theorem numsGo_back (k : Nat) : ∀ acc l ns r, numsGo k acc l = (ns, r, 0) → ∃ ms, ns = acc ++ ms ∧ ms.length = k ∧ allL ms ++ r = l ∧ ∀ n ∈ ms, 0 ≤ n ∧ n ≤ 18446744073709551615 := by
  induction k with
  | zero =>
    intro acc l ns r h
    rw [numsGo] at h
    cases h
    exact ⟨[], by simp, rfl, by simp [allL], by simp⟩
  | succ k ih =>
    intro acc l ns r h
    obtain ⟨⟨n, q, y⟩, hg⟩ : ∃ r, getGo 0 0 l = r := ⟨_, rfl⟩
    by_cases hy : y = 0
    · subst hy
      rw [numsGo_ok hg] at h
      obtain ⟨ms, e1, e2, e3, e4⟩ := ih _ _ _ _ h
      obtain ⟨h64, hb⟩ := getGo_back hg
      refine ⟨(n : Int) :: ms, by rw [e1]; simp, by simp [e2], ?_, ?_⟩
      · rw [← hb, ← e3]; simp [allL]
      · intro m hm
        rcases List.mem_cons.1 hm with rfl | hm
        · omega
        · exact e4 m hm
    · rw [numsGo_err hg hy] at h
      simp only [Prod.mk.injEq] at h
      exact absurd h.2.2 hy
theorem getRowL_back {l : List UInt8} {ns : List Int} {r : List UInt8} (h : getRowL l = (ns, r, 0)) : ns.length ≤ 4096 ∧ rowL ns ++ r = l ∧ ∀ n ∈ ns, 0 ≤ n ∧ n ≤ 18446744073709551615 := by
  obtain ⟨⟨n, q, y⟩, hg⟩ : ∃ r, getGo 0 0 l = r := ⟨_, rfl⟩
  by_cases hy : y = 0
  · subst hy
    by_cases hn : n ≤ 4096
    · rw [getRowL_ok hg hn] at h
      obtain ⟨ms, e1, e2, e3, e4⟩ := numsGo_back n _ _ _ _ h
      obtain ⟨h64, hb⟩ := getGo_back hg
      rw [List.nil_append] at e1
      subst e1
      refine ⟨by omega, ?_, e4⟩
      rw [← hb, ← e3, rowL, e2]; simp
    · rw [getRowL_many hg hn] at h
      simp at h
  · rw [getRowL_err hg hy] at h
    simp only [Prod.mk.injEq] at h
    exact absurd h.2.2 hy
theorem getTextL_back {l t r : List UInt8} (h : getTextL l = (t, r, 0)) : t.length ≤ 32768 ∧ textL t ++ r = l := by
  obtain ⟨⟨n, q, y⟩, hg⟩ : ∃ r, getGo 0 0 l = r := ⟨_, rfl⟩
  by_cases hy : y = 0
  · subst hy
    by_cases hn : n ≤ 32768
    · by_cases hq : n ≤ q.length
      · rw [getTextL_ok hg hn hq] at h
        simp only [Prod.mk.injEq, and_true] at h
        obtain ⟨rfl, rfl⟩ := h
        obtain ⟨h64, hb⟩ := getGo_back hg
        have hlen : (q.take n).length = n := by rw [List.length_take]; omega
        refine ⟨by omega, ?_⟩
        rw [textL, hlen, List.append_assoc, List.take_append_drop, hb]
      · rw [getTextL_short hg hn hq] at h
        simp at h
    · rw [getTextL_many hg hn] at h
      simp at h
  · rw [getTextL_err hg hy] at h
    simp only [Prod.mk.injEq] at h
    exact absurd h.2.2 hy
/-- where nothing was read, there is nothing -/
theorem numsGo_none (k : Nat) : ∀ acc l, (numsGo k acc l).2.2 = 0 ∨ (numsGo k acc l).1 = [] := by
  induction k with
  | zero => intro acc l; left; rfl
  | succ k ih =>
    intro acc l
    rw [numsGo]
    split
    · exact ih _ _
    · right; rfl
theorem getRowL_none {l : List UInt8} {ns : List Int} {r : List UInt8} {y : Int} (h : getRowL l = (ns, r, y)) (hy : y ≠ 0) : ns = [] := by
  rw [getRowL] at h
  split at h
  · split at h
    · have := numsGo_none (getGo 0 0 l).1 [] (getGo 0 0 l).2.1
      rw [h] at this
      rcases this with h1 | h1
      · exact absurd h1 hy
      · exact h1
    · cases h; rfl
  · cases h; rfl
theorem getTextL_none {l t r : List UInt8} {y : Int} (h : getTextL l = (t, r, y)) (hy : y ≠ 0) : t = [] := by
  rw [getTextL] at h
  split at h
  · split at h
    · split at h
      · cases h; exact absurd rfl hy
      · cases h; rfl
    · cases h; rfl
  · cases h; rfl
end Go.Proofs.Ytjgieaijdkmadaa
