/- Plain mathematics: what is put is read as it was, and what is read has the bytes that it was read from. -/
import Derived.Test.YtjgieaijdkmadaaWalkGet
set_option linter.unusedVariables false
namespace Go.Proofs.Ytjgieaijdkmadaa

theorem getGo_put (l : List UInt8) (n : Nat) : ∀ i acc, n * 128 ^ i < 18446744073709551616 → (i = 0 ∨ n ≠ 0) → i ≤ 9 → getGo i acc (putL n ++ l) = (acc + n * 128 ^ i, l, 0) := by
  induction n using Nat.strongRecOn with
  | ind n ih =>
    intro i acc h h0 hi
    by_cases hn : n < 128
    · rw [putL_small n hn]
      have e : (UInt8.ofNat n).toNat = n := by simp; omega
      have h9 : i = 9 → n ≤ 1 := fun h => by subst h; omega
      rw [List.singleton_append, getGo_last acc (UInt8.ofNat n) l (by rw [e]; exact h9) (by rw [e]; exact hn) (by rw [e]; omega), e]
    · rw [putL_big n hn]
      have e : (UInt8.ofNat (n % 128 + 128)).toNat = n % 128 + 128 := by simp; omega
      have h9 : i ≠ 9 := fun h9 => by subst h9; omega
      rw [List.cons_append, getGo_more acc _ _ h9 (by rw [e]; omega), e]
      have hp : 128 ^ (i + 1) = 128 * 128 ^ i := by rw [Nat.pow_succ]; omega
      have h1 : n / 128 * 128 ^ (i + 1) + n % 128 * 128 ^ i = n * 128 ^ i := by
        rw [hp, ← Nat.mul_assoc, ← Nat.add_mul]
        congr 1
        omega
      rw [ih (n / 128) (by omega) (i + 1) _ (by omega) (.inr (by omega)) (by omega)]
      have h2 : (n % 128 + 128) % 128 = n % 128 := by omega
      rw [h2]
      congr 1
      omega
theorem getS_put (n : Nat) (more : ByteArray) (h : n < 18446744073709551616) : getS (⟨(putL n).toArray⟩ ++ more) = (n, more.data.toList, 0) := by
  unfold getS
  rw [ByteArray.data_append]
  have := getGo_put more.data.toList n 0 0 (by simpa using h) (.inl rfl) (by omega)
  simpa using this

theorem put_getGo (l : List UInt8) : ∀ i acc N r, i ≤ 9 → getGo i acc l = (N, r, 0) → ∃ n, N = acc + n * 128 ^ i ∧ putL n ++ r = l ∧ (0 < i → n ≠ 0) ∧ (n + 1) * 128 ^ i ≤ 18446744073709551616 := by
  induction l with
  | nil => intro i acc N r _ h; simp [getGo] at h
  | cons b l ih =>
    intro i acc N r hi h
    have hb := b.toNat_lt
    have hp : 128 ^ (i + 1) = 128 * 128 ^ i := by rw [Nat.pow_succ]; omega
    have hp9 : i ≤ 8 → 128 ^ (i + 1) ≤ 128 ^ 9 := fun h => Nat.pow_le_pow_right (by decide) (by omega)
    rw [getGo] at h
    by_cases c1 : i = 9 ∧ 1 < b.toNat
    · rw [if_pos c1] at h; simp at h
    · rw [if_neg c1] at h
      by_cases c2 : 128 ≤ b.toNat
      · rw [if_pos c2] at h
        obtain ⟨n, e1, e2, e3, e4⟩ := ih (i + 1) _ N r (by omega) h
        have hn := e3 (by omega)
        refine ⟨b.toNat % 128 + 128 * n, ?_, ?_, by omega, ?_⟩
        · rw [e1, hp, Nat.add_mul, ← Nat.mul_assoc, Nat.mul_comm n 128]; omega
        · rw [putL_big _ (by omega)]
          have h1 : (b.toNat % 128 + 128 * n) % 128 + 128 = b.toNat := by omega
          have h2 : (b.toNat % 128 + 128 * n) / 128 = n := by omega
          rw [h1, h2, List.cons_append, e2]
          simp
        · have h1 : (b.toNat % 128 + 128 * n + 1) * 128 ^ i ≤ (128 * (n + 1)) * 128 ^ i := Nat.mul_le_mul_right _ (by omega)
          have h2 : (128 * (n + 1)) * 128 ^ i = (n + 1) * 128 ^ (i + 1) := by rw [hp, ← Nat.mul_assoc, Nat.mul_comm (n + 1) 128]
          omega
      · rw [if_neg c2] at h
        by_cases c3 : b.toNat = 0 ∧ 0 < i
        · rw [if_pos c3] at h; simp at h
        · rw [if_neg c3] at h
          simp only [Prod.mk.injEq, and_true] at h
          obtain ⟨e1, e2⟩ := h
          refine ⟨b.toNat, e1.symm, ?_, by omega, ?_⟩
          · rw [putL_small _ (by omega), e2]; simp
          · by_cases c4 : i = 9
            · subst c4; omega
            · have h1 : (b.toNat + 1) * 128 ^ i ≤ 128 * 128 ^ i := Nat.mul_le_mul_right _ (by omega)
              have := hp9 (by omega)
              omega
theorem put_getS (s : ByteArray) (h : (getS s).2.2 = 0) : (getS s).1 < 18446744073709551616 ∧ (⟨(putL (getS s).1).toArray⟩ ++ ⟨(getS s).2.1.toArray⟩ : ByteArray) = s := by
  obtain ⟨⟨N, r, why⟩, hr⟩ : ∃ r, getS s = r := ⟨_, rfl⟩
  rw [hr] at h ⊢
  simp only at h
  subst h
  obtain ⟨n, e1, e2, e3, e4⟩ := put_getGo s.data.toList 0 0 N r (by omega) hr
  have hn : N = n := by simpa using e1
  subst hn
  refine ⟨by simp at e4; omega, ?_⟩
  apply ByteArray.ext
  rw [ByteArray.data_append]
  apply Array.ext'
  simpa using e2
end Go.Proofs.Ytjgieaijdkmadaa
