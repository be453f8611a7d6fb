/- Bytes that are read off a tape, plain: numbers, prefixes, actions, events. -/
import Derived.Test.YtkjhnefbcnnjlaaTv02
import Derived.Test.YtkjhnefbcnnjlaaTv03
import Derived.Test.YtkjhnefbcnnjlaaTv01
set_option linter.unusedVariables false
namespace Go.Proofs.Ytkjhnefbcnnjlaa

theorem put_getGo (l : List UInt8) : ∀ i acc N r, i ≤ 9 → getGo i acc l = (N, r, 0) → ∃ n, N = acc + n * 128 ^ i ∧ putL n ++ r = l ∧ (0 < i → n ≠ 0) ∧ (n + 1) * 128 ^ i ≤ 18446744073709551616 := by
  induction l with
  | nil => intro i acc N r _ h; simp [getGo] at h
  | cons b l ih =>
    intro i acc N r hi h
    have hb := b.toNat_lt
    have hp : 128 ^ (i + 1) = 128 * 128 ^ i := by rw [Nat.pow_succ]; omega
    have hp9 : i ≤ 8 → 128 ^ (i + 1) ≤ 128 ^ 9 := fun h => Nat.pow_le_pow_right (by decide) (by omega)
    rw [getGo] at h
    by_cases c1 : i = 9 ∧ 1 < b.toNat
    · rw [if_pos c1] at h; simp at h
    · rw [if_neg c1] at h
      by_cases c2 : 128 ≤ b.toNat
      · rw [if_pos c2] at h
        obtain ⟨n, e1, e2, e3, e4⟩ := ih (i + 1) _ N r (by omega) h
        have hn := e3 (by omega)
        refine ⟨b.toNat % 128 + 128 * n, ?_, ?_, by omega, ?_⟩
        · rw [e1, hp, Nat.add_mul, ← Nat.mul_assoc, Nat.mul_comm n 128]; omega
        · rw [putL_big _ (by omega)]
          have h1 : (b.toNat % 128 + 128 * n) % 128 + 128 = b.toNat := by omega
          have h2 : (b.toNat % 128 + 128 * n) / 128 = n := by omega
          rw [h1, h2, List.cons_append, e2]
          simp
        · have h1 : (b.toNat % 128 + 128 * n + 1) * 128 ^ i ≤ (128 * (n + 1)) * 128 ^ i := Nat.mul_le_mul_right _ (by omega)
          have h2 : (128 * (n + 1)) * 128 ^ i = (n + 1) * 128 ^ (i + 1) := by rw [hp, ← Nat.mul_assoc, Nat.mul_comm (n + 1) 128]
          omega
      · rw [if_neg c2] at h
        by_cases c3 : b.toNat = 0 ∧ 0 < i
        · rw [if_pos c3] at h; simp at h
        · rw [if_neg c3] at h
          simp only [Prod.mk.injEq, and_true] at h
          obtain ⟨e1, e2⟩ := h
          refine ⟨b.toNat, e1.symm, ?_, by omega, ?_⟩
          · rw [putL_small _ (by omega), e2]; simp
          · by_cases c4 : i = 9
            · subst c4; omega
            · have h1 : (b.toNat + 1) * 128 ^ i ≤ 128 * 128 ^ i := Nat.mul_le_mul_right _ (by omega)
              have := hp9 (by omega)
              omega
end Go.Proofs.Ytkjhnefbcnnjlaa
namespace Go.Proofs.Ytkjhnefbcnnjlaa

theorem getGo_back {l : List UInt8} {n : Nat} {r : List UInt8} (h : getGo 0 0 l = (n, r, 0)) : n < 18446744073709551616 ∧ putL n ++ r = l := by
  obtain ⟨m, e1, e2, e3, e4⟩ := put_getGo l 0 0 n r (by omega) h
  have hn : n = m := by simpa using e1
  subst hn
  exact ⟨by simp at e4; omega, e2⟩
end Go.Proofs.Ytkjhnefbcnnjlaa
namespace Go.Proofs.Ytkjhnefbcnnjlaa.Msg
theorem putL_le (n : Nat) (h : n < 18446744073709551616) : (putL n).length ≤ 10 := by
  obtain ⟨k, _, hk, h1, h2⟩ := many_spec n h
  rw [putL_len k n h1 h2]; omega
/-- what a step of reading does to a tape: none, if it was bad -/
def part {α : Type} (z : α) (f : List UInt8 → Option (α × List UInt8)) (st : Option (List UInt8)) : α × Option (List UInt8) :=
  match st with
  | none => (z, none)
  | some l => match f l with
    | some (v, r) => (v, some r)
    | none => (z, none)
def f1 : List UInt8 → Option (Nat × List UInt8)
  | [] => none
  | b :: t => some (b.toNat, t)
/-- bytes of a number, the highest first -/
def be : Nat → Nat → List UInt8
  | 0, _ => []
  | k + 1, n => be k (n / 256) ++ [UInt8.ofNat (n % 256)]
def nb (acc : Nat) : List UInt8 → Nat
  | [] => acc
  | b :: t => nb (acc * 256 + b.toNat) t
def wB (six : Bool) : Nat := if six then 16 else 4
end Go.Proofs.Ytkjhnefbcnnjlaa.Msg
