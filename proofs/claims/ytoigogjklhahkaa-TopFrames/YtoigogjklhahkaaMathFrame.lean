/- Plain mathematics of frames: what is put, what is read, one behind the other. -/
import Derived.Test.YtoigogjklhahkaaMathGet
import Derived.Test.YtoigogjklhahkaaWalkSeal
set_option linter.unusedVariables false
namespace Go.Proofs.Ytoigogjklhahkaa.Frame

def sumL (l : List UInt8) : List UInt8 := Crc.textR (Crc.onL 0 l)
theorem sumL_len (l : List UInt8) : (sumL l).length = 4 := rfl
def frameL (l : List UInt8) : List UInt8 := putL l.length ++ (sumL l ++ l)

/-- the first frame: its payload, what is behind, the error -/
def bodyL (n : Nat) (r : List UInt8) : List UInt8 × List UInt8 × Int :=
  if n ≤ 4096 then (if n + 4 ≤ r.length then (if r.take 4 = sumL ((r.drop 4).take n) then ((r.drop 4).take n, r.drop (n + 4), 0) else ([], [], 6)) else ([], [], 5)) else ([], [], 7)
def nextL (l : List UInt8) : List UInt8 × List UInt8 × Int :=
  if (getGo 0 0 l).2.2 = 0 then bodyL (getGo 0 0 l).1 (getGo 0 0 l).2.1 else ([], [], (getGo 0 0 l).2.2)
theorem nextL_err {l : List UInt8} {n : Nat} {r : List UInt8} {e : Int} (h : getGo 0 0 l = (n, r, e)) (he : e ≠ 0) : nextL l = ([], [], e) := by
  rw [nextL, h]; exact if_neg he
theorem nextL_body {l : List UInt8} {n : Nat} {r : List UInt8} (h : getGo 0 0 l = (n, r, 0)) : nextL l = bodyL n r := by
  rw [nextL, h]; rfl
theorem nextL_many {l : List UInt8} {n : Nat} {r : List UInt8} (h : getGo 0 0 l = (n, r, 0)) (hn : ¬ n ≤ 4096) : nextL l = ([], [], 7) := by
  rw [nextL_body h, bodyL, if_neg hn]
theorem nextL_short {l : List UInt8} {n : Nat} {r : List UInt8} (h : getGo 0 0 l = (n, r, 0)) (hn : n ≤ 4096) (hr : ¬ n + 4 ≤ r.length) : nextL l = ([], [], 5) := by
  rw [nextL_body h, bodyL, if_pos hn, if_neg hr]
theorem nextL_sum {l : List UInt8} {n : Nat} {r : List UInt8} (h : getGo 0 0 l = (n, r, 0)) (hn : n ≤ 4096) (hr : n + 4 ≤ r.length) (hs : r.take 4 ≠ sumL ((r.drop 4).take n)) : nextL l = ([], [], 6) := by
  rw [nextL_body h, bodyL, if_pos hn, if_pos hr, if_neg hs]
theorem nextL_ok {l : List UInt8} {n : Nat} {r : List UInt8} (h : getGo 0 0 l = (n, r, 0)) (hn : n ≤ 4096) (hr : n + 4 ≤ r.length) (hs : r.take 4 = sumL ((r.drop 4).take n)) : nextL l = ((r.drop 4).take n, r.drop (n + 4), 0) := by
  rw [nextL_body h, bodyL, if_pos hn, if_pos hr, if_pos hs]

/-- an error's answer is empty -/
theorem getGo_bad (l : List UInt8) : ∀ i acc, (getGo i acc l).2.2 ≠ 0 → (getGo i acc l).1 = 0 ∧ (getGo i acc l).2.1 = [] := by
  induction l with
  | nil => intro i acc _; exact ⟨rfl, rfl⟩
  | cons b l ih =>
    intro i acc h
    rw [getGo] at h ⊢
    split at h
    · rename_i h1; rw [if_pos h1]; exact ⟨rfl, rfl⟩
    · rename_i h1
      rw [if_neg h1]
      split at h
      · rename_i h2; rw [if_pos h2]; exact ih _ _ h
      · rename_i h2
        rw [if_neg h2]
        split at h
        · rename_i h3; rw [if_pos h3]; exact ⟨rfl, rfl⟩
        · exact absurd rfl h
/-- what is read is less than what was there -/
theorem getGo_split (l : List UInt8) : ∀ i acc n r, getGo i acc l = (n, r, 0) → ∃ c, c ≠ [] ∧ l = c ++ r := by
  induction l with
  | nil => intro i acc n r h; cases h
  | cons b l ih =>
    intro i acc n r h
    rw [getGo] at h
    split at h
    · cases h
    · split at h
      · obtain ⟨c, _, e⟩ := ih _ _ _ _ h; exact ⟨b :: c, by simp, by rw [e]; rfl⟩
      · split at h
        · cases h
        · cases h; exact ⟨[b], by simp, rfl⟩
/-- ten bytes are enough -/
theorem getGo_take (l : List UInt8) : ∀ i acc, i ≤ 9 → ∀ n r e, getGo i acc l = (n, r, e) →
    ∃ r', getGo i acc (l.take (10 - i)) = (n, r', e) ∧ r'.length ≤ (l.take (10 - i)).length ∧ (e = 0 → r = l.drop ((l.take (10 - i)).length - r'.length)) := by
  induction l with
  | nil => intro i acc hi n r e h; cases h; exact ⟨[], by simp [getGo], by simp, fun h => by cases h⟩
  | cons b l ih =>
    intro i acc hi n r e h
    have ht : (b :: l).take (10 - i) = b :: l.take (9 - i) := by
      obtain ⟨k, hk⟩ : ∃ k, 10 - i = k + 1 := ⟨9 - i, by omega⟩
      rw [hk, List.take_succ_cons, show 9 - i = k by omega]
    rw [ht]
    rw [getGo] at h ⊢
    split at h
    · rename_i h1; rw [if_pos h1]; cases h; exact ⟨[], rfl, by simp, fun h => by cases h⟩
    · rename_i h1
      rw [if_neg h1]
      split at h
      · rename_i h2
        rw [if_pos h2]
        have h9 : i ≠ 9 := fun h => h1 ⟨h, by omega⟩
        obtain ⟨r', e1, e2, e3⟩ := ih (i + 1) _ (by omega) n r e h
        rw [show 10 - (i + 1) = 9 - i by omega] at e1 e2 e3
        refine ⟨r', e1, by simp only [List.length_cons]; omega, fun h0 => ?_⟩
        rw [e3 h0]
        have : (b :: l.take (9 - i)).length - r'.length = ((l.take (9 - i)).length - r'.length) + 1 := by simp only [List.length_cons]; omega
        rw [this, List.drop_succ_cons]
      · rename_i h2
        rw [if_neg h2]
        split at h
        · rename_i h3; rw [if_pos h3]; cases h; exact ⟨[], rfl, by simp, fun h => by cases h⟩
        · rename_i h3
          rw [if_neg h3]; cases h
          refine ⟨l.take (9 - i), rfl, by simp, fun _ => ?_⟩
          have : (b :: l.take (9 - i)).length - (l.take (9 - i)).length = 1 := by simp only [List.length_cons]; omega
          rw [this]; rfl

theorem nextL_bad (l : List UInt8) (h : (nextL l).2.2 ≠ 0) : nextL l = ([], [], (nextL l).2.2) := by
  rw [nextL] at h ⊢
  split
  · rename_i h1
    rw [if_pos h1, bodyL] at h
    rw [bodyL]
    split
    · rename_i h2
      rw [if_pos h2] at h
      split
      · rename_i h3
        rw [if_pos h3] at h
        split
        · rename_i h4; rw [if_pos h4] at h; exact absurd rfl h
        · rfl
      · rfl
    · rfl
  · rfl
/-- what is read is taken apart -/
theorem nextL_inv {l p r : List UInt8} (h : nextL l = (p, r, 0)) : ∃ c, c ≠ [] ∧ l = c ++ (sumL p ++ (p ++ r)) ∧ getGo 0 0 l = (p.length, sumL p ++ (p ++ r), 0) ∧ p.length ≤ 4096 := by
  obtain ⟨⟨n, q, e⟩, hg⟩ : ∃ g, getGo 0 0 l = g := ⟨_, rfl⟩
  by_cases he : e = 0
  · subst he
    by_cases hn : n ≤ 4096
    · by_cases hr : n + 4 ≤ q.length
      · by_cases hs : q.take 4 = sumL ((q.drop 4).take n)
        · rw [nextL_ok hg hn hr hs] at h
          injection h with h1 h2; injection h2 with h2 _
          obtain ⟨c, hc, e⟩ := getGo_split l _ _ _ _ hg
          have hpl : p.length = n := by rw [← h1, List.length_take, List.length_drop]; omega
          have hq : q = sumL p ++ (p ++ r) := by
            rw [← h1, ← hs, ← h2]
            conv => lhs; rw [← List.take_append_drop 4 q]
            congr 1
            conv => lhs; rw [← List.take_append_drop n (q.drop 4)]
            rw [List.drop_drop, Nat.add_comm]
          refine ⟨c, hc, by rw [e, hq], ?_, by omega⟩
          rw [hg, hpl, hq]
        · rw [nextL_sum hg hn hr hs] at h; cases h
      · rw [nextL_short hg hn hr] at h; cases h
    · rw [nextL_many hg hn] at h; cases h
  · rw [nextL_err hg he] at h; cases h; exact absurd rfl he
theorem nextL_lt {l p r : List UInt8} (h : nextL l = (p, r, 0)) : r.length + p.length + 5 ≤ l.length ∧ r.length < l.length := by
  obtain ⟨c, hc, e, _, _⟩ := nextL_inv h
  have : 0 < c.length := List.length_pos_iff.2 hc
  have hs := sumL_len p
  rw [e]
  simp only [List.length_append]
  omega
theorem nextL_le (l : List UInt8) : (nextL l).1.length ≤ l.length ∧ (nextL l).2.1.length ≤ l.length := by
  obtain ⟨⟨p, r, y⟩, h⟩ : ∃ g, nextL l = g := ⟨_, rfl⟩
  by_cases hy : y = 0
  · subst hy
    have := nextL_lt h
    rw [h]; simp only; omega
  · have := nextL_bad l (by rw [h]; exact hy)
    rw [this]; simp
/-- a frame is read as what it was, whatever is behind -/
theorem nextL_frame (p more : List UInt8) (hp : p.length ≤ 4096) : nextL (frameL p ++ more) = (p, more, 0) := by
  have hg : getGo 0 0 (frameL p ++ more) = (p.length, sumL p ++ (p ++ more), 0) := by
    have := getGo_put (sumL p ++ (p ++ more)) p.length 0 0 (by omega) (.inl rfl) (by omega)
    rw [frameL, List.append_assoc, List.append_assoc, this]
    simp
  have hd : (sumL p ++ (p ++ more)).drop 4 = p ++ more := by
    have h4 := sumL_len p
    rw [← h4, List.drop_left]
  have ht : (sumL p ++ (p ++ more)).take 4 = sumL p := by
    have h4 := sumL_len p
    rw [← h4, List.take_left]
  rw [nextL_ok hg hp (by have := sumL_len p; simp only [List.length_append]; omega) (by rw [hd, ht, List.take_left]), hd, List.take_left]
  rw [show p.length + 4 = 4 + p.length by omega, ← List.drop_drop, hd, List.drop_left]

/-- all of them: the payloads, what is left -/
def allF : Nat → List UInt8 → List (List UInt8) × List UInt8
  | 0, l => ([], l)
  | f + 1, l => if (nextL l).2.2 = 0 then ((nextL l).1 :: (allF f (nextL l).2.1).1, (allF f (nextL l).2.1).2) else ([], l)
theorem allF_fuel (f : Nat) : ∀ g l, l.length ≤ f → l.length ≤ g → allF f l = allF g l := by
  induction f with
  | zero =>
    intro g l h1 h2
    obtain rfl : l = [] := List.length_eq_zero_iff.1 (by omega)
    cases g with
    | zero => rfl
    | succ g => rw [allF, allF, if_neg (by decide)]
  | succ f ih =>
    intro g l h1 h2
    cases g with
    | zero =>
      obtain rfl : l = [] := List.length_eq_zero_iff.1 (by omega)
      rw [allF, allF, if_neg (by decide)]
    | succ g =>
      rw [allF, allF]
      by_cases h : (nextL l).2.2 = 0
      · have hl := (nextL_lt (l := l) (p := (nextL l).1) (r := (nextL l).2.1) (by rw [← h])).2
        rw [if_pos h, if_pos h, ih g _ (by omega) (by omega)]
      · rw [if_neg h, if_neg h]
def allL (l : List UInt8) : List (List UInt8) × List UInt8 := allF l.length l
theorem allL_ok {l p r : List UInt8} (h : nextL l = (p, r, 0)) : allL l = (p :: (allL r).1, (allL r).2) := by
  have hl := (nextL_lt h).2
  rw [allL, allF_fuel l.length (l.length + 1) l (by omega) (by omega), allF, h, if_pos rfl, allL, allF_fuel l.length r.length r (by omega) (by omega)]
theorem allL_bad {l p r : List UInt8} {y : Int} (h : nextL l = (p, r, y)) (hy : y ≠ 0) : allL l = ([], l) := by
  rw [allL, allF_fuel l.length (l.length + 1) l (by omega) (by omega), allF, h, if_neg hy]
theorem allL_le (n : Nat) : ∀ l : List UInt8, l.length ≤ n → (allL l).2.length ≤ l.length ∧ (allL l).1.length ≤ l.length := by
  induction n with
  | zero =>
    intro l h
    obtain rfl : l = [] := List.length_eq_zero_iff.1 (by omega)
    exact ⟨by decide, by decide⟩
  | succ n ih =>
    intro l h
    obtain ⟨⟨p, r, y⟩, hn⟩ : ∃ g, nextL l = g := ⟨_, rfl⟩
    by_cases hy : y = 0
    · subst hy
      have hl := (nextL_lt hn).2
      have := ih r (by omega)
      rw [allL_ok hn]
      simp only [List.length_cons]
      omega
    · rw [allL_bad hn hy]; simp

/-- so many of them -/
def takeL : Nat → List UInt8 → List (List UInt8) × List UInt8 × Int
  | 0, l => ([], l, 0)
  | k + 1, l => if (nextL l).2.2 = 0 then (if (takeL k (nextL l).2.1).2.2 = 0 then ((nextL l).1 :: (takeL k (nextL l).2.1).1, (takeL k (nextL l).2.1).2.1, 0) else ([], [], (takeL k (nextL l).2.1).2.2)) else ([], [], (nextL l).2.2)

/-- what the frames tell, one behind the other, the last one being refused -/
def eachF : Nat → List UInt8 → List (List UInt8 × List UInt8 × Int)
  | 0, l => [nextL l]
  | f + 1, l => nextL l :: (if (nextL l).2.2 = 0 then eachF f (nextL l).2.1 else [])
end Go.Proofs.Ytoigogjklhahkaa.Frame
