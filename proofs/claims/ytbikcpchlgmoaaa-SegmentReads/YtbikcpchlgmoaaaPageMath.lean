/- Plain mathematics of pages: a tag's bytes, what is put, what is read. -/
import Derived.WalkKit
set_option linter.unusedVariables false
namespace Go.Proofs.Ytbikcpchlgmoaaa.Page

/-- a number's eight bytes, the highest one first -/
def eightL (n : Nat) : List UInt8 := [UInt8.ofNat (n / 72057594037927936), UInt8.ofNat (n / 281474976710656), UInt8.ofNat (n / 1099511627776), UInt8.ofNat (n / 4294967296), UInt8.ofNat (n / 16777216), UInt8.ofNat (n / 65536), UInt8.ofNat (n / 256), UInt8.ofNat n]
theorem eightL_len (n : Nat) : (eightL n).length = 8 := rfl
/-- the number of bytes -/
def numL (acc : Nat) : List UInt8 → Nat
  | [] => acc
  | b :: l => numL (256 * acc + b.toNat) l
theorem numL_eight (n : Nat) (h : n < 18446744073709551616) : numL 0 (eightL n) = n := by
  simp [eightL, numL]; omega
theorem list8 (l : List UInt8) (h : l.length = 8) : ∃ a b c d e f g i, l = [a, b, c, d, e, f, g, i] := by
  match l, h with
  | [a, b, c, d, e, f, g, i], _ => exact ⟨a, b, c, d, e, f, g, i, rfl⟩
theorem ofNat_eq (a : UInt8) (n : Nat) (h : n % 256 = a.toNat) : UInt8.ofNat n = a := by
  apply UInt8.toNat_inj.1; simpa using h
theorem eight_numL (l : List UInt8) (h : l.length = 8) : eightL (numL 0 l) = l := by
  obtain ⟨a, b, c, d, e, f, g, i, rfl⟩ := list8 l h
  have := a.toNat_lt; have := b.toNat_lt; have := c.toNat_lt; have := d.toNat_lt
  have := e.toNat_lt; have := f.toNat_lt; have := g.toNat_lt; have := i.toNat_lt
  simp only [numL, eightL]
  rw [ofNat_eq a _ (by omega), ofNat_eq b _ (by omega), ofNat_eq c _ (by omega), ofNat_eq d _ (by omega), ofNat_eq e _ (by omega), ofNat_eq f _ (by omega), ofNat_eq g _ (by omega), ofNat_eq i _ (by omega)]
theorem numL_lt (l : List UInt8) (h : l.length = 8) : numL 0 l < 18446744073709551616 := by
  obtain ⟨a, b, c, d, e, f, g, i, rfl⟩ := list8 l h
  have := a.toNat_lt; have := b.toNat_lt; have := c.toNat_lt; have := d.toNat_lt
  have := e.toNat_lt; have := f.toNat_lt; have := g.toNat_lt; have := i.toNat_lt
  simp only [numL]; omega
theorem eight_inj {a b : Nat} (ha : a < 18446744073709551616) (hb : b < 18446744073709551616) (h : eightL a = eightL b) : a = b := by
  rw [← numL_eight a ha, h, numL_eight b hb]
theorem eight_zero : eightL 0 = List.replicate 8 0 := rfl

/-- the page of a tag and data -/
def pageL (t : Nat) (d : List UInt8) : List UInt8 := eightL t ++ UInt8.ofNat d.length :: (d ++ (List.replicate (111 - d.length) 0 ++ eightL t))
theorem pageL_len (t : Nat) (d : List UInt8) (h : d.length ≤ 111) : (pageL t d).length = 128 := by
  simp [pageL, eightL_len]; omega
theorem pageL_take (t : Nat) (d : List UInt8) : (pageL t d).take 8 = eightL t := by
  rw [pageL, List.take_left' (eightL_len t)]
theorem pageL_drop8 (t : Nat) (d : List UInt8) : (pageL t d).drop 8 = UInt8.ofNat d.length :: (d ++ (List.replicate (111 - d.length) 0 ++ eightL t)) := by
  rw [pageL, List.drop_left' (eightL_len t)]
theorem pageL_drop9 (t : Nat) (d : List UInt8) : (pageL t d).drop 9 = d ++ (List.replicate (111 - d.length) 0 ++ eightL t) := by
  rw [show 9 = 8 + 1 by rfl, ← List.drop_drop, pageL_drop8]; rfl
theorem pageL_end (t : Nat) (d : List UInt8) (h : d.length ≤ 111) : (pageL t d).drop 120 = eightL t := by
  rw [show 120 = 9 + 111 by rfl, ← List.drop_drop, pageL_drop9, ← List.append_assoc, List.drop_left' (by simp; omega)]
theorem pageL_data (t : Nat) (d : List UInt8) : ((pageL t d).drop 9).take d.length = d := by
  rw [pageL_drop9, List.take_left' rfl]
theorem pageL_many (t : Nat) (d : List UInt8) (h : d.length ≤ 111) : ((pageL t d).getD 8 0).toNat = d.length := by
  have : (pageL t d).getD 8 0 = ((pageL t d).drop 8).getD 0 0 := by simp
  rw [this, pageL_drop8]
  simp; omega

/-- a sector's tag -/
def tagL (s : List UInt8) : Nat × Int :=
  if s.length = 128 then (if s.take 8 = s.drop 120 ∧ numL 0 (s.take 8) ≠ 0 then (numL 0 (s.take 8), 0) else (0, 3)) else (0, 11)
/-- a page's data -/
def getL (s : List UInt8) (t : Nat) : List UInt8 × Int :=
  if (tagL s).2 = 0 then
    (if (tagL s).1 = t then
      (if (s.getD 8 0).toNat ≤ 111 ∧ pageL t ((s.drop 9).take (s.getD 8 0).toNat) = s then ((s.drop 9).take (s.getD 8 0).toNat, 0) else ([], 7))
     else ([], 3))
  else ([], (tagL s).2)
theorem tagL_long {s : List UInt8} (h : s.length ≠ 128) : tagL s = (0, 11) := if_neg h
theorem tagL_none {s : List UInt8} (h : s.length = 128) (hn : ¬ (s.take 8 = s.drop 120 ∧ numL 0 (s.take 8) ≠ 0)) : tagL s = (0, 3) := by
  rw [tagL, if_pos h, if_neg hn]
theorem tagL_ok {s : List UInt8} (h : s.length = 128) (h1 : s.take 8 = s.drop 120) (h2 : numL 0 (s.take 8) ≠ 0) : tagL s = (numL 0 (s.take 8), 0) := by
  rw [tagL, if_pos h, if_pos ⟨h1, h2⟩]
theorem tagL_inv {s : List UInt8} {t : Nat} (h : tagL s = (t, 0)) : s.length = 128 ∧ s.take 8 = eightL t ∧ s.drop 120 = eightL t ∧ t ≠ 0 ∧ t < 18446744073709551616 := by
  rw [tagL] at h
  split at h
  · rename_i hl
    split at h
    · rename_i hc
      injection h with h1 _
      have h8 : (s.take 8).length = 8 := by simp; omega
      refine ⟨hl, by rw [← h1, eight_numL _ h8], by rw [← h1, eight_numL _ h8, hc.1], by rw [← h1]; exact hc.2, by rw [← h1]; exact numL_lt _ h8⟩
    · injection h with _ h; cases h
  · injection h with _ h; cases h
theorem tagL_page {t : Nat} {d : List UInt8} (h0 : t ≠ 0) (ht : t < 18446744073709551616) (hd : d.length ≤ 111) : tagL (pageL t d) = (t, 0) := by
  have e : numL 0 ((pageL t d).take 8) = t := by rw [pageL_take, numL_eight t ht]
  rw [tagL_ok (pageL_len t d hd) (by rw [pageL_take, pageL_end t d hd]) (by rw [e]; exact h0), e]
theorem getL_page {t : Nat} {d : List UInt8} (h0 : t ≠ 0) (ht : t < 18446744073709551616) (hd : d.length ≤ 111) : getL (pageL t d) t = (d, 0) := by
  rw [getL, tagL_page h0 ht hd, if_pos rfl, if_pos rfl, pageL_many t d hd, pageL_data, if_pos ⟨hd, rfl⟩]
theorem tagL_err (s : List UInt8) (h : (tagL s).2 ≠ 0) : tagL s = (0, (tagL s).2) := by
  rw [tagL] at h ⊢
  split
  · rename_i h1
    rw [if_pos h1] at h
    split
    · rename_i h2; rw [if_pos h2] at h; exact absurd rfl h
    · rfl
  · rfl
theorem getL_err {s : List UInt8} {t : Nat} {e : Int} (h : tagL s = (0, e)) (he : e ≠ 0) : getL s t = ([], e) := by
  rw [getL, h]; exact if_neg he
theorem getL_other {s : List UInt8} {t n : Nat} (h : tagL s = (n, 0)) (hn : n ≠ t) : getL s t = ([], 3) := by
  rw [getL, h, if_pos rfl, if_neg hn]
theorem getL_code {s : List UInt8} {t : Nat} (h : tagL s = (t, 0)) (hn : ¬ ((s.getD 8 0).toNat ≤ 111 ∧ pageL t ((s.drop 9).take (s.getD 8 0).toNat) = s)) : getL s t = ([], 7) := by
  rw [getL, h, if_pos rfl, if_pos rfl, if_neg hn]
theorem getL_ok {s : List UInt8} {t : Nat} (h : tagL s = (t, 0)) (h1 : (s.getD 8 0).toNat ≤ 111) (h2 : pageL t ((s.drop 9).take (s.getD 8 0).toNat) = s) : getL s t = ((s.drop 9).take (s.getD 8 0).toNat, 0) := by
  rw [getL, h, if_pos rfl, if_pos rfl, if_pos ⟨h1, h2⟩]
/-- what is read is that page -/
theorem getL_inv {s d : List UInt8} {t : Nat} (h : getL s t = (d, 0)) : s = pageL t d ∧ d.length ≤ 111 ∧ t ≠ 0 ∧ t < 18446744073709551616 ∧ tagL s = (t, 0) := by
  obtain ⟨⟨n, e⟩, ht⟩ : ∃ g, tagL s = g := ⟨_, rfl⟩
  by_cases he : e = 0
  · subst he
    by_cases hn : n = t
    · subst hn
      by_cases hc : (s.getD 8 0).toNat ≤ 111 ∧ pageL n ((s.drop 9).take (s.getD 8 0).toNat) = s
      · rw [getL_ok ht hc.1 hc.2] at h
        injection h with h _
        obtain ⟨hl, _, _, h0, hlt⟩ := tagL_inv ht
        refine ⟨by rw [← h]; exact hc.2.symm, by rw [← h, List.length_take]; omega, h0, hlt, ht⟩
      · rw [getL_code ht hc] at h; cases h
    · rw [getL_other ht hn] at h; cases h
  · have : n = 0 := by
      have := tagL_err s (by rw [ht]; exact he)
      rw [ht] at this; injection this
    subst this
    rw [getL_err ht he] at h; injection h with _ h; exact absurd h he
theorem getL_bad {s : List UInt8} {t : Nat} (h : (getL s t).2 ≠ 0) : getL s t = ([], (getL s t).2) := by
  rw [getL] at h ⊢
  split
  · rename_i h1
    rw [if_pos h1] at h
    split
    · rename_i h2
      rw [if_pos h2] at h
      split
      · rename_i h3; rw [if_pos h3] at h; exact absurd rfl h
      · rfl
    · rfl
  · rfl
theorem getL_tag {s : List UInt8} {t : Nat} (h : (getL s t).2 = 0) : tagL s = (t, 0) := by
  obtain ⟨⟨d, e⟩, hg⟩ : ∃ g, getL s t = g := ⟨_, rfl⟩
  rw [hg] at h
  obtain rfl : e = 0 := h
  exact (getL_inv hg).2.2.2.2
theorem getL_len (s : List UInt8) (t : Nat) : (getL s t).1.length ≤ 111 := by
  by_cases h : (getL s t).2 = 0
  · obtain ⟨⟨d, e⟩, hg⟩ : ∃ g, getL s t = g := ⟨_, rfl⟩
    rw [hg] at h ⊢
    obtain rfl : e = 0 := h
    exact (getL_inv hg).2.1
  · rw [getL_bad h]; simp

/- ### torn -/
theorem torn_new {s o : List UInt8} {t : Nat} {d : List UInt8} {k : Nat} (hs : s = pageL t d) (hd : d.length ≤ 111) (hol : o.length = 128) (hk : k ≤ 128) (ho : o.drop 120 ≠ eightL t)
    (h : tagL (s.take k ++ o.drop k) = (t, 0)) : s.take k ++ o.drop k = s := by
  obtain ⟨_, _, h3, _, _⟩ := tagL_inv h
  have hl : s.length = 128 := by rw [hs]; exact pageL_len t d hd
  by_cases h120 : k ≤ 120
  · exfalso
    apply ho
    rw [List.drop_append, List.length_take, List.drop_of_length_le (by simp; omega), List.drop_drop, List.nil_append] at h3
    rw [show k + (120 - min k s.length) = 120 by omega] at h3
    exact h3
  · have e1 : (s.take k ++ o.drop k).take 120 = s.take 120 := by
      rw [List.take_append_of_le_length (by simp; omega), List.take_take, show min 120 k = 120 by omega]
    rw [← List.take_append_drop 120 (s.take k ++ o.drop k), e1, h3]
    conv => rhs; rw [← List.take_append_drop 120 s]
    congr 1
    rw [hs, pageL_end t d hd]
theorem torn_old {s o : List UInt8} {t u : Nat} {k : Nat} (hsl : s.length = 128) (hs : s.take 8 = eightL t) (hol : o.length = 128) (hk : k ≤ 128) (ho : o.drop 120 ≠ eightL t)
    (hu : tagL o = (u, 0)) (h : tagL (s.take k ++ o.drop k) = (u, 0)) : s.take k ++ o.drop k = o := by
  obtain ⟨_, u1, u2, _, _⟩ := tagL_inv hu
  obtain ⟨_, h1, _, _, _⟩ := tagL_inv h
  by_cases h8 : 8 ≤ k
  · exfalso
    apply ho
    rw [List.take_append_of_le_length (by simp; omega), List.take_take, show min 8 k = 8 by omega, hs] at h1
    rw [u2, ← h1]
  · have e1 : (s.take k ++ o.drop k).drop 8 = o.drop 8 := by
      rw [List.drop_append, List.length_take, List.drop_of_length_le (by simp; omega), List.drop_drop, List.nil_append]
      rw [show k + (8 - min k s.length) = 8 by omega]
    rw [← List.take_append_drop 8 (s.take k ++ o.drop k), e1, h1, ← u1, List.take_append_drop]
end Go.Proofs.Ytbikcpchlgmoaaa.Page
