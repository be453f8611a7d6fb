/- Bytes that are read off a tape, plain: numbers, prefixes, actions, events. -/
import Derived.Test.YtbglbegljkgknaaGreatNq04
import Derived.Test.YtbglbegljkgknaaGreatNq03
import Derived.Test.YtbglbegljkgknaaGreatNq01
set_option linter.unusedVariables false
namespace Go.Proofs.YtbglbegljkgknaaGreat
open Go.RowKit

theorem extract_take (s : ByteArray) (k : Nat) : s.extract 0 k = ⟨(s.data.toList.take k).toArray⟩ := by
  apply ByteArray.ext
  rw [ByteArray.data_extract]
  apply Array.ext'
  simp
/-- the bytes of a text -/
def textL (t : List UInt8) : List UInt8 := putL t.length ++ t
theorem rv1 : rowL [1, 200] = [2, 1, 200, 1] := by
  have e1 : putL 2 = [2] := by rw [putL_small _ (by decide)]; rfl
  have e2 : putL 1 = [1] := by rw [putL_small _ (by decide)]; rfl
  have e3 : putL 200 = [200, 1] := by rw [putL_big _ (by decide), putL_small _ (by decide)]; rfl
  have e4 : allL [1, 200] = putL 1 ++ putL 200 := by simp [allL]
  rw [rowL, e4, e2, e3]
  show putL 2 ++ _ = _
  rw [e1]
  rfl
theorem rv2 : getRowL [2, 1, 200, 1, 122] = ([1, 200], [122], 0) := by decide +kernel
theorem rv3 : textL [97, 98] = [2, 97, 98] := by
  have e1 : putL 2 = [2] := by rw [putL_small _ (by decide)]; rfl
  show putL 2 ++ _ = _
  rw [e1]
  rfl
theorem rv4 : getTextL [2, 97, 98, 122] = ([97, 98], [122], 0) := by decide +kernel
theorem rv5 : getTextL [5, 97, 98] = ([], [], 5) := by decide +kernel
theorem isRow_two (w : World) : IsRow .u64 (w.alloc (.cells #[.int .u64 1, .int .u64 200] 29)) (some ⟨w.heap.size, 0, none⟩) 2 2 [1, 200] := by
  refine .inr ⟨_, rfl, by decide, by decide, rfl, ?_, by decide⟩
  intro i hi
  rw [addr_add, Nat.zero_add, World.cell?_alloc_at _ _ _ _ rfl]
  match i, hi with
  | 0, _ => rfl
  | 1, _ => rfl
theorem st1 : (⟨#[2, 1, 200, 1]⟩ ++ ⟨#[122]⟩ : ByteArray) = ⟨#[2, 1, 200, 1, 122]⟩ := by decide +kernel
theorem st2 : (⟨#[2, 97, 98]⟩ ++ ⟨#[122]⟩ : ByteArray) = ⟨#[2, 97, 98, 122]⟩ := by decide +kernel

end Go.Proofs.YtbglbegljkgknaaGreat
namespace Go.Proofs.YtbglbegljkgknaaGreat

theorem getGo_put (l : List UInt8) (n : Nat) : ∀ i acc, n * 128 ^ i < 18446744073709551616 → (i = 0 ∨ n ≠ 0) → i ≤ 9 → getGo i acc (putL n ++ l) = (acc + n * 128 ^ i, l, 0) := by
  induction n using Nat.strongRecOn with
  | ind n ih =>
    intro i acc h h0 hi
    by_cases hn : n < 128
    · rw [putL_small n hn]
      have e : (UInt8.ofNat n).toNat = n := by simp; omega
      have h9 : i = 9 → n ≤ 1 := fun h => by subst h; omega
      rw [List.singleton_append, getGo_last acc (UInt8.ofNat n) l (by rw [e]; exact h9) (by rw [e]; exact hn) (by rw [e]; omega), e]
    · rw [putL_big n hn]
      have e : (UInt8.ofNat (n % 128 + 128)).toNat = n % 128 + 128 := by simp; omega
      have h9 : i ≠ 9 := fun h9 => by subst h9; omega
      rw [List.cons_append, getGo_more acc _ _ h9 (by rw [e]; omega), e]
      have hp : 128 ^ (i + 1) = 128 * 128 ^ i := by rw [Nat.pow_succ]; omega
      have h1 : n / 128 * 128 ^ (i + 1) + n % 128 * 128 ^ i = n * 128 ^ i := by
        rw [hp, ← Nat.mul_assoc, ← Nat.add_mul]
        congr 1
        omega
      rw [ih (n / 128) (by omega) (i + 1) _ (by omega) (.inr (by omega)) (by omega)]
      have h2 : (n % 128 + 128) % 128 = n % 128 := by omega
      rw [h2]
      congr 1
      omega
theorem getS_put (n : Nat) (more : ByteArray) (h : n < 18446744073709551616) : getS (⟨(putL n).toArray⟩ ++ more) = (n, more.data.toList, 0) := by
  unfold getS
  rw [ByteArray.data_append]
  have := getGo_put more.data.toList n 0 0 (by simpa using h) (.inl rfl) (by omega)
  simpa using this

theorem put_getGo (l : List UInt8) : ∀ i acc N r, i ≤ 9 → getGo i acc l = (N, r, 0) → ∃ n, N = acc + n * 128 ^ i ∧ putL n ++ r = l ∧ (0 < i → n ≠ 0) ∧ (n + 1) * 128 ^ i ≤ 18446744073709551616 := by
  induction l with
  | nil => intro i acc N r _ h; simp [getGo] at h
  | cons b l ih =>
    intro i acc N r hi h
    have hb := b.toNat_lt
    have hp : 128 ^ (i + 1) = 128 * 128 ^ i := by rw [Nat.pow_succ]; omega
    have hp9 : i ≤ 8 → 128 ^ (i + 1) ≤ 128 ^ 9 := fun h => Nat.pow_le_pow_right (by decide) (by omega)
    rw [getGo] at h
    by_cases c1 : i = 9 ∧ 1 < b.toNat
    · rw [if_pos c1] at h; simp at h
    · rw [if_neg c1] at h
      by_cases c2 : 128 ≤ b.toNat
      · rw [if_pos c2] at h
        obtain ⟨n, e1, e2, e3, e4⟩ := ih (i + 1) _ N r (by omega) h
        have hn := e3 (by omega)
        refine ⟨b.toNat % 128 + 128 * n, ?_, ?_, by omega, ?_⟩
        · rw [e1, hp, Nat.add_mul, ← Nat.mul_assoc, Nat.mul_comm n 128]; omega
        · rw [putL_big _ (by omega)]
          have h1 : (b.toNat % 128 + 128 * n) % 128 + 128 = b.toNat := by omega
          have h2 : (b.toNat % 128 + 128 * n) / 128 = n := by omega
          rw [h1, h2, List.cons_append, e2]
          simp
        · have h1 : (b.toNat % 128 + 128 * n + 1) * 128 ^ i ≤ (128 * (n + 1)) * 128 ^ i := Nat.mul_le_mul_right _ (by omega)
          have h2 : (128 * (n + 1)) * 128 ^ i = (n + 1) * 128 ^ (i + 1) := by rw [hp, ← Nat.mul_assoc, Nat.mul_comm (n + 1) 128]
          omega
      · rw [if_neg c2] at h
        by_cases c3 : b.toNat = 0 ∧ 0 < i
        · rw [if_pos c3] at h; simp at h
        · rw [if_neg c3] at h
          simp only [Prod.mk.injEq, and_true] at h
          obtain ⟨e1, e2⟩ := h
          refine ⟨b.toNat, e1.symm, ?_, by omega, ?_⟩
          · rw [putL_small _ (by omega), e2]; simp
          · by_cases c4 : i = 9
            · subst c4; omega
            · have h1 : (b.toNat + 1) * 128 ^ i ≤ 128 * 128 ^ i := Nat.mul_le_mul_right _ (by omega)
              have := hp9 (by omega)
              omega
theorem put_getS (s : ByteArray) (h : (getS s).2.2 = 0) : (getS s).1 < 18446744073709551616 ∧ (⟨(putL (getS s).1).toArray⟩ ++ ⟨(getS s).2.1.toArray⟩ : ByteArray) = s := by
  obtain ⟨⟨N, r, why⟩, hr⟩ : ∃ r, getS s = r := ⟨_, rfl⟩
  rw [hr] at h ⊢
  simp only at h
  subst h
  obtain ⟨n, e1, e2, e3, e4⟩ := put_getGo s.data.toList 0 0 N r (by omega) hr
  have hn : N = n := by simpa using e1
  subst hn
  refine ⟨by simp at e4; omega, ?_⟩
  apply ByteArray.ext
  rw [ByteArray.data_append]
  apply Array.ext'
  simpa using e2
end Go.Proofs.YtbglbegljkgknaaGreat
namespace Go.Proofs.YtbglbegljkgknaaGreat

theorem numsGo_all (ns : List Int) (more : List UInt8) (h : ∀ n ∈ ns, 0 ≤ n ∧ n ≤ 18446744073709551615) : ∀ acc, numsGo ns.length acc (allL ns ++ more) = (acc ++ ns, more, 0) := by
  induction ns with
  | nil => intro acc; simp [numsGo, allL]
  | cons n ns ih =>
    intro acc
    have hn := h n (by simp)
    have hg : getGo 0 0 (allL (n :: ns) ++ more) = (n.toNat, allL ns ++ more, 0) := by
      have := getGo_put (allL ns ++ more) n.toNat 0 0 (by simp; omega) (.inl rfl) (by omega)
      simpa [allL] using this
    rw [List.length_cons, numsGo_ok hg, ih (fun m hm => h m (by simp [hm])), Int.toNat_of_nonneg hn.1]
    simp
theorem getRowL_row (ns : List Int) (more : List UInt8) (hl : ns.length ≤ 4096) (h : ∀ n ∈ ns, 0 ≤ n ∧ n ≤ 18446744073709551615) : getRowL (rowL ns ++ more) = (ns, more, 0) := by
  have hg : getGo 0 0 (rowL ns ++ more) = (ns.length, allL ns ++ more, 0) := by
    have := getGo_put (allL ns ++ more) ns.length 0 0 (by simp; omega) (.inl rfl) (by omega)
    simpa [rowL] using this
  rw [getRowL_ok hg hl, numsGo_all ns more h]
  simp
theorem getTextL_text (t more : List UInt8) (hl : t.length ≤ 32768) : getTextL (textL t ++ more) = (t, more, 0) := by
  have hg : getGo 0 0 (textL t ++ more) = (t.length, t ++ more, 0) := by
    have := getGo_put (t ++ more) t.length 0 0 (by simp; omega) (.inl rfl) (by omega)
    simpa [textL] using this
  rw [getTextL_ok hg hl (by simp)]
  simp
theorem getGo_back {l : List UInt8} {n : Nat} {r : List UInt8} (h : getGo 0 0 l = (n, r, 0)) : n < 18446744073709551616 ∧ putL n ++ r = l := by
  obtain ⟨m, e1, e2, e3, e4⟩ := put_getGo l 0 0 n r (by omega) h
  have hn : n = m := by simpa using e1
  subst hn
  exact ⟨by simp at e4; omega, e2⟩
theorem numsGo_back (k : Nat) : ∀ acc l ns r, numsGo k acc l = (ns, r, 0) → ∃ ms, ns = acc ++ ms ∧ ms.length = k ∧ allL ms ++ r = l ∧ ∀ n ∈ ms, 0 ≤ n ∧ n ≤ 18446744073709551615 := by
  induction k with
  | zero =>
    intro acc l ns r h
    rw [numsGo] at h
    cases h
    exact ⟨[], by simp, rfl, by simp [allL], by simp⟩
  | succ k ih =>
    intro acc l ns r h
    obtain ⟨⟨n, q, y⟩, hg⟩ : ∃ r, getGo 0 0 l = r := ⟨_, rfl⟩
    by_cases hy : y = 0
    · subst hy
      rw [numsGo_ok hg] at h
      obtain ⟨ms, e1, e2, e3, e4⟩ := ih _ _ _ _ h
      obtain ⟨h64, hb⟩ := getGo_back hg
      refine ⟨(n : Int) :: ms, by rw [e1]; simp, by simp [e2], ?_, ?_⟩
      · rw [← hb, ← e3]; simp [allL]
      · intro m hm
        rcases List.mem_cons.1 hm with rfl | hm
        · omega
        · exact e4 m hm
    · rw [numsGo_err hg hy] at h
      simp only [Prod.mk.injEq] at h
      exact absurd h.2.2 hy
theorem getRowL_back {l : List UInt8} {ns : List Int} {r : List UInt8} (h : getRowL l = (ns, r, 0)) : ns.length ≤ 4096 ∧ rowL ns ++ r = l ∧ ∀ n ∈ ns, 0 ≤ n ∧ n ≤ 18446744073709551615 := by
  obtain ⟨⟨n, q, y⟩, hg⟩ : ∃ r, getGo 0 0 l = r := ⟨_, rfl⟩
  by_cases hy : y = 0
  · subst hy
    by_cases hn : n ≤ 4096
    · rw [getRowL_ok hg hn] at h
      obtain ⟨ms, e1, e2, e3, e4⟩ := numsGo_back n _ _ _ _ h
      obtain ⟨h64, hb⟩ := getGo_back hg
      rw [List.nil_append] at e1
      subst e1
      refine ⟨by omega, ?_, e4⟩
      rw [← hb, ← e3, rowL, e2]; simp
    · rw [getRowL_many hg hn] at h
      simp at h
  · rw [getRowL_err hg hy] at h
    simp only [Prod.mk.injEq] at h
    exact absurd h.2.2 hy
theorem getTextL_back {l t r : List UInt8} (h : getTextL l = (t, r, 0)) : t.length ≤ 32768 ∧ textL t ++ r = l := by
  obtain ⟨⟨n, q, y⟩, hg⟩ : ∃ r, getGo 0 0 l = r := ⟨_, rfl⟩
  by_cases hy : y = 0
  · subst hy
    by_cases hn : n ≤ 32768
    · by_cases hq : n ≤ q.length
      · rw [getTextL_ok hg hn hq] at h
        simp only [Prod.mk.injEq, and_true] at h
        obtain ⟨rfl, rfl⟩ := h
        obtain ⟨h64, hb⟩ := getGo_back hg
        have hlen : (q.take n).length = n := by rw [List.length_take]; omega
        refine ⟨by omega, ?_⟩
        rw [textL, hlen, List.append_assoc, List.take_append_drop, hb]
      · rw [getTextL_short hg hn hq] at h
        simp at h
    · rw [getTextL_many hg hn] at h
      simp at h
  · rw [getTextL_err hg hy] at h
    simp only [Prod.mk.injEq] at h
    exact absurd h.2.2 hy
/-- where nothing was read, there is nothing -/
theorem numsGo_none (k : Nat) : ∀ acc l, (numsGo k acc l).2.2 = 0 ∨ (numsGo k acc l).1 = [] := by
  induction k with
  | zero => intro acc l; left; rfl
  | succ k ih =>
    intro acc l
    rw [numsGo]
    split
    · exact ih _ _
    · right; rfl
theorem getRowL_none {l : List UInt8} {ns : List Int} {r : List UInt8} {y : Int} (h : getRowL l = (ns, r, y)) (hy : y ≠ 0) : ns = [] := by
  rw [getRowL] at h
  split at h
  · split at h
    · have := numsGo_none (getGo 0 0 l).1 [] (getGo 0 0 l).2.1
      rw [h] at this
      rcases this with h1 | h1
      · exact absurd h1 hy
      · exact h1
    · cases h; rfl
  · cases h; rfl
theorem getTextL_none {l t r : List UInt8} {y : Int} (h : getTextL l = (t, r, y)) (hy : y ≠ 0) : t = [] := by
  rw [getTextL] at h
  split at h
  · split at h
    · split at h
      · cases h; exact absurd rfl hy
      · cases h; rfl
    · cases h; rfl
  · cases h; rfl
end Go.Proofs.YtbglbegljkgknaaGreat
namespace Go.Proofs.YtbglbegljkgknaaGreat.Msg
open Go.Proofs.YtbglbegljkgknaaGreat.Addr (Pf okP checkP wideN firstN kP hiN loN)

/-- a number at the beginning of a tape, of whose first ten bytes -/
def rdN (l : List UInt8) : Option (Nat × List UInt8) :=
  if (getGo 0 0 (l.take 10)).2.2 = 0 then some ((getGo 0 0 (l.take 10)).1, l.drop ((l.take 10).length - (getGo 0 0 (l.take 10)).2.1.length)) else none
theorem putL_le (n : Nat) (h : n < 18446744073709551616) : (putL n).length ≤ 10 := by
  obtain ⟨k, _, hk, h1, h2⟩ := many_spec n h
  rw [putL_len k n h1 h2]; omega
theorem rdN_put (n : Nat) (m : List UInt8) (h : n < 18446744073709551616) : rdN (putL n ++ m) = some (n, m) := by
  have hl := putL_le n h
  have e : (putL n ++ m).take 10 = putL n ++ m.take (10 - (putL n).length) := by rw [List.take_append, List.take_of_length_le hl]
  have hg := getGo_put (m.take (10 - (putL n).length)) n 0 0 (by omega) (.inl rfl) (by omega)
  simp only [Nat.pow_zero, Nat.mul_one, Nat.zero_add] at hg
  unfold rdN
  rw [e, hg]
  simp only [if_true]
  rw [List.length_append, Nat.add_sub_cancel, List.drop_left]
theorem rdN_back {l r : List UInt8} {n : Nat} (h : rdN l = some (n, r)) : n < 18446744073709551616 ∧ l = putL n ++ r := by
  unfold rdN at h
  split at h
  · rename_i h0
    injection h with h
    injection h with h1 h2
    obtain ⟨a, b, c⟩ : ∃ a b, getGo 0 0 (l.take 10) = (a, b, 0) := ⟨_, _, Prod.ext rfl (Prod.ext rfl h0)⟩
    rw [c] at h1 h2
    simp only at h1 h2
    rw [h1] at c
    obtain ⟨h3, h4⟩ := getGo_back c
    refine ⟨h3, ?_⟩
    rw [← h4, List.length_append, Nat.add_sub_cancel] at h2
    rw [← h2]
    have e2 : l = (putL n ++ b) ++ l.drop 10 := by rw [h4, List.take_append_drop]
    rw [e2, List.append_assoc, List.drop_left]
  · cases h
/-- what a step of reading does to a tape: none, if it was bad -/
def part {α : Type} (z : α) (f : List UInt8 → Option (α × List UInt8)) (st : Option (List UInt8)) : α × Option (List UInt8) :=
  match st with
  | none => (z, none)
  | some l => match f l with
    | some (v, r) => (v, some r)
    | none => (z, none)
def f1 : List UInt8 → Option (Nat × List UInt8)
  | [] => none
  | b :: t => some (b.toNat, t)
def fI (l : List UInt8) : Option (Int × List UInt8) :=
  match rdN l with
  | some (n, r) => if n ≤ 9223372036854775807 then some ((n : Int), r) else none
  | none => none
def fSix : List UInt8 → Option (Bool × List UInt8)
  | [] => none
  | b :: t => if b = 6 then some (true, t) else if b = 4 then some (false, t) else none
/-- bytes of a number, the highest first -/
def be : Nat → Nat → List UInt8
  | 0, _ => []
  | k + 1, n => be k (n / 256) ++ [UInt8.ofNat (n % 256)]
def nb (acc : Nat) : List UInt8 → Nat
  | [] => acc
  | b :: t => nb (acc * 256 + b.toNat) t
theorem be_len (k : Nat) : ∀ n, (be k n).length = k := by
  induction k with
  | zero => intro n; rfl
  | succ k ih => intro n; simp [be, ih]
theorem nb_app (a b : List UInt8) : ∀ acc, nb acc (a ++ b) = nb (nb acc a) b := by
  induction a with
  | nil => intro acc; rfl
  | cons x t ih => intro acc; exact ih _
theorem nb_be (k : Nat) : ∀ n, n < 256 ^ k → nb 0 (be k n) = n := by
  induction k with
  | zero => intro n h; simp at h; subst h; rfl
  | succ k ih =>
    intro n h
    rw [be, nb_app, ih (n / 256) (by rw [Nat.pow_succ] at h; omega)]
    show n / 256 * 256 + (UInt8.ofNat (n % 256)).toNat = n
    rw [UInt8.toNat_ofNat_of_lt' (by show n % 256 < 256; omega)]; omega
theorem be_snoc (k n : Nat) (b : UInt8) : be (k + 1) (n * 256 + b.toNat) = be k n ++ [b] := by
  have := b.toNat_lt
  rw [be, show (n * 256 + b.toNat) / 256 = n by omega, show (n * 256 + b.toNat) % 256 = b.toNat by omega]
  simp
theorem be_nb_aux (l : List UInt8) : ∀ k n, be (k + l.length) (nb n l) = be k n ++ l := by
  induction l with
  | nil => intro k n; simp [nb]
  | cons b t ih =>
    intro k n
    rw [List.length_cons, show k + (t.length + 1) = (k + 1) + t.length by omega]
    show be (k + 1 + t.length) (nb (n * 256 + b.toNat) t) = _
    rw [ih (k + 1), be_snoc, List.append_assoc]; rfl
theorem be_nb (l : List UInt8) : be l.length (nb 0 l) = l := by
  have := be_nb_aux l 0 0
  rw [Nat.zero_add] at this
  rw [this]; rfl
theorem be_split (i j : Nat) : ∀ n, be (i + j) n = be i (n / 256 ^ j) ++ be j n := by
  induction j with
  | zero => intro n; simp [be]
  | succ j ih =>
    intro n
    rw [← Nat.add_assoc, be, ih (n / 256), be, ← List.append_assoc, Nat.div_div_eq_div_mul, Nat.pow_succ, Nat.mul_comm 256]
theorem be_zero (j : Nat) : ∀ n, n % 256 ^ j = 0 → be j n = List.replicate j 0 := by
  induction j with
  | zero => intro n _; rfl
  | succ j ih =>
    intro n h
    have h1 : n % 256 = 0 := by
      have := Nat.mod_mod_of_dvd n (show 256 ∣ 256 ^ (j + 1) from ⟨256 ^ j, by rw [Nat.pow_succ, Nat.mul_comm]⟩)
      rw [← this, h]
    have h2 : (n / 256) % 256 ^ j = 0 := by
      obtain ⟨q, rfl⟩ := Nat.dvd_of_mod_eq_zero h
      rw [Nat.pow_succ, Nat.mul_assoc, Nat.mul_left_comm, Nat.mul_div_cancel_left _ (by omega), Nat.mul_mod_right]
    rw [be, ih _ h2, h1, List.replicate_succ']; rfl
def wB (six : Bool) : Nat := if six then 16 else 4
theorem wB8 (six : Bool) : wideN six = 8 * wB six := by cases six <;> rfl
/-- the address whose first bytes these are -/
def gaN (six : Bool) (s : List UInt8) : Nat := nb 0 (s.take (wB six) ++ List.replicate (wB six - (s.take (wB six)).length) 0)
def manyN (k : Nat) : Nat := (k + 7) / 8
def fAd (six : Bool) (many : Nat) (l : List UInt8) : Option (Nat × List UInt8) := if l.length < many then none else some (gaN six (l.take many), l.drop many)
def markB (six : Bool) : UInt8 := if six then 6 else 4
def prefB (p : Pf) : List UInt8 := [markB p.six, UInt8.ofNat p.len.toNat] ++ (be (wB p.six) p.n).take (manyN p.len.toNat)
def rdP (st : Option (List UInt8)) : Pf × Option (List UInt8) :=
  let a := part false fSix st
  let b := part 0 f1 a.2
  let c := part 0 (fAd a.1 (manyN b.1)) b.2
  (⟨a.1, c.1, (b.1 : Int)⟩, c.2)
theorem gaN_take (p : Pf) (h : okP p = true) : gaN p.six ((be (wB p.six) p.n).take (manyN p.len.toNat)) = p.n := by
  obtain ⟨h1, h2, h3⟩ := Addr.okP_iff.1 h
  have hw := wB8 p.six
  have hm : manyN p.len.toNat ≤ wB p.six := by unfold manyN; omega
  have hl : ((be (wB p.six) p.n).take (manyN p.len.toNat)).length = manyN p.len.toNat := by rw [List.length_take, be_len]; omega
  have hz : p.n % 256 ^ (wB p.six - manyN p.len.toNat) = 0 := by
    have hd : 256 ^ (wB p.six - manyN p.len.toNat) ∣ 2 ^ (wideN p.six - p.len.toNat) := by
      rw [show (256 : Nat) = 2 ^ 8 from rfl, ← Nat.pow_mul]
      exact Nat.pow_dvd_pow 2 (by unfold manyN; omega)
    exact Nat.mod_eq_zero_of_dvd (Nat.dvd_trans hd (Nat.dvd_of_mod_eq_zero h3))
  have e : be (wB p.six) p.n = (be (wB p.six) p.n).take (manyN p.len.toNat) ++ List.replicate (wB p.six - manyN p.len.toNat) 0 := by
    have hs := be_split (manyN p.len.toNat) (wB p.six - manyN p.len.toNat) p.n
    rw [show manyN p.len.toNat + (wB p.six - manyN p.len.toNat) = wB p.six by omega, be_zero _ _ hz] at hs
    have ht : (be (wB p.six) p.n).take (manyN p.len.toNat) = be (manyN p.len.toNat) (p.n / 256 ^ (wB p.six - manyN p.len.toNat)) := by
      rw [hs]
      have := be_len (manyN p.len.toNat) (p.n / 256 ^ (wB p.six - manyN p.len.toNat))
      rw [List.take_append, this, Nat.sub_self, List.take_zero, List.append_nil, List.take_of_length_le (by omega)]
    rw [ht]; exact hs
  unfold gaN
  rw [List.take_of_length_le (by omega), hl, ← e]
  refine nb_be _ _ ?_
  rw [hw, Nat.pow_mul] at h2
  exact h2
theorem rdP_put (p : Pf) (m : List UInt8) (h : okP p = true) : rdP (some (prefB p ++ m)) = (p, some m) := by
  obtain ⟨h1, h2, h3⟩ := Addr.okP_iff.1 h
  have hw := wB8 p.six
  have hm : manyN p.len.toNat ≤ wB p.six := by unfold manyN; omega
  have hg := gaN_take p h
  have hl : ((be (wB p.six) p.n).take (manyN p.len.toNat)).length = manyN p.len.toNat := by rw [List.length_take, be_len]; omega
  have hb : (UInt8.ofNat p.len.toNat).toNat = p.len.toNat := UInt8.toNat_ofNat_of_lt' (by show p.len.toNat < 256; have := Addr.wideN_le p.six; omega)
  have e1 : part false fSix (some (prefB p ++ m)) = (p.six, some ([UInt8.ofNat p.len.toNat] ++ (be (wB p.six) p.n).take (manyN p.len.toNat) ++ m)) := by
    unfold part prefB markB fSix
    cases p.six <;> rfl
  have e2 : part 0 f1 (some ([UInt8.ofNat p.len.toNat] ++ (be (wB p.six) p.n).take (manyN p.len.toNat) ++ m)) = (p.len.toNat, some ((be (wB p.six) p.n).take (manyN p.len.toNat) ++ m)) := by
    show ((UInt8.ofNat p.len.toNat).toNat, some _) = _
    rw [hb]
    rfl
  have e3 : part 0 (fAd p.six (manyN p.len.toNat)) (some ((be (wB p.six) p.n).take (manyN p.len.toNat) ++ m)) = (p.n, some m) := by
    unfold part fAd
    simp only
    rw [if_neg (by rw [List.length_append, hl]; omega), List.take_append, hl, Nat.sub_self, List.take_zero, List.append_nil, List.take_of_length_le (by rw [hl]; omega), hg, List.drop_append, hl, Nat.sub_self, List.drop_of_length_le (by rw [hl]; omega)]
    rfl
  simp only [rdP, e1, e2, e3]
  obtain ⟨s, n, len⟩ := p
  simp only at h1 ⊢
  rw [Int.toNat_of_nonneg h1.1]
theorem rdP_back {l m : List UInt8} {p : Pf} (h : rdP (some l) = (p, some m)) (hp : okP p = true) : l = prefB p ++ m := by
  obtain ⟨h1, h2, h3⟩ := Addr.okP_iff.1 hp
  have hw := wB8 p.six
  unfold rdP at h
  cases l with
  | nil => simp [part, fSix] at h
  | cons x l =>
    by_cases hx : x = 6 ∨ x = 4
    · have e1 : ∃ six, part false fSix (some (x :: l)) = (six, some l) ∧ x = markB six := by
        rcases hx with rfl | rfl
        · exact ⟨true, rfl, rfl⟩
        · exact ⟨false, rfl, rfl⟩
      obtain ⟨six, e1, hx2⟩ := e1
      rw [e1] at h
      cases l with
      | nil => simp [part, f1] at h
      | cons y l =>
        have e2 : part 0 f1 (some (y :: l)) = (y.toNat, some l) := rfl
        simp only at h
        rw [e2] at h
        simp only [part, fAd] at h
        by_cases hl : l.length < manyN y.toNat
        · rw [if_pos hl] at h; simp at h
        · rw [if_neg hl] at h
          simp only [Prod.mk.injEq, Option.some.injEq] at h
          obtain ⟨rfl, rfl⟩ := h
          simp only at h1 h2 h3 hw ⊢
          have hm : manyN y.toNat ≤ wB six := by unfold manyN; omega
          have ht : (l.take (manyN y.toNat)).length = manyN y.toNat := by rw [List.length_take]; omega
          unfold prefB
          simp only [Int.toNat_natCast]
          have hbe : be (wB six) (gaN six (l.take (manyN y.toNat))) = l.take (manyN y.toNat) ++ List.replicate (wB six - manyN y.toNat) 0 := by
            unfold gaN
            rw [List.take_of_length_le (by omega), ht]
            have := be_nb (l.take (manyN y.toNat) ++ List.replicate (wB six - manyN y.toNat) 0)
            rw [List.length_append, ht, List.length_replicate, show manyN y.toNat + (wB six - manyN y.toNat) = wB six by omega] at this
            exact this
          rw [hbe, List.take_append, ht, Nat.sub_self, List.take_zero, List.append_nil, List.take_of_length_le (by omega), ← hx2]
          simp
    · have e1 : part false fSix (some (x :: l)) = (false, none) := by
        unfold part fSix
        simp only
        rw [if_neg (fun e => hx (.inl e)), if_neg (fun e => hx (.inr e))]
      rw [e1] at h
      simp [part] at h
end Go.Proofs.YtbglbegljkgknaaGreat.Msg
