/- A stream's pieces, plain. -/
import Derived.Test.YtopabkkapbaibaaMsgGet
import Derived.Lib.Bytealg
set_option linter.unusedVariables false
namespace Go.Proofs.Ytopabkkapbaibaa.Gram
abbrev PcT : Type := Nat × List UInt8
/-- the piece of what begins with Magic, and what is behind it -/
def msgG (s : List UInt8) : PcT × List UInt8 :=
  match s with
  | _ :: b :: c :: t =>
    if b.toNat * 256 + c.toNat = 0 ∨ 64 < b.toNat * 256 + c.toNat then ((3, []), t.drop (b.toNat * 256 + c.toNat))
    else if t.length < b.toNat * 256 + c.toNat then ((0, []), [])
    else ((1, t.take (b.toNat * 256 + c.toNat)), t.drop (b.toNat * 256 + c.toNat))
  | _ => ((0, []), [])
def noM (s : List UInt8) : List UInt8 := s.dropWhile (fun b => decide (b ≠ 245))
def firstG (s : List UInt8) : PcT × List UInt8 :=
  match s with
  | [] => ((0, []), [])
  | b :: t => if b = 245 then msgG (b :: t) else ((2, []), noM t)
theorem noM_len (s : List UInt8) : (noM s).length ≤ s.length := by
  unfold noM
  exact (List.dropWhile_sublist _).length_le
theorem msgG_len (s : List UInt8) (h : s ≠ []) : (msgG s).2.length < s.length := by
  unfold msgG
  split
  · split
    · simp only [List.length_drop, List.length_cons]; omega
    · split
      · simp
      · simp only [List.length_drop, List.length_cons]; omega
  · simp only [List.length_nil]
    exact List.length_pos_iff.2 h
theorem firstG_len (s : List UInt8) (h : s ≠ []) : (firstG s).2.length < s.length := by
  unfold firstG
  split
  · exact absurd rfl h
  · split
    · exact msgG_len _ h
    · have := noM_len (by assumption : List UInt8)
      simp only [List.length_cons]
      rename_i t _
      have := noM_len t
      omega
theorem firstG_body (s : List UInt8) : (firstG s).1.2.length ≤ 64 := by
  unfold firstG
  split
  · simp
  · split
    · unfold msgG
      split
      · split
        · simp
        · split
          · simp
          · simp only [List.length_take]; omega
      · simp
    · simp
/-- all pieces, with fuel -/
def piecesF : Nat → List UInt8 → List PcT
  | 0, _ => []
  | f + 1, s => if s = [] then [] else (if (firstG s).1.1 = 0 then [] else [(firstG s).1]) ++ piecesF f (firstG s).2
def piecesL (s : List UInt8) : List PcT := piecesF s.length s
theorem piecesF_more (f : Nat) : ∀ (s : List UInt8), s.length ≤ f → ∀ g, s.length ≤ g → piecesF f s = piecesF g s := by
  induction f with
  | zero =>
    intro s h g hg
    have : s = [] := List.eq_nil_of_length_eq_zero (by omega)
    subst this
    cases g <;> rfl
  | succ f ih =>
    intro s h g hg
    cases g with
    | zero =>
      have : s = [] := List.eq_nil_of_length_eq_zero (by omega)
      subst this
      rfl
    | succ g =>
      unfold piecesF
      by_cases hs : s = []
      · rw [if_pos hs, if_pos hs]
      · have := firstG_len s hs
        rw [if_neg hs, if_neg hs, ih (firstG s).2 (by omega) g (by omega)]
theorem pieces_nil : piecesL [] = [] := rfl
theorem pieces_step (s : List UInt8) (h : s ≠ []) : piecesL s = (if (firstG s).1.1 = 0 then [] else [(firstG s).1]) ++ piecesL (firstG s).2 := by
  have hl := firstG_len s h
  unfold piecesL
  obtain ⟨n, hn⟩ : ∃ n, s.length = n + 1 := ⟨s.length - 1, by omega⟩
  rw [hn]
  show piecesF (n + 1) s = _
  rw [piecesF, if_neg h, piecesF_more n _ (by omega) (firstG s).2.length (Nat.le_refl _)]
theorem index_none (t : List UInt8) : Lib.indexByte t 245 = -1 ∧ noM t = [] ∨ ∃ k : Nat, k < t.length ∧ Lib.indexByte t 245 = (k : Int) ∧ noM t = t.drop k := by
  induction t with
  | nil => exact .inl ⟨rfl, rfl⟩
  | cons b t ih =>
    by_cases hb : b = 245
    · refine .inr ⟨0, by simp, ?_, ?_⟩
      · rw [hb]; simp [Lib.indexByte]
      · rw [hb]; unfold noM; simp
    · have e2 : noM (b :: t) = noM t := by unfold noM; rw [List.dropWhile_cons_of_pos (by simpa using hb)]
      rcases ih with ⟨h1, h2⟩ | ⟨k, h0, h1, h2⟩
      · refine .inl ⟨?_, by rw [e2, h2]⟩
        simp [Lib.indexByte, hb, h1]
      · refine .inr ⟨k + 1, by simp; omega, ?_, by rw [e2, h2]; rfl⟩
        simp [Lib.indexByte, hb, h1]
end Go.Proofs.Ytopabkkapbaibaa.Gram
