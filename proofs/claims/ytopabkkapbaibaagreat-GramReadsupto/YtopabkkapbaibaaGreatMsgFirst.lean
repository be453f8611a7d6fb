/- What first, Get, GetPrefix and GetAction return. -/
import Derived.Test.YtopabkkapbaibaaGreatMsgEv
import Derived.Test.YtopabkkapbaibaaGreatMsgChk3
import Derived.Test.YtopabkkapbaibaaGreatShelf
set_option linter.unusedVariables false
namespace Go.Proofs.YtopabkkapbaibaaGreat.Msg
open Go.RowKit
open Go.Proofs.YtopabkkapbaibaaGreat.Addr (Pf okP checkP wideN firstN kP hiN loN adV pfV RowAt below2 below_drew below_new bset RowAt.lt RowAt.cell RowAt.frozen RowAt.below RowAt.drew RowAt.new RowAt.alloc gdrew gset gbelow galloc grefl cells2 cells4 results_cell)

theorem results_cell_tmp2 {fn : Func} {p u x : Tmp} {ty : TypeId} (h : fn.results = #[.cell p ty, .tmp u, .tmp x]) (tmps : Array Value) (P : Program) (w : World) :
    (results fn tmps).run P w = ((asAddr (tmps.getD p undef)).run P w).andThen fun a w₁ => ((loadVar ty a).run P w₁).andThen fun v w₂ => .ok (.tuple #[v, tmps.getD u undef, tmps.getD x undef]) w₂ := by
  simp only [results, h]
  simp [Sem.run_bind, Result.andThen]
/-- the right thing at the beginning of a text, and what is behind it -/
def firstP {α : Type} (rd : Option (List UInt8) → α × Option (List UInt8)) (ok : α → Bool) (z : α) (s : List UInt8) : α × List UInt8 × Int :=
  match (rd (some s)).2 with
  | none => (z, [], 7)
  | some r => if ok (rd (some s)).1 then ((rd (some s)).1, r, 0) else (z, [], 7)
def FitP (p : Pf) : Prop := (-9223372036854775808 ≤ p.len ∧ p.len ≤ 9223372036854775807) ∧ p.n < 2 ^ 128
theorem pfcheck (p : Pf) (W : World) (h : FitP p) : Calls Tryz.prog 87 #[pfV p] W fun e w' => e = .returned (.int .i64 (checkP p)) ∧ Below W.heap.size W w' := Addr.check_any p W h.1 h.2
theorem pfV0 : pfV zeroPf = .agg #[.bool false, .int .u64 0, .int .u64 0, .int .i64 0] := by unfold Addr.pfV zeroPf; simp [hi0, lo0]
theorem f1_le (st : Option (List UInt8)) : (part (0 : Nat) f1 st).1 ≤ 255 := by
  cases st with
  | none => simp [part]
  | some l =>
    cases l with
    | nil => simp [part, f1]
    | cons b t => have := b.toNat_lt; show b.toNat ≤ 255; omega
theorem fI_le (st : Option (List UInt8)) : 0 ≤ (part (0 : Int) fI st).1 ∧ (part (0 : Int) fI st).1 ≤ 9223372036854775807 := by
  cases st with
  | none => simp [part]
  | some l =>
    cases hs : fI l with
    | none => rw [part_no hs]; simp
    | some p =>
      obtain ⟨v, r⟩ := p
      rw [part_yes hs]
      unfold fI at hs
      cases hr : rdN l with
      | none => rw [hr] at hs; simp at hs
      | some p =>
        obtain ⟨n, q⟩ := p
        rw [hr] at hs
        simp only at hs
        split at hs
        · simp at hs; show 0 ≤ v ∧ v ≤ _; omega
        · cases hs
theorem gaN_lt (six : Bool) (s : List UInt8) : gaN six s < 2 ^ 128 := by
  unfold gaN
  have h := nb_lt (s.take (wB six) ++ List.replicate (wB six - (s.take (wB six)).length) 0) 0
  have hl : (s.take (wB six) ++ List.replicate (wB six - (s.take (wB six)).length) (0 : UInt8)).length = wB six := by
    rw [List.length_append, List.length_replicate]
    have : (s.take (wB six)).length ≤ wB six := by rw [List.length_take]; omega
    omega
  rw [hl] at h
  refine Nat.lt_of_lt_of_le h ?_
  rw [Nat.zero_add, Nat.one_mul]
  cases six <;> decide
theorem fAd_lt (six : Bool) (k : Nat) (st : Option (List UInt8)) : (part 0 (fAd six k) st).1 < 2 ^ 128 := by
  cases st with
  | none => show 0 < 2 ^ 128; decide
  | some l =>
    cases hs : fAd six k l with
    | none => rw [part_no hs]; decide
    | some p =>
      obtain ⟨v, r⟩ := p
      rw [part_yes hs]
      unfold fAd at hs
      split at hs
      · cases hs
      · simp at hs; show v < _; rw [← hs.1]; exact gaN_lt _ _
theorem rdP_fit (st : Option (List UInt8)) : FitP (rdP st).1 := by
  have h1 := f1_le (part false fSix st).2
  refine ⟨⟨?_, ?_⟩, fAd_lt _ _ _⟩
  · show -9223372036854775808 ≤ ((part 0 f1 (part false fSix st).2).1 : Int); omega
  · show ((part 0 f1 (part false fSix st).2).1 : Int) ≤ _; omega
theorem pf_fit (s : List UInt8) : FitP (rdP (some s)).1 := rdP_fit _
theorem rdA_fit (st : Option (List UInt8)) : FitA (rdA st).1 := by
  have h1 := f1_le st
  have h2 := fI_le (part (0 : Nat) f1 st).2
  unfold rdA FitA
  split
  · refine ⟨?_, ?_, ?_⟩ <;> simp only <;> omega
  · refine ⟨?_, ?_, ?_⟩ <;> simp only <;> omega
theorem rdN_le (st : Option (List UInt8)) : (part (0 : Nat) rdN st).1 < 18446744073709551616 := by
  cases st with
  | none => show 0 < _; omega
  | some l =>
    cases hs : rdN l with
    | none => rw [part_no hs]; show 0 < _; omega
    | some p =>
      obtain ⟨v, r⟩ := p
      rw [part_yes hs]
      exact (rdN_back hs).1
theorem rdRest_fit (k : Nat) (a : Int) (b : Nat) (c : Int) (st : Option (List UInt8)) (h1 : k ≤ 255) (h2 : 0 ≤ a ∧ a ≤ 9223372036854775807) (h3 : b < 18446744073709551616) (h4 : 0 ≤ c ∧ c ≤ 9223372036854775807) : FitE (rdRest k a b c st).1 := by
  have hp := rdP_fit st
  have ha := rdA_fit (rdP st).2
  have hi := fI_le st
  have hj := fI_le (part (0 : Int) fI st).2
  unfold rdRest
  have hz : FitA zeroA := ⟨by decide, by decide, by decide⟩
  have hzn : zeroPf.n < 2 ^ 128 := by decide
  have hzl : -9223372036854775808 ≤ zeroPf.len ∧ zeroPf.len ≤ 9223372036854775807 := by decide
  split
  · exact ⟨by simp only; omega, by simp only; omega, by simp only; omega, by simp only; omega, hp.1, hp.2, ha, by simp only; omega, by simp only; omega⟩
  · split
    · exact ⟨by simp only; omega, by simp only; omega, by simp only; omega, by simp only; omega, hp.1, hp.2, hz, by simp only; omega, by simp only; omega⟩
    · split
      · exact ⟨by simp only; omega, by simp only; omega, by simp only; omega, by simp only; omega, hzl, hzn, hz, by simp only; omega, by simp only; omega⟩
      · split
        · exact ⟨by simp only; omega, by simp only; omega, by simp only; omega, by simp only; omega, hzl, hzn, hz, by simp only; omega, by simp only; omega⟩
        · exact ⟨by simp only; omega, by simp only; omega, by simp only; omega, by simp only; omega, hzl, hzn, hz, by simp only; omega, by simp only; omega⟩
theorem ev_fit (s : List UInt8) : FitE (rdE (some s)).1 := rdRest_fit _ _ _ _ _ (f1_le _) (fI_le _) (rdN_le _) (fI_le _)
theorem ac_fit (s : List UInt8) : FitA (rdA (some s)).1 := rdA_fit _
end Go.Proofs.YtopabkkapbaibaaGreat.Msg
