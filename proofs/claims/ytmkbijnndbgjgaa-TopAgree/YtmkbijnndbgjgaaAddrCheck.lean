/- What addr.Check, addr.Last, addr.Next and addr.Prev return. -/
import Derived.Test.YtmkbijnndbgjgaaAddrFirst
set_option linter.unusedVariables false
namespace Go.Proofs.Ytmkbijnndbgjgaa.Addr
open Go.RowKit

theorem ad_guard : Try.prog.eqGuardType Try.prog.depth 95 = false := by kernel_rfl
theorem ad_in (n m : Nat) (w : World) : (Op.equalIn 10000 95 (adV n) (adV m)).run Try.prog w = .ok (decide (n = m)) w := by
  have u9 := Try.underlying93
  have a9 := Try.isAgg93
  have z9 := Try.sizeOf93
  have hS : Try.prog.underlying 95 = some (.struct (Try.prog.fieldsOf 95)) := by kernel_rfl
  have hp : Try.prog.stoodInHeld 95 = false := by kernel_rfl
  unfold adV
  have HD : (decide (n = m)) = (decide (hiN n = hiN m) && decide (loN n = loN m)) := by
    by_cases h : n = m
    · subst h; simp
    · have : ¬ (hiN n = hiN m ∧ loN n = loN m) := fun hc => h (eq_hilo hc.1 hc.2)
      rw [decide_eq_false h, ← Bool.decide_and, decide_eq_false this]
  rw [HD]
  generalize hiN n = a
  generalize loN n = b
  generalize hiN m = c
  generalize loN m = d
  rw [show (10000 : Nat) = 9999 + 1 from rfl, run_equalIn_agg w 9999 95 _ _ hS hp]
  simp only [Program.fieldsOf, Try.underlying95]
  by_cases h1 : a = c
  · subst h1
    by_cases h2 : b = d
    · subst h2
      go_simp
    · have : ¬ ((b : Int) = (d : Int)) := by omega
      go_simp
  · have : ¬ ((a : Int) = (c : Int)) := by omega
    go_simp
theorem ad_eql (n m : Nat) (w : World) : (binOp .eql 95 (adV n) (adV m)).run Try.prog w = .ok (.bool (decide (n = m))) w := by
  have h := ad_in n m w
  unfold adV at *
  rw [run_eql_struct, h]
  rfl
theorem ad_neq (n m : Nat) (w : World) : (binOp .neq 95 (adV n) (adV m)).run Try.prog w = .ok (.bool (!decide (n = m))) w := by
  have h := ad_in n m w
  unfold adV at *
  rw [run_neq_struct, h]
  rfl
theorem style_arr (six : Bool) : ∃ (s1 s2 : Int) (s3 : ByteArray), (if six then #[.int .i64 128, .int .i64 16, .int .i64 16, .string ⟨#[58]⟩] else #[.int .i64 32, .int .i64 8, .int .i64 10, .string ⟨#[46]⟩] : Array Value) = #[.int .i64 (wideN six : Int), .int .i64 s1, .int .i64 s2, .string s3] := by
  cases six
  · exact ⟨_, _, _, rfl⟩
  · exact ⟨_, _, _, rfl⟩
theorem checkP_bad {p : Pf} (h : okP p = false) : checkP p = 2 := by unfold checkP; rw [h]; rfl
theorem checkP_ok {p : Pf} (h : okP p = true) : checkP p = 0 := by unfold checkP; rw [h]; rfl
theorem okP_len_bad {p : Pf} (h : ¬ (0 ≤ p.len ∧ p.len ≤ (wideN p.six : Int))) : okP p = false := by
  cases h2 : okP p
  · rfl
  · exact absurd (okP_iff.1 h2).1 h
theorem okP_right {p : Pf} (h : rightB p.six p.n = false) : okP p = false := by
  cases h2 : okP p
  · rfl
  · have := (okP_iff.1 h2).2.1
    unfold rightB at h
    rw [decide_eq_false_iff_not] at h
    exact absurd this h
theorem okP_first {p : Pf} (h1 : 0 ≤ p.len ∧ p.len ≤ (wideN p.six : Int)) (h2 : rightB p.six p.n = true) : okP p = decide (firstN (kP p) p.n = p.n) := by
  unfold okP
  rw [decide_eq_true h1, h2]
  exact decide_eq_decide.2 (first_eq _ _).symm
end Go.Proofs.Ytmkbijnndbgjgaa.Addr
