/- Addresses and prefixes that came in as arguments. -/
import Derived.Test.YtmkbijnndbgjgaaRows
import Derived.Test.YtmkbijnndbgjgaaAddrBase
import Derived.ProofKit
import Derived.OpenShut
import Derived.SizedLaws
set_option linter.unusedVariables false
namespace Go.Proofs.Ytmkbijnndbgjgaa.Addr
open Go.ChangeShapes Go.WideShapes Go.ChangeAt Go.RowKit
section
variable {H : Type} {enc : TypeId × Value → H} {W : World} {base : Nat} {spare : Nat → Bool} {held : Bool}
theorem wfi64 {n : Int} (h : Lit.wf (.int .i64 n)) : -9223372036854775808 ≤ n ∧ n ≤ 9223372036854775807 := by simpa [Lit.wf, IntKind.min, IntKind.max, IntKind.signed, IntKind.bits] using h
theorem wfu64 {n : Int} (h : Lit.wf (.int .u64 n)) : 0 ≤ n ∧ n ≤ 18446744073709551615 := by simpa [Lit.wf, IntKind.min, IntKind.max, IntKind.signed, IntKind.bits] using h
theorem num_of (h l : Int) (h1 : 0 ≤ h ∧ h ≤ 18446744073709551615) (h2 : 0 ≤ l ∧ l ≤ 18446744073709551615) : ∃ n : Nat, n < 2 ^ 128 ∧ h = (hiN n : Int) ∧ l = (loN n : Int) := by
  obtain ⟨a, rfl⟩ := Int.eq_ofNat_of_zero_le h1.1
  obtain ⟨b, rfl⟩ := Int.eq_ofNat_of_zero_le h2.1
  have := of_hilo a b (by omega)
  exact ⟨18446744073709551616 * a + b, by omega, by rw [this.1], by rw [this.2]⟩
set_option maxRecDepth 100000 in
theorem open_ad {x y : Value} {fuel : Nat} {d : DataW H × List MemPlace} (h : DataW.trod enc Try.prog W base spare held fuel 95 [x, y] = some d) : ∃ n : Nat, n < 2 ^ 128 ∧ x = .int .u64 (hiN n : Int) ∧ y = .int .u64 (loN n : Int) := by
  obtain ⟨xs, n, _, _, hlen, hxl, hfs⟩ := DataW.trod_struct Try.underlying95 h
  have g0 : DataW.trod enc Try.prog W base spare held n 93 ((([x, y] : List Value).drop 0).take (Try.prog.cellsOf 93)) = xs[0]? := hfs 0 _ rfl
  have g1 : DataW.trod enc Try.prog W base spare held n 93 ((([x, y] : List Value).drop 1).take (Try.prog.cellsOf 93)) = xs[1]? := hfs 1 _ rfl
  have hx2 : xs.length = 2 := hxl
  rw [List.getElem?_eq_getElem (by omega)] at g0 g1
  rw [show Try.prog.cellsOf 93 = 1 from by kernel_rfl] at g0 g1
  obtain ⟨a, e2, _, hw⟩ := DataW.trod_int Try.underlying93 g0
  obtain ⟨b, e3, _, hw2⟩ := DataW.trod_int Try.underlying93 g1
  obtain ⟨m, hm, r1, r2⟩ := num_of a b (wfu64 hw) (wfu64 hw2)
  have e2' : x = .int .u64 a := by injection e2
  have e3' : y = .int .u64 b := by injection e3
  exact ⟨m, hm, by rw [e2', r1], by rw [e3', r2]⟩
set_option maxRecDepth 100000 in
theorem open_addr {v : Value} {d : DataW H} {ps : List MemPlace} {r : Reach} {b0 : Nat} (hval : Value.okWide Try.prog W r b0 95 v) (h : DataW.Trod enc Try.prog W base spare held 95 v d ps) : ∃ n : Nat, v = adV n ∧ n < 2 ^ 128 := by
  obtain ⟨cs, rfl, hsz⟩ := okWide_struct Try.underlying95 hval
  obtain ⟨fuel, hf⟩ := h
  rw [show Try.prog.cellsOf 95 = 2 from by kernel_rfl] at hsz
  obtain ⟨x, y, rfl⟩ : ∃ x y, cs = #[x, y] := by
    obtain ⟨l⟩ := cs
    match l, hsz with
    | [x, y], _ => exact ⟨x, y, rfl⟩
  obtain ⟨n, hn, rfl, rfl⟩ := open_ad hf
  exact ⟨n, rfl, hn⟩
end
end Go.Proofs.Ytmkbijnndbgjgaa.Addr
