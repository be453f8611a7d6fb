/- Addresses and prefixes that came in as arguments. -/
import Derived.Test.YtiemlaehhmlhmaaRows
import Derived.Test.YtiemlaehhmlhmaaAddrBase
import Derived.ProofKit
import Derived.OpenShut
import Derived.SizedLaws
set_option linter.unusedVariables false
namespace Go.Proofs.Ytiemlaehhmlhmaa.Addr
open Go.ChangeShapes Go.WideShapes Go.ChangeAt Go.RowKit
section
variable {H : Type} {enc : TypeId × Value → H} {W : World} {base : Nat} {spare : Nat → Bool} {held : Bool}
theorem wfi64 {n : Int} (h : Lit.wf (.int .i64 n)) : -9223372036854775808 ≤ n ∧ n ≤ 9223372036854775807 := by simpa [Lit.wf, IntKind.min, IntKind.max, IntKind.signed, IntKind.bits] using h
theorem wfu64 {n : Int} (h : Lit.wf (.int .u64 n)) : 0 ≤ n ∧ n ≤ 18446744073709551615 := by simpa [Lit.wf, IntKind.min, IntKind.max, IntKind.signed, IntKind.bits] using h
theorem num_of (h l : Int) (h1 : 0 ≤ h ∧ h ≤ 18446744073709551615) (h2 : 0 ≤ l ∧ l ≤ 18446744073709551615) : ∃ n : Nat, n < 2 ^ 128 ∧ h = (hiN n : Int) ∧ l = (loN n : Int) := by
  obtain ⟨a, rfl⟩ := Int.eq_ofNat_of_zero_le h1.1
  obtain ⟨b, rfl⟩ := Int.eq_ofNat_of_zero_le h2.1
  have := of_hilo a b (by omega)
  exact ⟨18446744073709551616 * a + b, by omega, by rw [this.1], by rw [this.2]⟩
set_option maxRecDepth 100000 in
theorem open_ad {x y : Value} {fuel : Nat} {d : DataW H × List MemPlace} (h : DataW.trod enc Try.prog W base spare held fuel 25 [x, y] = some d) : ∃ n : Nat, n < 2 ^ 128 ∧ x = .int .u64 (hiN n : Int) ∧ y = .int .u64 (loN n : Int) := by
  obtain ⟨xs, n, _, _, hlen, hxl, hfs⟩ := DataW.trod_struct Try.underlying25 h
  have g0 : DataW.trod enc Try.prog W base spare held n 23 ((([x, y] : List Value).drop 0).take (Try.prog.cellsOf 23)) = xs[0]? := hfs 0 _ rfl
  have g1 : DataW.trod enc Try.prog W base spare held n 23 ((([x, y] : List Value).drop 1).take (Try.prog.cellsOf 23)) = xs[1]? := hfs 1 _ rfl
  have hx2 : xs.length = 2 := hxl
  rw [List.getElem?_eq_getElem (by omega)] at g0 g1
  rw [show Try.prog.cellsOf 23 = 1 from by kernel_rfl] at g0 g1
  obtain ⟨a, e2, _, hw⟩ := DataW.trod_int Try.underlying23 g0
  obtain ⟨b, e3, _, hw2⟩ := DataW.trod_int Try.underlying23 g1
  obtain ⟨m, hm, r1, r2⟩ := num_of a b (wfu64 hw) (wfu64 hw2)
  have e2' : x = .int .u64 a := by injection e2
  have e3' : y = .int .u64 b := by injection e3
  exact ⟨m, hm, by rw [e2', r1], by rw [e3', r2]⟩
set_option maxRecDepth 100000 in
theorem open_addr {v : Value} {d : DataW H} {ps : List MemPlace} {r : Reach} {b0 : Nat} (hval : Value.okWide Try.prog W r b0 25 v) (h : DataW.Trod enc Try.prog W base spare held 25 v d ps) : ∃ n : Nat, v = adV n ∧ n < 2 ^ 128 := by
  obtain ⟨cs, rfl, hsz⟩ := okWide_struct Try.underlying25 hval
  obtain ⟨fuel, hf⟩ := h
  rw [show Try.prog.cellsOf 25 = 2 from by kernel_rfl] at hsz
  obtain ⟨x, y, rfl⟩ : ∃ x y, cs = #[x, y] := by
    obtain ⟨l⟩ := cs
    match l, hsz with
    | [x, y], _ => exact ⟨x, y, rfl⟩
  obtain ⟨n, hn, rfl, rfl⟩ := open_ad hf
  exact ⟨n, rfl, hn⟩
set_option maxRecDepth 100000 in
theorem open_prefix {v : Value} {d : DataW H} {ps : List MemPlace} {r : Reach} {b0 : Nat} (hval : Value.okWide Try.prog W r b0 27 v) (h : DataW.Trod enc Try.prog W base spare held 27 v d ps) : ∃ p : Pf, v = pfV p ∧ (-9223372036854775808 ≤ p.len ∧ p.len ≤ 9223372036854775807) ∧ p.n < 2 ^ 128 := by
  obtain ⟨cs, rfl, hsz⟩ := okWide_struct Try.underlying27 hval
  obtain ⟨fuel, hf⟩ := h
  obtain ⟨xs, n, _, _, hlen, hxl, hfs⟩ := DataW.trod_struct Try.underlying27 hf
  rw [show Try.prog.cellsOf 27 = 4 from by kernel_rfl] at hsz
  obtain ⟨s, c, f, o, rfl⟩ : ∃ s c f o, cs = #[s, c, f, o] := by
    obtain ⟨l⟩ := cs
    match l, hsz with
    | [s, c, f, o], _ => exact ⟨s, c, f, o, rfl⟩
  have g0 : DataW.trod enc Try.prog W base spare held n 4 ((([s, c, f, o] : List Value).drop 0).take (Try.prog.cellsOf 4)) = xs[0]? := hfs 0 _ rfl
  have g1 : DataW.trod enc Try.prog W base spare held n 25 ((([s, c, f, o] : List Value).drop 1).take (Try.prog.cellsOf 25)) = xs[1]? := hfs 1 _ rfl
  have g2 : DataW.trod enc Try.prog W base spare held n 3 ((([s, c, f, o] : List Value).drop 3).take (Try.prog.cellsOf 3)) = xs[2]? := hfs 2 _ rfl
  have hx3 : xs.length = 3 := hxl
  rw [List.getElem?_eq_getElem (by omega)] at g0 g1 g2
  rw [show Try.prog.cellsOf 4 = 1 from by kernel_rfl] at g0
  rw [show Try.prog.cellsOf 25 = 2 from by kernel_rfl] at g1
  rw [show Try.prog.cellsOf 3 = 1 from by kernel_rfl] at g2
  obtain ⟨ob, e3, _⟩ := DataW.trod_bool Try.underlying4 g0
  obtain ⟨m, hm, rfl, rfl⟩ := open_ad (x := c) (y := f) g1
  obtain ⟨fu, e2, _, hw⟩ := DataW.trod_int Try.underlying3 g2
  have e2' : o = .int .i64 fu := by injection e2
  have e3' : s = .bool ob := by injection e3
  subst e2' e3'
  exact ⟨⟨ob, m, fu⟩, rfl, wfi64 hw, hm⟩
end
end Go.Proofs.Ytiemlaehhmlhmaa.Addr
