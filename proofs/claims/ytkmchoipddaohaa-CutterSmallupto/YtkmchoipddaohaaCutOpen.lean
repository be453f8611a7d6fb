/- Cutters that came in as arguments. -/
import Derived.Test.YtkmchoipddaohaaRows
import Derived.Test.YtkmchoipddaohaaCutCheck
import Derived.ProofKit
import Derived.OpenShut
import Derived.SizedLaws
set_option linter.unusedVariables false
namespace Go.Proofs.Ytkmchoipddaohaa.Cut
open Go.ChangeShapes Go.WideShapes Go.ChangeAt Go.RowKit
section
variable {H : Type} {enc : TypeId × Value → H} {W : World} {base : Nat} {spare : Nat → Bool} {held : Bool}
theorem wfi64 {n : Int} (h : Lit.wf (.int .i64 n)) : -9223372036854775808 ≤ n ∧ n ≤ 9223372036854775807 := by simpa [Lit.wf, IntKind.min, IntKind.max, IntKind.signed, IntKind.bits] using h
set_option maxRecDepth 100000 in
theorem open_cut {v : Value} {d : DataW H} {ps : List MemPlace} {r : Reach} {b0 : Nat} (hval : Value.okWide Try.prog W r b0 23 v) (h : DataW.Trod enc Try.prog W base spare held 23 v d ps) : ∃ c : Ct, v = ctV c ∧ (-9223372036854775808 ≤ c.skip ∧ c.skip ≤ 9223372036854775807) ∧ ∃ parts, d = .agg parts ∧ parts[0]? = some (.lit (.string c.rest)) := by
  obtain ⟨cs, rfl, hsz⟩ := okWide_struct Try.underlying23 hval
  obtain ⟨fuel, hf⟩ := h
  obtain ⟨xs, n, _, hd, hlen, hxl, hfs⟩ := DataW.trod_struct Try.underlying23 hf
  rw [show Try.prog.cellsOf 23 = 3 from by kernel_rfl] at hsz
  obtain ⟨s, c, f, rfl⟩ : ∃ s c f, cs = #[s, c, f] := by
    obtain ⟨l⟩ := cs
    match l, hsz with
    | [s, c, f], _ => exact ⟨s, c, f, rfl⟩
  have g0 : DataW.trod enc Try.prog W base spare held n 9 ((([s, c, f] : List Value).drop 0).take (Try.prog.cellsOf 9)) = xs[0]? := hfs 0 _ rfl
  have g1 : DataW.trod enc Try.prog W base spare held n 4 ((([s, c, f] : List Value).drop 1).take (Try.prog.cellsOf 4)) = xs[1]? := hfs 1 _ rfl
  have g2 : DataW.trod enc Try.prog W base spare held n 3 ((([s, c, f] : List Value).drop 2).take (Try.prog.cellsOf 3)) = xs[2]? := hfs 2 _ rfl
  have hx3 : xs.length = 3 := hxl
  have h0 : xs[0]? = some xs[0] := List.getElem?_eq_getElem (by omega)
  rw [List.getElem?_eq_getElem (by omega)] at g0 g1 g2
  rw [show Try.prog.cellsOf 9 = 1 from by kernel_rfl] at g0
  rw [show Try.prog.cellsOf 4 = 1 from by kernel_rfl] at g1
  rw [show Try.prog.cellsOf 3 = 1 from by kernel_rfl] at g2
  obtain ⟨B, e1, hx, _⟩ := DataW.trod_string Try.underlying9 g0
  obtain ⟨ob, e3, _⟩ := DataW.trod_bool Try.underlying4 g1
  obtain ⟨fu, e2, _, hw⟩ := DataW.trod_int Try.underlying3 g2
  have e1' : s = .string B := by injection e1
  have e2' : f = .int .i64 fu := by injection e2
  have e3' : c = .bool ob := by injection e3
  subst e1' e2' e3'
  obtain ⟨l, rfl, hl⟩ := str_list B
  refine ⟨⟨l, ob, fu⟩, rfl, wfi64 hw, xs.map (·.1), congrArg Prod.fst hd, ?_⟩
  rw [List.getElem?_map, h0, hx]
  simp
end
end Go.Proofs.Ytkmchoipddaohaa.Cut
