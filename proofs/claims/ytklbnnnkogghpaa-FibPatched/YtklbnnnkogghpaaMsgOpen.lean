/- Events and actions that came in as arguments. -/
import Derived.Test.YtklbnnnkogghpaaRows
import Derived.Test.YtklbnnnkogghpaaMsgChk
import Derived.Test.YtklbnnnkogghpaaAddrOpen
import Derived.ProofKit
import Derived.OpenShut
import Derived.SizedLaws
set_option linter.unusedVariables false
namespace Go.Proofs.Ytklbnnnkogghpaa.Msg
open Go.ChangeShapes Go.WideShapes Go.ChangeAt Go.RowKit
open Go.Proofs.Ytklbnnnkogghpaa.Addr (Pf okP checkP wideN firstN kP hiN loN wfi64 wfu64 open_ad)
section
variable {H : Type} {enc : TypeId × Value → H} {W : World} {base : Nat} {spare : Nat → Bool} {held : Bool}
theorem wfu8 {n : Int} (h : Lit.wf (.int .u8 n)) : 0 ≤ n ∧ n ≤ 255 := by simpa [Lit.wf, IntKind.min, IntKind.max, IntKind.signed, IntKind.bits] using h
set_option maxRecDepth 100000 in
theorem open_ac2 {x y : Value} {fuel : Nat} {d : DataW H × List MemPlace} (h : DataW.trod enc Try.prog W base spare held fuel 44 [x, y] = some d) : ∃ a : Ac, x = .int .u8 (a.k : Int) ∧ y = .int .i64 a.i ∧ FitA a := by
  obtain ⟨xs, n, _, _, hlen, hxl, hfs⟩ := DataW.trod_struct Try.underlying44 h
  have g0 : DataW.trod enc Try.prog W base spare held n 42 ((([x, y] : List Value).drop 0).take (Try.prog.cellsOf 42)) = xs[0]? := hfs 0 _ rfl
  have g1 : DataW.trod enc Try.prog W base spare held n 3 ((([x, y] : List Value).drop 1).take (Try.prog.cellsOf 3)) = xs[1]? := hfs 1 _ rfl
  have hx2 : xs.length = 2 := hxl
  rw [List.getElem?_eq_getElem (by omega)] at g0 g1
  rw [show Try.prog.cellsOf 42 = 1 from by kernel_rfl] at g0
  rw [show Try.prog.cellsOf 3 = 1 from by kernel_rfl] at g1
  obtain ⟨a, e2, _, hw⟩ := DataW.trod_int Try.underlying42 g0
  obtain ⟨b, e3, _, hw2⟩ := DataW.trod_int Try.underlying3 g1
  have e2' : x = .int .u8 a := by injection e2
  have e3' : y = .int .i64 b := by injection e3
  have q := wfu8 hw
  obtain ⟨k, rfl⟩ := Int.eq_ofNat_of_zero_le q.1
  exact ⟨⟨k, b⟩, e2', e3', q.2, wfi64 hw2⟩
set_option maxRecDepth 100000 in
theorem open_pf4 {s c f o : Value} {fuel : Nat} {d : DataW H × List MemPlace} (h : DataW.trod enc Try.prog W base spare held fuel 38 [s, c, f, o] = some d) : ∃ p : Pf, s = .bool p.six ∧ c = .int .u64 (hiN p.n : Int) ∧ f = .int .u64 (loN p.n : Int) ∧ o = .int .i64 p.len ∧ (-9223372036854775808 ≤ p.len ∧ p.len ≤ 9223372036854775807) ∧ p.n < 2 ^ 128 := by
  obtain ⟨xs, n, _, _, hlen, hxl, hfs⟩ := DataW.trod_struct Try.underlying38 h
  have g0 : DataW.trod enc Try.prog W base spare held n 4 ((([s, c, f, o] : List Value).drop 0).take (Try.prog.cellsOf 4)) = xs[0]? := hfs 0 _ rfl
  have g1 : DataW.trod enc Try.prog W base spare held n 36 ((([s, c, f, o] : List Value).drop 1).take (Try.prog.cellsOf 36)) = xs[1]? := hfs 1 _ rfl
  have g2 : DataW.trod enc Try.prog W base spare held n 3 ((([s, c, f, o] : List Value).drop 3).take (Try.prog.cellsOf 3)) = xs[2]? := hfs 2 _ rfl
  have hx3 : xs.length = 3 := hxl
  rw [List.getElem?_eq_getElem (by omega)] at g0 g1 g2
  rw [show Try.prog.cellsOf 4 = 1 from by kernel_rfl] at g0
  rw [show Try.prog.cellsOf 36 = 2 from by kernel_rfl] at g1
  rw [show Try.prog.cellsOf 3 = 1 from by kernel_rfl] at g2
  obtain ⟨ob, e3, _⟩ := DataW.trod_bool Try.underlying4 g0
  obtain ⟨m, hm, rfl, rfl⟩ := open_ad (x := c) (y := f) g1
  obtain ⟨fu, e2, _, hw⟩ := DataW.trod_int Try.underlying3 g2
  have e2' : o = .int .i64 fu := by injection e2
  have e3' : s = .bool ob := by injection e3
  exact ⟨⟨ob, m, fu⟩, e3', rfl, rfl, e2', wfi64 hw, hm⟩
set_option maxRecDepth 100000 in
theorem open_action {v : Value} {d : DataW H} {ps : List MemPlace} {r : Reach} {b0 : Nat} (hval : Value.okWide Try.prog W r b0 44 v) (h : DataW.Trod enc Try.prog W base spare held 44 v d ps) : ∃ a : Ac, v = acV a ∧ FitA a := by
  obtain ⟨cs, rfl, hsz⟩ := okWide_struct Try.underlying44 hval
  obtain ⟨fuel, hf⟩ := h
  rw [show Try.prog.cellsOf 44 = 2 from by kernel_rfl] at hsz
  obtain ⟨x, y, rfl⟩ : ∃ x y, cs = #[x, y] := by
    obtain ⟨l⟩ := cs
    match l, hsz with
    | [x, y], _ => exact ⟨x, y, rfl⟩
  obtain ⟨a, rfl, rfl, fa⟩ := open_ac2 hf
  exact ⟨a, rfl, fa⟩
set_option maxRecDepth 100000 in
theorem open_event {v : Value} {d : DataW H} {ps : List MemPlace} {r : Reach} {b0 : Nat} (hval : Value.okWide Try.prog W r b0 46 v) (h : DataW.Trod enc Try.prog W base spare held 46 v d ps) : ∃ e : Ev, v = evV e ∧ FitE e := by
  obtain ⟨cs, rfl, hsz⟩ := okWide_struct Try.underlying46 hval
  obtain ⟨fuel, hf⟩ := h
  obtain ⟨xs, n, _, _, hlen, hxl, hfs⟩ := DataW.trod_struct Try.underlying46 hf
  rw [show Try.prog.cellsOf 46 = 12 from by kernel_rfl] at hsz
  obtain ⟨c0, c1, c2, c3, c4, c5, c6, c7, c8, c9, c10, c11, rfl⟩ : ∃ c0 c1 c2 c3 c4 c5 c6 c7 c8 c9 c10 c11, cs = #[c0, c1, c2, c3, c4, c5, c6, c7, c8, c9, c10, c11] := by
    obtain ⟨l⟩ := cs
    match l, hsz with
    | [c0, c1, c2, c3, c4, c5, c6, c7, c8, c9, c10, c11], _ => exact ⟨c0, c1, c2, c3, c4, c5, c6, c7, c8, c9, c10, c11, rfl⟩
  have g0 : DataW.trod enc Try.prog W base spare held n 41 ((([c0, c1, c2, c3, c4, c5, c6, c7, c8, c9, c10, c11] : List Value).drop 0).take (Try.prog.cellsOf 41)) = xs[0]? := hfs 0 _ rfl
  have g1 : DataW.trod enc Try.prog W base spare held n 3 ((([c0, c1, c2, c3, c4, c5, c6, c7, c8, c9, c10, c11] : List Value).drop 1).take (Try.prog.cellsOf 3)) = xs[1]? := hfs 1 _ rfl
  have g2 : DataW.trod enc Try.prog W base spare held n 34 ((([c0, c1, c2, c3, c4, c5, c6, c7, c8, c9, c10, c11] : List Value).drop 2).take (Try.prog.cellsOf 34)) = xs[2]? := hfs 2 _ rfl
  have g3 : DataW.trod enc Try.prog W base spare held n 2 ((([c0, c1, c2, c3, c4, c5, c6, c7, c8, c9, c10, c11] : List Value).drop 3).take (Try.prog.cellsOf 2)) = xs[3]? := hfs 3 _ rfl
  have g4 : DataW.trod enc Try.prog W base spare held n 38 ((([c0, c1, c2, c3, c4, c5, c6, c7, c8, c9, c10, c11] : List Value).drop 4).take (Try.prog.cellsOf 38)) = xs[4]? := hfs 4 _ rfl
  have g5 : DataW.trod enc Try.prog W base spare held n 44 ((([c0, c1, c2, c3, c4, c5, c6, c7, c8, c9, c10, c11] : List Value).drop 8).take (Try.prog.cellsOf 44)) = xs[5]? := hfs 5 _ rfl
  have g6 : DataW.trod enc Try.prog W base spare held n 3 ((([c0, c1, c2, c3, c4, c5, c6, c7, c8, c9, c10, c11] : List Value).drop 10).take (Try.prog.cellsOf 3)) = xs[6]? := hfs 6 _ rfl
  have g7 : DataW.trod enc Try.prog W base spare held n 3 ((([c0, c1, c2, c3, c4, c5, c6, c7, c8, c9, c10, c11] : List Value).drop 11).take (Try.prog.cellsOf 3)) = xs[7]? := hfs 7 _ rfl
  have hx8 : xs.length = 8 := hxl
  rw [List.getElem?_eq_getElem (by omega)] at g0 g1 g2 g3 g4 g5 g6 g7
  rw [show Try.prog.cellsOf 41 = 1 from by kernel_rfl] at g0
  rw [show Try.prog.cellsOf 3 = 1 from by kernel_rfl] at g1 g6 g7
  rw [show Try.prog.cellsOf 34 = 1 from by kernel_rfl] at g2
  rw [show Try.prog.cellsOf 2 = 1 from by kernel_rfl] at g3
  rw [show Try.prog.cellsOf 38 = 4 from by kernel_rfl] at g4
  rw [show Try.prog.cellsOf 44 = 2 from by kernel_rfl] at g5
  obtain ⟨k, e0, _, w0⟩ := DataW.trod_int Try.underlying41 g0
  obtain ⟨r1, e1, _, w1⟩ := DataW.trod_int Try.underlying3 g1
  obtain ⟨s2, e2, _, w2⟩ := DataW.trod_int Try.underlying34 g2
  obtain ⟨t3, e3, _, w3⟩ := DataW.trod_int Try.underlying2 g3
  obtain ⟨p, r4, r5, r6, r7, b1, b2⟩ := open_pf4 (s := c4) (c := c5) (f := c6) (o := c7) g4
  obtain ⟨a, r8, r9, fa⟩ := open_ac2 (x := c8) (y := c9) g5
  obtain ⟨i6, e6, _, w6⟩ := DataW.trod_int Try.underlying3 g6
  obtain ⟨j7, e7, _, w7⟩ := DataW.trod_int Try.underlying3 g7
  have e0' : c0 = .int .u8 k := by injection e0
  have e1' : c1 = .int .i64 r1 := by injection e1
  have e2' : c2 = .int .u64 s2 := by injection e2
  have e3' : c3 = .int .i64 t3 := by injection e3
  have e6' : c10 = .int .i64 i6 := by injection e6
  have e7' : c11 = .int .i64 j7 := by injection e7
  have q := wfu8 w0
  have q2 := wfu64 w2
  obtain ⟨kk, rfl⟩ := Int.eq_ofNat_of_zero_le q.1
  obtain ⟨ss, rfl⟩ := Int.eq_ofNat_of_zero_le q2.1
  subst e0' e1' e2' e3' e6' e7' r4 r5 r6 r7 r8 r9
  exact ⟨⟨kk, r1, ss, t3, p, a, i6, j7⟩, rfl, ⟨q.2, wfi64 w1, q2.2, wfi64 w3, b1, b2, fa, wfi64 w6, wfi64 w7⟩⟩
end
end Go.Proofs.Ytklbnnnkogghpaa.Msg
