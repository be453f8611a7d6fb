/- How much the arguments of a second form hold, taken apart. -/
import Derived.Test.YtemefcojmidmbaaRows
import Derived.Test.YtemefcojmidmbaaAddrBase
import Derived.ProofKit
import Derived.OpenShut
import Derived.SizedLaws
import Derived.Test.YtemefcojmidmbaaMsgChk
import Derived.Test.YtemefcojmidmbaaOrdEv
import Derived.Deep.Matrix
import Derived.Deep.Strs
import Derived.Deep.SlicePairs
import Derived.Deep.CondSized
set_option linter.unusedVariables false
namespace Go.Proofs.Ytemefcojmidmbaa.Addr
open Go.ChangeShapes Go.WideShapes Go.ChangeAt Go.RowKit
section
variable {H : Type} {enc : TypeId × Value → H} {W : World} {base : Nat} {spare : Nat → Bool} {held : Bool}
theorem wfi64 {n : Int} (h : Lit.wf (.int .i64 n)) : -9223372036854775808 ≤ n ∧ n ≤ 9223372036854775807 := by simpa [Lit.wf, IntKind.min, IntKind.max, IntKind.signed, IntKind.bits] using h
theorem wfu64 {n : Int} (h : Lit.wf (.int .u64 n)) : 0 ≤ n ∧ n ≤ 18446744073709551615 := by simpa [Lit.wf, IntKind.min, IntKind.max, IntKind.signed, IntKind.bits] using h
theorem num_of (h l : Int) (h1 : 0 ≤ h ∧ h ≤ 18446744073709551615) (h2 : 0 ≤ l ∧ l ≤ 18446744073709551615) : ∃ n : Nat, n < 2 ^ 128 ∧ h = (hiN n : Int) ∧ l = (loN n : Int) := by
  obtain ⟨a, rfl⟩ := Int.eq_ofNat_of_zero_le h1.1
  obtain ⟨b, rfl⟩ := Int.eq_ofNat_of_zero_le h2.1
  have := of_hilo a b (by omega)
  exact ⟨18446744073709551616 * a + b, by omega, by rw [this.1], by rw [this.2]⟩
set_option maxRecDepth 100000 in
theorem open_ad {x y : Value} {fuel : Nat} {d : DataW H × List MemPlace} (h : DataW.trod enc Try.prog W base spare held fuel 28 [x, y] = some d) : ∃ n : Nat, n < 2 ^ 128 ∧ x = .int .u64 (hiN n : Int) ∧ y = .int .u64 (loN n : Int) := by
  obtain ⟨xs, n, _, _, hlen, hxl, hfs⟩ := DataW.trod_struct Try.underlying28 h
  have g0 : DataW.trod enc Try.prog W base spare held n 26 ((([x, y] : List Value).drop 0).take (Try.prog.cellsOf 26)) = xs[0]? := hfs 0 _ rfl
  have g1 : DataW.trod enc Try.prog W base spare held n 26 ((([x, y] : List Value).drop 1).take (Try.prog.cellsOf 26)) = xs[1]? := hfs 1 _ rfl
  have hx2 : xs.length = 2 := hxl
  rw [List.getElem?_eq_getElem (by omega)] at g0 g1
  rw [show Try.prog.cellsOf 26 = 1 from by kernel_rfl] at g0 g1
  obtain ⟨a, e2, _, hw⟩ := DataW.trod_int Try.underlying26 g0
  obtain ⟨b, e3, _, hw2⟩ := DataW.trod_int Try.underlying26 g1
  obtain ⟨m, hm, r1, r2⟩ := num_of a b (wfu64 hw) (wfu64 hw2)
  have e2' : x = .int .u64 a := by injection e2
  have e3' : y = .int .u64 b := by injection e3
  exact ⟨m, hm, by rw [e2', r1], by rw [e3', r2]⟩
set_option maxRecDepth 100000 in
theorem open_addr {v : Value} {d : DataW H} {ps : List MemPlace} {r : Reach} {b0 : Nat} (hval : Value.okWide Try.prog W r b0 28 v) (h : DataW.Trod enc Try.prog W base spare held 28 v d ps) : ∃ n : Nat, v = adV n ∧ n < 2 ^ 128 := by
  obtain ⟨cs, rfl, hsz⟩ := okWide_struct Try.underlying28 hval
  obtain ⟨fuel, hf⟩ := h
  rw [show Try.prog.cellsOf 28 = 2 from by kernel_rfl] at hsz
  obtain ⟨x, y, rfl⟩ : ∃ x y, cs = #[x, y] := by
    obtain ⟨l⟩ := cs
    match l, hsz with
    | [x, y], _ => exact ⟨x, y, rfl⟩
  obtain ⟨n, hn, rfl, rfl⟩ := open_ad hf
  exact ⟨n, rfl, hn⟩
set_option maxRecDepth 100000 in
theorem open_prefix {v : Value} {d : DataW H} {ps : List MemPlace} {r : Reach} {b0 : Nat} (hval : Value.okWide Try.prog W r b0 30 v) (h : DataW.Trod enc Try.prog W base spare held 30 v d ps) : ∃ p : Pf, v = pfV p ∧ (-9223372036854775808 ≤ p.len ∧ p.len ≤ 9223372036854775807) ∧ p.n < 2 ^ 128 := by
  obtain ⟨cs, rfl, hsz⟩ := okWide_struct Try.underlying30 hval
  obtain ⟨fuel, hf⟩ := h
  obtain ⟨xs, n, _, _, hlen, hxl, hfs⟩ := DataW.trod_struct Try.underlying30 hf
  rw [show Try.prog.cellsOf 30 = 4 from by kernel_rfl] at hsz
  obtain ⟨s, c, f, o, rfl⟩ : ∃ s c f o, cs = #[s, c, f, o] := by
    obtain ⟨l⟩ := cs
    match l, hsz with
    | [s, c, f, o], _ => exact ⟨s, c, f, o, rfl⟩
  have g0 : DataW.trod enc Try.prog W base spare held n 4 ((([s, c, f, o] : List Value).drop 0).take (Try.prog.cellsOf 4)) = xs[0]? := hfs 0 _ rfl
  have g1 : DataW.trod enc Try.prog W base spare held n 28 ((([s, c, f, o] : List Value).drop 1).take (Try.prog.cellsOf 28)) = xs[1]? := hfs 1 _ rfl
  have g2 : DataW.trod enc Try.prog W base spare held n 3 ((([s, c, f, o] : List Value).drop 3).take (Try.prog.cellsOf 3)) = xs[2]? := hfs 2 _ rfl
  have hx3 : xs.length = 3 := hxl
  rw [List.getElem?_eq_getElem (by omega)] at g0 g1 g2
  rw [show Try.prog.cellsOf 4 = 1 from by kernel_rfl] at g0
  rw [show Try.prog.cellsOf 28 = 2 from by kernel_rfl] at g1
  rw [show Try.prog.cellsOf 3 = 1 from by kernel_rfl] at g2
  obtain ⟨ob, e3, _⟩ := DataW.trod_bool Try.underlying4 g0
  obtain ⟨m, hm, rfl, rfl⟩ := open_ad (x := c) (y := f) g1
  obtain ⟨fu, e2, _, hw⟩ := DataW.trod_int Try.underlying3 g2
  have e2' : o = .int .i64 fu := by injection e2
  have e3' : s = .bool ob := by injection e3
  subst e2' e3'
  exact ⟨⟨ob, m, fu⟩, rfl, wfi64 hw, hm⟩
end
end Go.Proofs.Ytemefcojmidmbaa.Addr
namespace Go.Proofs.Ytemefcojmidmbaa.Msg
open Go.ChangeShapes Go.WideShapes Go.ChangeAt Go.RowKit
open Go.Proofs.Ytemefcojmidmbaa.Addr (Pf okP checkP wideN firstN kP hiN loN wfi64 wfu64 open_ad)
section
variable {H : Type} {enc : TypeId × Value → H} {W : World} {base : Nat} {spare : Nat → Bool} {held : Bool}
theorem wfu8 {n : Int} (h : Lit.wf (.int .u8 n)) : 0 ≤ n ∧ n ≤ 255 := by simpa [Lit.wf, IntKind.min, IntKind.max, IntKind.signed, IntKind.bits] using h
set_option maxRecDepth 100000 in
theorem open_ac2 {x y : Value} {fuel : Nat} {d : DataW H × List MemPlace} (h : DataW.trod enc Try.prog W base spare held fuel 33 [x, y] = some d) : ∃ a : Ac, x = .int .u8 (a.k : Int) ∧ y = .int .i64 a.i ∧ FitA a := by
  obtain ⟨xs, n, _, _, hlen, hxl, hfs⟩ := DataW.trod_struct Try.underlying33 h
  have g0 : DataW.trod enc Try.prog W base spare held n 31 ((([x, y] : List Value).drop 0).take (Try.prog.cellsOf 31)) = xs[0]? := hfs 0 _ rfl
  have g1 : DataW.trod enc Try.prog W base spare held n 3 ((([x, y] : List Value).drop 1).take (Try.prog.cellsOf 3)) = xs[1]? := hfs 1 _ rfl
  have hx2 : xs.length = 2 := hxl
  rw [List.getElem?_eq_getElem (by omega)] at g0 g1
  rw [show Try.prog.cellsOf 31 = 1 from by kernel_rfl] at g0
  rw [show Try.prog.cellsOf 3 = 1 from by kernel_rfl] at g1
  obtain ⟨a, e2, _, hw⟩ := DataW.trod_int Try.underlying31 g0
  obtain ⟨b, e3, _, hw2⟩ := DataW.trod_int Try.underlying3 g1
  have e2' : x = .int .u8 a := by injection e2
  have e3' : y = .int .i64 b := by injection e3
  have q := wfu8 hw
  obtain ⟨k, rfl⟩ := Int.eq_ofNat_of_zero_le q.1
  exact ⟨⟨k, b⟩, e2', e3', q.2, wfi64 hw2⟩
set_option maxRecDepth 100000 in
theorem open_pf4 {s c f o : Value} {fuel : Nat} {d : DataW H × List MemPlace} (h : DataW.trod enc Try.prog W base spare held fuel 30 [s, c, f, o] = some d) : ∃ p : Pf, s = .bool p.six ∧ c = .int .u64 (hiN p.n : Int) ∧ f = .int .u64 (loN p.n : Int) ∧ o = .int .i64 p.len ∧ (-9223372036854775808 ≤ p.len ∧ p.len ≤ 9223372036854775807) ∧ p.n < 2 ^ 128 := by
  obtain ⟨xs, n, _, _, hlen, hxl, hfs⟩ := DataW.trod_struct Try.underlying30 h
  have g0 : DataW.trod enc Try.prog W base spare held n 4 ((([s, c, f, o] : List Value).drop 0).take (Try.prog.cellsOf 4)) = xs[0]? := hfs 0 _ rfl
  have g1 : DataW.trod enc Try.prog W base spare held n 28 ((([s, c, f, o] : List Value).drop 1).take (Try.prog.cellsOf 28)) = xs[1]? := hfs 1 _ rfl
  have g2 : DataW.trod enc Try.prog W base spare held n 3 ((([s, c, f, o] : List Value).drop 3).take (Try.prog.cellsOf 3)) = xs[2]? := hfs 2 _ rfl
  have hx3 : xs.length = 3 := hxl
  rw [List.getElem?_eq_getElem (by omega)] at g0 g1 g2
  rw [show Try.prog.cellsOf 4 = 1 from by kernel_rfl] at g0
  rw [show Try.prog.cellsOf 28 = 2 from by kernel_rfl] at g1
  rw [show Try.prog.cellsOf 3 = 1 from by kernel_rfl] at g2
  obtain ⟨ob, e3, _⟩ := DataW.trod_bool Try.underlying4 g0
  obtain ⟨m, hm, rfl, rfl⟩ := open_ad (x := c) (y := f) g1
  obtain ⟨fu, e2, _, hw⟩ := DataW.trod_int Try.underlying3 g2
  have e2' : o = .int .i64 fu := by injection e2
  have e3' : s = .bool ob := by injection e3
  exact ⟨⟨ob, m, fu⟩, e3', rfl, rfl, e2', wfi64 hw, hm⟩
set_option maxRecDepth 100000 in
theorem open_action {v : Value} {d : DataW H} {ps : List MemPlace} {r : Reach} {b0 : Nat} (hval : Value.okWide Try.prog W r b0 33 v) (h : DataW.Trod enc Try.prog W base spare held 33 v d ps) : ∃ a : Ac, v = acV a ∧ FitA a := by
  obtain ⟨cs, rfl, hsz⟩ := okWide_struct Try.underlying33 hval
  obtain ⟨fuel, hf⟩ := h
  rw [show Try.prog.cellsOf 33 = 2 from by kernel_rfl] at hsz
  obtain ⟨x, y, rfl⟩ : ∃ x y, cs = #[x, y] := by
    obtain ⟨l⟩ := cs
    match l, hsz with
    | [x, y], _ => exact ⟨x, y, rfl⟩
  obtain ⟨a, rfl, rfl, fa⟩ := open_ac2 hf
  exact ⟨a, rfl, fa⟩
set_option maxRecDepth 100000 in
theorem open_event {v : Value} {d : DataW H} {ps : List MemPlace} {r : Reach} {b0 : Nat} (hval : Value.okWide Try.prog W r b0 35 v) (h : DataW.Trod enc Try.prog W base spare held 35 v d ps) : ∃ e : Ev, v = evV e ∧ FitE e := by
  obtain ⟨cs, rfl, hsz⟩ := okWide_struct Try.underlying35 hval
  obtain ⟨fuel, hf⟩ := h
  obtain ⟨xs, n, _, _, hlen, hxl, hfs⟩ := DataW.trod_struct Try.underlying35 hf
  rw [show Try.prog.cellsOf 35 = 12 from by kernel_rfl] at hsz
  obtain ⟨c0, c1, c2, c3, c4, c5, c6, c7, c8, c9, c10, c11, rfl⟩ : ∃ c0 c1 c2 c3 c4 c5 c6 c7 c8 c9 c10 c11, cs = #[c0, c1, c2, c3, c4, c5, c6, c7, c8, c9, c10, c11] := by
    obtain ⟨l⟩ := cs
    match l, hsz with
    | [c0, c1, c2, c3, c4, c5, c6, c7, c8, c9, c10, c11], _ => exact ⟨c0, c1, c2, c3, c4, c5, c6, c7, c8, c9, c10, c11, rfl⟩
  have g0 : DataW.trod enc Try.prog W base spare held n 25 ((([c0, c1, c2, c3, c4, c5, c6, c7, c8, c9, c10, c11] : List Value).drop 0).take (Try.prog.cellsOf 25)) = xs[0]? := hfs 0 _ rfl
  have g1 : DataW.trod enc Try.prog W base spare held n 3 ((([c0, c1, c2, c3, c4, c5, c6, c7, c8, c9, c10, c11] : List Value).drop 1).take (Try.prog.cellsOf 3)) = xs[1]? := hfs 1 _ rfl
  have g2 : DataW.trod enc Try.prog W base spare held n 26 ((([c0, c1, c2, c3, c4, c5, c6, c7, c8, c9, c10, c11] : List Value).drop 2).take (Try.prog.cellsOf 26)) = xs[2]? := hfs 2 _ rfl
  have g3 : DataW.trod enc Try.prog W base spare held n 2 ((([c0, c1, c2, c3, c4, c5, c6, c7, c8, c9, c10, c11] : List Value).drop 3).take (Try.prog.cellsOf 2)) = xs[3]? := hfs 3 _ rfl
  have g4 : DataW.trod enc Try.prog W base spare held n 30 ((([c0, c1, c2, c3, c4, c5, c6, c7, c8, c9, c10, c11] : List Value).drop 4).take (Try.prog.cellsOf 30)) = xs[4]? := hfs 4 _ rfl
  have g5 : DataW.trod enc Try.prog W base spare held n 33 ((([c0, c1, c2, c3, c4, c5, c6, c7, c8, c9, c10, c11] : List Value).drop 8).take (Try.prog.cellsOf 33)) = xs[5]? := hfs 5 _ rfl
  have g6 : DataW.trod enc Try.prog W base spare held n 3 ((([c0, c1, c2, c3, c4, c5, c6, c7, c8, c9, c10, c11] : List Value).drop 10).take (Try.prog.cellsOf 3)) = xs[6]? := hfs 6 _ rfl
  have g7 : DataW.trod enc Try.prog W base spare held n 3 ((([c0, c1, c2, c3, c4, c5, c6, c7, c8, c9, c10, c11] : List Value).drop 11).take (Try.prog.cellsOf 3)) = xs[7]? := hfs 7 _ rfl
  have hx8 : xs.length = 8 := hxl
  rw [List.getElem?_eq_getElem (by omega)] at g0 g1 g2 g3 g4 g5 g6 g7
  rw [show Try.prog.cellsOf 25 = 1 from by kernel_rfl] at g0
  rw [show Try.prog.cellsOf 3 = 1 from by kernel_rfl] at g1 g6 g7
  rw [show Try.prog.cellsOf 26 = 1 from by kernel_rfl] at g2
  rw [show Try.prog.cellsOf 2 = 1 from by kernel_rfl] at g3
  rw [show Try.prog.cellsOf 30 = 4 from by kernel_rfl] at g4
  rw [show Try.prog.cellsOf 33 = 2 from by kernel_rfl] at g5
  obtain ⟨k, e0, _, w0⟩ := DataW.trod_int Try.underlying25 g0
  obtain ⟨r1, e1, _, w1⟩ := DataW.trod_int Try.underlying3 g1
  obtain ⟨s2, e2, _, w2⟩ := DataW.trod_int Try.underlying26 g2
  obtain ⟨t3, e3, _, w3⟩ := DataW.trod_int Try.underlying2 g3
  obtain ⟨p, r4, r5, r6, r7, b1, b2⟩ := open_pf4 (s := c4) (c := c5) (f := c6) (o := c7) g4
  obtain ⟨a, r8, r9, fa⟩ := open_ac2 (x := c8) (y := c9) g5
  obtain ⟨i6, e6, _, w6⟩ := DataW.trod_int Try.underlying3 g6
  obtain ⟨j7, e7, _, w7⟩ := DataW.trod_int Try.underlying3 g7
  have e0' : c0 = .int .u8 k := by injection e0
  have e1' : c1 = .int .i64 r1 := by injection e1
  have e2' : c2 = .int .u64 s2 := by injection e2
  have e3' : c3 = .int .i64 t3 := by injection e3
  have e6' : c10 = .int .i64 i6 := by injection e6
  have e7' : c11 = .int .i64 j7 := by injection e7
  have q := wfu8 w0
  have q2 := wfu64 w2
  obtain ⟨kk, rfl⟩ := Int.eq_ofNat_of_zero_le q.1
  obtain ⟨ss, rfl⟩ := Int.eq_ofNat_of_zero_le q2.1
  subst e0' e1' e2' e3' e6' e7' r4 r5 r6 r7 r8 r9
  exact ⟨⟨kk, r1, ss, t3, p, a, i6, j7⟩, rfl, ⟨q.2, wfi64 w1, q2.2, wfi64 w3, b1, b2, fa, wfi64 w6, wfi64 w7⟩⟩
end
end Go.Proofs.Ytemefcojmidmbaa.Msg
namespace Go.Proofs.Ytemefcojmidmbaa.Ord
open Go.ChangeShapes Go.WideShapes Go.ChangeAt Go.RowKit
open Go.Proofs.Ytemefcojmidmbaa.Msg (Ev evV evC FitE open_pf4 open_ac2 wfu8)
open Go.Proofs.Ytemefcojmidmbaa.Addr (wfi64 wfu64)
section
variable {H : Type} {enc : TypeId × Value → H} {W : World} {base : Nat} {spare : Nat → Bool} {held : Bool}
set_option maxRecDepth 100000 in
theorem open_ev12 {c0 c1 c2 c3 c4 c5 c6 c7 c8 c9 c10 c11 : Value} {fuel : Nat} {d : DataW H × List MemPlace} (hf : DataW.trod enc Try.prog W base spare held fuel 35 [c0, c1, c2, c3, c4, c5, c6, c7, c8, c9, c10, c11] = some d) : ∃ e : Ev, [c0, c1, c2, c3, c4, c5, c6, c7, c8, c9, c10, c11] = evC e ∧ FitE e := by
  obtain ⟨xs, n, _, _, hlen, hxl, hfs⟩ := DataW.trod_struct Try.underlying35 hf
  have g0 : DataW.trod enc Try.prog W base spare held n 25 ((([c0, c1, c2, c3, c4, c5, c6, c7, c8, c9, c10, c11] : List Value).drop 0).take (Try.prog.cellsOf 25)) = xs[0]? := hfs 0 _ rfl
  have g1 : DataW.trod enc Try.prog W base spare held n 3 ((([c0, c1, c2, c3, c4, c5, c6, c7, c8, c9, c10, c11] : List Value).drop 1).take (Try.prog.cellsOf 3)) = xs[1]? := hfs 1 _ rfl
  have g2 : DataW.trod enc Try.prog W base spare held n 26 ((([c0, c1, c2, c3, c4, c5, c6, c7, c8, c9, c10, c11] : List Value).drop 2).take (Try.prog.cellsOf 26)) = xs[2]? := hfs 2 _ rfl
  have g3 : DataW.trod enc Try.prog W base spare held n 2 ((([c0, c1, c2, c3, c4, c5, c6, c7, c8, c9, c10, c11] : List Value).drop 3).take (Try.prog.cellsOf 2)) = xs[3]? := hfs 3 _ rfl
  have g4 : DataW.trod enc Try.prog W base spare held n 30 ((([c0, c1, c2, c3, c4, c5, c6, c7, c8, c9, c10, c11] : List Value).drop 4).take (Try.prog.cellsOf 30)) = xs[4]? := hfs 4 _ rfl
  have g5 : DataW.trod enc Try.prog W base spare held n 33 ((([c0, c1, c2, c3, c4, c5, c6, c7, c8, c9, c10, c11] : List Value).drop 8).take (Try.prog.cellsOf 33)) = xs[5]? := hfs 5 _ rfl
  have g6 : DataW.trod enc Try.prog W base spare held n 3 ((([c0, c1, c2, c3, c4, c5, c6, c7, c8, c9, c10, c11] : List Value).drop 10).take (Try.prog.cellsOf 3)) = xs[6]? := hfs 6 _ rfl
  have g7 : DataW.trod enc Try.prog W base spare held n 3 ((([c0, c1, c2, c3, c4, c5, c6, c7, c8, c9, c10, c11] : List Value).drop 11).take (Try.prog.cellsOf 3)) = xs[7]? := hfs 7 _ rfl
  have hx8 : xs.length = 8 := hxl
  rw [List.getElem?_eq_getElem (by omega)] at g0 g1 g2 g3 g4 g5 g6 g7
  rw [show Try.prog.cellsOf 25 = 1 from by kernel_rfl] at g0
  rw [show Try.prog.cellsOf 3 = 1 from by kernel_rfl] at g1 g6 g7
  rw [show Try.prog.cellsOf 26 = 1 from by kernel_rfl] at g2
  rw [show Try.prog.cellsOf 2 = 1 from by kernel_rfl] at g3
  rw [show Try.prog.cellsOf 30 = 4 from by kernel_rfl] at g4
  rw [show Try.prog.cellsOf 33 = 2 from by kernel_rfl] at g5
  obtain ⟨k, e0, _, w0⟩ := DataW.trod_int Try.underlying25 g0
  obtain ⟨r1, e1, _, w1⟩ := DataW.trod_int Try.underlying3 g1
  obtain ⟨s2, e2, _, w2⟩ := DataW.trod_int Try.underlying26 g2
  obtain ⟨t3, e3, _, w3⟩ := DataW.trod_int Try.underlying2 g3
  obtain ⟨p, r4, r5, r6, r7, b1, b2⟩ := open_pf4 (s := c4) (c := c5) (f := c6) (o := c7) g4
  obtain ⟨a, r8, r9, fa⟩ := open_ac2 (x := c8) (y := c9) g5
  obtain ⟨i6, e6, _, w6⟩ := DataW.trod_int Try.underlying3 g6
  obtain ⟨j7, e7, _, w7⟩ := DataW.trod_int Try.underlying3 g7
  have e0' : c0 = .int .u8 k := by injection e0
  have e1' : c1 = .int .i64 r1 := by injection e1
  have e2' : c2 = .int .u64 s2 := by injection e2
  have e3' : c3 = .int .i64 t3 := by injection e3
  have e6' : c10 = .int .i64 i6 := by injection e6
  have e7' : c11 = .int .i64 j7 := by injection e7
  have q := wfu8 w0
  have q2 := wfu64 w2
  obtain ⟨kk, rfl⟩ := Int.eq_ofNat_of_zero_le q.1
  obtain ⟨ss, rfl⟩ := Int.eq_ofNat_of_zero_le q2.1
  subst e0' e1' e2' e3' e6' e7' r4 r5 r6 r7 r8 r9
  exact ⟨⟨kk, r1, ss, t3, p, a, i6, j7⟩, rfl, ⟨q.2, wfi64 w1, q2.2, wfi64 w3, b1, b2, fa, wfi64 w6, wfi64 w7⟩⟩
set_option maxRecDepth 100000 in
theorem open_st4 {v0 v1 v2 v3 : Value} {fuel : Nat} {d : DataW H × List MemPlace} (hf : DataW.trod enc Try.prog W base spare held fuel 60 [v0, v1, v2, v3] = some d) : ∃ s : St, [v0, v1, v2, v3] = stC s ∧ FitS s := by
  obtain ⟨xs, k, _, _, _, hxl, hfs⟩ := DataW.trod_struct Try.underlying60 hf
  have g0 : DataW.trod enc Try.prog W base spare held k 3 ((([v0, v1, v2, v3] : List Value).drop 0).take (Try.prog.cellsOf 3)) = xs[0]? := hfs 0 _ rfl
  have g1 : DataW.trod enc Try.prog W base spare held k 26 ((([v0, v1, v2, v3] : List Value).drop 1).take (Try.prog.cellsOf 26)) = xs[1]? := hfs 1 _ rfl
  have g2 : DataW.trod enc Try.prog W base spare held k 2 ((([v0, v1, v2, v3] : List Value).drop 2).take (Try.prog.cellsOf 2)) = xs[2]? := hfs 2 _ rfl
  have g3 : DataW.trod enc Try.prog W base spare held k 4 ((([v0, v1, v2, v3] : List Value).drop 3).take (Try.prog.cellsOf 4)) = xs[3]? := hfs 3 _ rfl
  have hx4 : xs.length = 4 := hxl
  rw [List.getElem?_eq_getElem (by omega)] at g0 g1 g2 g3
  rw [show Try.prog.cellsOf 3 = 1 from by kernel_rfl] at g0
  rw [show Try.prog.cellsOf 26 = 1 from by kernel_rfl] at g1
  rw [show Try.prog.cellsOf 2 = 1 from by kernel_rfl] at g2
  rw [show Try.prog.cellsOf 4 = 1 from by kernel_rfl] at g3
  obtain ⟨k0, e0, _, hw0⟩ := DataW.trod_int Try.underlying3 g0
  obtain ⟨k1, e1, _, hw1⟩ := DataW.trod_int Try.underlying26 g1
  obtain ⟨k2, e2, _, hw2⟩ := DataW.trod_int Try.underlying2 g2
  obtain ⟨k3, e3, _⟩ := DataW.trod_bool Try.underlying4 g3
  have f0 : v0 = .int .i64 k0 := by injection e0
  have f1 : v1 = .int .u64 k1 := by injection e1
  have f2 : v2 = .int .i64 k2 := by injection e2
  have f3 : v3 = .bool k3 := by injection e3
  have q := wfu64 hw1
  obtain ⟨kk, rfl⟩ := Int.eq_ofNat_of_zero_le q.1
  subst f0 f1 f2 f3
  exact ⟨⟨k0, kk, k2, k3⟩, rfl, ⟨wfi64 hw0, q.2, wfi64 hw2⟩⟩
theorem spot_of {W : World} {a : Addr} {v : Value} (h : W.cell? a = some v) : a.spot = none ∧ a.block < W.heap.size := by
  refine ⟨World.cell?_spot h, ?_⟩
  rcases Nat.lt_or_ge a.block W.heap.size with h' | h'
  · exact h'
  · simp [World.cell?, Array.getElem?_eq_none h'] at h
theorem row_of {a : Addr} {len cap sz : Nat} {cs : List Value} (hsz : 0 < sz) (hl : len ≤ cap) (hm : cap ≤ maxLen) (hlen : cs.length = len * sz) (h : ∀ j, j < len * sz → W.cell? (a.add j) = cs[j]?) : HasRow W (.slice (some a) len cap) sz len cs := by
  refine ⟨hlen, .inr ⟨a, cap, rfl, hl, by unfold maxLen at hm; exact hm, fun hn => ?_, h⟩⟩
  have h0 := h 0 (Nat.mul_pos hn hsz)
  rw [List.getElem?_eq_getElem (by rw [hlen]; exact Nat.mul_pos hn hsz)] at h0
  have := spot_of h0
  simpa [Addr.add] using this
/-- cells of a list of rows of m cells each -/
theorem flat_get {α : Type} (f : α → List Value) (m : Nat) (hm : 0 < m) (hf : ∀ x, (f x).length = m) : ∀ (l : List α) (j : Nat) (hj : j < l.length * m), (l.flatMap f)[j]? = (f (l[j / m]'(Nat.div_lt_of_lt_mul (by rw [Nat.mul_comm]; exact hj))))[j % m]? := by
  intro l
  induction l with
  | nil => intro j hj; simp at hj
  | cons x t ih =>
    intro j hj
    rw [List.flatMap_cons]
    by_cases h : j < m
    · rw [List.getElem?_append_left (by rw [hf]; exact h)]
      have e1 : j / m = 0 := Nat.div_eq_of_lt h
      have e2 : j % m = j := Nat.mod_eq_of_lt h
      simp only [e1, e2, List.getElem_cons_zero]
    · have h' : m ≤ j := by omega
      rw [List.getElem?_append_right (by rw [hf]; exact h'), hf]
      have hj2 : j - m < t.length * m := by rw [List.length_cons, Nat.add_mul, Nat.one_mul] at hj; omega
      rw [ih (j - m) hj2]
      have e1 : j / m = (j - m) / m + 1 := by rw [Nat.div_eq_sub_div hm h']
      have e2 : j % m = (j - m) % m := Nat.mod_eq_sub_mod h'
      simp only [e1, e2, List.getElem_cons_succ]
set_option maxRecDepth 100000 in
theorem open_seats {v : Value} {fuel : Nat} {x : DataW H × List MemPlace} (h : DataW.trod enc Try.prog W base spare held fuel 52 [v] = some x) : ∃ l : List St, HasSts W v l ∧ ∀ s ∈ l, FitS s := by
  rcases Go.Deep.open_slice Try.underlying52 h with ⟨hcs, _⟩ | ⟨a, l, c, m, n, D, Pl, hcs, _, hl, hm, hmm, _, hx⟩
  · injection hcs with e; subst e
    exact ⟨[], hasRow_nil _ _, by simp⟩
  · injection hcs with e; subst e
    have hlm : l ≤ m := by rw [hmm]; split <;> omega
    have hA : ∀ i, ∃ p : St, i < l → (∀ j, j < 4 → W.cell? (a.add (i * 4 + j)) = (stC p)[j]?) ∧ FitS p := fun i => by
      by_cases hi : i < l
      · obtain ⟨cs', h1, h2⟩ := hx i (by omega)
        rw [show Try.prog.cellsOf 60 = 4 from by kernel_rfl] at h1
        obtain ⟨_, hlen, hcell⟩ := World.cells?_some h1
        obtain ⟨v0, v1, v2, v3, rfl⟩ : ∃ v0 v1 v2 v3, cs' = [v0, v1, v2, v3] := by
          match cs', hlen with
          | [v0, v1, v2, v3], _ => exact ⟨v0, v1, v2, v3, rfl⟩
        obtain ⟨s, es, fs⟩ := open_st4 h2
        refine ⟨s, fun _ => ⟨fun j hj => ?_, fs⟩⟩
        rw [← es]
        have := hcell j hj
        rw [Go.Deep.add_add] at this
        rw [this]
      · exact ⟨zeroS, fun h => absurd h hi⟩
    obtain ⟨F, hF⟩ := Classical.axiomOfChoice hA
    refine ⟨(List.range l).map F, ?_, fun p hp => ?_⟩
    · unfold HasSts
      rw [List.length_map, List.length_range]
      refine row_of (by decide) hl hm (by rw [stCs_len]; simp) (fun j hj => ?_)
      have hj2 : j / 4 < l := by omega
      obtain ⟨hc, _⟩ := hF (j / 4) hj2
      show _ = (((List.range l).map F).flatMap stC)[j]?
      rw [flat_get stC 4 (by decide) (fun x => rfl) _ j (by simp; omega)]
      simp only [List.getElem_map, List.getElem_range]
      rw [← hc (j % 4) (by omega)]
      congr 2
      omega
    · obtain ⟨i, hi, rfl⟩ := List.mem_map.1 hp
      exact (hF i (List.mem_range.1 hi)).2
set_option maxRecDepth 100000 in
theorem open_events {v : Value} {fuel : Nat} {x : DataW H × List MemPlace} (h : DataW.trod enc Try.prog W base spare held fuel 22 [v] = some x) : ∃ l : List Ev, HasEvs W v l ∧ ∀ s ∈ l, FitE s := by
  rcases Go.Deep.open_slice Try.underlying22 h with ⟨hcs, _⟩ | ⟨a, l, c, m, n, D, Pl, hcs, _, hl, hm, hmm, _, hx⟩
  · injection hcs with e; subst e
    exact ⟨[], hasRow_nil _ _, by simp⟩
  · injection hcs with e; subst e
    have hlm : l ≤ m := by rw [hmm]; split <;> omega
    have hA : ∀ i, ∃ p : Ev, i < l → (∀ j, j < 12 → W.cell? (a.add (i * 12 + j)) = (evC p)[j]?) ∧ FitE p := fun i => by
      by_cases hi : i < l
      · obtain ⟨cs', h1, h2⟩ := hx i (by omega)
        rw [show Try.prog.cellsOf 35 = 12 from by kernel_rfl] at h1
        obtain ⟨_, hlen, hcell⟩ := World.cells?_some h1
        obtain ⟨v0, v1, v2, v3, v4, v5, v6, v7, v8, v9, v10, v11, rfl⟩ : ∃ v0 v1 v2 v3 v4 v5 v6 v7 v8 v9 v10 v11, cs' = [v0, v1, v2, v3, v4, v5, v6, v7, v8, v9, v10, v11] := by
          match cs', hlen with
          | [v0, v1, v2, v3, v4, v5, v6, v7, v8, v9, v10, v11], _ => exact ⟨v0, v1, v2, v3, v4, v5, v6, v7, v8, v9, v10, v11, rfl⟩
        obtain ⟨s, es, fs⟩ := open_ev12 h2
        refine ⟨s, fun _ => ⟨fun j hj => ?_, fs⟩⟩
        rw [← es]
        have := hcell j hj
        rw [Go.Deep.add_add] at this
        rw [this]
      · exact ⟨Msg.zeroE, fun h => absurd h hi⟩
    obtain ⟨F, hF⟩ := Classical.axiomOfChoice hA
    refine ⟨(List.range l).map F, ?_, fun p hp => ?_⟩
    · unfold HasEvs
      rw [List.length_map, List.length_range]
      refine row_of (by decide) hl hm (by rw [evCs_len]; simp) (fun j hj => ?_)
      have hj2 : j / 12 < l := by omega
      obtain ⟨hc, _⟩ := hF (j / 12) hj2
      show _ = (((List.range l).map F).flatMap evC)[j]?
      rw [flat_get evC 12 (by decide) (fun x => rfl) _ j (by simp; omega)]
      simp only [List.getElem_map, List.getElem_range]
      rw [← hc (j % 12) (by omega)]
      congr 2
      omega
    · obtain ⟨i, hi, rfl⟩ := List.mem_map.1 hp
      exact (hF i (List.mem_range.1 hi)).2
end
end Go.Proofs.Ytemefcojmidmbaa.Ord
namespace Go.Proofs.Ytemefcojmidmbaa
open Go.ChangeShapes Go.WideShapes Go.ChangeAt Go.RowKit

theorem bulk_pos {H : Type} (d : DataW H) : 1 ≤ Rows.uptoBulk d := by
  cases d with
  | lit l => cases l <;> simp [Rows.uptoBulk]
  | _ => simp [Rows.uptoBulk]
theorem bulk_many {H : Type} (l : List (DataW H)) : l.length ≤ Rows.uptoBulkAll l := by
  induction l with
  | nil => exact Nat.zero_le _
  | cons d r ih =>
    have h1 := bulk_pos d
    rw [Rows.uptoBulkAll, List.length_cons]
    omega
theorem bulk_at {H : Type} : ∀ (l : List (DataW H)) (j : Nat) (d : DataW H), l[j]? = some d → Rows.uptoBulk d ≤ Rows.uptoBulkAll l
  | [], j, d, h => by simp at h
  | x :: r, 0, d, h => by
    obtain rfl : x = d := by simpa using h
    rw [Rows.uptoBulkAll]; omega
  | x :: r, j + 1, d, h => by
    have := bulk_at r j d (by simpa using h)
    rw [Rows.uptoBulkAll]; omega
theorem bulk_row {H : Type} {l : List (DataW H)} (hk : Rows.uptoSmall H l = true) {j : Nat} {elems spare : List (DataW H)} (h : l[j]? = some (.slice elems spare)) : elems.length ≤ 1048576 := by
  have h1 := bulk_at l j _ h
  have h2 := bulk_many elems
  have h3 : Rows.uptoBulkAll l ≤ 1048576 := of_decide_eq_true hk
  simp only [Rows.uptoBulk] at h1
  omega
theorem bulk_text {H : Type} {l : List (DataW H)} (hk : Rows.uptoSmall H l = true) {j : Nat} {elems spare : List (DataW H)} (h : l[j]? = some (.slice elems spare)) {i : Nat} {s : List UInt8} (hi : elems[i]? = some (.lit (.string s))) : s.length ≤ 1048576 := by
  have h1 := bulk_at l j _ h
  have h2 := bulk_at elems i _ hi
  have h3 : Rows.uptoBulkAll l ≤ 1048576 := of_decide_eq_true hk
  simp only [Rows.uptoBulk] at h1 h2
  omega
theorem bulk_part {H : Type} {l : List (DataW H)} (hk : Rows.uptoSmall H l = true) {j : Nat} {parts : List (DataW H)} (h : l[j]? = some (.agg parts)) {i : Nat} {s : List UInt8} (hi : parts[i]? = some (.lit (.string s))) : s.length ≤ 1048576 := by
  have h1 := bulk_at l j _ h
  have h2 := bulk_at parts i _ hi
  have h3 : Rows.uptoBulkAll l ≤ 1048576 := of_decide_eq_true hk
  simp only [Rows.uptoBulk] at h1 h2
  omega
theorem bulk_str {H : Type} {l : List (DataW H)} (hk : Rows.uptoSmall H l = true) {j : Nat} {s : ByteArray} (h : l[j]? = some (.lit (.string s.data.toList))) : s.size ≤ 1048576 := by
  have h1 := bulk_at l j _ h
  have h3 : Rows.uptoBulkAll l ≤ 1048576 := of_decide_eq_true hk
  simp only [Rows.uptoBulk] at h1
  have h4 : s.data.toList.length = s.size := by simp
  omega
end Go.Proofs.Ytemefcojmidmbaa
