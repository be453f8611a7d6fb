/- For all routes, links, a prefix, a link and an address: spoortop.TopLeads returns true, and changes nothing that was there. No condition. -/
import Derived.Test.YteoihmoclndihabRows
import Derived.Test.YteoihmoclndihabAddrBase
import Derived.ProofKit
import Derived.OpenShut
import Derived.SizedLaws
import Derived.Test.YteoihmoclndihabMsgChk
import Derived.Test.YteoihmoclndihabLkBase
import Derived.Deep.Matrix
import Derived.Deep.Strs
import Derived.Deep.SlicePairs
import Derived.Test.YteoihmoclndihabTrBase
import Derived.Test.YteoihmoclndihabTrPutM
import Derived.Test.YteoihmoclndihabTrMath
import Derived.Test.YteoihmoclndihabMsgEq
import Derived.Test.YteoihmoclndihabTrLong
import Derived.Test.YteoihmoclndihabTrPut
import Derived.Test.YteoihmoclndihabLkTZ
import Derived.Test.YteoihmoclndihabBgnTZ
import Derived.Test.YteoihmoclndihabAddrHalves
import Derived.ShutString
set_option linter.unusedVariables false
namespace Go.Proofs.Yteoihmoclndihab.Addr
open Go.ChangeShapes Go.WideShapes Go.ChangeAt Go.RowKit
section
variable {H : Type} {enc : TypeId × Value → H} {W : World} {base : Nat} {spare : Nat → Bool} {held : Bool}
theorem wfi64 {n : Int} (h : Lit.wf (.int .i64 n)) : -9223372036854775808 ≤ n ∧ n ≤ 9223372036854775807 := by simpa [Lit.wf, IntKind.min, IntKind.max, IntKind.signed, IntKind.bits] using h
theorem wfu64 {n : Int} (h : Lit.wf (.int .u64 n)) : 0 ≤ n ∧ n ≤ 18446744073709551615 := by simpa [Lit.wf, IntKind.min, IntKind.max, IntKind.signed, IntKind.bits] using h
theorem num_of (h l : Int) (h1 : 0 ≤ h ∧ h ≤ 18446744073709551615) (h2 : 0 ≤ l ∧ l ≤ 18446744073709551615) : ∃ n : Nat, n < 2 ^ 128 ∧ h = (hiN n : Int) ∧ l = (loN n : Int) := by
  obtain ⟨a, rfl⟩ := Int.eq_ofNat_of_zero_le h1.1
  obtain ⟨b, rfl⟩ := Int.eq_ofNat_of_zero_le h2.1
  have := of_hilo a b (by omega)
  exact ⟨18446744073709551616 * a + b, by omega, by rw [this.1], by rw [this.2]⟩
set_option maxRecDepth 100000 in
theorem open_ad {x y : Value} {fuel : Nat} {d : DataW H × List MemPlace} (h : DataW.trod enc Try.prog W base spare held fuel 26 [x, y] = some d) : ∃ n : Nat, n < 2 ^ 128 ∧ x = .int .u64 (hiN n : Int) ∧ y = .int .u64 (loN n : Int) := by
  obtain ⟨xs, n, _, _, hlen, hxl, hfs⟩ := DataW.trod_struct Try.underlying26 h
  have g0 : DataW.trod enc Try.prog W base spare held n 24 ((([x, y] : List Value).drop 0).take (Try.prog.cellsOf 24)) = xs[0]? := hfs 0 _ rfl
  have g1 : DataW.trod enc Try.prog W base spare held n 24 ((([x, y] : List Value).drop 1).take (Try.prog.cellsOf 24)) = xs[1]? := hfs 1 _ rfl
  have hx2 : xs.length = 2 := hxl
  rw [List.getElem?_eq_getElem (by omega)] at g0 g1
  rw [show Try.prog.cellsOf 24 = 1 from by kernel_rfl] at g0 g1
  obtain ⟨a, e2, _, hw⟩ := DataW.trod_int Try.underlying24 g0
  obtain ⟨b, e3, _, hw2⟩ := DataW.trod_int Try.underlying24 g1
  obtain ⟨m, hm, r1, r2⟩ := num_of a b (wfu64 hw) (wfu64 hw2)
  have e2' : x = .int .u64 a := by injection e2
  have e3' : y = .int .u64 b := by injection e3
  exact ⟨m, hm, by rw [e2', r1], by rw [e3', r2]⟩
set_option maxRecDepth 100000 in
theorem open_addr {v : Value} {d : DataW H} {ps : List MemPlace} {r : Reach} {b0 : Nat} (hval : Value.okWide Try.prog W r b0 26 v) (h : DataW.Trod enc Try.prog W base spare held 26 v d ps) : ∃ n : Nat, v = adV n ∧ n < 2 ^ 128 := by
  obtain ⟨cs, rfl, hsz⟩ := okWide_struct Try.underlying26 hval
  obtain ⟨fuel, hf⟩ := h
  rw [show Try.prog.cellsOf 26 = 2 from by kernel_rfl] at hsz
  obtain ⟨x, y, rfl⟩ : ∃ x y, cs = #[x, y] := by
    obtain ⟨l⟩ := cs
    match l, hsz with
    | [x, y], _ => exact ⟨x, y, rfl⟩
  obtain ⟨n, hn, rfl, rfl⟩ := open_ad hf
  exact ⟨n, rfl, hn⟩
set_option maxRecDepth 100000 in
theorem open_prefix {v : Value} {d : DataW H} {ps : List MemPlace} {r : Reach} {b0 : Nat} (hval : Value.okWide Try.prog W r b0 28 v) (h : DataW.Trod enc Try.prog W base spare held 28 v d ps) : ∃ p : Pf, v = pfV p ∧ (-9223372036854775808 ≤ p.len ∧ p.len ≤ 9223372036854775807) ∧ p.n < 2 ^ 128 := by
  obtain ⟨cs, rfl, hsz⟩ := okWide_struct Try.underlying28 hval
  obtain ⟨fuel, hf⟩ := h
  obtain ⟨xs, n, _, _, hlen, hxl, hfs⟩ := DataW.trod_struct Try.underlying28 hf
  rw [show Try.prog.cellsOf 28 = 4 from by kernel_rfl] at hsz
  obtain ⟨s, c, f, o, rfl⟩ : ∃ s c f o, cs = #[s, c, f, o] := by
    obtain ⟨l⟩ := cs
    match l, hsz with
    | [s, c, f, o], _ => exact ⟨s, c, f, o, rfl⟩
  have g0 : DataW.trod enc Try.prog W base spare held n 4 ((([s, c, f, o] : List Value).drop 0).take (Try.prog.cellsOf 4)) = xs[0]? := hfs 0 _ rfl
  have g1 : DataW.trod enc Try.prog W base spare held n 26 ((([s, c, f, o] : List Value).drop 1).take (Try.prog.cellsOf 26)) = xs[1]? := hfs 1 _ rfl
  have g2 : DataW.trod enc Try.prog W base spare held n 3 ((([s, c, f, o] : List Value).drop 3).take (Try.prog.cellsOf 3)) = xs[2]? := hfs 2 _ rfl
  have hx3 : xs.length = 3 := hxl
  rw [List.getElem?_eq_getElem (by omega)] at g0 g1 g2
  rw [show Try.prog.cellsOf 4 = 1 from by kernel_rfl] at g0
  rw [show Try.prog.cellsOf 26 = 2 from by kernel_rfl] at g1
  rw [show Try.prog.cellsOf 3 = 1 from by kernel_rfl] at g2
  obtain ⟨ob, e3, _⟩ := DataW.trod_bool Try.underlying4 g0
  obtain ⟨m, hm, rfl, rfl⟩ := open_ad (x := c) (y := f) g1
  obtain ⟨fu, e2, _, hw⟩ := DataW.trod_int Try.underlying3 g2
  have e2' : o = .int .i64 fu := by injection e2
  have e3' : s = .bool ob := by injection e3
  subst e2' e3'
  exact ⟨⟨ob, m, fu⟩, rfl, wfi64 hw, hm⟩
end
end Go.Proofs.Yteoihmoclndihab.Addr
namespace Go.Proofs.Yteoihmoclndihab.Msg
open Go.ChangeShapes Go.WideShapes Go.ChangeAt Go.RowKit
open Go.Proofs.Yteoihmoclndihab.Addr (Pf okP checkP wideN firstN kP hiN loN wfi64 wfu64 open_ad)
section
variable {H : Type} {enc : TypeId × Value → H} {W : World} {base : Nat} {spare : Nat → Bool} {held : Bool}
theorem wfu8 {n : Int} (h : Lit.wf (.int .u8 n)) : 0 ≤ n ∧ n ≤ 255 := by simpa [Lit.wf, IntKind.min, IntKind.max, IntKind.signed, IntKind.bits] using h
set_option maxRecDepth 100000 in
theorem open_ac2 {x y : Value} {fuel : Nat} {d : DataW H × List MemPlace} (h : DataW.trod enc Try.prog W base spare held fuel 37 [x, y] = some d) : ∃ a : Ac, x = .int .u8 (a.k : Int) ∧ y = .int .i64 a.i ∧ FitA a := by
  obtain ⟨xs, n, _, _, hlen, hxl, hfs⟩ := DataW.trod_struct Try.underlying37 h
  have g0 : DataW.trod enc Try.prog W base spare held n 35 ((([x, y] : List Value).drop 0).take (Try.prog.cellsOf 35)) = xs[0]? := hfs 0 _ rfl
  have g1 : DataW.trod enc Try.prog W base spare held n 3 ((([x, y] : List Value).drop 1).take (Try.prog.cellsOf 3)) = xs[1]? := hfs 1 _ rfl
  have hx2 : xs.length = 2 := hxl
  rw [List.getElem?_eq_getElem (by omega)] at g0 g1
  rw [show Try.prog.cellsOf 35 = 1 from by kernel_rfl] at g0
  rw [show Try.prog.cellsOf 3 = 1 from by kernel_rfl] at g1
  obtain ⟨a, e2, _, hw⟩ := DataW.trod_int Try.underlying35 g0
  obtain ⟨b, e3, _, hw2⟩ := DataW.trod_int Try.underlying3 g1
  have e2' : x = .int .u8 a := by injection e2
  have e3' : y = .int .i64 b := by injection e3
  have q := wfu8 hw
  obtain ⟨k, rfl⟩ := Int.eq_ofNat_of_zero_le q.1
  exact ⟨⟨k, b⟩, e2', e3', q.2, wfi64 hw2⟩
set_option maxRecDepth 100000 in
theorem open_pf4 {s c f o : Value} {fuel : Nat} {d : DataW H × List MemPlace} (h : DataW.trod enc Try.prog W base spare held fuel 28 [s, c, f, o] = some d) : ∃ p : Pf, s = .bool p.six ∧ c = .int .u64 (hiN p.n : Int) ∧ f = .int .u64 (loN p.n : Int) ∧ o = .int .i64 p.len ∧ (-9223372036854775808 ≤ p.len ∧ p.len ≤ 9223372036854775807) ∧ p.n < 2 ^ 128 := by
  obtain ⟨xs, n, _, _, hlen, hxl, hfs⟩ := DataW.trod_struct Try.underlying28 h
  have g0 : DataW.trod enc Try.prog W base spare held n 4 ((([s, c, f, o] : List Value).drop 0).take (Try.prog.cellsOf 4)) = xs[0]? := hfs 0 _ rfl
  have g1 : DataW.trod enc Try.prog W base spare held n 26 ((([s, c, f, o] : List Value).drop 1).take (Try.prog.cellsOf 26)) = xs[1]? := hfs 1 _ rfl
  have g2 : DataW.trod enc Try.prog W base spare held n 3 ((([s, c, f, o] : List Value).drop 3).take (Try.prog.cellsOf 3)) = xs[2]? := hfs 2 _ rfl
  have hx3 : xs.length = 3 := hxl
  rw [List.getElem?_eq_getElem (by omega)] at g0 g1 g2
  rw [show Try.prog.cellsOf 4 = 1 from by kernel_rfl] at g0
  rw [show Try.prog.cellsOf 26 = 2 from by kernel_rfl] at g1
  rw [show Try.prog.cellsOf 3 = 1 from by kernel_rfl] at g2
  obtain ⟨ob, e3, _⟩ := DataW.trod_bool Try.underlying4 g0
  obtain ⟨m, hm, rfl, rfl⟩ := open_ad (x := c) (y := f) g1
  obtain ⟨fu, e2, _, hw⟩ := DataW.trod_int Try.underlying3 g2
  have e2' : o = .int .i64 fu := by injection e2
  have e3' : s = .bool ob := by injection e3
  exact ⟨⟨ob, m, fu⟩, e3', rfl, rfl, e2', wfi64 hw, hm⟩
set_option maxRecDepth 100000 in
theorem open_action {v : Value} {d : DataW H} {ps : List MemPlace} {r : Reach} {b0 : Nat} (hval : Value.okWide Try.prog W r b0 37 v) (h : DataW.Trod enc Try.prog W base spare held 37 v d ps) : ∃ a : Ac, v = acV a ∧ FitA a := by
  obtain ⟨cs, rfl, hsz⟩ := okWide_struct Try.underlying37 hval
  obtain ⟨fuel, hf⟩ := h
  rw [show Try.prog.cellsOf 37 = 2 from by kernel_rfl] at hsz
  obtain ⟨x, y, rfl⟩ : ∃ x y, cs = #[x, y] := by
    obtain ⟨l⟩ := cs
    match l, hsz with
    | [x, y], _ => exact ⟨x, y, rfl⟩
  obtain ⟨a, rfl, rfl, fa⟩ := open_ac2 hf
  exact ⟨a, rfl, fa⟩
set_option maxRecDepth 100000 in
theorem open_event {v : Value} {d : DataW H} {ps : List MemPlace} {r : Reach} {b0 : Nat} (hval : Value.okWide Try.prog W r b0 84 v) (h : DataW.Trod enc Try.prog W base spare held 84 v d ps) : ∃ e : Ev, v = evV e ∧ FitE e := by
  obtain ⟨cs, rfl, hsz⟩ := okWide_struct Try.underlying84 hval
  obtain ⟨fuel, hf⟩ := h
  obtain ⟨xs, n, _, _, hlen, hxl, hfs⟩ := DataW.trod_struct Try.underlying84 hf
  rw [show Try.prog.cellsOf 84 = 12 from by kernel_rfl] at hsz
  obtain ⟨c0, c1, c2, c3, c4, c5, c6, c7, c8, c9, c10, c11, rfl⟩ : ∃ c0 c1 c2 c3 c4 c5 c6 c7 c8 c9 c10 c11, cs = #[c0, c1, c2, c3, c4, c5, c6, c7, c8, c9, c10, c11] := by
    obtain ⟨l⟩ := cs
    match l, hsz with
    | [c0, c1, c2, c3, c4, c5, c6, c7, c8, c9, c10, c11], _ => exact ⟨c0, c1, c2, c3, c4, c5, c6, c7, c8, c9, c10, c11, rfl⟩
  have g0 : DataW.trod enc Try.prog W base spare held n 82 ((([c0, c1, c2, c3, c4, c5, c6, c7, c8, c9, c10, c11] : List Value).drop 0).take (Try.prog.cellsOf 82)) = xs[0]? := hfs 0 _ rfl
  have g1 : DataW.trod enc Try.prog W base spare held n 3 ((([c0, c1, c2, c3, c4, c5, c6, c7, c8, c9, c10, c11] : List Value).drop 1).take (Try.prog.cellsOf 3)) = xs[1]? := hfs 1 _ rfl
  have g2 : DataW.trod enc Try.prog W base spare held n 24 ((([c0, c1, c2, c3, c4, c5, c6, c7, c8, c9, c10, c11] : List Value).drop 2).take (Try.prog.cellsOf 24)) = xs[2]? := hfs 2 _ rfl
  have g3 : DataW.trod enc Try.prog W base spare held n 2 ((([c0, c1, c2, c3, c4, c5, c6, c7, c8, c9, c10, c11] : List Value).drop 3).take (Try.prog.cellsOf 2)) = xs[3]? := hfs 3 _ rfl
  have g4 : DataW.trod enc Try.prog W base spare held n 28 ((([c0, c1, c2, c3, c4, c5, c6, c7, c8, c9, c10, c11] : List Value).drop 4).take (Try.prog.cellsOf 28)) = xs[4]? := hfs 4 _ rfl
  have g5 : DataW.trod enc Try.prog W base spare held n 37 ((([c0, c1, c2, c3, c4, c5, c6, c7, c8, c9, c10, c11] : List Value).drop 8).take (Try.prog.cellsOf 37)) = xs[5]? := hfs 5 _ rfl
  have g6 : DataW.trod enc Try.prog W base spare held n 3 ((([c0, c1, c2, c3, c4, c5, c6, c7, c8, c9, c10, c11] : List Value).drop 10).take (Try.prog.cellsOf 3)) = xs[6]? := hfs 6 _ rfl
  have g7 : DataW.trod enc Try.prog W base spare held n 3 ((([c0, c1, c2, c3, c4, c5, c6, c7, c8, c9, c10, c11] : List Value).drop 11).take (Try.prog.cellsOf 3)) = xs[7]? := hfs 7 _ rfl
  have hx8 : xs.length = 8 := hxl
  rw [List.getElem?_eq_getElem (by omega)] at g0 g1 g2 g3 g4 g5 g6 g7
  rw [show Try.prog.cellsOf 82 = 1 from by kernel_rfl] at g0
  rw [show Try.prog.cellsOf 3 = 1 from by kernel_rfl] at g1 g6 g7
  rw [show Try.prog.cellsOf 24 = 1 from by kernel_rfl] at g2
  rw [show Try.prog.cellsOf 2 = 1 from by kernel_rfl] at g3
  rw [show Try.prog.cellsOf 28 = 4 from by kernel_rfl] at g4
  rw [show Try.prog.cellsOf 37 = 2 from by kernel_rfl] at g5
  obtain ⟨k, e0, _, w0⟩ := DataW.trod_int Try.underlying82 g0
  obtain ⟨r1, e1, _, w1⟩ := DataW.trod_int Try.underlying3 g1
  obtain ⟨s2, e2, _, w2⟩ := DataW.trod_int Try.underlying24 g2
  obtain ⟨t3, e3, _, w3⟩ := DataW.trod_int Try.underlying2 g3
  obtain ⟨p, r4, r5, r6, r7, b1, b2⟩ := open_pf4 (s := c4) (c := c5) (f := c6) (o := c7) g4
  obtain ⟨a, r8, r9, fa⟩ := open_ac2 (x := c8) (y := c9) g5
  obtain ⟨i6, e6, _, w6⟩ := DataW.trod_int Try.underlying3 g6
  obtain ⟨j7, e7, _, w7⟩ := DataW.trod_int Try.underlying3 g7
  have e0' : c0 = .int .u8 k := by injection e0
  have e1' : c1 = .int .i64 r1 := by injection e1
  have e2' : c2 = .int .u64 s2 := by injection e2
  have e3' : c3 = .int .i64 t3 := by injection e3
  have e6' : c10 = .int .i64 i6 := by injection e6
  have e7' : c11 = .int .i64 j7 := by injection e7
  have q := wfu8 w0
  have q2 := wfu64 w2
  obtain ⟨kk, rfl⟩ := Int.eq_ofNat_of_zero_le q.1
  obtain ⟨ss, rfl⟩ := Int.eq_ofNat_of_zero_le q2.1
  subst e0' e1' e2' e3' e6' e7' r4 r5 r6 r7 r8 r9
  exact ⟨⟨kk, r1, ss, t3, p, a, i6, j7⟩, rfl, ⟨q.2, wfi64 w1, q2.2, wfi64 w3, b1, b2, fa, wfi64 w6, wfi64 w7⟩⟩
end
end Go.Proofs.Yteoihmoclndihab.Msg
namespace Go.Proofs.Yteoihmoclndihab.Lk
open Go.ChangeShapes Go.WideShapes Go.ChangeAt Go.RowKit
section
variable {H : Type} {enc : TypeId × Value → H} {W : World} {base : Nat} {spare : Nat → Bool} {held : Bool}
theorem wfi {n : Int} (h : Lit.wf (.int .i64 n)) : -9223372036854775808 ≤ n ∧ n ≤ 9223372036854775807 := by simpa [Lit.wf, IntKind.min, IntKind.max, IntKind.signed, IntKind.bits] using h
set_option maxRecDepth 100000 in
theorem open_lk2 {x y : Value} {fuel : Nat} {d : DataW H × List MemPlace} (h : DataW.trod enc Try.prog W base spare held fuel 30 [x, y] = some d) : ∃ a : Lk, [x, y] = lkC a ∧ FitL a := by
  obtain ⟨xs, n, _, _, hlen, hxl, hfs⟩ := DataW.trod_struct Try.underlying30 h
  have g0 : DataW.trod enc Try.prog W base spare held n 3 ((([x, y] : List Value).drop 0).take (Try.prog.cellsOf 3)) = xs[0]? := hfs 0 _ rfl
  have g1 : DataW.trod enc Try.prog W base spare held n 3 ((([x, y] : List Value).drop 1).take (Try.prog.cellsOf 3)) = xs[1]? := hfs 1 _ rfl
  have hx2 : xs.length = 2 := hxl
  rw [List.getElem?_eq_getElem (by omega)] at g0 g1
  rw [show Try.prog.cellsOf 3 = 1 from by kernel_rfl] at g0 g1
  obtain ⟨a, e2, _, hw⟩ := DataW.trod_int Try.underlying3 g0
  obtain ⟨b, e3, _, hw2⟩ := DataW.trod_int Try.underlying3 g1
  have e2' : x = .int .i64 a := by injection e2
  have e3' : y = .int .i64 b := by injection e3
  subst e2' e3'
  exact ⟨⟨a, b⟩, rfl, wfi hw, wfi hw2⟩
set_option maxRecDepth 100000 in
theorem open_link {v : Value} {d : DataW H} {ps : List MemPlace} {r : Reach} {b0 : Nat} (hval : Value.okWide Try.prog W r b0 30 v) (h : DataW.Trod enc Try.prog W base spare held 30 v d ps) : ∃ a : Lk, v = lkV a ∧ FitL a := by
  obtain ⟨cs, rfl, hsz⟩ := okWide_struct Try.underlying30 hval
  obtain ⟨fuel, hf⟩ := h
  rw [show Try.prog.cellsOf 30 = 2 from by kernel_rfl] at hsz
  obtain ⟨x, y, rfl⟩ : ∃ x y, cs = #[x, y] := by
    obtain ⟨l⟩ := cs
    match l, hsz with
    | [x, y], _ => exact ⟨x, y, rfl⟩
  obtain ⟨a, e, fa⟩ := open_lk2 hf
  exact ⟨a, by unfold lkV; rw [← e], fa⟩
theorem spot_of {W : World} {a : Addr} {v : Value} (h : W.cell? a = some v) : a.spot = none ∧ a.block < W.heap.size := by
  refine ⟨World.cell?_spot h, ?_⟩
  rcases Nat.lt_or_ge a.block W.heap.size with h' | h'
  · exact h'
  · simp [World.cell?, Array.getElem?_eq_none h'] at h
theorem row_of {a : Addr} {len cap sz : Nat} {cs : List Value} (hsz : 0 < sz) (hl : len ≤ cap) (hm : cap ≤ maxLen) (hlen : cs.length = len * sz) (h : ∀ j, j < len * sz → W.cell? (a.add j) = cs[j]?) : HasRow W (.slice (some a) len cap) sz len cs := by
  refine ⟨hlen, .inr ⟨a, cap, rfl, hl, by unfold maxLen at hm; exact hm, fun hn => ?_, h⟩⟩
  have h0 := h 0 (Nat.mul_pos hn hsz)
  rw [List.getElem?_eq_getElem (by rw [hlen]; exact Nat.mul_pos hn hsz)] at h0
  have := spot_of h0
  simpa [Addr.add] using this
/-- cells of a list of rows of m cells each -/
theorem flat_get {α : Type} (f : α → List Value) (m : Nat) (hm : 0 < m) (hf : ∀ x, (f x).length = m) : ∀ (l : List α) (j : Nat) (hj : j < l.length * m), (l.flatMap f)[j]? = (f (l[j / m]'(Nat.div_lt_of_lt_mul (by rw [Nat.mul_comm]; exact hj))))[j % m]? := by
  intro l
  induction l with
  | nil => intro j hj; simp at hj
  | cons x t ih =>
    intro j hj
    rw [List.flatMap_cons]
    by_cases h : j < m
    · rw [List.getElem?_append_left (by rw [hf]; exact h)]
      have e1 : j / m = 0 := Nat.div_eq_of_lt h
      have e2 : j % m = j := Nat.mod_eq_of_lt h
      simp only [e1, e2, List.getElem_cons_zero]
    · have h' : m ≤ j := by omega
      rw [List.getElem?_append_right (by rw [hf]; exact h'), hf]
      have hj2 : j - m < t.length * m := by rw [List.length_cons, Nat.add_mul, Nat.one_mul] at hj; omega
      rw [ih (j - m) hj2]
      have e1 : j / m = (j - m) / m + 1 := by rw [Nat.div_eq_sub_div hm h']
      have e2 : j % m = (j - m) % m := Nat.mod_eq_sub_mod h'
      simp only [e1, e2, List.getElem_cons_succ]
set_option maxRecDepth 100000 in
theorem open_links {v : Value} {fuel : Nat} {x : DataW H × List MemPlace} (h : DataW.trod enc Try.prog W base spare held fuel 23 [v] = some x) : ∃ l : List Lk, HasLks W v l ∧ ∀ s ∈ l, FitL s := by
  rcases Go.Deep.open_slice Try.underlying23 h with ⟨hcs, _⟩ | ⟨a, l, c, m, n, D, Pl, hcs, _, hl, hm, hmm, _, hx⟩
  · injection hcs with e; subst e
    exact ⟨[], hasRow_nil _ _, by simp⟩
  · injection hcs with e; subst e
    have hlm : l ≤ m := by rw [hmm]; split <;> omega
    have hA : ∀ i, ∃ p : Lk, i < l → (∀ j, j < 2 → W.cell? (a.add (i * 2 + j)) = (lkC p)[j]?) ∧ FitL p := fun i => by
      by_cases hi : i < l
      · obtain ⟨cs', h1, h2⟩ := hx i (by omega)
        rw [show Try.prog.cellsOf 30 = 2 from by kernel_rfl] at h1
        obtain ⟨_, hlen, hcell⟩ := World.cells?_some h1
        obtain ⟨v0, v1, rfl⟩ : ∃ v0 v1, cs' = [v0, v1] := by
          match cs', hlen with
          | [v0, v1], _ => exact ⟨v0, v1, rfl⟩
        obtain ⟨s, es, fs⟩ := open_lk2 h2
        refine ⟨s, fun _ => ⟨fun j hj => ?_, fs⟩⟩
        rw [← es]
        have := hcell j hj
        rw [Go.Deep.add_add] at this
        rw [this]
      · exact ⟨⟨0, 0⟩, fun h => absurd h hi⟩
    obtain ⟨F, hF⟩ := Classical.axiomOfChoice hA
    refine ⟨(List.range l).map F, ?_, fun p hp => ?_⟩
    · unfold HasLks
      rw [List.length_map, List.length_range]
      refine row_of (by decide) hl hm (by rw [lkCs_len]; simp) (fun j hj => ?_)
      have hj2 : j / 2 < l := by omega
      obtain ⟨hc, _⟩ := hF (j / 2) hj2
      show _ = (((List.range l).map F).flatMap lkC)[j]?
      rw [flat_get lkC 2 (by decide) (fun x => rfl) _ j (by simp; omega)]
      simp only [List.getElem_map, List.getElem_range]
      rw [← hc (j % 2) (by omega)]
      congr 2
      omega
    · obtain ⟨i, hi, rfl⟩ := List.mem_map.1 hp
      exact (hF i (List.mem_range.1 hi)).2
end
end Go.Proofs.Yteoihmoclndihab.Lk
namespace Go.Proofs.Yteoihmoclndihab.Tr
open Go.ChangeShapes Go.WideShapes Go.ChangeAt Go.RowKit
open Go.Proofs.Yteoihmoclndihab.Msg (open_pf4 open_ac2)
open Go.Proofs.Yteoihmoclndihab.Lk (HasRow row_of flat_get hasRow_nil)
section
variable {H : Type} {enc : TypeId × Value → H} {W : World} {base : Nat} {spare : Nat → Bool} {held : Bool}
set_option maxRecDepth 100000 in
theorem open_rt6 {c0 c1 c2 c3 c4 c5 : Value} {fuel : Nat} {d : DataW H × List MemPlace} (hf : DataW.trod enc Try.prog W base spare held fuel 39 [c0, c1, c2, c3, c4, c5] = some d) : ∃ r : Rt, [c0, c1, c2, c3, c4, c5] = rtC r ∧ FitR r := by
  obtain ⟨xs, n, _, _, hlen, hxl, hfs⟩ := DataW.trod_struct Try.underlying39 hf
  have g0 : DataW.trod enc Try.prog W base spare held n 28 ((([c0, c1, c2, c3, c4, c5] : List Value).drop 0).take (Try.prog.cellsOf 28)) = xs[0]? := hfs 0 _ rfl
  have g1 : DataW.trod enc Try.prog W base spare held n 37 ((([c0, c1, c2, c3, c4, c5] : List Value).drop 4).take (Try.prog.cellsOf 37)) = xs[1]? := hfs 1 _ rfl
  have hx2 : xs.length = 2 := hxl
  rw [List.getElem?_eq_getElem (by omega)] at g0 g1
  rw [show Try.prog.cellsOf 28 = 4 from by kernel_rfl] at g0
  rw [show Try.prog.cellsOf 37 = 2 from by kernel_rfl] at g1
  obtain ⟨p, r4, r5, r6, r7, b1, b2⟩ := open_pf4 (s := c0) (c := c1) (f := c2) (o := c3) g0
  obtain ⟨a, r8, r9, fa⟩ := open_ac2 (x := c4) (y := c5) g1
  subst r4 r5 r6 r7 r8 r9
  exact ⟨⟨p, a⟩, rfl, ⟨b1, b2⟩, fa⟩
set_option maxRecDepth 100000 in
theorem open_route {v : Value} {d : DataW H} {ps : List MemPlace} {r : Reach} {b0 : Nat} (hval : Value.okWide Try.prog W r b0 39 v) (h : DataW.Trod enc Try.prog W base spare held 39 v d ps) : ∃ a : Rt, v = rtV a ∧ FitR a := by
  obtain ⟨cs, rfl, hsz⟩ := okWide_struct Try.underlying39 hval
  obtain ⟨fuel, hf⟩ := h
  rw [show Try.prog.cellsOf 39 = 6 from by kernel_rfl] at hsz
  obtain ⟨c0, c1, c2, c3, c4, c5, rfl⟩ : ∃ c0 c1 c2 c3 c4 c5, cs = #[c0, c1, c2, c3, c4, c5] := by
    obtain ⟨l⟩ := cs
    match l, hsz with
    | [c0, c1, c2, c3, c4, c5], _ => exact ⟨c0, c1, c2, c3, c4, c5, rfl⟩
  obtain ⟨a, e, fa⟩ := open_rt6 hf
  exact ⟨a, by unfold rtV; rw [← e], fa⟩
set_option maxRecDepth 100000 in
theorem open_routes {v : Value} {fuel : Nat} {x : DataW H × List MemPlace} (h : DataW.trod enc Try.prog W base spare held fuel 22 [v] = some x) : ∃ l : List Rt, HasRts W v l ∧ ∀ s ∈ l, FitR s := by
  rcases Go.Deep.open_slice Try.underlying22 h with ⟨hcs, _⟩ | ⟨a, l, c, m, n, D, Pl, hcs, _, hl, hm, hmm, _, hx⟩
  · injection hcs with e; subst e
    exact ⟨[], hasRow_nil _ _, by simp⟩
  · injection hcs with e; subst e
    have hlm : l ≤ m := by rw [hmm]; split <;> omega
    have hA : ∀ i, ∃ p : Rt, i < l → (∀ j, j < 6 → W.cell? (a.add (i * 6 + j)) = (rtC p)[j]?) ∧ FitR p := fun i => by
      by_cases hi : i < l
      · obtain ⟨cs', h1, h2⟩ := hx i (by omega)
        rw [show Try.prog.cellsOf 39 = 6 from by kernel_rfl] at h1
        obtain ⟨_, hlen, hcell⟩ := World.cells?_some h1
        obtain ⟨c0, c1, c2, c3, c4, c5, rfl⟩ : ∃ c0 c1 c2 c3 c4 c5, cs' = [c0, c1, c2, c3, c4, c5] := by
          match cs', hlen with
          | [c0, c1, c2, c3, c4, c5], _ => exact ⟨c0, c1, c2, c3, c4, c5, rfl⟩
        obtain ⟨s, es, fs⟩ := open_rt6 h2
        refine ⟨s, fun _ => ⟨fun j hj => ?_, fs⟩⟩
        rw [← es]
        have := hcell j hj
        rw [Go.Deep.add_add] at this
        rw [this]
      · exact ⟨⟨⟨false, 0, 0⟩, ⟨0, 0⟩⟩, fun h => absurd h hi⟩
    obtain ⟨F, hF⟩ := Classical.axiomOfChoice hA
    refine ⟨(List.range l).map F, ?_, fun p hp => ?_⟩
    · unfold HasRts
      rw [List.length_map, List.length_range]
      refine row_of (by decide) hl hm (by rw [rtCs_len]; simp) (fun j hj => ?_)
      have hj2 : j / 6 < l := by omega
      obtain ⟨hc, _⟩ := hF (j / 6) hj2
      show _ = (((List.range l).map F).flatMap rtC)[j]?
      rw [flat_get rtC 6 (by decide) (fun x => rfl) _ j (by simp; omega)]
      simp only [List.getElem_map, List.getElem_range]
      rw [← hc (j % 6) (by omega)]
      congr 2
      omega
    · obtain ⟨i, hi, rfl⟩ := List.mem_map.1 hp
      exact (hF i (List.mem_range.1 hi)).2
end
end Go.Proofs.Yteoihmoclndihab.Tr
namespace Go.Proofs.Yteoihmoclndihab.Tr
open Go.Proofs.Yteoihmoclndihab.Addr (Pf okP checkP wideN rightB hasB coversB cmpN kP hiN loN adV pfV firstN lastN freeN)
theorem othersT_len (l : List Rt) (p : Pf) : (othersT l p).length = (aheadT l p).length + (behindT l p).length := by
  unfold othersT aheadT behindT
  induction l with
  | nil => rfl
  | cons x l ih =>
    rcases Int.lt_trichotomy (ordP x.pf p) 0 with h | h | h
    · rw [List.filter_cons_of_pos (by simp; omega), List.filter_cons_of_pos (by simp; omega), List.filter_cons_of_neg (by simp; omega), List.length_cons, List.length_cons, ih]; omega
    · rw [List.filter_cons_of_neg (by simp; omega), List.filter_cons_of_neg (by simp; omega), List.filter_cons_of_neg (by simp; omega), ih]
    · rw [List.filter_cons_of_pos (by simp; omega), List.filter_cons_of_neg (by simp; omega), List.filter_cons_of_pos (by simp; omega), List.length_cons, List.length_cons, ih]; omega
theorem insT_len (l : List Rt) (r : Rt) : (insT l r).length = (othersT l r.pf).length + 1 := by
  unfold insT
  rw [othersT_len]
  simp only [List.length_append, List.length_cons, List.length_nil]
  omega
theorem insT_mem {l : List Rt} {r x : Rt} (h : x ∈ insT l r) : x = r ∨ x ∈ l := by
  unfold insT aheadT behindT at h
  simp only [List.mem_append, List.mem_filter, List.mem_singleton] at h
  rcases h with h | h | h
  · exact .inr h.1
  · exact .inl h
  · exact .inr h.1
theorem mem_insT (l : List Rt) (r : Rt) : r ∈ insT l r := by unfold insT; simp
theorem insT_up {l : List Rt} {r : Rt} (h : Up l) : Up (insT l r) := by
  unfold insT
  refine List.pairwise_append.2 ⟨h.filter _, List.pairwise_append.2 ⟨List.pairwise_singleton _ _, h.filter _, fun a ha b hb => ?_⟩, fun a ha b hb => ?_⟩
  · rw [List.mem_singleton] at ha
    subst ha
    have := (List.mem_filter.1 hb).2
    simp only [decide_eq_true_eq] at this
    exact (ordP_gt _ _).1 this
  · have h1 := (List.mem_filter.1 ha).2
    simp only [decide_eq_true_eq] at h1
    have h1 := (ordP_lt _ _).1 h1
    rcases List.mem_append.1 hb with hb | hb
    · rw [List.mem_singleton] at hb
      subst hb
      exact h1
    · have := (List.mem_filter.1 hb).2
      simp only [decide_eq_true_eq] at this
      exact ltP_trans h1 ((ordP_gt _ _).1 this)
theorem othersT_le (l : List Rt) (p : Pf) : (othersT l p).length ≤ l.length := List.length_filter_le _ _
theorem putT_ok {l : List Rt} {r : Rt} (h : (putT l r).2 = 0) : okT l = true ∧ okR r = true ∧ (putT l r).1 = insT l r ∧ okT (insT l r) = true := by
  unfold putT at h ⊢
  cases h1 : okT l && okR r with
  | false => rw [h1] at h; simp at h
  | true =>
    rw [h1] at h
    simp only [if_true] at h ⊢
    rw [Bool.and_eq_true] at h1
    by_cases h2 : (othersT l r.pf).length = 256
    · rw [if_pos h2] at h; simp at h
    · rw [if_neg h2]
      obtain ⟨k1, k2, k3⟩ := (okT_iff l).1 h1.1
      refine ⟨h1.1, h1.2, rfl, (okT_iff _).2 ⟨?_, fun x hx => ?_, insT_up k3⟩⟩
      · rw [insT_len]; have := othersT_le l r.pf; omega
      · rcases insT_mem hx with rfl | hx
        · exact h1.2
        · exact k2 x hx
/-- of two prefixes that have one address the later one is longer, and covered -/
theorem later_long {p q : Pf} {six : Bool} {a : Nat} (hl : ltP p q) (hp : hasB p six a = true) (hq : hasB q six a = true) : p.len < q.len ∧ coversB p q = true := by
  have o1 := has_ok hp
  have o2 := has_ok hq
  obtain ⟨e1, e2, e3, e4⟩ := (has_iff o1 _ _).1 hp
  obtain ⟨f1, f2, f3, f4⟩ := (has_iff o2 _ _).1 hq
  have hs : q.six = p.six := f1.trans e1.symm
  have hc : coversB p q = true := by
    cases hc : coversB p q with
    | true => rfl
    | false => have := apart_of o1 o2 hl hc hs; omega
  refine ⟨?_, hc⟩
  obtain ⟨_, c2, c3⟩ := covers_parts hc
  rcases Int.lt_or_eq_of_le c2 with h | h
  · exact h
  · exfalso
    obtain ⟨g1, g2, g3, g4⟩ := (has_iff o1 _ _).1 c3
    have hk : kP p = kP q := by unfold kP; rw [hs, h]
    have hn : p.n < q.n := by
      unfold ltP at hl
      rcases hl with ⟨h1, h2⟩ | ⟨_, h3⟩
      · rw [hs, h1] at h2; cases h2
      · rcases h3 with h3 | h3
        · exact h3
        · omega
    have := mult_apart (ok_parts o1).2.2.2 (by rw [hk]; exact (ok_parts o2).2.2.2) hn
    omega
theorem up_last {l : List Rt} (hu : Up l) {r : Rt} (hr : r ∈ l) : ∃ x, l.getLast? = some x ∧ x ∈ l ∧ (x = r ∨ ltP r.pf x.pf) := by
  have hne : l ≠ [] := fun h => by rw [h] at hr; cases hr
  refine ⟨l.getLast hne, List.getLast?_eq_some_getLast hne, List.getLast_mem hne, ?_⟩
  rw [List.getLast_eq_getElem]
  obtain ⟨j, hj, rfl⟩ := List.getElem_of_mem hr
  rcases Nat.lt_or_ge j (l.length - 1) with h | h
  · exact .inr (List.pairwise_iff_getElem.1 hu j (l.length - 1) hj (by omega) h)
  · have : j = l.length - 1 := by omega
    subst this
    exact .inl rfl
end Go.Proofs.Yteoihmoclndihab.Tr
namespace Go.Proofs.Yteoihmoclndihab.Msg
open Go.RowKit
open Go.Proofs.Yteoihmoclndihab.Addr (Pf hiN loN pfV)
def eqP (p q : Pf) : Bool := decide (p.six = q.six) && decide (p.n = q.n) && decide (p.len = q.len)
theorem eqP_iff (p q : Pf) : eqP p q = true ↔ p = q := by
  obtain ⟨a, b, c⟩ := p
  obtain ⟨d, e, f⟩ := q
  unfold eqP
  simp only [Bool.and_eq_true, decide_eq_true_eq, Addr.Pf.mk.injEq, and_assoc]
theorem eqP_not (p q : Pf) : eqP p q = false ↔ p ≠ q := by
  rw [← Bool.not_eq_true, eqP_iff]
theorem pf_neq (p q : Pf) (w : World) : (binOp .neq 28 (.agg #[.bool p.six, .int .u64 (hiN p.n : Int), .int .u64 (loN p.n : Int), .int .i64 p.len]) (.agg #[.bool q.six, .int .u64 (hiN q.n : Int), .int .u64 (loN q.n : Int), .int .i64 q.len])).run Try.prog w = .ok (.bool (!eqP p q)) w := by
  have h := pf_inG p.six q.six p.n q.n p.len q.len w 9997
  rw [run_neq_struct, h]
  rfl
theorem pf_eqb (p q : Pf) (w : World) : (binOp .eql 28 (.agg #[.bool p.six, .int .u64 (hiN p.n : Int), .int .u64 (loN p.n : Int), .int .i64 p.len]) (.agg #[.bool q.six, .int .u64 (hiN q.n : Int), .int .u64 (loN q.n : Int), .int .i64 q.len])).run Try.prog w = .ok (.bool (eqP p q)) w := by
  have h := pf_inG p.six q.six p.n q.n p.len q.len w 9997
  rw [run_eql_struct, h]
  rfl
end Go.Proofs.Yteoihmoclndihab.Msg
namespace Go.Proofs.Yteoihmoclndihab
namespace topLeads
open Go.ChangeShapes Go.WideShapes Go.ChangeAt Go.RowKit
open Go.ChangeMaps (open_string shut_string)
open Go.Proofs.Yteoihmoclndihab.Lk (Lk HasLks FitL lkV peerL HasLks.keep)
open Go.Proofs.Yteoihmoclndihab.Tr
open Go.Proofs.Yteoihmoclndihab.Msg (FitA eqP eqP_iff eqP_not pf_neq Ac)
open Go.Proofs.Yteoihmoclndihab.Addr (Pf pfV adV hasB coversB hiN loN rightB RowAt below2 below_drew below_new bset RowAt.lt RowAt.cell RowAt.frozen RowAt.below RowAt.drew RowAt.new RowAt.alloc cells2 cells4)
theorem own : ownKnob Try.prog.godebug = none := by kernel_rfl
theorem laidOut : laidOutB Try.prog = true := by kernel_rfl
theorem main {l : List Rt} {k : List Lk} {p : Pf} {x : Lk} {a : Nat} (hf : ∀ s ∈ l, FitR s) (hp : FitP p) (hx : FitL x) (h1 : (putT l ⟨p, ⟨1, x.iface⟩⟩).2 = 0) (h2 : (Lk.putL k x).2 = 0) (h3 : hasB p p.six a = true) :
    ∃ y : Rt, longT (putT l ⟨p, ⟨1, x.iface⟩⟩).1 p.six a = (y, 0) ∧ FitP y.pf ∧ p.len ≤ y.pf.len ∧ (eqP y.pf p = false → p.len < y.pf.len ∧ coversB p y.pf = true) ∧ (eqP y.pf p = true → y.act.i = x.iface) ∧ peerL (Lk.putL k x).1 x.iface = (x.peer, 0) := by
  obtain ⟨k1, k2, k3, k4⟩ := putT_ok h1
  obtain ⟨a1, a2, a3, a4⟩ := Lk.put_ok h2
  have hpe := Lk.peer_ins a1 a2 a3
  obtain ⟨q1, q2, q3⟩ := (okT_iff _).1 k4
  have hr : (⟨p, ⟨1, x.iface⟩⟩ : Rt) ∈ (insT l ⟨p, ⟨1, x.iface⟩⟩).filter (hasR p.six a) := List.mem_filter.2 ⟨mem_insT _ _, h3⟩
  obtain ⟨y, hy1, hy2, hy3⟩ := up_last (q3.filter (hasR p.six a)) hr
  have hya := (List.mem_filter.1 hy2).2
  have hright : rightB p.six a = true := by
    have := (has_iff (has_ok h3) _ _).1 h3
    unfold rightB
    exact decide_eq_true this.2.1
  refine ⟨y, ?_, ?_, ?_, ?_, ?_, by rw [a4]; exact hpe⟩
  · rw [k3]
    unfold longT
    rw [k4, hright]
    unfold lastR codeR
    rw [hy1]
    have hne : ((insT l ⟨p, ⟨1, x.iface⟩⟩).filter (hasR p.six a)).length ≠ 0 := fun e => by
      rw [List.length_eq_zero_iff] at e
      rw [e] at hr
      cases hr
    simp only [Bool.and_self, if_true, Option.getD_some, if_neg hne]
  · exact fit_ok (has_ok hya)
  · rcases hy3 with rfl | hlt
    · exact Int.le_refl _
    · exact Int.le_of_lt (later_long hlt h3 hya).1
  · intro he
    rcases hy3 with rfl | hlt
    · exact absurd rfl ((eqP_not _ _).1 he)
    · exact later_long hlt h3 hya
  · intro he
    rcases hy3 with rfl | hlt
    · rfl
    · rw [(eqP_iff _ _).1 he] at hlt
      exact absurd hlt (ltP_irr p)
set_option maxHeartbeats 16000000 in
set_option maxRecDepth 20000 in
theorem walk (v : Value) (l : List Rt) (u : Value) (k : List Lk) (p : Pf) (x : Lk) (a : Nat) (w : World) (b0 : HasRts w v l) (f0 : ∀ s ∈ l, FitR s) (b1 : HasLks w u k) (f1 : ∀ s ∈ k, FitL s) (b2 : (-9223372036854775808 ≤ p.len ∧ p.len ≤ 9223372036854775807) ∧ p.n < 2 ^ 128) (b3 : FitL x) (b4 : a < 2 ^ 128) :
    Calls Try.prog 3 #[v, u, pfV p, lkV x, adV a] w fun e w' => e = .returned (.bool true) ∧ Below w.heap.size w w' := by
  have c0 := fun (W : World) => Frame.begins_any W
  have fr : FitR ⟨p, ⟨1, x.iface⟩⟩ := ⟨b2, (by decide : ((1 : Nat) : Int) ≤ 255), b3.1⟩
  have c1 : ∀ (W : World), HasRts W v l → Calls Try.prog 5 #[v, .agg #[.bool p.six, .int .u64 (hiN p.n : Int), .int .u64 (loN p.n : Int), .int .i64 p.len, .int .u8 1, .int .i64 x.iface]] W fun e w' => ∃ u, e = .returned (.tuple #[u, .int .i64 (putT l ⟨p, ⟨1, x.iface⟩⟩).2]) ∧ HasRts w' u (putT l ⟨p, ⟨1, x.iface⟩⟩).1 ∧ Below W.heap.size W w' := fun W h => Tr.put_any l v ⟨p, ⟨1, x.iface⟩⟩ W h f0 fr
  have c2 := fun (W : World) (h : HasLks W u k) => Lk.put_any k u x W h
  have c3 := fun (W : World) => Addr.has_any p p.six a W b2.1 b2.2 b4
  have HM := fun h1 h2 h3 => main (l := l) (k := k) (p := p) (x := x) (a := a) f0 b2 b3 h1 h2 h3
  have c4 : (putT l ⟨p, ⟨1, x.iface⟩⟩).2 = 0 → ∀ (W : World) z, HasRts W z (putT l ⟨p, ⟨1, x.iface⟩⟩).1 → _ := fun h W z hz => longest_any (putT l ⟨p, ⟨1, x.iface⟩⟩).1 z p.six a W hz (fun s hs => by
    rw [(putT_ok h).2.2.1] at hs
    rcases insT_mem hs with rfl | hs
    · exact fr
    · exact f0 s hs) b4
  have c5 := fun (W : World) z (h : HasLks W z (Lk.putL k x).1) => Lk.peer_any (Lk.putL k x).1 z x.iface W h
  have c6 : ∀ q : Pf, FitP q → ∀ W : World, _ := fun q hq W => Addr.covers_any p q W b2.1 b2.2 hq.1 hq.2
  have c7 : ∀ q : Pf, ∀ W : World, _ := fun q W => pf_neq q p W
  generalize (putT l ⟨p, ⟨1, x.iface⟩⟩).1 = M at *
  generalize (putT l ⟨p, ⟨1, x.iface⟩⟩).2 = M2 at *
  generalize (Lk.putL k x).1 = N at *
  generalize (Lk.putL k x).2 = N2 at *
  generalize hHB : hasB p p.six a = HB at *
  clear f0 f1 fr
  have HVP : Hid (pfV p = .agg #[.bool p.six, .int .u64 (hiN p.n : Int), .int .u64 (loN p.n : Int), .int .i64 p.len]) := rfl
  have HVX : Hid (lkV x = .agg #[.int .i64 x.iface, .int .i64 x.peer]) := rfl
  have HVA : Hid (adV a = .agg #[.int .u64 (hiN a : Int), .int .u64 (loN a : Int)]) := rfl
  rw [HVP.out, HVX.out, HVA.out]
  rw [HVP.out, HVA.out] at c3
  have HC4 : Hid (M2 = 0 → ∀ (W : World) z, HasRts W z M → Calls Try.prog 8 #[z, .bool p.six, .agg #[.int .u64 (hiN a : Int), .int .u64 (loN a : Int)]] W fun e w' => e = .returned (.tuple #[rtA (longT M p.six a).1, .int .i64 (longT M p.six a).2]) ∧ Below W.heap.size W w') := c4
  have HC6 : Hid (∀ q : Pf, FitP q → ∀ W : World, Calls Try.prog 9 #[.agg #[.bool p.six, .int .u64 (hiN p.n : Int), .int .u64 (loN p.n : Int), .int .i64 p.len], .agg #[.bool q.six, .int .u64 (hiN q.n : Int), .int .u64 (loN q.n : Int), .int .i64 q.len]] W fun e w' => e = .returned (.bool (coversB p q)) ∧ Below W.heap.size W w') := c6
  have HC7 : Hid (∀ q : Pf, ∀ W : World, (binOp .neq 28 (.agg #[.bool q.six, .int .u64 (hiN q.n : Int), .int .u64 (loN q.n : Int), .int .i64 q.len]) (.agg #[.bool p.six, .int .u64 (hiN p.n : Int), .int .u64 (loN p.n : Int), .int .i64 p.len])).run Try.prog W = .ok (.bool (!eqP q p)) W) := c7
  have HMM : Hid (M2 = 0 → N2 = 0 → HB = true → _) := HM
  clear HM c4 c6 c7 HVP HVX HVA hHB b4 b3
  obtain ⟨X, hX⟩ : ∃ X, X = ((w.alloc (.cells #[.bool p.six, .int .u64 (hiN p.n : Int), .int .u64 (loN p.n : Int), .int .i64 p.len] 28)).alloc (.cells #[.int .i64 x.iface, .int .i64 x.peer] 30)).alloc (.cells #[.int .u64 (hiN a : Int), .int .u64 (loN a : Int)] 26) := ⟨_, rfl⟩
  have hB : Below w.heap.size w X := by rw [hX]; exact below_new (below_new (below_new (Below.refl _ _) _) _) _
  have r0 : RowAt X w.heap.size [.bool p.six, .int .u64 (hiN p.n : Int), .int .u64 (loN p.n : Int), .int .i64 p.len] 28 := by rw [hX]; exact ((RowAt.new _ _ _).alloc _).alloc _
  have r1 : RowAt X (w.heap.size + 1) [.int .i64 x.iface, .int .i64 x.peer] 30 := by rw [hX, ← World.size_alloc w (.cells #[.bool p.six, .int .u64 (hiN p.n : Int), .int .u64 (loN p.n : Int), .int .i64 p.len] 28)]; exact (RowAt.new _ _ _).alloc _
  have r2 : RowAt X (w.heap.size + 2) [.int .u64 (hiN a : Int), .int .u64 (loN a : Int)] 26 := by
    have e : w.heap.size + 2 = ((w.alloc (.cells #[.bool p.six, .int .u64 (hiN p.n : Int), .int .u64 (loN p.n : Int), .int .i64 p.len] 28)).alloc (.cells #[.int .i64 x.iface, .int .i64 x.peer] 30)).heap.size := by rw [World.size_alloc, World.size_alloc]
    rw [e, hX]; exact RowAt.new _ _ _
  go_enter Try.func3, Try.ntmps3
  go_upto_region 1 with fail
  rw [← hX]
  clear hX
  replace b0 := b0.keep hB
  replace b1 := b1.keep hB
  go_wp2_with fail
  go_at_call 4; refine (c0 _).mono ?_; rintro e w1 ⟨rfl, hb1⟩
  replace hB := below2 hB hb1
  replace b0 := b0.keep hb1
  replace b1 := b1.keep hb1
  replace r0 := RowAt.below r0 hb1
  replace r1 := RowAt.below r1 hb1
  replace r2 := RowAt.below r2 hb1
  clear hb1 c0
  obtain ⟨p0, p1, p2, p3, pf⟩ := cells4 r0
  obtain ⟨y0, y1, yf⟩ := cells2 r1
  go_wp2_with fail
  clear p0 p1 p2 p3 pf y0 y1 yf
  go_at_call 5; refine (c1 _ b0).mono ?_; rintro e w2 ⟨u2, rfl, h2, hb2⟩
  replace hB := below2 hB hb2
  replace b1 := b1.keep hb2
  replace r0 := RowAt.below r0 hb2
  replace r1 := RowAt.below r1 hb2
  replace r2 := RowAt.below r2 hb2
  clear hb2 c1 b0
  obtain ⟨y0, y1, yf⟩ := cells2 r1
  go_wp2_with fail
  clear y0 y1 yf
  go_at_call 6; refine (c2 _ b1).mono ?_; rintro e w3 ⟨u3, rfl, h3, hb3⟩
  replace hB := below2 hB hb3
  replace h2 := h2.keep hb3
  replace r0 := RowAt.below r0 hb3
  replace r1 := RowAt.below r1 hb3
  replace r2 := RowAt.below r2 hb3
  clear hb3 c2 b1
  by_cases g1 : M2 = 0
  case neg =>
    have g1' : (M2 != 0) = true := by simpa using g1
    go_wp2_with fail
    go_ret
    exact ⟨rfl, hB⟩
  by_cases g2 : N2 = 0
  case neg =>
    have g2' : (N2 != 0) = true := by simpa using g2
    subst g1
    go_wp2_with fail
    go_ret
    exact ⟨rfl, hB⟩
  have c4 := HC4.out g1
  have HM := HMM.out g1 g2
  subst g1 g2
  clear HC4 HMM
  obtain ⟨p0, p1, p2, p3, pf⟩ := cells4 r0
  obtain ⟨y0, y1, yf⟩ := cells2 r2
  go_wp2_with fail
  clear p0 p1 p2 p3 pf y0 y1 yf
  go_at_call 7; refine (c3 _).mono ?_; rintro e w4 ⟨rfl, hb4⟩
  replace hB := below2 hB hb4
  replace h2 := h2.keep hb4
  replace h3 := h3.keep hb4
  replace r0 := RowAt.below r0 hb4
  replace r1 := RowAt.below r1 hb4
  replace r2 := RowAt.below r2 hb4
  clear hb4 c3
  cases HB with
  | false =>
    go_wp2_with fail
    go_ret
    exact ⟨rfl, hB⟩
  | true =>
    obtain ⟨y, e1, e2, e3, e4, e5, e6⟩ := HM rfl
    rw [e1] at c4
    rw [e6] at c5
    have HA : Hid (rtA y = .agg #[.bool y.pf.six, .int .u64 (hiN y.pf.n : Int), .int .u64 (loN y.pf.n : Int), .int .i64 y.pf.len, .int .u8 (y.act.k : Int), .int .i64 y.act.i]) := rfl
    simp only [HA.out] at c4 c5
    have c6 := HC6.out y.pf e2
    have c7 := HC7.out y.pf
    clear HC6 HC7 HM e1 e6 HA
    obtain ⟨p0, p1, p2, p3, pf⟩ := cells4 r0
    obtain ⟨y0, y1, yf⟩ := cells2 r2
    go_wp2_with fail
    clear p0 p1 p2 p3 pf y0 y1 yf
    go_at_call 8; refine (c4 _ _ h2).mono ?_; rintro e w5 ⟨rfl, hb5⟩
    replace hB := below2 hB hb5
    replace h3 := h3.keep hb5
    replace r0 := RowAt.below r0 hb5
    replace r1 := RowAt.below r1 hb5
    clear hb5 c4 r2 h2
    go_upto_region 8 with fail
    obtain ⟨Y, hY⟩ : ∃ Y, Y = w5.alloc (.cells #[.bool y.pf.six, .int .u64 (hiN y.pf.n : Int), .int .u64 (loN y.pf.n : Int), .int .i64 y.pf.len, .int .u8 (y.act.k : Int), .int .i64 y.act.i] 39) := ⟨_, rfl⟩
    rw [← hY]
    have r5 : RowAt Y w5.heap.size [.bool y.pf.six, .int .u64 (hiN y.pf.n : Int), .int .u64 (loN y.pf.n : Int), .int .i64 y.pf.len, .int .u8 (y.act.k : Int), .int .i64 y.act.i] 39 := by rw [hY]; exact RowAt.new _ _ _
    have hb6 : Below w5.heap.size w5 Y := by rw [hY]; exact below_new (Below.refl _ _) _
    clear hY
    replace hB := below2 hB hb6
    replace h3 := h3.keep hb6
    replace r0 := RowAt.below r0 hb6
    replace r1 := RowAt.below r1 hb6
    clear hb6
    obtain ⟨p0, p1, p2, p3, pf⟩ := cells4 r0
    obtain ⟨y0, y1, yf⟩ := cells2 r1
    have q0 := r5.cell 0
    have q1 := r5.cell 1
    have q2 := r5.cell 2
    have q3 := r5.cell 3
    have q4 := r5.cell 4
    have q5 := r5.cell 5
    simp only [List.getElem?_cons_zero, List.getElem?_cons_succ] at q0 q1 q2 q3 q4 q5
    have hlt : ¬ (y.pf.len < p.len) := by omega
    cases hE : eqP y.pf p with
    | false =>
      rw [hE] at c7
      obtain ⟨d1, d2⟩ := e4 hE
      rw [d2] at c6
      clear e4 e5 c5 hE e2 b2
      go_wp2_with fail
      go_at_call 9; refine (c6 _).mono ?_; rintro e w6 ⟨rfl, hb6⟩
      replace hB := below2 hB hb6
      go_wp2_with fail
      go_ret
      exact ⟨rfl, hB⟩
    | true =>
      rw [hE] at c7
      have d1 := e5 hE
      clear e4 e5 c6 hE e2 b2
      go_wp2_with fail
      clear p0 p1 p2 p3 pf y0 y1 yf q0 q1 q2 q3 q4 q5 r5 r0
      go_at_call 10; refine (c5 _ _ h3).mono ?_; rintro e w6 ⟨rfl, hb6⟩
      replace hB := below2 hB hb6
      replace r1 := RowAt.below r1 hb6
      obtain ⟨y0, y1, yf⟩ := cells2 r1
      go_wp2_with fail
      go_ret
      exact ⟨rfl, hB⟩
set_option maxRecDepth 100000 in
theorem lifted (os : Os) (started : os.Started) (H : Type) (enc : TypeId × Value → H) :
    ReturnsInHanded {} Try.checked os 3 .any (Rows.topLeadsSpec.pre6 enc Try.prog Try.f3 Rows.topLeadsRow.domain false) (Rows.topLeadsSpec.post enc Try.prog Try.f3 false true false false) := by
  refine returnsInHanded_of_change_sized (C := Try.checked) own started (by kernel_rfl) Try.func3
    (ChangeSpec.witness6 (enc := enc) (C := Try.checked) false ⟨#[], #[.slice none 0 0, .slice none 0 0, .agg #[.bool false, .int .u64 0, .int .u64 0, .int .i64 0], .agg #[.int .i64 0, .int .i64 0], .agg #[.int .u64 0, .int .u64 0]], []⟩ 8 (by kernel_rfl) (by kernel_rfl) (by kernel_rfl) (by kernel_rfl)) ?_
  intro W base args ds gs before hval0 hW _ hsz0 _
  have hsz : (DataW.weightsEach Try.prog (Try.f3.params.toList ++ Rows.topLeadsSpec.plain.varTypes Try.prog) (ds ++ gs)).all (· ≤ reachBytes) = true := hsz0
  clear hsz0
  have hval : ∀ (j : Nat) t v, Try.f3.params[j]? = some t → args[j]? = some v → Value.okWide Try.prog W .any base t v := hval0
  have hW' := hW
  obtain ⟨p, q, hA0, hV, rfl, hfz, hnd⟩ := hW
  have hA : DataW.TrodAll enc Try.prog W 0 (fun _ => true) true Try.f3.params.toList args.toList ds p := hA0
  rw [Try.params3] at hA hval hsz
  obtain ⟨v0, vs0, d0, ds0, p0, q0, hargs, rfl, rfl, h0, r0⟩ := trodAll_cons hA
  obtain ⟨v1, vs1, d1, ds1, p1, q1, rfl, rfl, rfl, h1, r1⟩ := trodAll_cons r0
  obtain ⟨v2, vs2, d2, ds2, p2, q2, rfl, rfl, rfl, h2, r2⟩ := trodAll_cons r1
  obtain ⟨v3, vs3, d3, ds3, p3, q3, rfl, rfl, rfl, h3, r3⟩ := trodAll_cons r2
  obtain ⟨v4, vs4, d4, ds4, p4, q4, rfl, rfl, rfl, h4, r4⟩ := trodAll_cons r3
  obtain ⟨rfl, rfl, rfl⟩ := trodAll_nil r4
  obtain rfl : args = #[v0, v1, v2, v3, v4] := by cases args; simp_all
  obtain ⟨rfl, rfl⟩ := trodVars_none hV
  obtain ⟨a0, len0, cap0, rfl⟩ := okWide_slice Try.underlying22 (hval 0 22 v0 rfl rfl)
  have k0 := h0
  have lt0 : ∀ x ∈ p0, x.block < W.heap.size := by obtain ⟨m, hm⟩ := k0; exact DataW.trod_lt m _ _ _ hm
  obtain ⟨fuel0, hf0⟩ := h0
  obtain ⟨z0, b0, f0⟩ := Tr.open_routes hf0
  obtain ⟨a1, len1, cap1, rfl⟩ := okWide_slice Try.underlying23 (hval 1 23 v1 rfl rfl)
  have k1 := h1
  have lt1 : ∀ x ∈ p1, x.block < W.heap.size := by obtain ⟨m, hm⟩ := k1; exact DataW.trod_lt m _ _ _ hm
  obtain ⟨fuel1, hf1⟩ := h1
  obtain ⟨z1, b1, f1⟩ := Lk.open_links hf1
  have k2 := h2
  have lt2 : ∀ x ∈ p2, x.block < W.heap.size := by obtain ⟨m, hm⟩ := k2; exact DataW.trod_lt m _ _ _ hm
  obtain ⟨n2, rfl, b2⟩ := Addr.open_prefix (hval 2 28 v2 rfl rfl) h2
  have k3 := h3
  have lt3 : ∀ x ∈ p3, x.block < W.heap.size := by obtain ⟨m, hm⟩ := k3; exact DataW.trod_lt m _ _ _ hm
  obtain ⟨n3, rfl, b3⟩ := Lk.open_link (hval 3 30 v3 rfl rfl) h3
  have k4 := h4
  have lt4 : ∀ x ∈ p4, x.block < W.heap.size := by obtain ⟨m, hm⟩ := k4; exact DataW.trod_lt m _ _ _ hm
  obtain ⟨n4, rfl, b4⟩ := Addr.open_addr (hval 4 26 v4 rfl rfl) h4
  clear hA0 hval0
  refine (walk (.slice a0 len0 cap0) z0 (.slice a1 len1 cap1) z1 n2 n3 n4 W b0 f0 b1 f1 b2 b3 b4).mono fun e W' ⟨he, bel⟩ => ?_
  subst he
  exact ⟨_, rfl, _, _, _, [], _, [], hW', trodAll_mk1 (shut_bool Try.underlying4 _), (trodAll_cons_mk (Below.trod laidOut (by kernel_rfl) (of_decide_eq_true (by kernel_rfl)) k0 bel lt0) (trodAll_cons_mk (Below.trod laidOut (by kernel_rfl) (of_decide_eq_true (by kernel_rfl)) k1 bel lt1) (trodAll_cons_mk (Below.trod laidOut (by kernel_rfl) (of_decide_eq_true (by kernel_rfl)) k2 bel lt2) (trodAll_cons_mk (Below.trod laidOut (by kernel_rfl) (of_decide_eq_true (by kernel_rfl)) k3 bel lt3) (trodAll_cons_mk (Below.trod laidOut (by kernel_rfl) (of_decide_eq_true (by kernel_rfl)) k4 bel lt4) trodAll_mk0))))), rfl, bel.frame _, fun h => by cases h⟩

theorem over : Rows.topLeadsRow.holds Try.pinned (OpenSpec.ofChange Rows.topLeadsSpec) :=
  OpenClaim.holds_of_wide 3 Try.f3 rfl rfl rfl rfl rfl rfl rfl ⟨rfl, rfl, rfl, rfl, rfl⟩ rfl rfl rfl rfl rfl (by kernel_rfl) Try.func3 (by kernel_rfl)
    (of_decide_eq_true (by kernel_rfl)) (by unfold Func.isWrapper; first | (rw [if_pos (by decide +kernel)]; kernel_rfl) | (rw [if_neg (by decide +kernel)]; exact ⟨rfl, rfl⟩))
    (fun os started H enc _ => lifted os started H enc)
end topLeads
theorem tleads_holds : Rows.TopLeadsSaid := topLeads.over
#print axioms tleads_holds
end Go.Proofs.Yteoihmoclndihab
