/- Nets that come in, with the sizes that the row's own reach gives. -/
import Derived.Test.YtkjhnefbcnnjlaaGreatRows
import Derived.Test.YtkjhnefbcnnjlaaGreatNv01
import Derived.ProofKit
import Derived.OpenShut
import Derived.SizedLaws
import Derived.Test.YtkjhnefbcnnjlaaGreatNv04
import Derived.Deep.Matrix
import Derived.Deep.Strs
import Derived.Deep.SlicePairs
import Derived.Test.YtkjhnefbcnnjlaaGreatNv08
import Derived.Test.YtkjhnefbcnnjlaaGreatNv21
import Derived.Test.YtkjhnefbcnnjlaaGreatNv09
set_option linter.unusedVariables false
namespace Go.Proofs.YtkjhnefbcnnjlaaGreat.Addr
open Go.ChangeShapes Go.WideShapes Go.ChangeAt Go.RowKit
section
variable {H : Type} {enc : TypeId × Value → H} {W : World} {base : Nat} {spare : Nat → Bool} {held : Bool}
theorem wfi64 {n : Int} (h : Lit.wf (.int .i64 n)) : -9223372036854775808 ≤ n ∧ n ≤ 9223372036854775807 := by simpa [Lit.wf, IntKind.min, IntKind.max, IntKind.signed, IntKind.bits] using h
theorem wfu64 {n : Int} (h : Lit.wf (.int .u64 n)) : 0 ≤ n ∧ n ≤ 18446744073709551615 := by simpa [Lit.wf, IntKind.min, IntKind.max, IntKind.signed, IntKind.bits] using h
theorem num_of (h l : Int) (h1 : 0 ≤ h ∧ h ≤ 18446744073709551615) (h2 : 0 ≤ l ∧ l ≤ 18446744073709551615) : ∃ n : Nat, n < 2 ^ 128 ∧ h = (hiN n : Int) ∧ l = (loN n : Int) := by
  obtain ⟨a, rfl⟩ := Int.eq_ofNat_of_zero_le h1.1
  obtain ⟨b, rfl⟩ := Int.eq_ofNat_of_zero_le h2.1
  have := of_hilo a b (by omega)
  exact ⟨18446744073709551616 * a + b, by omega, by rw [this.1], by rw [this.2]⟩
set_option maxRecDepth 100000 in
theorem open_ad {x y : Value} {fuel : Nat} {d : DataW H × List MemPlace} (h : DataW.trod enc Tryz.prog W base spare held fuel 31 [x, y] = some d) : ∃ n : Nat, n < 2 ^ 128 ∧ x = .int .u64 (hiN n : Int) ∧ y = .int .u64 (loN n : Int) := by
  obtain ⟨xs, n, _, _, hlen, hxl, hfs⟩ := DataW.trod_struct Tryz.underlying31 h
  have g0 : DataW.trod enc Tryz.prog W base spare held n 29 ((([x, y] : List Value).drop 0).take (Tryz.prog.cellsOf 29)) = xs[0]? := hfs 0 _ rfl
  have g1 : DataW.trod enc Tryz.prog W base spare held n 29 ((([x, y] : List Value).drop 1).take (Tryz.prog.cellsOf 29)) = xs[1]? := hfs 1 _ rfl
  have hx2 : xs.length = 2 := hxl
  rw [List.getElem?_eq_getElem (by omega)] at g0 g1
  rw [show Tryz.prog.cellsOf 29 = 1 from by kernel_rfl] at g0 g1
  obtain ⟨a, e2, _, hw⟩ := DataW.trod_int Tryz.underlying29 g0
  obtain ⟨b, e3, _, hw2⟩ := DataW.trod_int Tryz.underlying29 g1
  obtain ⟨m, hm, r1, r2⟩ := num_of a b (wfu64 hw) (wfu64 hw2)
  have e2' : x = .int .u64 a := by injection e2
  have e3' : y = .int .u64 b := by injection e3
  exact ⟨m, hm, by rw [e2', r1], by rw [e3', r2]⟩
end
end Go.Proofs.YtkjhnefbcnnjlaaGreat.Addr
namespace Go.Proofs.YtkjhnefbcnnjlaaGreat.Msg
open Go.ChangeShapes Go.WideShapes Go.ChangeAt Go.RowKit
open Go.Proofs.YtkjhnefbcnnjlaaGreat.Addr (Pf hiN loN wfi64 open_ad)
section
variable {H : Type} {enc : TypeId × Value → H} {W : World} {base : Nat} {spare : Nat → Bool} {held : Bool}
theorem wfu8 {n : Int} (h : Lit.wf (.int .u8 n)) : 0 ≤ n ∧ n ≤ 255 := by simpa [Lit.wf, IntKind.min, IntKind.max, IntKind.signed, IntKind.bits] using h
set_option maxRecDepth 100000 in
theorem open_ac2 {x y : Value} {fuel : Nat} {d : DataW H × List MemPlace} (h : DataW.trod enc Tryz.prog W base spare held fuel 36 [x, y] = some d) : ∃ a : Ac, x = .int .u8 (a.k : Int) ∧ y = .int .i64 a.i ∧ FitA a := by
  obtain ⟨xs, n, _, _, hlen, hxl, hfs⟩ := DataW.trod_struct Tryz.underlying36 h
  have g0 : DataW.trod enc Tryz.prog W base spare held n 34 ((([x, y] : List Value).drop 0).take (Tryz.prog.cellsOf 34)) = xs[0]? := hfs 0 _ rfl
  have g1 : DataW.trod enc Tryz.prog W base spare held n 3 ((([x, y] : List Value).drop 1).take (Tryz.prog.cellsOf 3)) = xs[1]? := hfs 1 _ rfl
  have hx2 : xs.length = 2 := hxl
  rw [List.getElem?_eq_getElem (by omega)] at g0 g1
  rw [show Tryz.prog.cellsOf 34 = 1 from by kernel_rfl] at g0
  rw [show Tryz.prog.cellsOf 3 = 1 from by kernel_rfl] at g1
  obtain ⟨a, e2, _, hw⟩ := DataW.trod_int Tryz.underlying34 g0
  obtain ⟨b, e3, _, hw2⟩ := DataW.trod_int Tryz.underlying3 g1
  have e2' : x = .int .u8 a := by injection e2
  have e3' : y = .int .i64 b := by injection e3
  have q := wfu8 hw
  obtain ⟨k, rfl⟩ := Int.eq_ofNat_of_zero_le q.1
  exact ⟨⟨k, b⟩, e2', e3', q.2, wfi64 hw2⟩
set_option maxRecDepth 100000 in
theorem open_pf4 {s c f o : Value} {fuel : Nat} {d : DataW H × List MemPlace} (h : DataW.trod enc Tryz.prog W base spare held fuel 33 [s, c, f, o] = some d) : ∃ p : Pf, s = .bool p.six ∧ c = .int .u64 (hiN p.n : Int) ∧ f = .int .u64 (loN p.n : Int) ∧ o = .int .i64 p.len ∧ (-9223372036854775808 ≤ p.len ∧ p.len ≤ 9223372036854775807) ∧ p.n < 2 ^ 128 := by
  obtain ⟨xs, n, _, _, hlen, hxl, hfs⟩ := DataW.trod_struct Tryz.underlying33 h
  have g0 : DataW.trod enc Tryz.prog W base spare held n 4 ((([s, c, f, o] : List Value).drop 0).take (Tryz.prog.cellsOf 4)) = xs[0]? := hfs 0 _ rfl
  have g1 : DataW.trod enc Tryz.prog W base spare held n 31 ((([s, c, f, o] : List Value).drop 1).take (Tryz.prog.cellsOf 31)) = xs[1]? := hfs 1 _ rfl
  have g2 : DataW.trod enc Tryz.prog W base spare held n 3 ((([s, c, f, o] : List Value).drop 3).take (Tryz.prog.cellsOf 3)) = xs[2]? := hfs 2 _ rfl
  have hx3 : xs.length = 3 := hxl
  rw [List.getElem?_eq_getElem (by omega)] at g0 g1 g2
  rw [show Tryz.prog.cellsOf 4 = 1 from by kernel_rfl] at g0
  rw [show Tryz.prog.cellsOf 31 = 2 from by kernel_rfl] at g1
  rw [show Tryz.prog.cellsOf 3 = 1 from by kernel_rfl] at g2
  obtain ⟨ob, e3, _⟩ := DataW.trod_bool Tryz.underlying4 g0
  obtain ⟨m, hm, rfl, rfl⟩ := open_ad (x := c) (y := f) g1
  obtain ⟨fu, e2, _, hw⟩ := DataW.trod_int Tryz.underlying3 g2
  have e2' : o = .int .i64 fu := by injection e2
  have e3' : s = .bool ob := by injection e3
  exact ⟨⟨ob, m, fu⟩, e3', rfl, rfl, e2', wfi64 hw, hm⟩
end
end Go.Proofs.YtkjhnefbcnnjlaaGreat.Msg
namespace Go.Proofs.YtkjhnefbcnnjlaaGreat.Lk
open Go.ChangeShapes Go.WideShapes Go.ChangeAt Go.RowKit
section
variable {H : Type} {enc : TypeId × Value → H} {W : World} {base : Nat} {spare : Nat → Bool} {held : Bool}
theorem wfi {n : Int} (h : Lit.wf (.int .i64 n)) : -9223372036854775808 ≤ n ∧ n ≤ 9223372036854775807 := by simpa [Lit.wf, IntKind.min, IntKind.max, IntKind.signed, IntKind.bits] using h
set_option maxRecDepth 100000 in
theorem open_lk2 {x y : Value} {fuel : Nat} {d : DataW H × List MemPlace} (h : DataW.trod enc Tryz.prog W base spare held fuel 101 [x, y] = some d) : ∃ a : Lk, [x, y] = lkC a ∧ FitL a := by
  obtain ⟨xs, n, _, _, hlen, hxl, hfs⟩ := DataW.trod_struct Tryz.underlying101 h
  have g0 : DataW.trod enc Tryz.prog W base spare held n 3 ((([x, y] : List Value).drop 0).take (Tryz.prog.cellsOf 3)) = xs[0]? := hfs 0 _ rfl
  have g1 : DataW.trod enc Tryz.prog W base spare held n 3 ((([x, y] : List Value).drop 1).take (Tryz.prog.cellsOf 3)) = xs[1]? := hfs 1 _ rfl
  have hx2 : xs.length = 2 := hxl
  rw [List.getElem?_eq_getElem (by omega)] at g0 g1
  rw [show Tryz.prog.cellsOf 3 = 1 from by kernel_rfl] at g0 g1
  obtain ⟨a, e2, _, hw⟩ := DataW.trod_int Tryz.underlying3 g0
  obtain ⟨b, e3, _, hw2⟩ := DataW.trod_int Tryz.underlying3 g1
  have e2' : x = .int .i64 a := by injection e2
  have e3' : y = .int .i64 b := by injection e3
  subst e2' e3'
  exact ⟨⟨a, b⟩, rfl, wfi hw, wfi hw2⟩
theorem spot_of {W : World} {a : Addr} {v : Value} (h : W.cell? a = some v) : a.spot = none ∧ a.block < W.heap.size := by
  refine ⟨World.cell?_spot h, ?_⟩
  rcases Nat.lt_or_ge a.block W.heap.size with h' | h'
  · exact h'
  · simp [World.cell?, Array.getElem?_eq_none h'] at h
theorem row_of {a : Addr} {len cap sz : Nat} {cs : List Value} (hsz : 0 < sz) (hl : len ≤ cap) (hm : cap ≤ maxLen) (hlen : cs.length = len * sz) (h : ∀ j, j < len * sz → W.cell? (a.add j) = cs[j]?) : HasRow W (.slice (some a) len cap) sz len cs := by
  refine ⟨hlen, .inr ⟨a, cap, rfl, hl, by unfold maxLen at hm; exact hm, fun hn => ?_, h⟩⟩
  have h0 := h 0 (Nat.mul_pos hn hsz)
  rw [List.getElem?_eq_getElem (by rw [hlen]; exact Nat.mul_pos hn hsz)] at h0
  have := spot_of h0
  simpa [Addr.add] using this
/-- cells of a list of rows of m cells each -/
theorem flat_get {α : Type} (f : α → List Value) (m : Nat) (hm : 0 < m) (hf : ∀ x, (f x).length = m) : ∀ (l : List α) (j : Nat) (hj : j < l.length * m), (l.flatMap f)[j]? = (f (l[j / m]'(Nat.div_lt_of_lt_mul (by rw [Nat.mul_comm]; exact hj))))[j % m]? := by
  intro l
  induction l with
  | nil => intro j hj; simp at hj
  | cons x t ih =>
    intro j hj
    rw [List.flatMap_cons]
    by_cases h : j < m
    · rw [List.getElem?_append_left (by rw [hf]; exact h)]
      have e1 : j / m = 0 := Nat.div_eq_of_lt h
      have e2 : j % m = j := Nat.mod_eq_of_lt h
      simp only [e1, e2, List.getElem_cons_zero]
    · have h' : m ≤ j := by omega
      rw [List.getElem?_append_right (by rw [hf]; exact h'), hf]
      have hj2 : j - m < t.length * m := by rw [List.length_cons, Nat.add_mul, Nat.one_mul] at hj; omega
      rw [ih (j - m) hj2]
      have e1 : j / m = (j - m) / m + 1 := by rw [Nat.div_eq_sub_div hm h']
      have e2 : j % m = (j - m) % m := Nat.mod_eq_sub_mod h'
      simp only [e1, e2, List.getElem_cons_succ]
set_option maxRecDepth 100000 in
theorem open_links {v : Value} {fuel : Nat} {x : DataW H × List MemPlace} (h : DataW.trod enc Tryz.prog W base spare held fuel 49 [v] = some x) : ∃ l : List Lk, HasLks W v l ∧ ∀ s ∈ l, FitL s := by
  rcases Go.Deep.open_slice Tryz.underlying49 h with ⟨hcs, _⟩ | ⟨a, l, c, m, n, D, Pl, hcs, _, hl, hm, hmm, _, hx⟩
  · injection hcs with e; subst e
    exact ⟨[], hasRow_nil _ _, by simp⟩
  · injection hcs with e; subst e
    have hlm : l ≤ m := by rw [hmm]; split <;> omega
    have hA : ∀ i, ∃ p : Lk, i < l → (∀ j, j < 2 → W.cell? (a.add (i * 2 + j)) = (lkC p)[j]?) ∧ FitL p := fun i => by
      by_cases hi : i < l
      · obtain ⟨cs', h1, h2⟩ := hx i (by omega)
        rw [show Tryz.prog.cellsOf 101 = 2 from by kernel_rfl] at h1
        obtain ⟨_, hlen, hcell⟩ := World.cells?_some h1
        obtain ⟨v0, v1, rfl⟩ : ∃ v0 v1, cs' = [v0, v1] := by
          match cs', hlen with
          | [v0, v1], _ => exact ⟨v0, v1, rfl⟩
        obtain ⟨s, es, fs⟩ := open_lk2 h2
        refine ⟨s, fun _ => ⟨fun j hj => ?_, fs⟩⟩
        rw [← es]
        have := hcell j hj
        rw [Go.Deep.add_add] at this
        rw [this]
      · exact ⟨⟨0, 0⟩, fun h => absurd h hi⟩
    obtain ⟨F, hF⟩ := Classical.axiomOfChoice hA
    refine ⟨(List.range l).map F, ?_, fun p hp => ?_⟩
    · unfold HasLks
      rw [List.length_map, List.length_range]
      refine row_of (by decide) hl hm (by rw [lkCs_len]; simp) (fun j hj => ?_)
      have hj2 : j / 2 < l := by omega
      obtain ⟨hc, _⟩ := hF (j / 2) hj2
      show _ = (((List.range l).map F).flatMap lkC)[j]?
      rw [flat_get lkC 2 (by decide) (fun x => rfl) _ j (by simp; omega)]
      simp only [List.getElem_map, List.getElem_range]
      rw [← hc (j % 2) (by omega)]
      congr 2
      omega
    · obtain ⟨i, hi, rfl⟩ := List.mem_map.1 hp
      exact (hF i (List.mem_range.1 hi)).2
end
end Go.Proofs.YtkjhnefbcnnjlaaGreat.Lk
namespace Go.Proofs.YtkjhnefbcnnjlaaGreat.Tr
open Go.ChangeShapes Go.WideShapes Go.ChangeAt Go.RowKit
open Go.Proofs.YtkjhnefbcnnjlaaGreat.Msg (open_pf4 open_ac2)
open Go.Proofs.YtkjhnefbcnnjlaaGreat.Lk (row_of flat_get hasRow_nil)
section
variable {H : Type} {enc : TypeId × Value → H} {W : World} {base : Nat} {spare : Nat → Bool} {held : Bool}
set_option maxRecDepth 100000 in
theorem open_rt6 {c0 c1 c2 c3 c4 c5 : Value} {fuel : Nat} {d : DataW H × List MemPlace} (hf : DataW.trod enc Tryz.prog W base spare held fuel 98 [c0, c1, c2, c3, c4, c5] = some d) : ∃ r : Rt, [c0, c1, c2, c3, c4, c5] = rtC r ∧ FitR r := by
  obtain ⟨xs, n, _, _, hlen, hxl, hfs⟩ := DataW.trod_struct Tryz.underlying98 hf
  have g0 : DataW.trod enc Tryz.prog W base spare held n 33 ((([c0, c1, c2, c3, c4, c5] : List Value).drop 0).take (Tryz.prog.cellsOf 33)) = xs[0]? := hfs 0 _ rfl
  have g1 : DataW.trod enc Tryz.prog W base spare held n 36 ((([c0, c1, c2, c3, c4, c5] : List Value).drop 4).take (Tryz.prog.cellsOf 36)) = xs[1]? := hfs 1 _ rfl
  have hx2 : xs.length = 2 := hxl
  rw [List.getElem?_eq_getElem (by omega)] at g0 g1
  rw [show Tryz.prog.cellsOf 33 = 4 from by kernel_rfl] at g0
  rw [show Tryz.prog.cellsOf 36 = 2 from by kernel_rfl] at g1
  obtain ⟨p, r4, r5, r6, r7, b1, b2⟩ := open_pf4 (s := c0) (c := c1) (f := c2) (o := c3) g0
  obtain ⟨a, r8, r9, fa⟩ := open_ac2 (x := c4) (y := c5) g1
  subst r4 r5 r6 r7 r8 r9
  exact ⟨⟨p, a⟩, rfl, ⟨b1, b2⟩, fa⟩
set_option maxRecDepth 100000 in
theorem open_routes {v : Value} {fuel : Nat} {x : DataW H × List MemPlace} (h : DataW.trod enc Tryz.prog W base spare held fuel 48 [v] = some x) : ∃ l : List Rt, HasRts W v l ∧ ∀ s ∈ l, FitR s := by
  rcases Go.Deep.open_slice Tryz.underlying48 h with ⟨hcs, _⟩ | ⟨a, l, c, m, n, D, Pl, hcs, _, hl, hm, hmm, _, hx⟩
  · injection hcs with e; subst e
    exact ⟨[], hasRow_nil _ _, by simp⟩
  · injection hcs with e; subst e
    have hlm : l ≤ m := by rw [hmm]; split <;> omega
    have hA : ∀ i, ∃ p : Rt, i < l → (∀ j, j < 6 → W.cell? (a.add (i * 6 + j)) = (rtC p)[j]?) ∧ FitR p := fun i => by
      by_cases hi : i < l
      · obtain ⟨cs', h1, h2⟩ := hx i (by omega)
        rw [show Tryz.prog.cellsOf 98 = 6 from by kernel_rfl] at h1
        obtain ⟨_, hlen, hcell⟩ := World.cells?_some h1
        obtain ⟨c0, c1, c2, c3, c4, c5, rfl⟩ : ∃ c0 c1 c2 c3 c4 c5, cs' = [c0, c1, c2, c3, c4, c5] := by
          match cs', hlen with
          | [c0, c1, c2, c3, c4, c5], _ => exact ⟨c0, c1, c2, c3, c4, c5, rfl⟩
        obtain ⟨s, es, fs⟩ := open_rt6 h2
        refine ⟨s, fun _ => ⟨fun j hj => ?_, fs⟩⟩
        rw [← es]
        have := hcell j hj
        rw [Go.Deep.add_add] at this
        rw [this]
      · exact ⟨⟨⟨false, 0, 0⟩, ⟨0, 0⟩⟩, fun h => absurd h hi⟩
    obtain ⟨F, hF⟩ := Classical.axiomOfChoice hA
    refine ⟨(List.range l).map F, ?_, fun p hp => ?_⟩
    · unfold HasRts
      rw [List.length_map, List.length_range]
      refine row_of (by decide) hl hm (by rw [rtCs_len]; simp) (fun j hj => ?_)
      have hj2 : j / 6 < l := by omega
      obtain ⟨hc, _⟩ := hF (j / 6) hj2
      show _ = (((List.range l).map F).flatMap rtC)[j]?
      rw [flat_get rtC 6 (by decide) (fun x => rfl) _ j (by simp; omega)]
      simp only [List.getElem_map, List.getElem_range]
      rw [← hc (j % 6) (by omega)]
      congr 2
      omega
    · obtain ⟨i, hi, rfl⟩ := List.mem_map.1 hp
      exact (hF i (List.mem_range.1 hi)).2
end
end Go.Proofs.YtkjhnefbcnnjlaaGreat.Tr
namespace Go.Proofs.YtkjhnefbcnnjlaaGreat.Fib
open Go.ChangeShapes Go.WideShapes Go.ChangeAt Go.RowKit
open Go.Proofs.YtkjhnefbcnnjlaaGreat.Lk (HasLks Lk)
open Go.Proofs.YtkjhnefbcnnjlaaGreat.Tr (HasRts Rt)
section
variable {H : Type} {enc : TypeId × Value → H} {W : World} {base : Nat} {spare : Nat → Bool} {held : Bool}
theorem rts_small {v : Value} {fuel : Nat} {x : DataW H × List MemPlace} {zs : List Rt} (h : DataW.trod enc Tryz.prog W base spare held fuel 48 [v] = some x) (hs : HasRts W v zs) (hw : ∀ n ∈ x.1.weights Tryz.prog 48, n ≤ reachBytes) : zs.length * 48 ≤ reachBytes := by
  rcases Go.Deep.open_slice Tryz.underlying48 h with ⟨hcs, _⟩ | ⟨a, l, c, m, n, D, Pl, hcs, _, hl, hm, hmm, hx, hr⟩
  · injection hcs with e; subst e
    rcases hs.2 with ⟨_, h0⟩ | ⟨a, cap, e, _⟩
    · rw [h0]; exact Nat.zero_le _
    · cases e
  · injection hcs with e; subst e
    have hl2 : l = zs.length := by
      rcases hs.2 with ⟨e, _⟩ | ⟨a, cap, e, _⟩
      · cases e
      · injection e
    have := hw ((l + (m - l)) * 48) (by
      rw [hx]
      simp only [DataW.weights, Tryz.underlying48]
      rw [show Tryz.prog.bytesOf 98 = 48 by kernel_rfl]
      simp)
    rw [← hl2]
    exact Nat.le_trans (Nat.mul_le_mul_right 48 (Nat.le_add_right _ _)) this
theorem lks_small {v : Value} {fuel : Nat} {x : DataW H × List MemPlace} {zs : List Lk} (h : DataW.trod enc Tryz.prog W base spare held fuel 49 [v] = some x) (hs : HasLks W v zs) (hw : ∀ n ∈ x.1.weights Tryz.prog 49, n ≤ reachBytes) : zs.length * 16 ≤ reachBytes := by
  rcases Go.Deep.open_slice Tryz.underlying49 h with ⟨hcs, _⟩ | ⟨a, l, c, m, n, D, Pl, hcs, _, hl, hm, hmm, hx, hr⟩
  · injection hcs with e; subst e
    rcases hs.2 with ⟨_, h0⟩ | ⟨a, cap, e, _⟩
    · rw [h0]; exact Nat.zero_le _
    · cases e
  · injection hcs with e; subst e
    have hl2 : l = zs.length := by
      rcases hs.2 with ⟨e, _⟩ | ⟨a, cap, e, _⟩
      · cases e
      · injection e
    have := hw ((l + (m - l)) * 16) (by
      rw [hx]
      simp only [DataW.weights, Tryz.underlying49]
      rw [show Tryz.prog.bytesOf 101 = 16 by kernel_rfl]
      simp)
    rw [← hl2]
    exact Nat.le_trans (Nat.mul_le_mul_right 16 (Nat.le_add_right _ _)) this
end
end Go.Proofs.YtkjhnefbcnnjlaaGreat.Fib
namespace Go.Proofs.YtkjhnefbcnnjlaaGreat.Ord
open Go.ChangeShapes Go.WideShapes Go.ChangeAt Go.RowKit
open Go.Proofs.YtkjhnefbcnnjlaaGreat.Msg (Ev evC FitE open_pf4 open_ac2 wfu8)
open Go.Proofs.YtkjhnefbcnnjlaaGreat.Addr (wfi64 wfu64)
section
variable {H : Type} {enc : TypeId × Value → H} {W : World} {base : Nat} {spare : Nat → Bool} {held : Bool}
set_option maxRecDepth 100000 in
theorem open_ev12 {c0 c1 c2 c3 c4 c5 c6 c7 c8 c9 c10 c11 : Value} {fuel : Nat} {d : DataW H × List MemPlace} (hf : DataW.trod enc Tryz.prog W base spare held fuel 38 [c0, c1, c2, c3, c4, c5, c6, c7, c8, c9, c10, c11] = some d) : ∃ e : Ev, [c0, c1, c2, c3, c4, c5, c6, c7, c8, c9, c10, c11] = evC e ∧ FitE e := by
  obtain ⟨xs, n, _, _, hlen, hxl, hfs⟩ := DataW.trod_struct Tryz.underlying38 hf
  have g0 : DataW.trod enc Tryz.prog W base spare held n 28 ((([c0, c1, c2, c3, c4, c5, c6, c7, c8, c9, c10, c11] : List Value).drop 0).take (Tryz.prog.cellsOf 28)) = xs[0]? := hfs 0 _ rfl
  have g1 : DataW.trod enc Tryz.prog W base spare held n 3 ((([c0, c1, c2, c3, c4, c5, c6, c7, c8, c9, c10, c11] : List Value).drop 1).take (Tryz.prog.cellsOf 3)) = xs[1]? := hfs 1 _ rfl
  have g2 : DataW.trod enc Tryz.prog W base spare held n 29 ((([c0, c1, c2, c3, c4, c5, c6, c7, c8, c9, c10, c11] : List Value).drop 2).take (Tryz.prog.cellsOf 29)) = xs[2]? := hfs 2 _ rfl
  have g3 : DataW.trod enc Tryz.prog W base spare held n 2 ((([c0, c1, c2, c3, c4, c5, c6, c7, c8, c9, c10, c11] : List Value).drop 3).take (Tryz.prog.cellsOf 2)) = xs[3]? := hfs 3 _ rfl
  have g4 : DataW.trod enc Tryz.prog W base spare held n 33 ((([c0, c1, c2, c3, c4, c5, c6, c7, c8, c9, c10, c11] : List Value).drop 4).take (Tryz.prog.cellsOf 33)) = xs[4]? := hfs 4 _ rfl
  have g5 : DataW.trod enc Tryz.prog W base spare held n 36 ((([c0, c1, c2, c3, c4, c5, c6, c7, c8, c9, c10, c11] : List Value).drop 8).take (Tryz.prog.cellsOf 36)) = xs[5]? := hfs 5 _ rfl
  have g6 : DataW.trod enc Tryz.prog W base spare held n 3 ((([c0, c1, c2, c3, c4, c5, c6, c7, c8, c9, c10, c11] : List Value).drop 10).take (Tryz.prog.cellsOf 3)) = xs[6]? := hfs 6 _ rfl
  have g7 : DataW.trod enc Tryz.prog W base spare held n 3 ((([c0, c1, c2, c3, c4, c5, c6, c7, c8, c9, c10, c11] : List Value).drop 11).take (Tryz.prog.cellsOf 3)) = xs[7]? := hfs 7 _ rfl
  have hx8 : xs.length = 8 := hxl
  rw [List.getElem?_eq_getElem (by omega)] at g0 g1 g2 g3 g4 g5 g6 g7
  rw [show Tryz.prog.cellsOf 28 = 1 from by kernel_rfl] at g0
  rw [show Tryz.prog.cellsOf 3 = 1 from by kernel_rfl] at g1 g6 g7
  rw [show Tryz.prog.cellsOf 29 = 1 from by kernel_rfl] at g2
  rw [show Tryz.prog.cellsOf 2 = 1 from by kernel_rfl] at g3
  rw [show Tryz.prog.cellsOf 33 = 4 from by kernel_rfl] at g4
  rw [show Tryz.prog.cellsOf 36 = 2 from by kernel_rfl] at g5
  obtain ⟨k, e0, _, w0⟩ := DataW.trod_int Tryz.underlying28 g0
  obtain ⟨r1, e1, _, w1⟩ := DataW.trod_int Tryz.underlying3 g1
  obtain ⟨s2, e2, _, w2⟩ := DataW.trod_int Tryz.underlying29 g2
  obtain ⟨t3, e3, _, w3⟩ := DataW.trod_int Tryz.underlying2 g3
  obtain ⟨p, r4, r5, r6, r7, b1, b2⟩ := open_pf4 (s := c4) (c := c5) (f := c6) (o := c7) g4
  obtain ⟨a, r8, r9, fa⟩ := open_ac2 (x := c8) (y := c9) g5
  obtain ⟨i6, e6, _, w6⟩ := DataW.trod_int Tryz.underlying3 g6
  obtain ⟨j7, e7, _, w7⟩ := DataW.trod_int Tryz.underlying3 g7
  have e0' : c0 = .int .u8 k := by injection e0
  have e1' : c1 = .int .i64 r1 := by injection e1
  have e2' : c2 = .int .u64 s2 := by injection e2
  have e3' : c3 = .int .i64 t3 := by injection e3
  have e6' : c10 = .int .i64 i6 := by injection e6
  have e7' : c11 = .int .i64 j7 := by injection e7
  have q := wfu8 w0
  have q2 := wfu64 w2
  obtain ⟨kk, rfl⟩ := Int.eq_ofNat_of_zero_le q.1
  obtain ⟨ss, rfl⟩ := Int.eq_ofNat_of_zero_le q2.1
  subst e0' e1' e2' e3' e6' e7' r4 r5 r6 r7 r8 r9
  exact ⟨⟨kk, r1, ss, t3, p, a, i6, j7⟩, rfl, ⟨q.2, wfi64 w1, q2.2, wfi64 w3, b1, b2, fa, wfi64 w6, wfi64 w7⟩⟩
set_option maxRecDepth 100000 in
theorem open_st4 {v0 v1 v2 v3 : Value} {fuel : Nat} {d : DataW H × List MemPlace} (hf : DataW.trod enc Tryz.prog W base spare held fuel 70 [v0, v1, v2, v3] = some d) : ∃ s : St, [v0, v1, v2, v3] = stC s ∧ FitS s := by
  obtain ⟨xs, k, _, _, _, hxl, hfs⟩ := DataW.trod_struct Tryz.underlying70 hf
  have g0 : DataW.trod enc Tryz.prog W base spare held k 3 ((([v0, v1, v2, v3] : List Value).drop 0).take (Tryz.prog.cellsOf 3)) = xs[0]? := hfs 0 _ rfl
  have g1 : DataW.trod enc Tryz.prog W base spare held k 29 ((([v0, v1, v2, v3] : List Value).drop 1).take (Tryz.prog.cellsOf 29)) = xs[1]? := hfs 1 _ rfl
  have g2 : DataW.trod enc Tryz.prog W base spare held k 2 ((([v0, v1, v2, v3] : List Value).drop 2).take (Tryz.prog.cellsOf 2)) = xs[2]? := hfs 2 _ rfl
  have g3 : DataW.trod enc Tryz.prog W base spare held k 4 ((([v0, v1, v2, v3] : List Value).drop 3).take (Tryz.prog.cellsOf 4)) = xs[3]? := hfs 3 _ rfl
  have hx4 : xs.length = 4 := hxl
  rw [List.getElem?_eq_getElem (by omega)] at g0 g1 g2 g3
  rw [show Tryz.prog.cellsOf 3 = 1 from by kernel_rfl] at g0
  rw [show Tryz.prog.cellsOf 29 = 1 from by kernel_rfl] at g1
  rw [show Tryz.prog.cellsOf 2 = 1 from by kernel_rfl] at g2
  rw [show Tryz.prog.cellsOf 4 = 1 from by kernel_rfl] at g3
  obtain ⟨k0, e0, _, hw0⟩ := DataW.trod_int Tryz.underlying3 g0
  obtain ⟨k1, e1, _, hw1⟩ := DataW.trod_int Tryz.underlying29 g1
  obtain ⟨k2, e2, _, hw2⟩ := DataW.trod_int Tryz.underlying2 g2
  obtain ⟨k3, e3, _⟩ := DataW.trod_bool Tryz.underlying4 g3
  have f0 : v0 = .int .i64 k0 := by injection e0
  have f1 : v1 = .int .u64 k1 := by injection e1
  have f2 : v2 = .int .i64 k2 := by injection e2
  have f3 : v3 = .bool k3 := by injection e3
  have q := wfu64 hw1
  obtain ⟨kk, rfl⟩ := Int.eq_ofNat_of_zero_le q.1
  subst f0 f1 f2 f3
  exact ⟨⟨k0, kk, k2, k3⟩, rfl, ⟨wfi64 hw0, q.2, wfi64 hw2⟩⟩
theorem spot_of {W : World} {a : Addr} {v : Value} (h : W.cell? a = some v) : a.spot = none ∧ a.block < W.heap.size := by
  refine ⟨World.cell?_spot h, ?_⟩
  rcases Nat.lt_or_ge a.block W.heap.size with h' | h'
  · exact h'
  · simp [World.cell?, Array.getElem?_eq_none h'] at h
theorem row_of {a : Addr} {len cap sz : Nat} {cs : List Value} (hsz : 0 < sz) (hl : len ≤ cap) (hm : cap ≤ maxLen) (hlen : cs.length = len * sz) (h : ∀ j, j < len * sz → W.cell? (a.add j) = cs[j]?) : HasRow W (.slice (some a) len cap) sz len cs := by
  refine ⟨hlen, .inr ⟨a, cap, rfl, hl, by unfold maxLen at hm; exact hm, fun hn => ?_, h⟩⟩
  have h0 := h 0 (Nat.mul_pos hn hsz)
  rw [List.getElem?_eq_getElem (by rw [hlen]; exact Nat.mul_pos hn hsz)] at h0
  have := spot_of h0
  simpa [Addr.add] using this
/-- cells of a list of rows of m cells each -/
theorem flat_get {α : Type} (f : α → List Value) (m : Nat) (hm : 0 < m) (hf : ∀ x, (f x).length = m) : ∀ (l : List α) (j : Nat) (hj : j < l.length * m), (l.flatMap f)[j]? = (f (l[j / m]'(Nat.div_lt_of_lt_mul (by rw [Nat.mul_comm]; exact hj))))[j % m]? := by
  intro l
  induction l with
  | nil => intro j hj; simp at hj
  | cons x t ih =>
    intro j hj
    rw [List.flatMap_cons]
    by_cases h : j < m
    · rw [List.getElem?_append_left (by rw [hf]; exact h)]
      have e1 : j / m = 0 := Nat.div_eq_of_lt h
      have e2 : j % m = j := Nat.mod_eq_of_lt h
      simp only [e1, e2, List.getElem_cons_zero]
    · have h' : m ≤ j := by omega
      rw [List.getElem?_append_right (by rw [hf]; exact h'), hf]
      have hj2 : j - m < t.length * m := by rw [List.length_cons, Nat.add_mul, Nat.one_mul] at hj; omega
      rw [ih (j - m) hj2]
      have e1 : j / m = (j - m) / m + 1 := by rw [Nat.div_eq_sub_div hm h']
      have e2 : j % m = (j - m) % m := Nat.mod_eq_sub_mod h'
      simp only [e1, e2, List.getElem_cons_succ]
set_option maxRecDepth 100000 in
theorem open_seats {v : Value} {fuel : Nat} {x : DataW H × List MemPlace} (h : DataW.trod enc Tryz.prog W base spare held fuel 22 [v] = some x) : ∃ l : List St, HasSts W v l ∧ ∀ s ∈ l, FitS s := by
  rcases Go.Deep.open_slice Tryz.underlying22 h with ⟨hcs, _⟩ | ⟨a, l, c, m, n, D, Pl, hcs, _, hl, hm, hmm, _, hx⟩
  · injection hcs with e; subst e
    exact ⟨[], hasRow_nil _ _, by simp⟩
  · injection hcs with e; subst e
    have hlm : l ≤ m := by rw [hmm]; split <;> omega
    have hA : ∀ i, ∃ p : St, i < l → (∀ j, j < 4 → W.cell? (a.add (i * 4 + j)) = (stC p)[j]?) ∧ FitS p := fun i => by
      by_cases hi : i < l
      · obtain ⟨cs', h1, h2⟩ := hx i (by omega)
        rw [show Tryz.prog.cellsOf 70 = 4 from by kernel_rfl] at h1
        obtain ⟨_, hlen, hcell⟩ := World.cells?_some h1
        obtain ⟨v0, v1, v2, v3, rfl⟩ : ∃ v0 v1 v2 v3, cs' = [v0, v1, v2, v3] := by
          match cs', hlen with
          | [v0, v1, v2, v3], _ => exact ⟨v0, v1, v2, v3, rfl⟩
        obtain ⟨s, es, fs⟩ := open_st4 h2
        refine ⟨s, fun _ => ⟨fun j hj => ?_, fs⟩⟩
        rw [← es]
        have := hcell j hj
        rw [Go.Deep.add_add] at this
        rw [this]
      · exact ⟨zeroS, fun h => absurd h hi⟩
    obtain ⟨F, hF⟩ := Classical.axiomOfChoice hA
    refine ⟨(List.range l).map F, ?_, fun p hp => ?_⟩
    · unfold HasSts
      rw [List.length_map, List.length_range]
      refine row_of (by decide) hl hm (by rw [stCs_len]; simp) (fun j hj => ?_)
      have hj2 : j / 4 < l := by omega
      obtain ⟨hc, _⟩ := hF (j / 4) hj2
      show _ = (((List.range l).map F).flatMap stC)[j]?
      rw [flat_get stC 4 (by decide) (fun x => rfl) _ j (by simp; omega)]
      simp only [List.getElem_map, List.getElem_range]
      rw [← hc (j % 4) (by omega)]
      congr 2
      omega
    · obtain ⟨i, hi, rfl⟩ := List.mem_map.1 hp
      exact (hF i (List.mem_range.1 hi)).2
set_option maxRecDepth 100000 in
theorem open_events {v : Value} {fuel : Nat} {x : DataW H × List MemPlace} (h : DataW.trod enc Tryz.prog W base spare held fuel 26 [v] = some x) : ∃ l : List Ev, HasEvs W v l ∧ ∀ s ∈ l, FitE s := by
  rcases Go.Deep.open_slice Tryz.underlying26 h with ⟨hcs, _⟩ | ⟨a, l, c, m, n, D, Pl, hcs, _, hl, hm, hmm, _, hx⟩
  · injection hcs with e; subst e
    exact ⟨[], hasRow_nil _ _, by simp⟩
  · injection hcs with e; subst e
    have hlm : l ≤ m := by rw [hmm]; split <;> omega
    have hA : ∀ i, ∃ p : Ev, i < l → (∀ j, j < 12 → W.cell? (a.add (i * 12 + j)) = (evC p)[j]?) ∧ FitE p := fun i => by
      by_cases hi : i < l
      · obtain ⟨cs', h1, h2⟩ := hx i (by omega)
        rw [show Tryz.prog.cellsOf 38 = 12 from by kernel_rfl] at h1
        obtain ⟨_, hlen, hcell⟩ := World.cells?_some h1
        obtain ⟨v0, v1, v2, v3, v4, v5, v6, v7, v8, v9, v10, v11, rfl⟩ : ∃ v0 v1 v2 v3 v4 v5 v6 v7 v8 v9 v10 v11, cs' = [v0, v1, v2, v3, v4, v5, v6, v7, v8, v9, v10, v11] := by
          match cs', hlen with
          | [v0, v1, v2, v3, v4, v5, v6, v7, v8, v9, v10, v11], _ => exact ⟨v0, v1, v2, v3, v4, v5, v6, v7, v8, v9, v10, v11, rfl⟩
        obtain ⟨s, es, fs⟩ := open_ev12 h2
        refine ⟨s, fun _ => ⟨fun j hj => ?_, fs⟩⟩
        rw [← es]
        have := hcell j hj
        rw [Go.Deep.add_add] at this
        rw [this]
      · exact ⟨Msg.zeroE, fun h => absurd h hi⟩
    obtain ⟨F, hF⟩ := Classical.axiomOfChoice hA
    refine ⟨(List.range l).map F, ?_, fun p hp => ?_⟩
    · unfold HasEvs
      rw [List.length_map, List.length_range]
      refine row_of (by decide) hl hm (by rw [evCs_len]; simp) (fun j hj => ?_)
      have hj2 : j / 12 < l := by omega
      obtain ⟨hc, _⟩ := hF (j / 12) hj2
      show _ = (((List.range l).map F).flatMap evC)[j]?
      rw [flat_get evC 12 (by decide) (fun x => rfl) _ j (by simp; omega)]
      simp only [List.getElem_map, List.getElem_range]
      rw [← hc (j % 12) (by omega)]
      congr 2
      omega
    · obtain ⟨i, hi, rfl⟩ := List.mem_map.1 hp
      exact (hF i (List.mem_range.1 hi)).2
end
end Go.Proofs.YtkjhnefbcnnjlaaGreat.Ord
namespace Go.Proofs.YtkjhnefbcnnjlaaGreat.Nt
open Go.ChangeShapes Go.WideShapes Go.ChangeAt Go.RowKit
open Go.Proofs.YtkjhnefbcnnjlaaGreat.Lk (HasLks row_of flat_get Lk)
open Go.Proofs.YtkjhnefbcnnjlaaGreat.Tr (HasRts)
open Go.Proofs.YtkjhnefbcnnjlaaGreat.Fib
open Go.Proofs.YtkjhnefbcnnjlaaGreat.Ord (St HasSts)
theorem mem_all {H : Type} {P : Program} {e : TypeId} {d : DataW H} {n : Nat} (hn : n ∈ d.weights P e) : ∀ {l : List (DataW H)}, d ∈ l → n ∈ DataW.weightsAll P e l := by
  intro l
  induction l with
  | nil => intro h; cases h
  | cons x l ih =>
    intro h
    simp only [DataW.weightsAll, List.mem_append]
    rcases List.mem_cons.1 h with h | h
    · subst h; exact .inl hn
    · exact .inr (ih h)
section
variable {H : Type} {enc : TypeId × Value → H} {W : World} {base : Nat} {spare : Nat → Bool} {held : Bool}
theorem sts_small {v : Value} {fuel : Nat} {x : DataW H × List MemPlace} {zs : List St} (h : DataW.trod enc Tryz.prog W base spare held fuel 22 [v] = some x) (hs : HasSts W v zs) (hw : ∀ n ∈ x.1.weights Tryz.prog 22, n ≤ reachBytes) : zs.length * 32 ≤ reachBytes := by
  rcases Go.Deep.open_slice Tryz.underlying22 h with ⟨hcs, _⟩ | ⟨a, l, c, m, n, D, Pl, hcs, _, hl, hm, hmm, hx, hr⟩
  · injection hcs with e; subst e
    rcases hs.2 with ⟨_, h0⟩ | ⟨a, cap, e, _⟩
    · rw [h0]; exact Nat.zero_le _
    · cases e
  · injection hcs with e; subst e
    have hl2 : l = zs.length := by
      rcases hs.2 with ⟨e, _⟩ | ⟨a, cap, e, _⟩
      · cases e
      · injection e
    have := hw ((l + (m - l)) * 32) (by
      rw [hx]
      simp only [DataW.weights, Tryz.underlying22]
      rw [show Tryz.prog.bytesOf 70 = 32 by kernel_rfl]
      simp)
    rw [← hl2]
    exact Nat.le_trans (Nat.mul_le_mul_right 32 (Nat.le_add_right _ _)) this
set_option maxRecDepth 100000 in
theorem open_ro4_s {i o s c : Value} {fuel : Nat} {d : DataW H × List MemPlace} (hf : DataW.trod enc Tryz.prog W base spare held fuel 51 [i, o, s, c] = some d) (hw0 : ∀ n ∈ d.1.weights Tryz.prog 51, n ≤ reachBytes) :
    ∃ R : Ro, i = .int .i64 R.id ∧ o = .bool R.up ∧ HasRts W s R.rts ∧ HasLks W c R.lks ∧ FitRo R ∧ R.rts.length * 48 ≤ 140737488351232 ∧ R.lks.length * 16 ≤ 140737488351232 := by
  obtain ⟨xs, n, _, hxx, hlen, hxl, hfs⟩ := DataW.trod_struct Tryz.underlying51 hf
  have g0 : DataW.trod enc Tryz.prog W base spare held n 3 ((([i, o, s, c] : List Value).drop 0).take (Tryz.prog.cellsOf 3)) = xs[0]? := hfs 0 _ rfl
  have g1 : DataW.trod enc Tryz.prog W base spare held n 4 ((([i, o, s, c] : List Value).drop 1).take (Tryz.prog.cellsOf 4)) = xs[1]? := hfs 1 _ rfl
  have g2 : DataW.trod enc Tryz.prog W base spare held n 48 ((([i, o, s, c] : List Value).drop 2).take (Tryz.prog.cellsOf 48)) = xs[2]? := hfs 2 _ rfl
  have g3 : DataW.trod enc Tryz.prog W base spare held n 49 ((([i, o, s, c] : List Value).drop 3).take (Tryz.prog.cellsOf 49)) = xs[3]? := hfs 3 _ rfl
  have hx4 : xs.length = 4 := hxl
  have hd : d.1 = .agg (xs.map (·.1)) := by rw [hxx]
  have part : ∀ (i : Nat) (t : TypeId) (hi : i < xs.length), ([3, 4, 48, 49] : List TypeId)[i]? = some t → ∀ m ∈ (xs[i]).1.weights Tryz.prog t, m ≤ reachBytes := by
    intro i t hi ht m hm
    refine hw0 m ?_
    rw [hd]
    simp only [DataW.weights, Tryz.underlying51]
    exact DataW.weights_mem_each (ts := [3, 4, 48, 49]) (j := i) ht (by rw [List.getElem?_map, List.getElem?_eq_getElem hi]; rfl) m hm
  have w2 := part 2 48 (by omega) rfl
  have w3 := part 3 49 (by omega) rfl
  rw [List.getElem?_eq_getElem (by omega)] at g0 g1 g2 g3
  rw [show Tryz.prog.cellsOf 3 = 1 from by kernel_rfl] at g0
  rw [show Tryz.prog.cellsOf 4 = 1 from by kernel_rfl] at g1
  rw [show Tryz.prog.cellsOf 48 = 1 from by kernel_rfl] at g2
  rw [show Tryz.prog.cellsOf 49 = 1 from by kernel_rfl] at g3
  obtain ⟨zs, hs, hzl⟩ := Tr.open_routes (v := s) g2
  obtain ⟨qs, hp, hql⟩ := Lk.open_links (v := c) g3
  have z1 := rts_small (v := s) g2 hs w2
  have z2 := lks_small (v := c) g3 hp w3
  obtain ⟨fu, e2, _, hw⟩ := DataW.trod_int Tryz.underlying3 g0
  obtain ⟨ob, e3, _⟩ := DataW.trod_bool Tryz.underlying4 g1
  have e2' : i = .int .i64 fu := by injection e2
  have e3' : o = .bool ob := by injection e3
  have hr : reachBytes = 140737488351232 := by decide
  rw [hr] at z1 z2
  exact ⟨⟨fu, ob, zs, qs⟩, e2', e3', hs, hp, ⟨Lk.wfi hw, hzl, hql⟩, z1, z2⟩
set_option maxRecDepth 100000 in
theorem open_routers_s {v : Value} {fuel : Nat} {x : DataW H × List MemPlace} (h : DataW.trod enc Tryz.prog W base spare held fuel 23 [v] = some x) (hw : ∀ n ∈ x.1.weights Tryz.prog 23, n ≤ reachBytes) : ∃ L : List Ro, HasRos W v L ∧ L.length * 64 ≤ reachBytes ∧ ∀ R ∈ L, FitRo R ∧ R.rts.length * 48 ≤ 140737488351232 ∧ R.lks.length * 16 ≤ 140737488351232 := by
  rcases Go.Deep.open_slice Tryz.underlying23 h with ⟨hcs, _⟩ | ⟨a, l, c, m, n, D, Pl, hcs, _, hl, hm, hmm, hxx, hx⟩
  · injection hcs with e; subst e
    exact ⟨[], hasRos_nil _, Nat.zero_le _, by simp⟩
  · injection hcs with e; subst e
    have hlm : l ≤ m := by rw [hmm]; split <;> omega
    have hwm : ∀ n ∈ (DataW.slice ((List.range l).map D) ((List.range (m - l)).map fun j => D (l + j))).weights Tryz.prog 23, n ≤ reachBytes := by rw [hxx] at hw; exact hw
    simp only [DataW.weights, Tryz.underlying23] at hwm
    have hsz := hwm _ List.mem_cons_self
    rw [show Tryz.prog.bytesOf 51 = 64 by kernel_rfl] at hsz
    simp only [List.length_map, List.length_range] at hsz
    have hwi : ∀ i, i < l → ∀ n ∈ (D i).weights Tryz.prog 51, n ≤ reachBytes := fun i hi n hn => hwm n (List.mem_cons_of_mem _ (List.mem_append_left _ (mem_all hn (List.mem_map.2 ⟨i, List.mem_range.2 hi, rfl⟩))))
    have hA : ∀ i, ∃ p : RoM, i < l → (∀ j, j < 4 → W.cell? (a.add (i * 4 + j)) = (roC p)[j]?) ∧ RowsOf W p ∧ FitRo p.ro ∧ p.ro.rts.length * 48 ≤ 140737488351232 ∧ p.ro.lks.length * 16 ≤ 140737488351232 := fun i => by
      by_cases hi : i < l
      · obtain ⟨cs', h1, h2⟩ := hx i (by omega)
        rw [show Tryz.prog.cellsOf 51 = 4 from by kernel_rfl] at h1
        obtain ⟨_, hlen, hcell⟩ := World.cells?_some h1
        obtain ⟨c0, c1, c2, c3, rfl⟩ : ∃ c0 c1 c2 c3, cs' = [c0, c1, c2, c3] := by
          match cs', hlen with
          | [c0, c1, c2, c3], _ => exact ⟨c0, c1, c2, c3, rfl⟩
        obtain ⟨R, e0, e1, r1, r2, fR⟩ := open_ro4_s h2 (hwi i hi)
        refine ⟨⟨R, c2, c3⟩, fun _ => ⟨fun j hj => ?_, ⟨r1, r2⟩, fR⟩⟩
        have hh : roC ⟨R, c2, c3⟩ = [c0, c1, c2, c3] := by rw [e0, e1]; rfl
        rw [hh]
        have := hcell j hj
        rw [Go.Deep.add_add] at this
        rw [this]
      · exact ⟨⟨zeroRo, .bool false, .bool false⟩, fun h => absurd h hi⟩
    obtain ⟨F, hF⟩ := Classical.axiomOfChoice hA
    refine ⟨rosOf ((List.range l).map F), ⟨(List.range l).map F, rfl, ?_, fun p hp => ?_⟩, ?_, fun R hR => ?_⟩
    · rw [List.length_map, List.length_range]
      refine row_of (by decide) hl hm (by rw [roCs_len]; simp) (fun j hj => ?_)
      have hj2 : j / 4 < l := by omega
      obtain ⟨hc, _⟩ := hF (j / 4) hj2
      show _ = (((List.range l).map F).flatMap roC)[j]?
      rw [flat_get roC 4 (by decide) (fun x => rfl) _ j (by simp; omega)]
      simp only [List.getElem_map, List.getElem_range]
      rw [← hc (j % 4) (by omega)]
      congr 2
      omega
    · obtain ⟨i, hi, rfl⟩ := List.mem_map.1 hp
      exact (hF i (List.mem_range.1 hi)).2.1
    · unfold rosOf
      rw [List.length_map, List.length_map, List.length_range]
      omega
    · unfold rosOf at hR
      obtain ⟨p, hp, rfl⟩ := List.mem_map.1 hR
      obtain ⟨i, hi, rfl⟩ := List.mem_map.1 hp
      exact (hF i (List.mem_range.1 hi)).2.2
set_option maxRecDepth 100000 in
theorem open_net2_s {s c : Value} {fuel : Nat} {d : DataW H × List MemPlace} (hf : DataW.trod enc Tryz.prog W base spare held fuel 25 [s, c] = some d) (hw0 : ∀ n ∈ d.1.weights Tryz.prog 25, n ≤ reachBytes) : ∃ n : NetT, HasSts W s n.seats ∧ HasRos W c n.ros ∧ FitN n ∧ n.seats.length * 32 ≤ 140737488351232 ∧ n.ros.length * 64 ≤ 140737488351232 ∧ ∀ R ∈ n.ros, R.rts.length * 48 ≤ 140737488351232 ∧ R.lks.length * 16 ≤ 140737488351232 := by
  obtain ⟨xs, n, _, hxx, hlen, hxl, hfs⟩ := DataW.trod_struct Tryz.underlying25 hf
  have g0 : DataW.trod enc Tryz.prog W base spare held n 22 ((([s, c] : List Value).drop 0).take (Tryz.prog.cellsOf 22)) = xs[0]? := hfs 0 _ rfl
  have g1 : DataW.trod enc Tryz.prog W base spare held n 23 ((([s, c] : List Value).drop 1).take (Tryz.prog.cellsOf 23)) = xs[1]? := hfs 1 _ rfl
  have hx4 : xs.length = 2 := hxl
  have hd : d.1 = .agg (xs.map (·.1)) := by rw [hxx]
  have part : ∀ (i : Nat) (t : TypeId) (hi : i < xs.length), ([22, 23] : List TypeId)[i]? = some t → ∀ m ∈ (xs[i]).1.weights Tryz.prog t, m ≤ reachBytes := by
    intro i t hi ht m hm
    refine hw0 m ?_
    rw [hd]
    simp only [DataW.weights, Tryz.underlying25]
    exact DataW.weights_mem_each (ts := [22, 23]) (j := i) ht (by rw [List.getElem?_map, List.getElem?_eq_getElem hi]; rfl) m hm
  have w0 := part 0 22 (by omega) rfl
  have w1 := part 1 23 (by omega) rfl
  rw [List.getElem?_eq_getElem (by omega)] at g0 g1
  rw [show Tryz.prog.cellsOf 22 = 1 from by kernel_rfl] at g0
  rw [show Tryz.prog.cellsOf 23 = 1 from by kernel_rfl] at g1
  obtain ⟨zs, hs, hzl⟩ := Ord.open_seats (v := s) g0
  obtain ⟨qs, hp, hqs, hql⟩ := open_routers_s (v := c) g1 w1
  have z0 := sts_small (v := s) g0 hs w0
  have hr : reachBytes = 140737488351232 := by decide
  rw [hr] at z0 hqs
  exact ⟨⟨zs, qs⟩, hs, hp, ⟨hzl, fun R hR => (hql R hR).1⟩, z0, hqs, fun R hR => (hql R hR).2⟩
set_option maxRecDepth 100000 in
theorem open_net_s {v : Value} {d : DataW H} {ps : List MemPlace} {r : Reach} {b0 : Nat} (hval : Value.okWide Tryz.prog W r b0 25 v) (h : DataW.Trod enc Tryz.prog W base spare held 25 v d ps) (hw0 : ∀ n ∈ d.weights Tryz.prog 25, n ≤ reachBytes) : ∃ (n : NetT) (a b : Value), v = .agg #[a, b] ∧ HasSts W a n.seats ∧ HasRos W b n.ros ∧ FitN n ∧ n.seats.length * 32 ≤ 140737488351232 ∧ n.ros.length * 64 ≤ 140737488351232 ∧ ∀ R ∈ n.ros, R.rts.length * 48 ≤ 140737488351232 ∧ R.lks.length * 16 ≤ 140737488351232 := by
  obtain ⟨cs, rfl, hsz⟩ := okWide_struct Tryz.underlying25 hval
  obtain ⟨fuel, hf⟩ := h
  rw [show Tryz.prog.cellsOf 25 = 2 from by kernel_rfl] at hsz
  obtain ⟨s, c, rfl⟩ : ∃ s c, cs = #[s, c] := by
    obtain ⟨l⟩ := cs
    match l, hsz with
    | [s, c], _ => exact ⟨s, c, rfl⟩
  obtain ⟨n, h1, h2, h3⟩ := open_net2_s hf hw0
  exact ⟨n, s, c, rfl, h1, h2, h3⟩
end
end Go.Proofs.YtkjhnefbcnnjlaaGreat.Nt
