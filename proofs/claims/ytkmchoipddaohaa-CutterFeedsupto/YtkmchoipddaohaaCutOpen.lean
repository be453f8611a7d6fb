/- Cutters that came in as arguments. -/
import Derived.Test.YtkmchoipddaohaaRows
import Derived.Test.YtkmchoipddaohaaCutFeed
import Derived.ProofKit
import Derived.OpenShut
import Derived.SizedLaws
set_option linter.unusedVariables false
namespace Go.Proofs.Ytkmchoipddaohaa.Cut
open Go.ChangeShapes Go.WideShapes Go.ChangeAt Go.RowKit
section
variable {H : Type} {enc : TypeId × Value → H} {W : World} {base : Nat} {spare : Nat → Bool} {held : Bool}
theorem wfi64 {n : Int} (h : Lit.wf (.int .i64 n)) : -9223372036854775808 ≤ n ∧ n ≤ 9223372036854775807 := by simpa [Lit.wf, IntKind.min, IntKind.max, IntKind.signed, IntKind.bits] using h
set_option maxRecDepth 100000 in
theorem open_cut {v : Value} {d : DataW H} {ps : List MemPlace} {r : Reach} {b0 : Nat} (hval : Value.okWide Try.prog W r b0 23 v) (h : DataW.Trod enc Try.prog W base spare held 23 v d ps) : ∃ c : Ct, v = ctV c ∧ (-9223372036854775808 ≤ c.skip ∧ c.skip ≤ 9223372036854775807) ∧ ∃ parts, d = .agg parts ∧ parts[0]? = some (.lit (.string c.rest)) := by
  obtain ⟨cs, rfl, hsz⟩ := okWide_struct Try.underlying23 hval
  obtain ⟨fuel, hf⟩ := h
  obtain ⟨xs, n, _, hd, hlen, hxl, hfs⟩ := DataW.trod_struct Try.underlying23 hf
  rw [show Try.prog.cellsOf 23 = 3 from by kernel_rfl] at hsz
  obtain ⟨s, c, f, rfl⟩ : ∃ s c f, cs = #[s, c, f] := by
    obtain ⟨l⟩ := cs
    match l, hsz with
    | [s, c, f], _ => exact ⟨s, c, f, rfl⟩
  have g0 : DataW.trod enc Try.prog W base spare held n 9 ((([s, c, f] : List Value).drop 0).take (Try.prog.cellsOf 9)) = xs[0]? := hfs 0 _ rfl
  have g1 : DataW.trod enc Try.prog W base spare held n 4 ((([s, c, f] : List Value).drop 1).take (Try.prog.cellsOf 4)) = xs[1]? := hfs 1 _ rfl
  have g2 : DataW.trod enc Try.prog W base spare held n 3 ((([s, c, f] : List Value).drop 2).take (Try.prog.cellsOf 3)) = xs[2]? := hfs 2 _ rfl
  have hx3 : xs.length = 3 := hxl
  have h0 : xs[0]? = some xs[0] := List.getElem?_eq_getElem (by omega)
  rw [List.getElem?_eq_getElem (by omega)] at g0 g1 g2
  rw [show Try.prog.cellsOf 9 = 1 from by kernel_rfl] at g0
  rw [show Try.prog.cellsOf 4 = 1 from by kernel_rfl] at g1
  rw [show Try.prog.cellsOf 3 = 1 from by kernel_rfl] at g2
  obtain ⟨B, e1, hx, _⟩ := DataW.trod_string Try.underlying9 g0
  obtain ⟨ob, e3, _⟩ := DataW.trod_bool Try.underlying4 g1
  obtain ⟨fu, e2, _, hw⟩ := DataW.trod_int Try.underlying3 g2
  have e1' : s = .string B := by injection e1
  have e2' : f = .int .i64 fu := by injection e2
  have e3' : c = .bool ob := by injection e3
  subst e1' e2' e3'
  obtain ⟨l, rfl, hl⟩ := str_list B
  refine ⟨⟨l, ob, fu⟩, rfl, wfi64 hw, xs.map (·.1), congrArg Prod.fst hd, ?_⟩
  rw [List.getElem?_map, h0, hx]
  simp
end
/-- a slice of texts that came in -/
def HasStrs (W : World) (v : Value) (zs : List (List UInt8)) : Prop :=
  ∃ o cap, v = .slice o zs.length cap ∧ ∀ j (hj : j < zs.length), ∃ b i, o = some ⟨b, i, none⟩ ∧ W.cell? ⟨b, i + j, none⟩ = some (strV zs[j]) ∧ b < W.heap.size
theorem HasStrs.keep {W W' : World} {v : Value} {zs : List (List UInt8)} (h : HasStrs W v zs) (hb : Below W.heap.size W W') : HasStrs W' v zs := by
  obtain ⟨o, cap, e, h⟩ := h
  refine ⟨o, cap, e, fun j hj => ?_⟩
  obtain ⟨b, i, e2, hc, hlt⟩ := h j hj
  exact ⟨b, i, e2, by rw [← hc]; exact hb.cell (p := ⟨b, i + j, none⟩) hlt, Nat.lt_of_lt_of_le hlt hb.size⟩
theorem HasStrs.cell {W : World} {o : Option Addr} {n cap : Nat} {zs : List (List UInt8)} (h : HasStrs W (.slice o n cap) zs) (j : Nat) (hj : j < zs.length) : ∃ b i, o = some ⟨b, i, none⟩ ∧ b < W.heap.size ∧ W.cell? ⟨b, i + j, none⟩ = some (strV zs[j]) := by
  obtain ⟨o', cap', e, h⟩ := h
  injection e with e1 e2 e3
  subst e1
  obtain ⟨b, i, e2, hc, hlt⟩ := h j hj
  exact ⟨b, i, e2, hlt, hc⟩
def IsStrsS (w : World) (a : Option Addr) (len cap : Nat) (zs : List (List UInt8)) : Prop :=
  HasStrs w (.slice a len cap) zs ∧ len = zs.length ∧ len ≤ cap ∧ cap ≤ 9223372036854775807 ∧ (∀ z ∈ zs, z.length ≤ 9223372036854775807) ∧ len * 16 ≤ 140737488351232 ∧ (a = none → cap = 0)
theorem isStrsS_nil (w : World) : IsStrsS w none 0 0 [] := ⟨⟨none, 0, rfl, fun j hj => by simp at hj⟩, rfl, Nat.le_refl _, by decide, by simp, by decide, fun _ => rfl⟩
theorem isStrsS_of {w : World} {a : Addr} {len cap : Nat} {Sx : Nat → ByteArray} (hl : len ≤ cap) (hm : cap ≤ maxLen) (h : ∀ i, i < len → w.cell? (a.add i) = some (.string (Sx i)) ∧ (Sx i).size ≤ maxLen) (hs : len * 16 ≤ 140737488351232) :
    IsStrsS w (some a) len cap ((List.range len).map fun i => (Sx i).data.toList) := by
  unfold maxLen at hm
  refine ⟨⟨some a, cap, by simp, fun j hj => ?_⟩, by simp, hl, hm, fun z hz => ?_, hs, fun e => by cases e⟩
  · have hj' : j < len := by simpa using hj
    obtain ⟨b, off, spot⟩ := a
    have hspot : spot = none := by simpa [Addr.add] using World.cell?_spot (h 0 (by omega)).1
    subst hspot
    have h1 := (h j hj').1
    rw [addr_add] at h1
    refine ⟨b, off, rfl, ?_, ?_⟩
    · rw [h1]; simp [strV]
    · rcases Nat.lt_or_ge b w.heap.size with h' | h'
      · exact h'
      · simp [World.cell?, Array.getElem?_eq_none h'] at h1
  · obtain ⟨i, hi, rfl⟩ := List.mem_map.1 hz
    have := (h i (by simpa using hi)).2
    unfold maxLen at this
    simpa using this
/-- a row of pieces put behind an owned one -/
theorem append_pcs {W : World} {n₀ k : Nat} {v u : Value} {xs : List Value} {ps : List PcT} (hown : W.ownsRow n₀ 38 2 v k xs) (hsrc : HasPcs W u ps) (hb : (k + ps.length) * 24 ≤ 140737488355328) (hn : n₀ ≤ W.heap.size) :
    ∃ v' w3, (∀ ty, (Builtin.append_ #[24, 24] ty #[v, u]).run Try.prog W = .ok v' w3) ∧ w3.ownsRow n₀ 38 2 v' (k + ps.length) (xs ++ pcCs ps) ∧ W.grownBy w3 v.ownBlock := by
  obtain ⟨i0, hi0, hz0, hz1, hz2⟩ := info_parts info_pc
  rcases hsrc.2 with ⟨rfl, h0⟩ | ⟨a, cap, rfl, g1, g2, g3, g4⟩
  · obtain rfl : ps = [] := List.eq_nil_of_length_eq_zero h0
    have := fun ty => run_append_owned_none (P := Try.prog) W n₀ 24 ty 38 i0 2 Try.underlying24 hi0 v k xs hown
    exact ⟨v, W, this, by simpa [pcCs] using hown, World.grownBy.refl _ _⟩
  · have h := run_append_own (P := Try.prog) W n₀ 24 0 38 i0 (.agg #[.int .u8 0, .string ⟨#[]⟩]) 2 24 Try.underlying24 hi0 hz0 hz1 hz2 rfl (by decide) v k xs hown a ps.length cap (pcCs ps) hsrc.1
      (fun j x hj => by rw [g4 j (by rw [← hsrc.1]; exact (List.getElem?_eq_some_iff.1 hj).1)]; exact hj)
      (fun x hx => by
        obtain ⟨p, _, h⟩ := List.mem_flatMap.1 hx
        simp only [pcC, strV, List.mem_cons, List.not_mem_nil, or_false] at h
        rcases h with rfl | rfl <;> rfl) (by unfold maxLen; omega) hb hn
    obtain ⟨v', w3, hrun, k1, k2, _⟩ := h
    exact ⟨v', w3, fun ty => hrun, k1, k2⟩
end Go.Proofs.Ytkmchoipddaohaa.Cut
