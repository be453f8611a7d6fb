/- slices.Compact, of addresses that do not fall, in a row that the caller owns. -/
import Derived.Test.YtmkbijnndbgjgaaCtCompM
import Derived.Test.YtmkbijnndbgjgaaAddrCheck
import Derived.Laws.OwnMore
import Derived.Lib.SliceRun
set_option linter.unusedVariables false
namespace Go.Proofs.Ytmkbijnndbgjgaa.Ct
open Go.RowKit
open Go.Proofs.Ytmkbijnndbgjgaa.Addr (hiN loN adV ad_eql ad_neq ad_guard RowAt below2 below_drew below_new bset RowAt.lt RowAt.cell RowAt.frozen RowAt.below RowAt.drew RowAt.new RowAt.alloc cells2)
open Go.Proofs.Ytmkbijnndbgjgaa.Lk (hasRow_own)
attribute [-go_sem] Builtin.append_
theorem info_ad : (Try.prog.info? 95).map (fun i => (i.zero, i.size, i.bytes)) = some (some (.agg #[.int .u64 0, .int .u64 0]), 2, 16) := by kernel_rfl
theorem info_parts {e sz by' : Nat} {z : Value} (h : (Try.prog.info? e).map (fun i => (i.zero, i.size, i.bytes)) = some (some z, sz, by')) : ∃ i, Try.prog.info? e = some i ∧ i.zero = some z ∧ i.size = sz ∧ i.bytes = by' := by
  cases hi : Try.prog.info? e with
  | none => rw [hi] at h; cases h
  | some i =>
    rw [hi] at h
    simp only [Option.map_some, Option.some.injEq, Prod.mk.injEq] at h
    exact ⟨i, rfl, h.1, h.2.1, h.2.2⟩
theorem own_below {W W' : World} {m e size k : Nat} {v : Value} {xs : List Value} (h : W.ownsRow m e size v k xs) (hb : Below W.heap.size W W') : W'.ownsRow m e size v k xs := by
  refine ⟨h.1, ?_⟩
  rcases h.2 with h0 | ⟨g, cap, cur, e1, hg, hgb, rest⟩
  · exact .inl h0
  · exact .inr ⟨g, cap, cur, e1, hg, by rw [hb.block g (Array.getElem?_eq_some_iff.1 hgb).1]; exact hgb, rest⟩
theorem own_cut {W : World} {B e sz g n cap m : Nat} {xs : List Value} (h : W.ownsRow B e sz (.slice (some ⟨g, 0, none⟩) n cap) n xs) (hm : m ≤ n) : W.ownsRow B e sz (.slice (some ⟨g, 0, none⟩) m cap) m (xs.take (m * sz)) := by
  have hmn : m * sz ≤ n * sz := Nat.mul_le_mul_right sz hm
  refine ⟨by rw [List.length_take, h.1]; omega, ?_⟩
  rcases h.2 with ⟨e0, _⟩ | ⟨g', cap', cur, e1, hg, hgb, hnc, hcm, hcs, htk⟩
  · cases e0
  · injection e1 with e1 _ e3
    injection e1 with e1
    injection e1 with e1
    subst e1 e3
    exact .inr ⟨g, cap, cur, rfl, hg, hgb, Nat.le_trans hm hnc, hcm, hcs, by rw [← htk, List.take_take, Nat.min_eq_left hmn]⟩
theorem own_put2 {W : World} {B e gr n cap q : Nat} {xs : List Value} (h : W.ownsRow B e 2 (.slice (some ⟨gr, 0, none⟩) n cap) n xs) (v0 v1 : Value) (Z : World) (hZ : Z = (W.setCell ⟨gr, q * 2, none⟩ v0).setCell ⟨gr, q * 2 + 1, none⟩ v1) : Z.ownsRow B e 2 (.slice (some ⟨gr, 0, none⟩) n cap) n ((xs.set (q * 2) v0).set (q * 2 + 1) v1) ∧ W.grownBy Z (some gr) := by
  have s1 := h.stored (q * 2) v0
  have s2 := (s1.1).stored (q * 2 + 1) v1
  subst hZ
  exact ⟨s2.1, ⟨s2.2.os.trans s1.2.os, s2.2.tape.trans s1.2.tape, s2.2.output.trans s1.2.output, Nat.le_trans s1.2.size s2.2.size, fun j hj hn => (s2.2.block j (Nat.lt_of_lt_of_le hj s1.2.size) hn).trans (s1.2.block j hj hn)⟩⟩
def zeroCs : Array Value := #[.int .u64 0, .int .u64 0]
def zerosA (n : Nat) : List Value := (Builtin.zeroCells zeroCs n).toList
theorem zeros_len (n : Nat) : (zerosA n).length = n * 2 := by
  unfold zerosA Builtin.zeroCells
  simp [show zeroCs.size = 2 from rfl]
theorem zeros_one (n : Nat) : ∀ v ∈ zerosA n, v.oneCell' = true := by
  intro v hv
  unfold zerosA Builtin.zeroCells at hv
  simp only [Array.toList_map, List.mem_map, show zeroCs.size = 2 from rfl] at hv
  obtain ⟨i, _, rfl⟩ := hv
  have key : ∀ r, r < 2 → (zeroCs[r]!).oneCell' = true := by decide
  exact key _ (Nat.mod_lt _ (by decide))
theorem own_sets {B e sz g n cap : Nat} : ∀ (vs : List Value) (o : Nat) {W : World} {xs : List Value}, W.ownsRow B e sz (.slice (some ⟨g, 0, none⟩) n cap) n xs → ∃ ys, (W.setCells g o vs).ownsRow B e sz (.slice (some ⟨g, 0, none⟩) n cap) n ys ∧ ys.take o = xs.take o ∧ W.grownBy (W.setCells g o vs) (some g)
  | [], o, W, xs, h => ⟨xs, h, rfl, ⟨rfl, rfl, rfl, Nat.le_refl _, fun _ _ _ => rfl⟩⟩
  | v :: vs, o, W, xs, h => by
    obtain ⟨s1, s2⟩ := h.stored o v
    obtain ⟨ys, h1, h2, h3⟩ := own_sets vs (o + 1) s1
    refine ⟨ys, h1, ?_, ?_⟩
    · have := congrArg (List.take o) h2
      rw [List.take_take, List.take_take, Nat.min_eq_left (by omega)] at this
      rw [this, List.take_set, List.set_eq_of_length_le (by rw [List.length_take]; omega)]
    · exact ⟨h3.os.trans s2.os, h3.tape.trans s2.tape, h3.output.trans s2.output, Nat.le_trans s2.size h3.size, fun j hj hn => (h3.block j (Nat.lt_of_lt_of_le hj s2.size) hn).trans (s2.block j hj hn)⟩
/-- an owned row's cells -/
theorem own_cells {W : World} {B g n cap j : Nat} {M : List Nat} (h : W.ownsRow B 95 2 (.slice (some ⟨g, 0, none⟩) n cap) n (adCs M)) (hM : M.length = n) (hj : j < M.length) : W.cell? ⟨g, j * 2, none⟩ = some (.int .u64 (hiN M[j] : Int)) ∧ W.cell? ⟨g, j * 2 + 1, none⟩ = some (.int .u64 (loN M[j] : Int)) := by
  have h2 := adCs_at M j hj
  exact ⟨by rw [h.cellAt (j * 2) (by omega), Nat.mul_comm]; exact h2.1, by rw [h.cellAt (j * 2 + 1) (by omega), Nat.mul_comm]; exact h2.2⟩
theorem own_drew {W : World} {m e size k : Nat} {v : Value} {xs : List Value} (h : W.ownsRow m e size v k xs) (n : Nat) : (W.drewN n).ownsRow m e size v k xs := h
end Go.Proofs.Ytmkbijnndbgjgaa.Ct
