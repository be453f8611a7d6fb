/- slices.Insert of one link into a row that the caller owns. -/
import Derived.Test.YtedgmnnbmonhkaaLkDelA
import Derived.Lib.Overlaps
import Derived.Lib.AppendZerosOnto
import Derived.Lib.SlBuf
set_option linter.unusedVariables false
namespace Go.Proofs.Ytedgmnnbmonhkaa.Lk
open Go.RowKit
open Go.Proofs.Ytedgmnnbmonhkaa.Addr (RowAt below2 below_drew below_new bset RowAt.lt RowAt.cell RowAt.frozen RowAt.below RowAt.drew RowAt.new RowAt.alloc cells2)
attribute [-go_sem] Builtin.append_
/-- copy, as one step of a region whose order is drawn -/
theorem copy_step {ops : Array Oper} {o : Oper} {a : Act} {w : World} {K : Act → World → Prop} {Q : Exit → Act → World → Prop} {E : Prop} (hg : o.guard = none) (d s : Operand) (t t' : TypeId)
    (ho : o.op = .call { callee := .builtin .copy, args := #[d, s], argTypes := #[t, t'] }) {v u : Value} (hd : a.eval d = v) (hs : a.eval s = u) {v' : Value} {w' : World}
    (hr : (Builtin.copy_ #[t, t'] o.type #[v, u]).run Try.prog w = .ok v' w') (hK : K (a.put o.dst v') w') : if Region.wanted o (yielded ops a.tmps) = true then Oper.wp Try.prog o a w K Q else E := by
  rw [if_pos (by simp [Region.wanted, hg])]
  simp [Oper.wp, execOp, ho, resolve, invoke, builtin, hd, hs, hr, Result.andThen]
  exact hK
/-- a row that is copied into a row that is owned -/
theorem own_copy {e sz : Nat} {dT : TypeId} (hu : Try.prog.underlying dT = some (.slice e)) (hs : (Try.prog.info? e).map (·.size) = some sz) {W : World} {B g n cap : Nat} {xs : List Value} (h : W.ownsRow B e sz (.slice (some ⟨g, 0, none⟩) n cap) n xs)
    (o dLen dCap : Nat) (a : Addr) (sLen sCap k : Nat) (cs : List Value) (hk : Nat.min sLen dLen = k) (hl : cs.length = k * sz) (hok : o * sz + k * sz ≤ n * sz) (hsrc : ∀ j v, cs[j]? = some v → W.cell? (a.add j) = some v) (h1 : ∀ v ∈ cs, v.oneCell' = true) :
    ∃ W', (∀ sT ty, (Builtin.copy_ #[dT, sT] ty #[.slice (some ⟨g, o * sz, none⟩) dLen dCap, .slice (some a) sLen sCap]).run Try.prog W = .ok (goInt k) W') ∧ W'.ownsRow B e sz (.slice (some ⟨g, 0, none⟩) n cap) n (xs.take (o * sz) ++ cs ++ xs.drop (o * sz + k * sz)) ∧ W.grownBy W' (some g) := by
  rcases h.2 with ⟨e0, _⟩ | ⟨g', cap', cur, e1, hg, hgb, hnc, hcm, hcs, htk⟩
  · cases e0
  · injection e1 with e1 _ e3
    injection e1 with e1
    injection e1 with e1
    subst e1 e3
    have hnn : n * sz ≤ cur.size := by rw [hcs]; exact Nat.mul_le_mul_right _ hnc
    have hld := run_loadCells_list (P := Try.prog) W a cs hsrc
    have hst := run_storeCells_at Try.prog g (o * sz) e cs 0 cur W hgb (by omega) h1
    refine ⟨W.setRow g (cur.toList.take (o * sz) ++ cs ++ cur.toList.drop (o * sz + cs.length)).toArray, fun sT ty => ?_, ?_, ?_⟩
    · cases hq : Try.prog.info? e with
      | none => simp [hq] at hs
      | some i =>
        have hi : i.size = sz := by simpa [hq] using hs
        rw [hl] at hld
        simp only [Nat.add_zero] at hst
        simp [Builtin.copy_, run_underlying hu, Builtin.lenOf, Builtin.firstCells, sizeOf, typeInfo, hq, hi, hk, hld, hst]
    · refine ⟨?_, .inr ⟨g, cap, _, rfl, hg, setRow_heap W g cur _ e _ hgb, hnc, hcm, ?_, ?_⟩⟩
      · have := h.1
        simp only [List.length_append, List.length_take, List.length_drop]
        omega
      · simp only [List.size_toArray, List.length_append, List.length_take, List.length_drop, Array.length_toList]
        omega
      · rw [← htk]
        simp only [List.take_append, List.length_append, List.length_take, Array.length_toList, List.take_take, List.drop_take]
        rw [Nat.min_eq_left (show o * sz ≤ cur.size by omega), Nat.min_eq_right (show o * sz ≤ n * sz by omega), Nat.min_eq_left (show o * sz ≤ n * sz by omega), List.take_of_length_le (show cs.length ≤ n * sz - o * sz by omega), hl]
    · exact ⟨rfl, rfl, rfl, by simp [World.setRow], fun k _ hk => by simp only [World.setRow]; rw [Array.getElem?_modify]; split; (rename_i h0; exact absurd (by rw [h0]) hk); rfl⟩
/-- one element more of a row that has room -/
theorem own_more {W : World} {B e sz g n cap : Nat} {xs : List Value} (h : W.ownsRow B e sz (.slice (some ⟨g, 0, none⟩) n cap) n xs) (hr : n + 1 ≤ cap) : ∃ ys, ys.length = sz ∧ W.ownsRow B e sz (.slice (some ⟨g, 0, none⟩) (n + 1) cap) (n + 1) (xs ++ ys) := by
  rcases h.2 with ⟨e0, _⟩ | ⟨g', cap', cur, e1, hg, hgb, hnc, hcm, hcs, htk⟩
  · cases e0
  · injection e1 with e1 _ e3
    injection e1 with e1
    injection e1 with e1
    subst e1 e3
    have h1 : (n + 1) * sz ≤ cur.size := by rw [hcs]; exact Nat.mul_le_mul_right _ hr
    have h2 : (n + 1) * sz = n * sz + sz := Nat.succ_mul _ _
    have h3 : cur.toList.take ((n + 1) * sz) = xs ++ (cur.toList.drop (n * sz)).take sz := by rw [h2, List.take_add, htk]
    refine ⟨(cur.toList.drop (n * sz)).take sz, ?_, ?_, .inr ⟨g, cap, cur, rfl, hg, hgb, hr, hcm, hcs, h3⟩⟩
    · rw [List.length_take, List.length_drop, Array.length_toList]; omega
    · rw [← h3, List.length_take, Array.length_toList]; omega
end Go.Proofs.Ytedgmnnbmonhkaa.Lk
