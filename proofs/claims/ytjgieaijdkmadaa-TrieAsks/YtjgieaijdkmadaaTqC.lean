/- Rows of links, and of numbers, that are one. -/
import Derived.Test.YtjgieaijdkmadaaLkBase
import Derived.BigQuiet
import Derived.Deep.AppendLies
import Derived.Shelf.Slices.Clone
import Derived.Laws.Cover3
import Derived.Deep.QuietTactic
import Derived.Laws.StructEq
set_option linter.unusedVariables false
namespace Go.Proofs.Ytjgieaijdkmadaa.Lk
open Go.RowKit
open Go.Proofs.Ytjgieaijdkmadaa.Addr (RowAt below2 below_drew below_new bset RowAt.lt RowAt.cell RowAt.frozen RowAt.below RowAt.drew RowAt.new RowAt.alloc cells2 Bl bl_ne wp_region_bl bl_call bl_same)
end Go.Proofs.Ytjgieaijdkmadaa.Lk
namespace Go.Proofs.Ytjgieaijdkmadaa.Lk
open Go.RowKit
open Go.Proofs.Ytjgieaijdkmadaa.Addr (RowAt below2 below_drew below_new bset RowAt.lt RowAt.cell RowAt.frozen RowAt.below RowAt.drew RowAt.new RowAt.alloc cells2 Bl bl_ne wp_region_bl bl_call bl_same)
def prevR (l : List Lk) (k : Nat) : Option Int := match k with
  | 0 => none
  | j + 1 => (l[j]?).map (·.iface)
theorem rise_zero (l : List Lk) (h : 0 < l.length) : rise (prevR l 0) (l.drop 0) = (okK l[0] && rise (prevR l 1) (l.drop 1)) := by
  match l, h with
  | s :: t, _ => rfl
theorem rise_succ (l : List Lk) (j : Nat) (h : j + 1 < l.length) : rise (prevR l (j + 1)) (l.drop (j + 1)) = (okK l[j + 1] && !decide (l[j + 1].iface ≤ l[j].iface) && rise (prevR l (j + 2)) (l.drop (j + 2))) := by
  have e1 : prevR l (j + 1) = some l[j].iface := by show (l[j]?).map (·.iface) = _; rw [List.getElem?_eq_getElem (by omega)]; rfl
  have e2 : prevR l (j + 2) = some l[j + 1].iface := by show (l[j + 1]?).map (·.iface) = _; rw [List.getElem?_eq_getElem (by omega)]; rfl
  have e3 : l.drop (j + 1) = l[j + 1] :: l.drop (j + 2) := List.drop_eq_getElem_cons h
  have e4 : decide (l[j].iface < l[j + 1].iface) = !decide (l[j + 1].iface ≤ l[j].iface) := by
    rw [Bool.eq_iff_iff]; simp
  rw [e1, e2, e3, rise, e4]
theorem round_bad {l : List Lk} {k : Nat} (hk : k < l.length) {R : Int} (HD : R = if rise none l then 0 else 2) (HG : rise none l = rise (prevR l k) (l.drop k)) (h : okK l[k] = false) : R = 2 := by
  rw [HD, HG]
  cases k with
  | zero => rw [rise_zero l hk, h]; rfl
  | succ j => rw [rise_succ l j hk, h]; rfl
theorem round_first {l : List Lk} {k : Nat} (hk : k < l.length) (HG : rise none l = rise (prevR l k) (l.drop k)) (h : okK l[k] = true) (h0 : k = 0) : rise none l = rise (prevR l 1) (l.drop 1) := by
  subst h0
  rw [HG, rise_zero l hk, h, Bool.true_and]
theorem round_next {l : List Lk} {k j : Nat} (hk : k < l.length) {R : Int} (HD : R = if rise none l then 0 else 2) (HG : rise none l = rise (prevR l k) (l.drop k)) (h : okK l[k] = true) (h0 : k = j + 1) (hj : j < l.length) :
    (decide (l[k].iface ≤ l[j].iface) = false → rise none l = rise (prevR l (k + 1)) (l.drop (k + 1))) ∧ (decide (l[k].iface ≤ l[j].iface) = true → R = 2) := by
  subst h0
  constructor
  · intro hd
    rw [HG, rise_succ l j hk, h, hd]
    rfl
  · intro hd
    rw [HD, HG, rise_succ l j hk, h, hd]
    rfl
theorem below_drewN {B : Nat} {w0 w : World} (h : Below B w0 w) (n : Nat) : Below B w0 (w.drewN n) := h.trans ⟨rfl, rfl, rfl, Nat.le_refl _, fun _ _ => rfl⟩
end Go.Proofs.Ytjgieaijdkmadaa.Lk
namespace Go.Proofs.Ytjgieaijdkmadaa.Lk
open Go.RowKit
open Go.Proofs.Ytjgieaijdkmadaa.Addr (RowAt below2 below_drew below_new bset RowAt.lt RowAt.cell RowAt.frozen RowAt.below RowAt.drew RowAt.new RowAt.alloc cells2 Bl bl_ne wp_region_bl bl_call bl_same)
end Go.Proofs.Ytjgieaijdkmadaa.Lk
namespace Go.Proofs.Ytjgieaijdkmadaa.Lk
open Go.RowKit
open Go.Proofs.Ytjgieaijdkmadaa.Addr (RowAt below2 below_drew below_new bset RowAt.lt RowAt.cell RowAt.frozen RowAt.below RowAt.drew RowAt.new RowAt.alloc cells2)
attribute [-go_sem] Builtin.append_
theorem info_parts {e sz by' : Nat} {z : Value} (h : (Try.prog.info? e).map (fun i => (i.zero, i.size, i.bytes)) = some (some z, sz, by')) : ∃ i, Try.prog.info? e = some i ∧ i.zero = some z ∧ i.size = sz ∧ i.bytes = by' := by
  cases hi : Try.prog.info? e with
  | none => rw [hi] at h; cases h
  | some i =>
    rw [hi] at h
    simp only [Option.map_some, Option.some.injEq, Prod.mk.injEq] at h
    exact ⟨i, rfl, h.1, h.2.1, h.2.2⟩
def Dist (u v : Value) : Prop := ∀ k, u.ownBlock = some k → v.ownBlock ≠ some k
theorem Dist.symm {u v : Value} (h : Dist u v) : Dist v u := fun k hk hc => h k hc hk
theorem own_below {W W' : World} {m e size k : Nat} {v : Value} {xs : List Value} (h : W.ownsRow m e size v k xs) (hb : Below W.heap.size W W') : W'.ownsRow m e size v k xs := by
  refine ⟨h.1, ?_⟩
  rcases h.2 with h0 | ⟨g, cap, cur, e1, hg, hgb, rest⟩
  · exact .inl h0
  · exact .inr ⟨g, cap, cur, e1, hg, by rw [hb.block g (Array.getElem?_eq_some_iff.1 hgb).1]; exact hgb, rest⟩
def ofL (l : List Lk) (i : Int) : List Lk := l.filter (fun s => decide (s.iface = i))
theorem filter_snoc (p : Lk → Bool) (l : List Lk) (k : Nat) (h : k < l.length) : (l.take (k + 1)).filter p = (l.take k).filter p ++ (if p l[k] then [l[k]] else []) := by
  rw [List.take_succ_eq_append_getElem h, List.filter_append]
  congr 1
  cases hp : p l[k] <;> simp [hp]
theorem filter_le (p : Lk → Bool) (l : List Lk) (k : Nat) : ((l.take k).filter p).length ≤ l.length := Nat.le_trans (List.length_filter_le _ _) (by rw [List.length_take]; omega)
end Go.Proofs.Ytjgieaijdkmadaa.Lk
namespace Go.Proofs.Ytjgieaijdkmadaa.Lk
open Go.RowKit Go.Shelf
open Go.Proofs.Ytjgieaijdkmadaa.Addr (RowAt below2 below_drew below_new bset RowAt.lt RowAt.cell RowAt.frozen RowAt.below RowAt.drew RowAt.new RowAt.alloc cells2)
attribute [-go_sem] Builtin.append_
theorem append_row {e tS sz bytes : Nat} {z : Value} (hi : (Try.prog.info? e).map (fun i => (i.zero, i.size, i.bytes)) = some (some z, sz, bytes)) (hu : Try.prog.underlying tS = some (.slice e)) (hz : z.cells.size = sz) (hsz : 0 < sz)
    {W : World} {n₀ k m : Nat} {v u : Value} {xs news : List Value} (hown : W.ownsRow n₀ e sz v k xs) (hsrc : HasRow W u sz m news) (h1 : ∀ x ∈ news, x.oneCell' = true) (hb : (k + m) * bytes ≤ 140737488355328) (hkm : k + m ≤ 9223372036854775807) (hn : n₀ ≤ W.heap.size) :
    ∃ v' w3, (∀ ty, (Builtin.append_ #[tS, tS] ty #[v, u]).run Try.prog W = .ok v' w3) ∧ w3.ownsRow n₀ e sz v' (k + m) (xs ++ news) ∧ W.grownBy w3 v.ownBlock := by
  obtain ⟨i0, hi0, hz0, hz1, hz2⟩ := info_parts hi
  rcases hsrc.2 with ⟨rfl, rfl⟩ | ⟨a, cap, rfl, g1, g2, g3, g4⟩
  · obtain rfl : news = [] := List.eq_nil_of_length_eq_zero (by rw [hsrc.1]; simp)
    have := fun ty => run_append_owned_none (P := Try.prog) W n₀ tS ty e i0 sz hu hi0 v k xs hown
    exact ⟨v, W, this, by simpa using hown, World.grownBy.refl _ _⟩
  · have h := run_append_own (P := Try.prog) W n₀ tS 0 e i0 z sz bytes hu hi0 hz0 hz1 hz2 hz hsz v k xs hown a m cap news hsrc.1
      (fun j x hj => by rw [g4 j (by rw [← hsrc.1]; exact (List.getElem?_eq_some_iff.1 hj).1)]; exact hj) h1 (by unfold maxLen; omega) hb hn
    obtain ⟨v', w3, hrun, k1, k2, _⟩ := h
    exact ⟨v', w3, fun ty => hrun, k1, k2⟩
theorem empty_own (w : World) (e sz : Nat) : (w.alloc (.cells #[] e)).ownsRow w.heap.size e sz (.slice (some ⟨w.heap.size, 0, none⟩) 0 0) 0 [] :=
  World.ownsRow_made (base := w.heap.size) (e := e) (size := sz) w #[] 0 (Nat.le_refl _) (by decide) (by simp)
theorem eql_slice_nil {t e : Nat} (h : Try.prog.underlying t = some (.slice e)) (a : Option Addr) (l c : Nat) (w : World) : (binOp .eql t (.slice a l c) (.slice none 0 0)).run Try.prog w = .ok (.bool a.isNone) w := by
  simp only [binOp]
  simp [run_equal_slice_nil w t e a l c h]
end Go.Proofs.Ytjgieaijdkmadaa.Lk
namespace Go.Proofs.Ytjgieaijdkmadaa.Lk
open Go.RowKit
open Go.Proofs.Ytjgieaijdkmadaa.Addr (RowAt below2 below_drew below_new bset RowAt.lt RowAt.cell RowAt.frozen RowAt.below RowAt.drew RowAt.new RowAt.alloc cells2)
attribute [-go_sem] Builtin.append_
/-- rows of numbers -/
def intCs (l : List Int) : List Value := l.map (fun n => .int .i64 n)
def HasInts (W : World) (v : Value) (l : List Int) : Prop := HasRow W v 1 l.length (intCs l)
theorem HasInts.keep {W W' : World} {v : Value} {l : List Int} (h : HasInts W v l) (hb : Below W.heap.size W W') : HasInts W' v l := HasRow.keep h hb
theorem HasInts.cell {W : World} {o : Option Addr} {m cap : Nat} {l : List Int} (h : HasInts W (.slice o m cap) l) (j : Nat) (hj : j < l.length) : ∃ b i, o = some ⟨b, i, none⟩ ∧ b < W.heap.size ∧ W.cell? ⟨b, i + j, none⟩ = some (.int .i64 l[j]) := by
  obtain ⟨_, b, i, e, hb, hc⟩ := HasRow.at h (by omega)
  refine ⟨b, i, e, hb, ?_⟩
  rw [hc j (by omega)]
  unfold intCs
  rw [List.getElem?_map, List.getElem?_eq_getElem hj]
  rfl
end Go.Proofs.Ytjgieaijdkmadaa.Lk
