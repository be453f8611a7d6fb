/- Plain mathematics: what is split is joined; a row of texts that came in. -/
import Derived.Test.YtbikcpchlgmoaaaPageLives
set_option linter.unusedVariables false
namespace Go.Proofs.Ytbikcpchlgmoaaa.Page
open Go.RowKit

theorem pages_join (ps : List (List UInt8)) : ∀ (t : Nat) (rest : List (List UInt8)), (∀ p ∈ ps, p.length ≤ 111) → 1 ≤ t → t + ps.length < 18446744073709551616 →
    joinL (ps.mapIdx (fun i p => pageL (t + i) p) ++ rest) t = (ps.flatten ++ (joinL rest (t + ps.length)).1, ps.length + (joinL rest (t + ps.length)).2) := by
  induction ps with
  | nil => intro t rest _ _ _; simp
  | cons p ps ih =>
    intro t rest hp ht hlt
    rw [List.mapIdx_cons, List.cons_append]
    simp only [Nat.add_zero]
    rw [joinL_ok (getL_page (by omega) (by omega) (hp p (by simp)))]
    have e : (t + 1) % two64 = t + 1 := by unfold two64; simp only [List.length_cons] at hlt; omega
    have e2 : (fun (i : Nat) (p : List UInt8) => pageL (t + (i + 1)) p) = fun i p => pageL (t + 1 + i) p := by
      funext i p; rw [show t + (i + 1) = t + 1 + i by omega]
    rw [e, e2, ih (t + 1) rest (fun q hq => hp q (by simp [hq])) (by omega) (by simp only [List.length_cons] at hlt; omega)]
    simp only [List.length_cons, List.flatten_cons, List.append_assoc]
    rw [show t + 1 + ps.length = t + (ps.length + 1) by omega]
    congr 1
    omega
theorem pieces_take (l : List UInt8) (k : Nat) : ((List.range k).map (pieceL l)).flatten = l.take (111 * k) := by
  induction k with
  | zero => simp
  | succ k ih =>
    rw [List.range_succ, List.map_append, List.flatten_append, ih, Nat.mul_succ, List.take_add]
    simp [pieceL]
theorem split_pages (t : Nat) (l : List UInt8) : splitL t l = ((List.range (cntL l)).map (pieceL l)).mapIdx (fun i p => pageL (t + i) p) := by
  rw [splitL, pagesL]
  apply List.ext_getElem?
  intro i
  simp only [List.getElem?_mapIdx, List.getElem?_map, Option.map_map]
  rfl
theorem splitL_len (t : Nat) (l : List UInt8) : (splitL t l).length = cntL l := by rw [splitL, pagesL_len, List.length_range]
theorem splitL_at (t : Nat) (l : List UInt8) (k : Nat) (h : k < (splitL t l).length) : (splitL t l)[k] = pageL (t + k) (pieceL l k) := by
  simp [splitL, pagesL]
theorem join_other {r : List (List UInt8)} {t : Nat} (h : ∀ s ∈ r, tagL s ≠ (t, 0)) : joinL r t = ([], 0) := by
  cases r with
  | nil => rfl
  | cons s r =>
    refine joinL_bad (fun hc => ?_)
    exact h s (by simp) (getL_tag hc)
theorem split_join (t : Nat) (l : List UInt8) (more : List (List UInt8)) (h0 : 1 ≤ t) (h1 : t ≤ 4611686018427387904) (hl : l.length ≤ 14208) (hm : ∀ s ∈ more, tagL s ≠ (t + cntL l, 0)) :
    joinL (splitL t l ++ more) t = (l, cntL l) := by
  have hc : cntL l ≤ 128 := by unfold cntL; omega
  rw [split_pages, pages_join _ t more (fun p hp => by obtain ⟨k, _, rfl⟩ := List.mem_map.1 hp; exact pieceL_len l k) h0 (by simp; omega)]
  rw [List.length_map, List.length_range, join_other hm, pieces_take, List.take_of_length_le (by unfold cntL; omega)]
  simp
/-- a slice of texts that came in -/
def IsStrsS (w : World) (a : Option Addr) (len cap : Nat) (zs : List (List UInt8)) : Prop :=
  HasStrs w (.slice a len cap) zs ∧ len = zs.length ∧ len ≤ cap ∧ cap ≤ 9223372036854775807 ∧ (∀ z ∈ zs, z.length ≤ 9223372036854775807) ∧ len * 16 ≤ 140737488351232 ∧ (a = none → cap = 0)
theorem isStrsS_nil (w : World) : IsStrsS w none 0 0 [] := ⟨⟨none, 0, rfl, fun j hj => by simp at hj⟩, rfl, Nat.le_refl _, by decide, by simp, by decide, fun _ => rfl⟩
theorem isStrsS_of {w : World} {a : Addr} {len cap : Nat} {Sx : Nat → ByteArray} (hl : len ≤ cap) (hm : cap ≤ maxLen) (h : ∀ i, i < len → w.cell? (a.add i) = some (.string (Sx i)) ∧ (Sx i).size ≤ maxLen) (hs : len * 16 ≤ 140737488351232) :
    IsStrsS w (some a) len cap ((List.range len).map fun i => (Sx i).data.toList) := by
  unfold maxLen at hm
  refine ⟨⟨some a, cap, by simp, fun j hj => ?_⟩, by simp, hl, hm, fun z hz => ?_, hs, fun e => by cases e⟩
  · have hj' : j < len := by simpa using hj
    obtain ⟨b, off, spot⟩ := a
    have hspot : spot = none := by simpa [Addr.add] using World.cell?_spot (h 0 (by omega)).1
    subst hspot
    have h1 := (h j hj').1
    rw [addr_add] at h1
    refine ⟨b, off, rfl, ?_, ?_⟩
    · rw [h1]; simp [strV]
    · rcases Nat.lt_or_ge b w.heap.size with h' | h'
      · exact h'
      · simp [World.cell?, Array.getElem?_eq_none h'] at h1
  · obtain ⟨i, hi, rfl⟩ := List.mem_map.1 hz
    have := (h i (by simpa using hi)).2
    unfold maxLen at this
    simpa using this
end Go.Proofs.Ytbikcpchlgmoaaa.Page
