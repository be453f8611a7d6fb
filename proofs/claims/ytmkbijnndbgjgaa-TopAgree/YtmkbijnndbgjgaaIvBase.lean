/- Rows of intervals, and of times, in memory; intervals as spans, plain. -/
import Derived.Test.YtmkbijnndbgjgaaSpChk
import Derived.Test.YtmkbijnndbgjgaaLkClone
import Derived.Deep.AppendLies
import Derived.Laws.MakeOwn
set_option linter.unusedVariables false
namespace Go.Proofs.Ytmkbijnndbgjgaa.Iv
open Go.RowKit
open Go.Proofs.Ytmkbijnndbgjgaa.Lk (HasRow hasRow_own addr_add)
open Go.Proofs.Ytmkbijnndbgjgaa.Sp (Sp inB inB_iff hasS Row rowB rowB_iff okS okS_iff okB okB_iff topN own_below)
open Go.Proofs.Ytmkbijnndbgjgaa.Addr (RowAt below2 below_drew below_new bset RowAt.lt RowAt.cell RowAt.frozen RowAt.below RowAt.drew RowAt.new RowAt.alloc RowAt.gkeep)
attribute [-go_sem] Builtin.append_
abbrev Iv := Int × Int
def FitT (t : Int) : Prop := -9223372036854775808 ≤ t ∧ t ≤ 9223372036854775807
def FitI (x : Iv) : Prop := FitT x.1 ∧ FitT x.2
def ivV (x : Iv) : Value := .agg #[.int .i64 x.1, .int .i64 x.2]
def cI (x : Iv) : List Value := [.int .i64 x.1, .int .i64 x.2]
def csI (l : List Iv) : List Value := l.flatMap cI
theorem csI_len (l : List Iv) : (csI l).length = l.length * 2 := by
  induction l with
  | nil => rfl
  | cons s l ih =>
    show (cI s ++ csI l).length = _
    rw [List.length_append, ih, List.length_cons]
    show 2 + _ = _
    omega
theorem csI_app (a b : List Iv) : csI (a ++ b) = csI a ++ csI b := by unfold csI; rw [List.flatMap_append]
theorem csI_one (x : Iv) : csI [x] = cI x := by simp [csI]
theorem one_csI (l : List Iv) : ∀ x ∈ csI l, x.oneCell' = true := by
  intro x hx
  obtain ⟨p, _, h⟩ := List.mem_flatMap.1 hx
  simp only [cI, List.mem_cons, List.not_mem_nil, or_false] at h
  rcases h with rfl | rfl <;> rfl
def HasI (W : World) (v : Value) (l : List Iv) : Prop := HasRow W v 2 l.length (csI l)
theorem HasI.keep {W W' : World} {v : Value} {l : List Iv} (h : HasI W v l) (hb : Below W.heap.size W W') : HasI W' v l := HasRow.keep h hb
theorem hasI_nil (W : World) : HasI W (.slice none 0 0) [] := Lk.hasRow_nil W 2
theorem csI_at (l : List Iv) : ∀ j (h : j < l.length), (csI l)[2 * j]? = some (.int .i64 l[j].1) ∧ (csI l)[2 * j + 1]? = some (.int .i64 l[j].2) := by
  induction l with
  | nil => intro j h; simp at h
  | cons p ps ih =>
    intro j h
    cases j with
    | zero => exact ⟨rfl, rfl⟩
    | succ j =>
      have := ih j (by simpa using h)
      rw [show csI (p :: ps) = .int .i64 p.1 :: .int .i64 p.2 :: csI ps from rfl, show 2 * (j + 1) = 2 * j + 1 + 1 by omega]
      simp only [List.getElem?_cons_succ, List.getElem_cons_succ]
      exact this
theorem HasI.cell {W : World} {o : Option Addr} {m cap : Nat} {l : List Iv} (h : HasI W (.slice o m cap) l) (j : Nat) (hj : j < l.length) : ∃ b i, o = some ⟨b, i, none⟩ ∧ b < W.heap.size ∧ W.cell? ⟨b, i + j * 2, none⟩ = some (.int .i64 l[j].1) ∧ W.cell? ⟨b, i + j * 2 + 1, none⟩ = some (.int .i64 l[j].2) := by
  obtain ⟨_, b, i, e, hb, hc⟩ := HasRow.at h (by omega)
  have h2 := csI_at l j hj
  exact ⟨b, i, e, hb, by rw [hc (j * 2) (by omega), Nat.mul_comm]; exact h2.1, by rw [Nat.add_assoc, hc (j * 2 + 1) (by omega), Nat.mul_comm]; exact h2.2⟩
/-- a row that the call made, all of it in new memory -/
structure OwnI (w W : World) (u : Value) (a : List Iv) : Prop where
  ou : W.ownsRow w.heap.size 23 2 u a.length (csI a)
  bl : Below w.heap.size w W
theorem OwnI.below {w W W' : World} {u : Value} {a : List Iv} (h : OwnI w W u a) (hb : Below W.heap.size W W') : OwnI w W' u a := ⟨own_below h.ou hb, below2 h.bl hb⟩
theorem OwnI.has {w W : World} {u : Value} {a : List Iv} (h : OwnI w W u a) : HasI W u a := hasRow_own h.ou
theorem OwnI.nil (w : World) : OwnI w w (.slice none 0 0) [] := ⟨World.ownsRow_nil _ _ _ _, Below.refl _ _⟩
theorem OwnI.to {w w1 W : World} {u : Value} {a : List Iv} (h : OwnI w1 W u a) (hb : Below w.heap.size w w1) : OwnI w W u a := by
  refine ⟨⟨h.ou.1, ?_⟩, below2 hb h.bl⟩
  rcases h.ou.2 with h0 | ⟨g, cap, cur, e1, hg, rest⟩
  · exact .inl h0
  · exact .inr ⟨g, cap, cur, e1, Nat.le_trans hb.size hg, rest⟩
theorem litI (W : World) (x : Iv) (e : Nat) : HasI (W.alloc (.cells #[.int .i64 x.1, .int .i64 x.2] e)) (.slice (some ⟨W.heap.size, 0, none⟩) 1 1) [x] := by
  refine ⟨rfl, .inr ⟨⟨W.heap.size, 0, none⟩, 1, rfl, Nat.le_refl _, by decide, fun _ => ⟨rfl, by simp⟩, fun j hj => ?_⟩⟩
  rw [addr_add, Nat.zero_add]
  exact (RowAt.new W (cI x) e).cell j
theorem infoI : (Try.prog.info? 23).map (fun i => (i.zero, i.size, i.bytes)) = some (some (.agg #[.int .i64 0, .int .i64 0]), 2, 16) := by kernel_rfl
theorem appI {w W : World} {v u : Value} {m news : List Iv} (h : OwnI w W v m) (hu : HasI W u news) (hl : m.length + news.length ≤ 1000000) :
    ∃ v' w3, (∀ ty, (Builtin.append_ #[38, 38] ty #[v, u]).run Try.prog W = .ok v' w3) ∧ OwnI w w3 v' (m ++ news) ∧ (∀ t cs e, RowAt W t cs e → e ≠ 23 → RowAt w3 t cs e) := by
  obtain ⟨v', w3, hrun, ho, hg⟩ := Lk.append_row infoI Try.underlying38 rfl (by decide) h.ou hu (one_csI news) (by omega) (by omega) h.bl.size
  rw [← csI_app, ← List.length_append] at ho
  refine ⟨v', w3, hrun, ⟨ho, h.bl.grown hg h.bl.size (fun k e => (h.ou.lt k e).1)⟩, fun t cs e hr he => RowAt.gkeep hr hg (fun hb => he ?_)⟩
  rcases h.ou.2 with ⟨e0, _⟩ | ⟨g, cap, cur, e1, hgb, hgc, _⟩
  · rw [e0] at hb; cases hb
  · rw [e1] at hb
    injection hb with hb
    subst hb
    have h3 : W.heap[t]? = some (.cells cs.toArray e (0, 0)) := hr
    rw [hgc] at h3
    injection h3 with h3
    injection h3 with h4 h5
    exact h5.symm
theorem makeI (w : World) (n : Nat) (h : n ≤ 1000000) : ∃ w1, (∀ kl kc : IntKind, (Instr.makeSlice 38 (.int kl 0) (.int kc (n : Int))).run Try.prog w = .ok (.slice (some ⟨w.heap.size, 0, none⟩) 0 n) w1) ∧ OwnI w w1 (.slice (some ⟨w.heap.size, 0, none⟩) 0 n) [] := by
  obtain ⟨i0, hi, hz0, hz1, hz2⟩ := Sp.info_parts infoI
  obtain ⟨C, hC⟩ : ∃ C, C = madeCells ((.agg #[.int .i64 0, .int .i64 0] : Value)).cells (n * 2) := ⟨_, rfl⟩
  have hs : C.size = n * 2 := by rw [hC]; simp [madeCells]
  refine ⟨w.alloc (.cells C 23), fun kl kc => ?_, ?_, below_new (Below.refl _ _) _⟩
  · have hr := run_make (P := Try.prog) w 38 23 i0 (.agg #[.int .i64 0, .int .i64 0]) Try.underlying38 hi hz0 kl kc 0 n (by omega) (by omega) (by rw [hz2]; omega) (by omega)
    rw [hr, hz1, Int.toNat_natCast, hC]
    rfl
  · exact World.ownsRow_made w C n (Nat.le_refl _) (by unfold maxLen; omega) hs
def cT (x : Int) : List Value := [.int .i64 x]
def csT (l : List Int) : List Value := l.flatMap cT
theorem csT_len (l : List Int) : (csT l).length = l.length * 1 := by
  induction l with
  | nil => rfl
  | cons s l ih =>
    show (cT s ++ csT l).length = _
    rw [List.length_append, ih, List.length_cons]
    show 1 + _ = _
    omega
theorem csT_app (a b : List Int) : csT (a ++ b) = csT a ++ csT b := by unfold csT; rw [List.flatMap_append]
theorem csT_one (x : Int) : csT [x] = cT x := by simp [csT]
theorem one_csT (l : List Int) : ∀ x ∈ csT l, x.oneCell' = true := by
  intro x hx
  obtain ⟨p, _, h⟩ := List.mem_flatMap.1 hx
  simp only [cT, List.mem_cons, List.not_mem_nil, or_false] at h
  rcases h with rfl <;> rfl
def HasT (W : World) (v : Value) (l : List Int) : Prop := HasRow W v 1 l.length (csT l)
theorem HasT.keep {W W' : World} {v : Value} {l : List Int} (h : HasT W v l) (hb : Below W.heap.size W W') : HasT W' v l := HasRow.keep h hb
theorem hasT_nil (W : World) : HasT W (.slice none 0 0) [] := Lk.hasRow_nil W 1
theorem csT_at (l : List Int) : ∀ j (h : j < l.length), (csT l)[j]? = some (.int .i64 l[j]) := by
  induction l with
  | nil => intro j h; simp at h
  | cons p ps ih =>
    intro j h
    cases j with
    | zero => exact rfl
    | succ j =>
      have := ih j (by simpa using h)
      rw [show csT (p :: ps) = .int .i64 p :: csT ps from rfl]
      simp only [List.getElem?_cons_succ, List.getElem_cons_succ]
      exact this
theorem HasT.cell {W : World} {o : Option Addr} {m cap : Nat} {l : List Int} (h : HasT W (.slice o m cap) l) (j : Nat) (hj : j < l.length) : ∃ b i, o = some ⟨b, i, none⟩ ∧ b < W.heap.size ∧ W.cell? ⟨b, i + j, none⟩ = some (.int .i64 l[j]) := by
  obtain ⟨_, b, i, e, hb, hc⟩ := HasRow.at h (by omega)
  have h2 := csT_at l j hj
  exact ⟨b, i, e, hb, by rw [hc j (by omega)]; exact h2⟩
/-- a row that the call made, all of it in new memory -/
structure OwnT (w W : World) (u : Value) (a : List Int) : Prop where
  ou : W.ownsRow w.heap.size 2 1 u a.length (csT a)
  bl : Below w.heap.size w W
theorem OwnT.below {w W W' : World} {u : Value} {a : List Int} (h : OwnT w W u a) (hb : Below W.heap.size W W') : OwnT w W' u a := ⟨own_below h.ou hb, below2 h.bl hb⟩
theorem OwnT.has {w W : World} {u : Value} {a : List Int} (h : OwnT w W u a) : HasT W u a := hasRow_own h.ou
theorem OwnT.nil (w : World) : OwnT w w (.slice none 0 0) [] := ⟨World.ownsRow_nil _ _ _ _, Below.refl _ _⟩
theorem OwnT.to {w w1 W : World} {u : Value} {a : List Int} (h : OwnT w1 W u a) (hb : Below w.heap.size w w1) : OwnT w W u a := by
  refine ⟨⟨h.ou.1, ?_⟩, below2 hb h.bl⟩
  rcases h.ou.2 with h0 | ⟨g, cap, cur, e1, hg, rest⟩
  · exact .inl h0
  · exact .inr ⟨g, cap, cur, e1, Nat.le_trans hb.size hg, rest⟩
theorem litT (W : World) (x : Int) (e : Nat) : HasT (W.alloc (.cells #[.int .i64 x] e)) (.slice (some ⟨W.heap.size, 0, none⟩) 1 1) [x] := by
  refine ⟨rfl, .inr ⟨⟨W.heap.size, 0, none⟩, 1, rfl, Nat.le_refl _, by decide, fun _ => ⟨rfl, by simp⟩, fun j hj => ?_⟩⟩
  rw [addr_add, Nat.zero_add]
  exact (RowAt.new W (cT x) e).cell j
theorem infoT : (Try.prog.info? 2).map (fun i => (i.zero, i.size, i.bytes)) = some (some (.int .i64 0), 1, 8) := by kernel_rfl
theorem appT {w W : World} {v u : Value} {m news : List Int} (h : OwnT w W v m) (hu : HasT W u news) (hl : m.length + news.length ≤ 1000000) :
    ∃ v' w3, (∀ ty, (Builtin.append_ #[83, 83] ty #[v, u]).run Try.prog W = .ok v' w3) ∧ OwnT w w3 v' (m ++ news) ∧ (∀ t cs e, RowAt W t cs e → e ≠ 2 → RowAt w3 t cs e) := by
  obtain ⟨v', w3, hrun, ho, hg⟩ := Lk.append_row infoT Try.underlying83 rfl (by decide) h.ou hu (one_csT news) (by omega) (by omega) h.bl.size
  rw [← csT_app, ← List.length_append] at ho
  refine ⟨v', w3, hrun, ⟨ho, h.bl.grown hg h.bl.size (fun k e => (h.ou.lt k e).1)⟩, fun t cs e hr he => RowAt.gkeep hr hg (fun hb => he ?_)⟩
  rcases h.ou.2 with ⟨e0, _⟩ | ⟨g, cap, cur, e1, hgb, hgc, _⟩
  · rw [e0] at hb; cases hb
  · rw [e1] at hb
    injection hb with hb
    subst hb
    have h3 : W.heap[t]? = some (.cells cs.toArray e (0, 0)) := hr
    rw [hgc] at h3
    injection h3 with h3
    injection h3 with h4 h5
    exact h5.symm
theorem makeT (w : World) (n : Nat) (h : n ≤ 1000000) : ∃ w1, (∀ kl kc : IntKind, (Instr.makeSlice 83 (.int kl 0) (.int kc (n : Int))).run Try.prog w = .ok (.slice (some ⟨w.heap.size, 0, none⟩) 0 n) w1) ∧ OwnT w w1 (.slice (some ⟨w.heap.size, 0, none⟩) 0 n) [] := by
  obtain ⟨i0, hi, hz0, hz1, hz2⟩ := Sp.info_parts infoT
  obtain ⟨C, hC⟩ : ∃ C, C = madeCells ((.int .i64 0 : Value)).cells (n * 1) := ⟨_, rfl⟩
  have hs : C.size = n * 1 := by rw [hC]; simp [madeCells]
  refine ⟨w.alloc (.cells C 2), fun kl kc => ?_, ?_, below_new (Below.refl _ _) _⟩
  · have hr := run_make (P := Try.prog) w 83 2 i0 (.int .i64 0) Try.underlying83 hi hz0 kl kc 0 n (by omega) (by omega) (by rw [hz2]; omega) (by omega)
    rw [hr, hz1, Int.toNat_natCast, hC]
    rfl
  · exact World.ownsRow_made w C n (Nat.le_refl _) (by unfold maxLen; omega) hs
/-- a right interval -/
def okI (x : Iv) : Bool := decide (0 ≤ x.1) && (decide (x.1 ≤ x.2) && decide (x.2 ≤ 1099511627776))
theorem okI_iff {x : Iv} : okI x = true ↔ 0 ≤ x.1 ∧ x.1 ≤ x.2 ∧ x.2 ≤ 1099511627776 := by unfold okI; simp
/-- a right interval as a span, and back -/
def toS (x : Iv) : Sp := (x.1.toNat, x.2.toNat)
def ofS (s : Sp) : Iv := ((s.1 : Int), (s.2 : Int))
theorem of_to {x : Iv} (h : okI x = true) : ofS (toS x) = x := by
  have := okI_iff.1 h
  unfold ofS toS
  exact Prod.ext (by show ((x.1.toNat : Nat) : Int) = x.1; omega) (by show ((x.2.toNat : Nat) : Int) = x.2; omega)
theorem to_of (s : Sp) : toS (ofS s) = s := rfl
def MaxT : Nat := 1099511627776
theorem top6 : topN true = 2 ^ 128 - 1 := rfl
theorem okS_to {x : Iv} (h : okI x = true) : okS true (toS x) = true := by
  have := okI_iff.1 h
  refine okS_iff.2 ⟨?_, ?_⟩
  · show x.1.toNat ≤ x.2.toNat; omega
  · rw [top6]; show x.2.toNat ≤ _; omega
/-- spans whose times are right -/
def Tms (L : List Sp) : Prop := ∀ s ∈ L, s.1 ≤ s.2 ∧ s.2 ≤ MaxT
theorem tms_to {l : List Iv} (h : l.all okI = true) : Tms (l.map toS) := by
  intro s hs
  obtain ⟨x, hx, rfl⟩ := List.mem_map.1 hs
  have := okI_iff.1 (List.all_eq_true.1 h x hx)
  refine ⟨?_, ?_⟩
  · show x.1.toNat ≤ x.2.toNat; omega
  · show x.2.toNat ≤ MaxT; unfold MaxT; omega
theorem map_of_to {l : List Iv} (h : l.all okI = true) : (l.map toS).map ofS = l := by
  rw [List.map_map]
  refine (List.map_congr_left fun x hx => ?_).trans (List.map_id _)
  exact of_to (List.all_eq_true.1 h x hx)
theorem tms_ok {L : List Sp} (h : Tms L) : ∀ s ∈ L, okS true s = true := fun s hs => okS_iff.2 ⟨(h s hs).1, by have := (h s hs).2; rw [top6]; unfold MaxT at this; omega⟩
theorem tms_okI {L : List Sp} (h : Tms L) : (L.map ofS).all okI = true := List.all_eq_true.2 fun x hx => by
  obtain ⟨s, hs, rfl⟩ := List.mem_map.1 hx
  have := h s hs
  unfold MaxT at this
  exact okI_iff.2 ⟨by show (0 : Int) ≤ (s.1 : Int); omega, by show (s.1 : Int) ≤ (s.2 : Int); omega, by show (s.2 : Int) ≤ _; omega⟩
/-- what only has times has right ones -/
theorem tms_in {L : List Sp} (h : ∀ s ∈ L, okS true s = true) (hm : ∀ x, inB L x = true → x ≤ MaxT) : Tms L := fun s hs => by
  have h1 := okS_iff.1 (h s hs)
  exact ⟨h1.1, hm s.2 (inB_iff.2 ⟨s, hs, h1.1, Nat.le_refl _⟩)⟩
theorem in_tms {L : List Sp} (h : Tms L) {x : Nat} (hx : inB L x = true) : x ≤ MaxT := by
  obtain ⟨s, hs, h1, h2⟩ := inB_iff.1 hx
  have := h s hs
  omega
/-- a right row of intervals -/
def okJ (l : List Iv) : Bool := l.all okI && okB true (l.map toS)
/-- whether a time is in a row -/
def inI (l : List Iv) (t : Int) : Bool := l.any (fun x => decide (x.1 ≤ t) && decide (t ≤ x.2))
theorem inI_to {l : List Iv} (h : l.all okI = true) {t : Int} (ht : 0 ≤ t) : inI l t = inB (l.map toS) t.toNat := by
  unfold inI inB
  rw [List.any_map, Bool.eq_iff_iff, List.any_eq_true, List.any_eq_true]
  constructor
  · rintro ⟨x, hx, h2⟩
    have h1 := okI_iff.1 (List.all_eq_true.1 h x hx)
    simp only [Bool.and_eq_true, decide_eq_true_eq] at h2
    refine ⟨x, hx, Sp.hasS_iff.2 ⟨?_, ?_⟩⟩
    · show x.1.toNat ≤ _; omega
    · show _ ≤ x.2.toNat; omega
  · rintro ⟨x, hx, h2⟩
    have h1 := okI_iff.1 (List.all_eq_true.1 h x hx)
    have h3 : x.1.toNat ≤ t.toNat ∧ t.toNat ≤ x.2.toNat := Sp.hasS_iff.1 h2
    refine ⟨x, hx, ?_⟩
    simp only [Bool.and_eq_true, decide_eq_true_eq]
    omega
theorem inI_neg {l : List Iv} (h : l.all okI = true) {t : Int} (ht : t < 0) : inI l t = false := by
  unfold inI
  rw [List.any_eq_false]
  intro x hx h2
  have h1 := okI_iff.1 (List.all_eq_true.1 h x hx)
  simp only [Bool.and_eq_true, decide_eq_true_eq] at h2
  omega
end Go.Proofs.Ytmkbijnndbgjgaa.Iv
