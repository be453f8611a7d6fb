/- A line of Booleans: rows of its eras, put, when. -/
import Derived.Test.YtmkbijnndbgjgaaIvBase
import Derived.Test.YtmkbijnndbgjgaaIvZ1
import Derived.Test.YtmkbijnndbgjgaaLkOf
import Derived.Laws.StructEq
import Derived.Test.YtmkbijnndbgjgaaAddrQuiet
import Derived.BigQuiet
import Derived.Deep.RegionHeld
import Derived.Test.YtmkbijnndbgjgaaIvZ2
import Derived.Deep.QuietTactic
import Derived.Test.YtmkbijnndbgjgaaSpColl
import Derived.Lib.BufferWrite
set_option linter.unusedVariables false
namespace Go.Proofs.Ytmkbijnndbgjgaa.Ln
open Go.RowKit
open Go.Proofs.Ytmkbijnndbgjgaa.Iv (Iv FitT FitI okI okI_iff ivV)
open Go.Proofs.Ytmkbijnndbgjgaa.Lk (HasRow HasRow.keep HasRow.at hasRow_own addr_add)
open Go.Proofs.Ytmkbijnndbgjgaa.Sp (own_below)
open Go.Proofs.Ytmkbijnndbgjgaa.Addr (RowAt below2 below_drew below_new bset RowAt.lt RowAt.cell RowAt.frozen RowAt.below RowAt.drew RowAt.new RowAt.alloc RowAt.gkeep)
attribute [-go_sem] Builtin.append_
/-- a verdict: kind and router -/
structure Vd where
  kind : Int
  at' : Int
structure Er where
  a : Int
  b : Int
  v : Vd
structure Mk where
  t : Int
  v : Vd
def FitV (v : Vd) : Prop := (0 ≤ v.kind ∧ v.kind ≤ 255) ∧ (-9223372036854775808 ≤ v.at' ∧ v.at' ≤ 9223372036854775807)
def FitE (x : Er) : Prop := FitT x.a ∧ FitT x.b ∧ FitV x.v
def FitM (x : Mk) : Prop := FitT x.t ∧ FitV x.v
def vdV (v : Vd) : Value := .agg #[.int .u8 v.kind, .int .i64 v.at']
def erV (x : Er) : Value := .agg #[.int .i64 x.a, .int .i64 x.b, .int .u8 x.v.kind, .int .i64 x.v.at']
def mkV (x : Mk) : Value := .agg #[.int .i64 x.t, .int .u8 x.v.kind, .int .i64 x.v.at']
def cE (x : Er) : List Value := [.int .i64 x.a, .int .i64 x.b, .int .u8 x.v.kind, .int .i64 x.v.at']
def csE (l : List Er) : List Value := l.flatMap cE
theorem csE_len (l : List Er) : (csE l).length = l.length * 4 := by
  induction l with
  | nil => rfl
  | cons s l ih =>
    show (cE s ++ csE l).length = _
    rw [List.length_append, ih, List.length_cons]
    show 4 + _ = _
    omega
theorem csE_app (a b : List Er) : csE (a ++ b) = csE a ++ csE b := by unfold csE; rw [List.flatMap_append]
theorem csE_one (x : Er) : csE [x] = cE x := by simp [csE]
theorem one_csE (l : List Er) : ∀ x ∈ csE l, x.oneCell' = true := by
  intro x hx
  obtain ⟨p, _, h⟩ := List.mem_flatMap.1 hx
  simp only [cE, List.mem_cons, List.not_mem_nil, or_false] at h
  rcases h with rfl | rfl | rfl | rfl <;> rfl
def HasE (W : World) (v : Value) (l : List Er) : Prop := HasRow W v 4 l.length (csE l)
theorem HasE.keep {W W' : World} {v : Value} {l : List Er} (h : HasE W v l) (hb : Below W.heap.size W W') : HasE W' v l := HasRow.keep h hb
theorem hasE_nil (W : World) : HasE W (.slice none 0 0) [] := Lk.hasRow_nil W 4
theorem csE_at (l : List Er) : ∀ j (h : j < l.length), (csE l)[4 * j]? = some (.int .i64 l[j].a) ∧ (csE l)[4 * j + 1]? = some (.int .i64 l[j].b) ∧ (csE l)[4 * j + 2]? = some (.int .u8 l[j].v.kind) ∧ (csE l)[4 * j + 3]? = some (.int .i64 l[j].v.at') := by
  induction l with
  | nil => intro j h; simp at h
  | cons p ps ih =>
    intro j h
    cases j with
    | zero => exact ⟨rfl, rfl, rfl, rfl⟩
    | succ j =>
      have := ih j (by simpa using h)
      rw [show csE (p :: ps) = .int .i64 p.a :: .int .i64 p.b :: .int .u8 p.v.kind :: .int .i64 p.v.at' :: csE ps from rfl, show 4 * (j + 1) = 4 * j + 1 + 1 + 1 + 1 by omega]
      rw [show 4 * j + 1 + 1 + 1 + 1 + 1 = (4 * j + 1) + 1 + 1 + 1 + 1 by omega, show 4 * j + 1 + 1 + 1 + 1 + 2 = (4 * j + 2) + 1 + 1 + 1 + 1 by omega, show 4 * j + 1 + 1 + 1 + 1 + 3 = (4 * j + 3) + 1 + 1 + 1 + 1 by omega]
      simp only [List.getElem?_cons_succ, List.getElem_cons_succ]
      exact this
theorem HasE.cell {W : World} {o : Option Addr} {m cap : Nat} {l : List Er} (h : HasE W (.slice o m cap) l) (j : Nat) (hj : j < l.length) : ∃ b i, o = some ⟨b, i, none⟩ ∧ b < W.heap.size ∧ W.cell? ⟨b, i + j * 4, none⟩ = some (.int .i64 l[j].a) ∧ W.cell? ⟨b, i + j * 4 + 1, none⟩ = some (.int .i64 l[j].b) ∧ W.cell? ⟨b, i + j * 4 + 2, none⟩ = some (.int .u8 l[j].v.kind) ∧ W.cell? ⟨b, i + j * 4 + 3, none⟩ = some (.int .i64 l[j].v.at') := by
  obtain ⟨_, b, i, e, hb, hc⟩ := HasRow.at h (by omega)
  have h2 := csE_at l j hj
  exact ⟨b, i, e, hb, by rw [hc (j * 4) (by omega), Nat.mul_comm]; exact h2.1, by rw [Nat.add_assoc, hc (j * 4 + 1) (by omega), Nat.mul_comm]; exact h2.2.1, by rw [Nat.add_assoc, hc (j * 4 + 2) (by omega), Nat.mul_comm]; exact h2.2.2.1, by rw [Nat.add_assoc, hc (j * 4 + 3) (by omega), Nat.mul_comm]; exact h2.2.2.2⟩
/-- a row that the call made, all of it in new memory -/
structure OwnE (w W : World) (u : Value) (a : List Er) : Prop where
  ou : W.ownsRow w.heap.size 49 4 u a.length (csE a)
  bl : Below w.heap.size w W
theorem OwnE.below {w W W' : World} {u : Value} {a : List Er} (h : OwnE w W u a) (hb : Below W.heap.size W W') : OwnE w W' u a := ⟨own_below h.ou hb, below2 h.bl hb⟩
theorem OwnE.has {w W : World} {u : Value} {a : List Er} (h : OwnE w W u a) : HasE W u a := hasRow_own h.ou
theorem OwnE.nil (w : World) : OwnE w w (.slice none 0 0) [] := ⟨World.ownsRow_nil _ _ _ _, Below.refl _ _⟩
theorem OwnE.to {w w1 W : World} {u : Value} {a : List Er} (h : OwnE w1 W u a) (hb : Below w.heap.size w w1) : OwnE w W u a := by
  refine ⟨⟨h.ou.1, ?_⟩, below2 hb h.bl⟩
  rcases h.ou.2 with h0 | ⟨g, cap, cur, e1, hg, rest⟩
  · exact .inl h0
  · exact .inr ⟨g, cap, cur, e1, Nat.le_trans hb.size hg, rest⟩
theorem litE (W : World) (x : Er) (e : Nat) : HasE (W.alloc (.cells #[.int .i64 x.a, .int .i64 x.b, .int .u8 x.v.kind, .int .i64 x.v.at'] e)) (.slice (some ⟨W.heap.size, 0, none⟩) 1 1) [x] := by
  refine ⟨rfl, .inr ⟨⟨W.heap.size, 0, none⟩, 1, rfl, Nat.le_refl _, by decide, fun _ => ⟨rfl, by simp⟩, fun j hj => ?_⟩⟩
  rw [addr_add, Nat.zero_add]
  exact (RowAt.new W (cE x) e).cell j
theorem infoE : (Try.prog.info? 49).map (fun i => (i.zero, i.size, i.bytes)) = some (some (.agg #[.int .i64 0, .int .i64 0, .int .u8 0, .int .i64 0]), 4, 32) := by kernel_rfl
theorem appE {w W : World} {v u : Value} {m news : List Er} (h : OwnE w W v m) (hu : HasE W u news) (hl : m.length + news.length ≤ 1000000) :
    ∃ v' w3, (∀ ty, (Builtin.append_ #[25, 25] ty #[v, u]).run Try.prog W = .ok v' w3) ∧ OwnE w w3 v' (m ++ news) ∧ (∀ t cs e, RowAt W t cs e → e ≠ 49 → RowAt w3 t cs e) := by
  obtain ⟨v', w3, hrun, ho, hg⟩ := Lk.append_row infoE Try.underlying25 rfl (by decide) h.ou hu (one_csE news) (by omega) (by omega) h.bl.size
  rw [← csE_app, ← List.length_append] at ho
  refine ⟨v', w3, hrun, ⟨ho, h.bl.grown hg h.bl.size (fun k e => (h.ou.lt k e).1)⟩, fun t cs e hr he => RowAt.gkeep hr hg (fun hb => he ?_)⟩
  rcases h.ou.2 with ⟨e0, _⟩ | ⟨g, cap, cur, e1, hgb, hgc, _⟩
  · rw [e0] at hb; cases hb
  · rw [e1] at hb
    injection hb with hb
    subst hb
    have h3 : W.heap[t]? = some (.cells cs.toArray e (0, 0)) := hr
    rw [hgc] at h3
    injection h3 with h3
    injection h3 with h4 h5
    exact h5.symm
theorem appEB {w W : World} {v u : Value} {m news : List Er} (h : OwnE w W v m) (hu : HasE W u news) (hl : (m.length + news.length) * 32 ≤ 140737488355328) :
    ∃ v' w3, (∀ ty, (Builtin.append_ #[25, 25] ty #[v, u]).run Try.prog W = .ok v' w3) ∧ OwnE w w3 v' (m ++ news) ∧ (∀ t cs e, RowAt W t cs e → e ≠ 49 → RowAt w3 t cs e) := by
  obtain ⟨v', w3, hrun, ho, hg⟩ := Lk.append_row infoE Try.underlying25 rfl (by decide) h.ou hu (one_csE news) (by omega) (by omega) h.bl.size
  rw [← csE_app, ← List.length_append] at ho
  refine ⟨v', w3, hrun, ⟨ho, h.bl.grown hg h.bl.size (fun k e => (h.ou.lt k e).1)⟩, fun t cs e hr he => RowAt.gkeep hr hg (fun hb => he ?_)⟩
  rcases h.ou.2 with ⟨e0, _⟩ | ⟨g, cap, cur, e1, hgb, hgc, _⟩
  · rw [e0] at hb; cases hb
  · rw [e1] at hb
    injection hb with hb
    subst hb
    have h3 : W.heap[t]? = some (.cells cs.toArray e (0, 0)) := hr
    rw [hgc] at h3
    injection h3 with h3
    injection h3 with h4 h5
    exact h5.symm
theorem makeE (w : World) (n : Nat) (h : n ≤ 1000000) : ∃ w1, (∀ kl kc : IntKind, (Instr.makeSlice 25 (.int kl 0) (.int kc (n : Int))).run Try.prog w = .ok (.slice (some ⟨w.heap.size, 0, none⟩) 0 n) w1) ∧ OwnE w w1 (.slice (some ⟨w.heap.size, 0, none⟩) 0 n) [] := by
  obtain ⟨i0, hi, hz0, hz1, hz2⟩ := Sp.info_parts infoE
  obtain ⟨C, hC⟩ : ∃ C, C = madeCells ((.agg #[.int .i64 0, .int .i64 0, .int .u8 0, .int .i64 0] : Value)).cells (n * 4) := ⟨_, rfl⟩
  have hs : C.size = n * 4 := by rw [hC]; simp [madeCells]
  refine ⟨w.alloc (.cells C 49), fun kl kc => ?_, ?_, below_new (Below.refl _ _) _⟩
  · have hr := run_make (P := Try.prog) w 25 49 i0 (.agg #[.int .i64 0, .int .i64 0, .int .u8 0, .int .i64 0]) Try.underlying25 hi hz0 kl kc 0 n (by omega) (by omega) (by rw [hz2]; omega) (by omega)
    rw [hr, hz1, Int.toNat_natCast, hC]
    rfl
  · exact World.ownsRow_made w C n (Nat.le_refl _) (by unfold maxLen; omega) hs
def cL (x : Er) : List Value := [.int .i64 x.a, .int .i64 x.b, .int .u8 x.v.kind, .int .i64 x.v.at']
def csL (l : List Er) : List Value := l.flatMap cL
theorem csL_len (l : List Er) : (csL l).length = l.length * 4 := by
  induction l with
  | nil => rfl
  | cons s l ih =>
    show (cL s ++ csL l).length = _
    rw [List.length_append, ih, List.length_cons]
    show 4 + _ = _
    omega
theorem csL_app (a b : List Er) : csL (a ++ b) = csL a ++ csL b := by unfold csL; rw [List.flatMap_append]
theorem csL_one (x : Er) : csL [x] = cL x := by simp [csL]
theorem one_csL (l : List Er) : ∀ x ∈ csL l, x.oneCell' = true := by
  intro x hx
  obtain ⟨p, _, h⟩ := List.mem_flatMap.1 hx
  simp only [cL, List.mem_cons, List.not_mem_nil, or_false] at h
  rcases h with rfl | rfl | rfl | rfl <;> rfl
def HasL (W : World) (v : Value) (l : List Er) : Prop := HasRow W v 4 l.length (csL l)
theorem HasL.keep {W W' : World} {v : Value} {l : List Er} (h : HasL W v l) (hb : Below W.heap.size W W') : HasL W' v l := HasRow.keep h hb
theorem hasL_nil (W : World) : HasL W (.slice none 0 0) [] := Lk.hasRow_nil W 4
theorem csL_at (l : List Er) : ∀ j (h : j < l.length), (csL l)[4 * j]? = some (.int .i64 l[j].a) ∧ (csL l)[4 * j + 1]? = some (.int .i64 l[j].b) ∧ (csL l)[4 * j + 2]? = some (.int .u8 l[j].v.kind) ∧ (csL l)[4 * j + 3]? = some (.int .i64 l[j].v.at') := by
  induction l with
  | nil => intro j h; simp at h
  | cons p ps ih =>
    intro j h
    cases j with
    | zero => exact ⟨rfl, rfl, rfl, rfl⟩
    | succ j =>
      have := ih j (by simpa using h)
      rw [show csL (p :: ps) = .int .i64 p.a :: .int .i64 p.b :: .int .u8 p.v.kind :: .int .i64 p.v.at' :: csL ps from rfl, show 4 * (j + 1) = 4 * j + 1 + 1 + 1 + 1 by omega]
      rw [show 4 * j + 1 + 1 + 1 + 1 + 1 = (4 * j + 1) + 1 + 1 + 1 + 1 by omega, show 4 * j + 1 + 1 + 1 + 1 + 2 = (4 * j + 2) + 1 + 1 + 1 + 1 by omega, show 4 * j + 1 + 1 + 1 + 1 + 3 = (4 * j + 3) + 1 + 1 + 1 + 1 by omega]
      simp only [List.getElem?_cons_succ, List.getElem_cons_succ]
      exact this
theorem HasL.cell {W : World} {o : Option Addr} {m cap : Nat} {l : List Er} (h : HasL W (.slice o m cap) l) (j : Nat) (hj : j < l.length) : ∃ b i, o = some ⟨b, i, none⟩ ∧ b < W.heap.size ∧ W.cell? ⟨b, i + j * 4, none⟩ = some (.int .i64 l[j].a) ∧ W.cell? ⟨b, i + j * 4 + 1, none⟩ = some (.int .i64 l[j].b) ∧ W.cell? ⟨b, i + j * 4 + 2, none⟩ = some (.int .u8 l[j].v.kind) ∧ W.cell? ⟨b, i + j * 4 + 3, none⟩ = some (.int .i64 l[j].v.at') := by
  obtain ⟨_, b, i, e, hb, hc⟩ := HasRow.at h (by omega)
  have h2 := csL_at l j hj
  exact ⟨b, i, e, hb, by rw [hc (j * 4) (by omega), Nat.mul_comm]; exact h2.1, by rw [Nat.add_assoc, hc (j * 4 + 1) (by omega), Nat.mul_comm]; exact h2.2.1, by rw [Nat.add_assoc, hc (j * 4 + 2) (by omega), Nat.mul_comm]; exact h2.2.2.1, by rw [Nat.add_assoc, hc (j * 4 + 3) (by omega), Nat.mul_comm]; exact h2.2.2.2⟩
/-- a row that the call made, all of it in new memory -/
structure OwnL (w W : World) (u : Value) (a : List Er) : Prop where
  ou : W.ownsRow w.heap.size 106 4 u a.length (csL a)
  bl : Below w.heap.size w W
theorem OwnL.below {w W W' : World} {u : Value} {a : List Er} (h : OwnL w W u a) (hb : Below W.heap.size W W') : OwnL w W' u a := ⟨own_below h.ou hb, below2 h.bl hb⟩
theorem OwnL.has {w W : World} {u : Value} {a : List Er} (h : OwnL w W u a) : HasL W u a := hasRow_own h.ou
theorem OwnL.nil (w : World) : OwnL w w (.slice none 0 0) [] := ⟨World.ownsRow_nil _ _ _ _, Below.refl _ _⟩
theorem OwnL.to {w w1 W : World} {u : Value} {a : List Er} (h : OwnL w1 W u a) (hb : Below w.heap.size w w1) : OwnL w W u a := by
  refine ⟨⟨h.ou.1, ?_⟩, below2 hb h.bl⟩
  rcases h.ou.2 with h0 | ⟨g, cap, cur, e1, hg, rest⟩
  · exact .inl h0
  · exact .inr ⟨g, cap, cur, e1, Nat.le_trans hb.size hg, rest⟩
theorem litL (W : World) (x : Er) (e : Nat) : HasL (W.alloc (.cells #[.int .i64 x.a, .int .i64 x.b, .int .u8 x.v.kind, .int .i64 x.v.at'] e)) (.slice (some ⟨W.heap.size, 0, none⟩) 1 1) [x] := by
  refine ⟨rfl, .inr ⟨⟨W.heap.size, 0, none⟩, 1, rfl, Nat.le_refl _, by decide, fun _ => ⟨rfl, by simp⟩, fun j hj => ?_⟩⟩
  rw [addr_add, Nat.zero_add]
  exact (RowAt.new W (cL x) e).cell j
theorem infoL : (Try.prog.info? 106).map (fun i => (i.zero, i.size, i.bytes)) = some (some (.agg #[.int .i64 0, .int .i64 0, .int .u8 0, .int .i64 0]), 4, 32) := by kernel_rfl
theorem appL {w W : World} {v u : Value} {m news : List Er} (h : OwnL w W v m) (hu : HasL W u news) (hl : m.length + news.length ≤ 1000000) :
    ∃ v' w3, (∀ ty, (Builtin.append_ #[62, 62] ty #[v, u]).run Try.prog W = .ok v' w3) ∧ OwnL w w3 v' (m ++ news) ∧ (∀ t cs e, RowAt W t cs e → e ≠ 106 → RowAt w3 t cs e) := by
  obtain ⟨v', w3, hrun, ho, hg⟩ := Lk.append_row infoL Try.underlying62 rfl (by decide) h.ou hu (one_csL news) (by omega) (by omega) h.bl.size
  rw [← csL_app, ← List.length_append] at ho
  refine ⟨v', w3, hrun, ⟨ho, h.bl.grown hg h.bl.size (fun k e => (h.ou.lt k e).1)⟩, fun t cs e hr he => RowAt.gkeep hr hg (fun hb => he ?_)⟩
  rcases h.ou.2 with ⟨e0, _⟩ | ⟨g, cap, cur, e1, hgb, hgc, _⟩
  · rw [e0] at hb; cases hb
  · rw [e1] at hb
    injection hb with hb
    subst hb
    have h3 : W.heap[t]? = some (.cells cs.toArray e (0, 0)) := hr
    rw [hgc] at h3
    injection h3 with h3
    injection h3 with h4 h5
    exact h5.symm
theorem appLB {w W : World} {v u : Value} {m news : List Er} (h : OwnL w W v m) (hu : HasL W u news) (hl : (m.length + news.length) * 32 ≤ 140737488355328) :
    ∃ v' w3, (∀ ty, (Builtin.append_ #[62, 62] ty #[v, u]).run Try.prog W = .ok v' w3) ∧ OwnL w w3 v' (m ++ news) ∧ (∀ t cs e, RowAt W t cs e → e ≠ 106 → RowAt w3 t cs e) := by
  obtain ⟨v', w3, hrun, ho, hg⟩ := Lk.append_row infoL Try.underlying62 rfl (by decide) h.ou hu (one_csL news) (by omega) (by omega) h.bl.size
  rw [← csL_app, ← List.length_append] at ho
  refine ⟨v', w3, hrun, ⟨ho, h.bl.grown hg h.bl.size (fun k e => (h.ou.lt k e).1)⟩, fun t cs e hr he => RowAt.gkeep hr hg (fun hb => he ?_)⟩
  rcases h.ou.2 with ⟨e0, _⟩ | ⟨g, cap, cur, e1, hgb, hgc, _⟩
  · rw [e0] at hb; cases hb
  · rw [e1] at hb
    injection hb with hb
    subst hb
    have h3 : W.heap[t]? = some (.cells cs.toArray e (0, 0)) := hr
    rw [hgc] at h3
    injection h3 with h3
    injection h3 with h4 h5
    exact h5.symm
theorem makeL (w : World) (n : Nat) (h : n ≤ 1000000) : ∃ w1, (∀ kl kc : IntKind, (Instr.makeSlice 62 (.int kl 0) (.int kc (n : Int))).run Try.prog w = .ok (.slice (some ⟨w.heap.size, 0, none⟩) 0 n) w1) ∧ OwnL w w1 (.slice (some ⟨w.heap.size, 0, none⟩) 0 n) [] := by
  obtain ⟨i0, hi, hz0, hz1, hz2⟩ := Sp.info_parts infoL
  obtain ⟨C, hC⟩ : ∃ C, C = madeCells ((.agg #[.int .i64 0, .int .i64 0, .int .u8 0, .int .i64 0] : Value)).cells (n * 4) := ⟨_, rfl⟩
  have hs : C.size = n * 4 := by rw [hC]; simp [madeCells]
  refine ⟨w.alloc (.cells C 106), fun kl kc => ?_, ?_, below_new (Below.refl _ _) _⟩
  · have hr := run_make (P := Try.prog) w 62 106 i0 (.agg #[.int .i64 0, .int .i64 0, .int .u8 0, .int .i64 0]) Try.underlying62 hi hz0 kl kc 0 n (by omega) (by omega) (by rw [hz2]; omega) (by omega)
    rw [hr, hz1, Int.toNat_natCast, hC]
    rfl
  · exact World.ownsRow_made w C n (Nat.le_refl _) (by unfold maxLen; omega) hs
def cM (x : Mk) : List Value := [.int .i64 x.t, .int .u8 x.v.kind, .int .i64 x.v.at']
def csM (l : List Mk) : List Value := l.flatMap cM
theorem csM_len (l : List Mk) : (csM l).length = l.length * 3 := by
  induction l with
  | nil => rfl
  | cons s l ih =>
    show (cM s ++ csM l).length = _
    rw [List.length_append, ih, List.length_cons]
    show 3 + _ = _
    omega
theorem csM_app (a b : List Mk) : csM (a ++ b) = csM a ++ csM b := by unfold csM; rw [List.flatMap_append]
theorem csM_one (x : Mk) : csM [x] = cM x := by simp [csM]
theorem one_csM (l : List Mk) : ∀ x ∈ csM l, x.oneCell' = true := by
  intro x hx
  obtain ⟨p, _, h⟩ := List.mem_flatMap.1 hx
  simp only [cM, List.mem_cons, List.not_mem_nil, or_false] at h
  rcases h with rfl | rfl | rfl <;> rfl
def HasM (W : World) (v : Value) (l : List Mk) : Prop := HasRow W v 3 l.length (csM l)
theorem HasM.keep {W W' : World} {v : Value} {l : List Mk} (h : HasM W v l) (hb : Below W.heap.size W W') : HasM W' v l := HasRow.keep h hb
theorem hasM_nil (W : World) : HasM W (.slice none 0 0) [] := Lk.hasRow_nil W 3
theorem csM_at (l : List Mk) : ∀ j (h : j < l.length), (csM l)[3 * j]? = some (.int .i64 l[j].t) ∧ (csM l)[3 * j + 1]? = some (.int .u8 l[j].v.kind) ∧ (csM l)[3 * j + 2]? = some (.int .i64 l[j].v.at') := by
  induction l with
  | nil => intro j h; simp at h
  | cons p ps ih =>
    intro j h
    cases j with
    | zero => exact ⟨rfl, rfl, rfl⟩
    | succ j =>
      have := ih j (by simpa using h)
      rw [show csM (p :: ps) = .int .i64 p.t :: .int .u8 p.v.kind :: .int .i64 p.v.at' :: csM ps from rfl, show 3 * (j + 1) = 3 * j + 1 + 1 + 1 by omega]
      rw [show 3 * j + 1 + 1 + 1 + 1 = (3 * j + 1) + 1 + 1 + 1 by omega, show 3 * j + 1 + 1 + 1 + 2 = (3 * j + 2) + 1 + 1 + 1 by omega]
      simp only [List.getElem?_cons_succ, List.getElem_cons_succ]
      exact this
theorem HasM.cell {W : World} {o : Option Addr} {m cap : Nat} {l : List Mk} (h : HasM W (.slice o m cap) l) (j : Nat) (hj : j < l.length) : ∃ b i, o = some ⟨b, i, none⟩ ∧ b < W.heap.size ∧ W.cell? ⟨b, i + j * 3, none⟩ = some (.int .i64 l[j].t) ∧ W.cell? ⟨b, i + j * 3 + 1, none⟩ = some (.int .u8 l[j].v.kind) ∧ W.cell? ⟨b, i + j * 3 + 2, none⟩ = some (.int .i64 l[j].v.at') := by
  obtain ⟨_, b, i, e, hb, hc⟩ := HasRow.at h (by omega)
  have h2 := csM_at l j hj
  exact ⟨b, i, e, hb, by rw [hc (j * 3) (by omega), Nat.mul_comm]; exact h2.1, by rw [Nat.add_assoc, hc (j * 3 + 1) (by omega), Nat.mul_comm]; exact h2.2.1, by rw [Nat.add_assoc, hc (j * 3 + 2) (by omega), Nat.mul_comm]; exact h2.2.2⟩
/-- a row that the call made, all of it in new memory -/
structure OwnM (w W : World) (u : Value) (a : List Mk) : Prop where
  ou : W.ownsRow w.heap.size 46 3 u a.length (csM a)
  bl : Below w.heap.size w W
theorem OwnM.below {w W W' : World} {u : Value} {a : List Mk} (h : OwnM w W u a) (hb : Below W.heap.size W W') : OwnM w W' u a := ⟨own_below h.ou hb, below2 h.bl hb⟩
theorem OwnM.has {w W : World} {u : Value} {a : List Mk} (h : OwnM w W u a) : HasM W u a := hasRow_own h.ou
theorem OwnM.nil (w : World) : OwnM w w (.slice none 0 0) [] := ⟨World.ownsRow_nil _ _ _ _, Below.refl _ _⟩
theorem OwnM.to {w w1 W : World} {u : Value} {a : List Mk} (h : OwnM w1 W u a) (hb : Below w.heap.size w w1) : OwnM w W u a := by
  refine ⟨⟨h.ou.1, ?_⟩, below2 hb h.bl⟩
  rcases h.ou.2 with h0 | ⟨g, cap, cur, e1, hg, rest⟩
  · exact .inl h0
  · exact .inr ⟨g, cap, cur, e1, Nat.le_trans hb.size hg, rest⟩
theorem litM (W : World) (x : Mk) (e : Nat) : HasM (W.alloc (.cells #[.int .i64 x.t, .int .u8 x.v.kind, .int .i64 x.v.at'] e)) (.slice (some ⟨W.heap.size, 0, none⟩) 1 1) [x] := by
  refine ⟨rfl, .inr ⟨⟨W.heap.size, 0, none⟩, 1, rfl, Nat.le_refl _, by decide, fun _ => ⟨rfl, by simp⟩, fun j hj => ?_⟩⟩
  rw [addr_add, Nat.zero_add]
  exact (RowAt.new W (cM x) e).cell j
theorem infoM : (Try.prog.info? 46).map (fun i => (i.zero, i.size, i.bytes)) = some (some (.agg #[.int .i64 0, .int .u8 0, .int .i64 0]), 3, 24) := by kernel_rfl
theorem appM {w W : World} {v u : Value} {m news : List Mk} (h : OwnM w W v m) (hu : HasM W u news) (hl : m.length + news.length ≤ 1000000) :
    ∃ v' w3, (∀ ty, (Builtin.append_ #[24, 24] ty #[v, u]).run Try.prog W = .ok v' w3) ∧ OwnM w w3 v' (m ++ news) ∧ (∀ t cs e, RowAt W t cs e → e ≠ 46 → RowAt w3 t cs e) := by
  obtain ⟨v', w3, hrun, ho, hg⟩ := Lk.append_row infoM Try.underlying24 rfl (by decide) h.ou hu (one_csM news) (by omega) (by omega) h.bl.size
  rw [← csM_app, ← List.length_append] at ho
  refine ⟨v', w3, hrun, ⟨ho, h.bl.grown hg h.bl.size (fun k e => (h.ou.lt k e).1)⟩, fun t cs e hr he => RowAt.gkeep hr hg (fun hb => he ?_)⟩
  rcases h.ou.2 with ⟨e0, _⟩ | ⟨g, cap, cur, e1, hgb, hgc, _⟩
  · rw [e0] at hb; cases hb
  · rw [e1] at hb
    injection hb with hb
    subst hb
    have h3 : W.heap[t]? = some (.cells cs.toArray e (0, 0)) := hr
    rw [hgc] at h3
    injection h3 with h3
    injection h3 with h4 h5
    exact h5.symm
theorem appMB {w W : World} {v u : Value} {m news : List Mk} (h : OwnM w W v m) (hu : HasM W u news) (hl : (m.length + news.length) * 24 ≤ 140737488355328) :
    ∃ v' w3, (∀ ty, (Builtin.append_ #[24, 24] ty #[v, u]).run Try.prog W = .ok v' w3) ∧ OwnM w w3 v' (m ++ news) ∧ (∀ t cs e, RowAt W t cs e → e ≠ 46 → RowAt w3 t cs e) := by
  obtain ⟨v', w3, hrun, ho, hg⟩ := Lk.append_row infoM Try.underlying24 rfl (by decide) h.ou hu (one_csM news) (by omega) (by omega) h.bl.size
  rw [← csM_app, ← List.length_append] at ho
  refine ⟨v', w3, hrun, ⟨ho, h.bl.grown hg h.bl.size (fun k e => (h.ou.lt k e).1)⟩, fun t cs e hr he => RowAt.gkeep hr hg (fun hb => he ?_)⟩
  rcases h.ou.2 with ⟨e0, _⟩ | ⟨g, cap, cur, e1, hgb, hgc, _⟩
  · rw [e0] at hb; cases hb
  · rw [e1] at hb
    injection hb with hb
    subst hb
    have h3 : W.heap[t]? = some (.cells cs.toArray e (0, 0)) := hr
    rw [hgc] at h3
    injection h3 with h3
    injection h3 with h4 h5
    exact h5.symm
theorem makeM (w : World) (n : Nat) (h : n ≤ 1000000) : ∃ w1, (∀ kl kc : IntKind, (Instr.makeSlice 24 (.int kl 0) (.int kc (n : Int))).run Try.prog w = .ok (.slice (some ⟨w.heap.size, 0, none⟩) 0 n) w1) ∧ OwnM w w1 (.slice (some ⟨w.heap.size, 0, none⟩) 0 n) [] := by
  obtain ⟨i0, hi, hz0, hz1, hz2⟩ := Sp.info_parts infoM
  obtain ⟨C, hC⟩ : ∃ C, C = madeCells ((.agg #[.int .i64 0, .int .u8 0, .int .i64 0] : Value)).cells (n * 3) := ⟨_, rfl⟩
  have hs : C.size = n * 3 := by rw [hC]; simp [madeCells]
  refine ⟨w.alloc (.cells C 46), fun kl kc => ?_, ?_, below_new (Below.refl _ _) _⟩
  · have hr := run_make (P := Try.prog) w 24 46 i0 (.agg #[.int .i64 0, .int .u8 0, .int .i64 0]) Try.underlying24 hi hz0 kl kc 0 n (by omega) (by omega) (by rw [hz2]; omega) (by omega)
    rw [hr, hz1, Int.toNat_natCast, hC]
    rfl
  · exact World.ownsRow_made w C n (Nat.le_refl _) (by unfold maxLen; omega) hs
def okV (v : Vd) : Bool := decide (0 < v.kind) && (decide (v.kind < 5) && (decide (0 ≤ v.at') && decide (v.at' ≤ 1048576)))
theorem okV_iff {v : Vd} : okV v = true ↔ 0 < v.kind ∧ v.kind < 5 ∧ 0 ≤ v.at' ∧ v.at' ≤ 1048576 := by unfold okV; simp
def eqV (v u : Vd) : Bool := decide (v.kind = u.kind) && decide (v.at' = u.at')
theorem eqV_iff {v u : Vd} : eqV v u = true ↔ v = u := by
  obtain ⟨a, b⟩ := v
  obtain ⟨c, d⟩ := u
  unfold eqV; simp
def notP : Option Vd → Vd → Bool
  | none, _ => true
  | some u, v => !eqV v u
def stepB (b : Int) (p : Option Vd) (n : Int) (x : Er) : Bool := decide (x.a = n) && (decide (x.a ≤ x.b) && (decide (x.b ≤ b) && notP p x.v))
/-- eras right behind each other from a time on: the time behind them -/
def goE (b : Int) : Option Vd → Int → List Er → Option Int
  | _, n, [] => some n
  | p, n, x :: l => if stepB b p n x then goE b (some x.v) (x.b + 1) l else none
def prevV (l : List Er) : Nat → Option Vd
  | 0 => none
  | j + 1 => (l[j]?).map (fun x => x.v)
theorem prevV_succ {l : List Er} {j : Nat} (h : j < l.length) : prevV l (j + 1) = some l[j].v := by show (l[j]?).map (fun x => x.v) = _; rw [List.getElem?_eq_getElem h]; rfl
theorem goE_drop {b n : Int} {p : Option Vd} {l : List Er} {k : Nat} (h : k < l.length) : goE b p n (l.drop k) = if stepB b p n l[k] then goE b (prevV l (k + 1)) (l[k].b + 1) (l.drop (k + 1)) else none := by
  rw [List.drop_eq_getElem_cons h, prevV_succ h]; rfl
/-- a line of a window -/
def okL (w : Iv) (l : List Er) : Bool := okI w && (decide (l.length ≤ 1024) && (l.all (fun x => okV x.v) && (goE w.2 none w.1 l == some (w.2 + 1))))
end Go.Proofs.Ytmkbijnndbgjgaa.Ln
namespace Go.Proofs.Ytmkbijnndbgjgaa.Ln
open Go.RowKit
open Go.Proofs.Ytmkbijnndbgjgaa.Iv (Iv FitT FitI okI okI_iff ivV okJ HasI litI chk_any okS_to toS)
open Go.Proofs.Ytmkbijnndbgjgaa.Lk (HasRow)
open Go.Proofs.Ytmkbijnndbgjgaa.Sp (chk okB okB_iff Row)
open Go.Proofs.Ytmkbijnndbgjgaa.Addr (RowAt below2 below_drew below_new bset RowAt.lt RowAt.cell RowAt.frozen RowAt.below RowAt.drew RowAt.new RowAt.alloc cells2 cells4)
set_option maxHeartbeats 2000000 in
theorem rightV_any (v : Vd) (w : World) : Calls Try.prog 64 #[.agg #[.int .u8 v.kind, .int .i64 v.at']] w fun e w' => e = .returned (.bool (okV v)) ∧ Below w.heap.size w w' := by
  obtain ⟨a, b⟩ := v
  have h0 : okV ⟨a, b⟩ = (decide (0 < a) && (decide (a < 5) && (decide (0 ≤ b) && decide (b ≤ 1048576)))) := rfl
  rw [h0]
  clear h0
  simp only
  obtain ⟨X, hX⟩ : ∃ X, X = w.alloc (.cells #[.int .u8 a, .int .i64 b] 35) := ⟨_, rfl⟩
  have hB : Below w.heap.size w X := by rw [hX]; exact below_new (Below.refl _ _) _
  have rz : RowAt X w.heap.size [.int .u8 a, .int .i64 b] 35 := by rw [hX]; exact RowAt.new _ _ _
  obtain ⟨z0, z1, zf⟩ := cells2 rz
  go_enter Try.func64, Try.ntmps64
  go_upto_region 1 with fail
  rw [← hX]
  clear hX
  by_cases h1 : 0 < a
  · have e1 : decide (0 < a) = true := decide_eq_true h1
    by_cases h2 : a < 5
    · have e2 : decide (a < 5) = true := decide_eq_true h2
      by_cases h3 : 0 ≤ b
      · have e3 : decide (0 ≤ b) = true := decide_eq_true h3
        go_wp2_with fail
        go_ret
        exact ⟨by first | rfl | (rw [e1, e2, e3]; rfl), hB⟩
      · have e3 : decide (0 ≤ b) = false := decide_eq_false h3
        go_wp2_with fail
        go_ret
        exact ⟨by first | rfl | (rw [e1, e2, e3]; rfl), hB⟩
    · have e2 : decide (a < 5) = false := decide_eq_false h2
      go_wp2_with fail
      go_ret
      exact ⟨by first | rfl | (rw [e1, e2]; rfl), hB⟩
  · have e1 : decide (0 < a) = false := decide_eq_false h1
    go_wp2_with fail
    go_ret
    exact ⟨by first | rfl | (rw [e1]; rfl), hB⟩
set_option maxHeartbeats 2000000 in
theorem rone_any (v : Vd) (w : World) : Calls Try.prog 35 #[.agg #[.int .u8 v.kind, .int .i64 v.at']] w fun e w' => e = .returned (.bool (okV v)) ∧ Below w.heap.size w w' := by
  obtain ⟨a, b⟩ := v
  have h0 : okV ⟨a, b⟩ = (decide (0 < a) && (decide (a < 5) && (decide (0 ≤ b) && decide (b ≤ 1048576)))) := rfl
  rw [h0]
  clear h0
  simp only
  obtain ⟨X, hX⟩ : ∃ X, X = w.alloc (.cells #[.int .u8 a, .int .i64 b] 35) := ⟨_, rfl⟩
  have hB : Below w.heap.size w X := by rw [hX]; exact below_new (Below.refl _ _) _
  have rz : RowAt X w.heap.size [.int .u8 a, .int .i64 b] 35 := by rw [hX]; exact RowAt.new _ _ _
  obtain ⟨z0, z1, zf⟩ := cells2 rz
  go_enter Try.func35, Try.ntmps35
  go_upto_region 1 with fail
  rw [← hX]
  clear hX
  by_cases h1 : 0 < a
  · have e1 : decide (0 < a) = true := decide_eq_true h1
    by_cases h2 : a < 5
    · have e2 : decide (a < 5) = true := decide_eq_true h2
      by_cases h3 : 0 ≤ b
      · have e3 : decide (0 ≤ b) = true := decide_eq_true h3
        go_wp2_with fail
        go_ret
        exact ⟨by first | rfl | (rw [e1, e2, e3]; rfl), hB⟩
      · have e3 : decide (0 ≤ b) = false := decide_eq_false h3
        go_wp2_with fail
        go_ret
        exact ⟨by first | rfl | (rw [e1, e2, e3]; rfl), hB⟩
    · have e2 : decide (a < 5) = false := decide_eq_false h2
      go_wp2_with fail
      go_ret
      exact ⟨by first | rfl | (rw [e1, e2]; rfl), hB⟩
  · have e1 : decide (0 < a) = false := decide_eq_false h1
    go_wp2_with fail
    go_ret
    exact ⟨by first | rfl | (rw [e1]; rfl), hB⟩
theorem okJ_one (x : Iv) : okJ [x] = okI x := by
  unfold okJ
  cases h : okI x
  · simp [h]
  · have : okB true [toS x] = true := okB_iff.2 ⟨by simp, fun s hs => by rw [List.mem_singleton.1 hs]; exact okS_to h, by simp⟩
    simp [h, this]
theorem chk_zero (b : Bool) : decide (chk b = 0) = b := by cases b <;> rfl
set_option maxHeartbeats 2000000 in
theorem right_any (x : Iv) (w : World) : Calls Try.prog 30 #[.agg #[.int .i64 x.1, .int .i64 x.2]] w fun e w' => e = .returned (.bool (okI x)) ∧ Below w.heap.size w w' := by
  have cc := fun (v : Value) (W : World) (h : HasI W v [x]) => chk_any [x] v W h
  rw [okJ_one] at cc
  have hck : decide (chk (okI x) = 0) = okI x := chk_zero _
  generalize okI x = B at *
  obtain ⟨X, hX⟩ : ∃ X, X = w.alloc (.cells #[.int .i64 x.1, .int .i64 x.2] 23) := ⟨_, rfl⟩
  have hB : Below w.heap.size w X := by rw [hX]; exact below_new (Below.refl _ _) _
  have rz : RowAt X w.heap.size [.int .i64 x.1, .int .i64 x.2] 23 := by rw [hX]; exact RowAt.new _ _ _
  obtain ⟨z0, z1, zf⟩ := cells2 rz
  obtain ⟨Y, hY⟩ : ∃ Y, Y = X.alloc (.cells #[.int .i64 x.1, .int .i64 x.2] 23) := ⟨_, rfl⟩
  have hBY : Below X.heap.size X Y := by rw [hY]; exact below_new (Below.refl _ _) _
  have hl : HasI Y (.slice (some ⟨X.heap.size, 0, none⟩) 1 1) [x] := by rw [hY]; exact litI X x _
  go_enter Try.func30, Try.ntmps30
  go_upto_region 1 with fail
  rw [← hX]
  clear hX
  go_wp2_with fail
  rw [← hY]
  clear hY
  go_at_call 51; refine (cc _ _ hl).mono ?_; rintro e w2 ⟨rfl, hb⟩
  have hW := below2 (below2 hB hBY) hb
  clear cc hl hb hB hBY z0 z1 zf
  generalize chk B = c at *
  go_wp2_with fail
  go_ret
  exact ⟨by first | rw [← hck]; rfl | rw [hck], hW⟩
set_option maxHeartbeats 2000000 in
theorem wrong_any (x : Er) (w : World) : Calls Try.prog 37 #[.agg #[.int .i64 x.a, .int .i64 x.b, .int .u8 x.v.kind, .int .i64 x.v.at']] w fun e w' => e = .returned (.bool (!okV x.v)) ∧ Below w.heap.size w w' := by
  have cc := fun (W : World) => rightV_any x.v W
  generalize okV x.v = B at *
  obtain ⟨X, hX⟩ : ∃ X, X = w.alloc (.cells #[.int .i64 x.a, .int .i64 x.b, .int .u8 x.v.kind, .int .i64 x.v.at'] 49) := ⟨_, rfl⟩
  have hB : Below w.heap.size w X := by rw [hX]; exact below_new (Below.refl _ _) _
  have rz : RowAt X w.heap.size [.int .i64 x.a, .int .i64 x.b, .int .u8 x.v.kind, .int .i64 x.v.at'] 49 := by rw [hX]; exact RowAt.new _ _ _
  obtain ⟨z0, z1, z2, z3, zf⟩ := cells4 rz
  go_enter Try.func37, Try.ntmps37
  go_upto_region 1 with fail
  rw [← hX]
  clear hX
  go_wp2_with fail
  go_at_call 64; refine (cc _).mono ?_; rintro e w2 ⟨rfl, hb⟩
  have hW := below2 hB hb
  clear cc hb hB z0 z1 z2 z3 zf
  go_wp2_with fail
  go_ret
  exact ⟨rfl, hW⟩
end Go.Proofs.Ytmkbijnndbgjgaa.Ln
namespace Go.Proofs.Ytmkbijnndbgjgaa.Ln
open Go.RowKit
open Go.Proofs.Ytmkbijnndbgjgaa.Lk (HasRow idxL idx_at idx_none)
open Go.Proofs.Ytmkbijnndbgjgaa.Addr (RowAt below2 below_drew below_new)
theorem idx_pos {α : Type} {p : α → Bool} {l : List α} : decide (0 ≤ idxL p l) = l.any p := by
  cases h : l.any p with
  | false =>
    rw [idx_none (fun j hj => by have := List.any_eq_false.1 h l[j] (List.getElem_mem hj); simpa using this)]
    rfl
  | true =>
    unfold idxL
    cases hf : l.findIdx? p with
    | none =>
      exfalso
      obtain ⟨x, hx, hp⟩ := List.any_eq_true.1 h
      rw [List.findIdx?_eq_none_iff.1 hf x hx] at hp
      cases hp
    | some k => exact decide_eq_true (by simp)
set_option maxHeartbeats 8000000 in
set_option maxRecDepth 20000 in
theorem idxW_any (l : List Er) (p : Er → Bool) (v : Value)  (w : World) (hl : HasE w v l)
    (ca : ∀ (x : Er) (W : World), Below w.heap.size w W → Calls Try.prog 37 #[.agg #[.int .i64 x.a, .int .i64 x.b, .int .u8 x.v.kind, .int .i64 x.v.at']] W fun e w' => e = .returned (.bool (p x)) ∧ Below W.heap.size W w') :
    Calls Try.prog 40 #[v, .func (.func 37) #[] #[]] w fun e w' => e = .returned (.int .i64 (idxL p l)) ∧ Below w.heap.size w w' := by
  obtain ⟨o, c, rfl, hc1, hc2⟩ := HasRow.slice hl
  have HR : Hid (∀ wr : World, Below w.heap.size w wr → HasE wr (.slice o l.length c) l) := fun wr hb => hl.keep hb
  have HG : Hid (∀ (x : Er) (W : World), Below w.heap.size w W → Calls Try.prog 37 #[.agg #[.int .i64 x.a, .int .i64 x.b, .int .u8 x.v.kind, .int .i64 x.v.at']] W fun e w' => e = .returned (.bool (p x)) ∧ Below W.heap.size W w') := ca
  obtain ⟨n, hn⟩ : ∃ n, n = l.length := ⟨_, rfl⟩
  have HN : Hid (n = l.length) := hn
  rw [← hn] at HR hc1 ⊢
  have hni : (n : Int) ≤ 9223372036854775807 := by omega
  obtain ⟨R, hR⟩ : ∃ R, R = idxL p l := ⟨_, rfl⟩
  have HRD : Hid (R = idxL p l) := hR
  rw [← hR]
  clear hl hn hR ca
  go_enter Try.func40, Try.ntmps40
  go_wp2_with fail
  go_loopw [8] (fun q wr => ∃ k : Nat, k ≤ n ∧ q = .int .i64 k ∧ Below w.heap.size w wr ∧ Hid (∀ j (hj : j < l.length), j < k → p l[j] = false)) (fun q _ => n - (Go.RowKit.intOf q).toNat)
  case atStart => exact ⟨0, by omega, rfl, Below.refl _ _, fun j hj h => absurd h (Nat.not_lt_zero _)⟩
  case round =>
    obtain ⟨k, hk, rfl, hB, HI⟩ := hrel
    by_cases hlt : k < n
    · have hkz : k < l.length := by rw [← HN.out]; exact hlt
      obtain ⟨g1, i1, rfl, hg1, a0, a1, a2, a3⟩ := HasE.cell (HR.out _ hB) k hkz
      have cc2 := HG.out l[k] wr hB
      have HV1 : Hid (∀ D : Bool, D = p l[k] → D = true → R = (k : Int)) := fun D e h => by rw [HRD.out]; exact idx_at hkz HI.out (by rw [← e, h])
      have HV2 : Hid (∀ D : Bool, D = p l[k] → D = false → ∀ j (hj : j < l.length), j < k + 1 → p l[j] = false) := fun D e h j hj hjk => by
        by_cases e2 : j = k
        · subst e2; rw [← e, h]
        · exact HI.out j hj (by omega)
      obtain ⟨D, hD⟩ : ∃ D, D = p l[k] := ⟨_, rfl⟩
      have HW1 : Hid (D = true → R = (k : Int)) := HV1.out D hD
      have HW2 : Hid (D = false → ∀ j (hj : j < l.length), j < k + 1 → p l[j] = false) := HV2.out D hD
      rw [← hD] at cc2
      have hki : (k : Int) < (n : Int) := by omega
      clear HI HV1 HV2 hD hg1
      generalize l[k].a = s0 at a0 cc2
      generalize l[k].b = s1 at a1 cc2
      generalize l[k].v.kind = s2 at a2 cc2
      generalize l[k].v.at' = s3 at a3 cc2
      go_wp2_with fail
      go_at_call 37; refine cc2.mono ?_; rintro e w2 ⟨rfl, hb2⟩
      have hB2 := below2 hB hb2
      cases D
      · have HV3 : Hid (∀ j (hj : j < l.length), j < k + 1 → p l[j] = false) := HW2.out rfl
        clear HW1 HW2 cc2
        go_wp2_with fail
        go_roundw
        case rel => exact ⟨k + 1, by omega, by go_num, hB2, HV3⟩
        case measure => simp [Go.RowKit.intOf]; omega
      · have HV : Hid (R = (k : Int)) := HW1.out rfl
        clear HW1 HW2 cc2
        go_wp2_with fail
        go_ret
        exact ⟨by have h := HV.out; subst h; rfl, hB2⟩
    · have hkn : decide ((k : Int) < (n : Int)) = false := decide_eq_false (by omega)
      have HV : Hid (R = -1) := by show _ = _; rw [HRD.out]; exact idx_none (fun j hj => HI.out j hj (by have := HN.out; omega))
      clear HI
      go_wp2_with fail
      go_ret
      exact ⟨by have h := HV.out; subst h; rfl, hB⟩
set_option maxHeartbeats 4000000 in
theorem badE_any (l : List Er) (v : Value) (w : World) (hl : HasE w v l) :
    Calls Try.prog 36 #[v, .func (.func 37) #[] #[]] w fun e w' => e = .returned (.bool (l.any (fun x => !okV x.v))) ∧ Below w.heap.size w w' := by
  have ci := idxW_any l (fun x => !okV x.v) v w hl (fun x W hb => wrong_any x W)
  have hp := idx_pos (p := fun x : Er => !okV x.v) (l := l)
  obtain ⟨o, c, rfl, _⟩ := HasRow.slice hl
  generalize idxL (fun x : Er => !okV x.v) l = R at ci hp
  generalize l.any (fun x => !okV x.v) = M at hp ⊢
  generalize l.length = n at *
  clear hl
  have hr2 : decide (R ≥ 0) = M := hp
  cases M
  · go_enter Try.func36, Try.ntmps36
    go_wp2_with fail
    go_at_call 40; refine ci.mono ?_; rintro e w2 ⟨rfl, hb⟩
    go_wp2_with fail
    go_ret
    exact ⟨rfl, hb⟩
  · go_enter Try.func36, Try.ntmps36
    go_wp2_with fail
    go_at_call 40; refine ci.mono ?_; rintro e w2 ⟨rfl, hb⟩
    go_wp2_with fail
    go_ret
    exact ⟨rfl, hb⟩
end Go.Proofs.Ytmkbijnndbgjgaa.Ln
namespace Go.Proofs.Ytmkbijnndbgjgaa.Ln
open Go.RowKit Go.Shelf
open Go.Proofs.Ytmkbijnndbgjgaa.Lk (HasRow hasRow_own addr_add)
open Go.Proofs.Ytmkbijnndbgjgaa.Addr (RowAt below2 below_drew below_new bset RowAt.lt RowAt.cell RowAt.frozen RowAt.below RowAt.drew RowAt.new RowAt.alloc cells2 cells4)
attribute [-go_sem] Builtin.append_
set_option maxHeartbeats 8000000 in
set_option maxRecDepth 20000 in
theorem verdicts_any (l : List Er) (v : Value) (w : World) (hl : HasE w v l) (hlen : l.length ≤ 1000000) :
    Calls Try.prog 38 #[v] w fun e w' => ∃ u, e = .returned u ∧ OwnL w w' u l := by
  obtain ⟨o, c, rfl, hc1, hc2⟩ := HasRow.slice hl
  have HR : Hid (∀ wr : World, Below w.heap.size w wr → HasE wr (.slice o l.length c) l) := fun wr hb => hl.keep hb
  obtain ⟨n, hn⟩ : ∃ n, n = l.length := ⟨_, rfl⟩
  have HN : Hid (n = l.length) := hn
  rw [← hn] at HR hc1 hlen ⊢
  have hni : (n : Int) ≤ 1000000 := by omega
  clear hl hn
  obtain ⟨w1, hmk, hm0⟩ := makeL w n (by omega)
  have H0 : Hid (OwnL w w1 (.slice (some ⟨w.heap.size, 0, none⟩) 0 n) (l.take 0)) := hm0
  obtain ⟨g0, hg0⟩ : ∃ g0, g0 = w.heap.size := ⟨_, rfl⟩
  rw [← hg0] at hmk H0
  clear hg0 hm0
  go_enter Try.func38, Try.ntmps38
  go_wp2_with fail
  go_loopw [3, 11] (fun u q wr => ∃ k : Nat, k ≤ n ∧ q = .int .i64 k ∧ Hid (OwnL w wr u (l.take k))) (fun _ q _ => n - (Go.RowKit.intOf q).toNat)
  case atStart => exact ⟨0, by omega, rfl, H0⟩
  case round =>
    obtain ⟨k, hk, rfl, HI⟩ := hrel
    have hI := HI.out
    by_cases hlt : k < n
    · have hkz : k < l.length := by rw [← HN.out]; exact hlt
      obtain ⟨g1, i1, rfl, hg1, a0, a1, a2, a3⟩ := HasE.cell (HR.out _ hI.bl) k hkz
      have HA : Hid (l.take (k + 1) = l.take k ++ [l[k]]) := List.take_succ_eq_append_getElem hkz
      have hki : (k : Int) < (n : Int) := by omega
      have htk : (l.take k).length + [l[k]].length ≤ 1000000 := by rw [List.length_take]; simp only [List.length_cons, List.length_nil]; omega
      obtain ⟨s, hs⟩ : ∃ s : Er, s = l[k] := ⟨_, rfl⟩
      rw [← hs] at HA a0 a1 a2 a3 htk
      clear hs HI hg1
      go_upto_region 5 with fail
      obtain ⟨X, hX⟩ : ∃ X, X = wr.alloc (.cells #[.int .i64 s.a, .int .i64 s.b, .int .u8 s.v.kind, .int .i64 s.v.at'] 49) := ⟨_, rfl⟩
      have hbX : Below wr.heap.size wr X := by rw [hX]; exact below_new (Below.refl _ _) _
      have r0 : RowAt X wr.heap.size [.int .i64 s.a, .int .i64 s.b, .int .u8 s.v.kind, .int .i64 s.v.at'] 49 := by rw [hX]; exact RowAt.new _ _ _
      rw [← hX]
      have hO := hI.below hbX
      obtain ⟨gs, hgs⟩ : ∃ g, g = wr.heap.size := ⟨_, rfl⟩
      rw [← hgs] at r0 ⊢
      clear hX hbX a0 a1 a2 a3 hI hgs
      obtain ⟨v', w6, hrun, hO2, _⟩ := appL (hO.below (below_new (Below.refl _ X) (.cells #[.int .i64 s.a, .int .i64 s.b, .int .u8 s.v.kind, .int .i64 s.v.at'] 106))) (litL X s 106) htk
      have HI2 : Hid (OwnL w w6 v' (l.take (k + 1))) := by
        show OwnL _ _ _ _
        rw [HA.out]; exact hO2
      obtain ⟨p0, p1, p2, p3, pf⟩ := cells4 r0
      clear HA hO2 htk hO r0
      go_wp2_with fail
      go_roundw
      case rel => exact ⟨k + 1, by omega, by go_num, HI2⟩
      case measure => simp [Go.RowKit.intOf]; omega
    · have hkn : decide ((k : Int) < (n : Int)) = false := decide_eq_false (by omega)
      have hte : l.take k = l := by have := HN.out; exact List.take_of_length_le (by omega)
      have HI2 : Hid (OwnL w wr u3 l) := by rw [hte] at HI; exact HI.out
      clear HI hI hte
      go_wp2_with fail
      go_ret
      exact ⟨_, rfl, HI2.out⟩
set_option maxHeartbeats 8000000 in
set_option maxRecDepth 20000 in
theorem told_any (l : List Er) (v : Value) (w : World) (hl : HasL w v l) (hlen : l.length ≤ 1000000) :
    Calls Try.prog 33 #[v] w fun e w' => ∃ u, e = .returned u ∧ OwnE w w' u l := by
  obtain ⟨o, c, rfl, hc1, hc2⟩ := HasRow.slice hl
  have HR : Hid (∀ wr : World, Below w.heap.size w wr → HasL wr (.slice o l.length c) l) := fun wr hb => hl.keep hb
  obtain ⟨n, hn⟩ : ∃ n, n = l.length := ⟨_, rfl⟩
  have HN : Hid (n = l.length) := hn
  rw [← hn] at HR hc1 hlen ⊢
  have hni : (n : Int) ≤ 1000000 := by omega
  clear hl hn
  obtain ⟨w1, hmk, hm0⟩ := makeE w n (by omega)
  have H0 : Hid (OwnE w w1 (.slice (some ⟨w.heap.size, 0, none⟩) 0 n) (l.take 0)) := hm0
  obtain ⟨g0, hg0⟩ : ∃ g0, g0 = w.heap.size := ⟨_, rfl⟩
  rw [← hg0] at hmk H0
  clear hg0 hm0
  go_enter Try.func33, Try.ntmps33
  go_wp2_with fail
  go_loopw [3, 11] (fun u q wr => ∃ k : Nat, k ≤ n ∧ q = .int .i64 k ∧ Hid (OwnE w wr u (l.take k))) (fun _ q _ => n - (Go.RowKit.intOf q).toNat)
  case atStart => exact ⟨0, by omega, rfl, H0⟩
  case round =>
    obtain ⟨k, hk, rfl, HI⟩ := hrel
    have hI := HI.out
    by_cases hlt : k < n
    · have hkz : k < l.length := by rw [← HN.out]; exact hlt
      obtain ⟨g1, i1, rfl, hg1, a0, a1, a2, a3⟩ := HasL.cell (HR.out _ hI.bl) k hkz
      have HA : Hid (l.take (k + 1) = l.take k ++ [l[k]]) := List.take_succ_eq_append_getElem hkz
      have hki : (k : Int) < (n : Int) := by omega
      have htk : (l.take k).length + [l[k]].length ≤ 1000000 := by rw [List.length_take]; simp only [List.length_cons, List.length_nil]; omega
      obtain ⟨s, hs⟩ : ∃ s : Er, s = l[k] := ⟨_, rfl⟩
      rw [← hs] at HA a0 a1 a2 a3 htk
      clear hs HI hg1
      go_upto_region 5 with fail
      obtain ⟨X, hX⟩ : ∃ X, X = wr.alloc (.cells #[.int .i64 s.a, .int .i64 s.b, .int .u8 s.v.kind, .int .i64 s.v.at'] 106) := ⟨_, rfl⟩
      have hbX : Below wr.heap.size wr X := by rw [hX]; exact below_new (Below.refl _ _) _
      have r0 : RowAt X wr.heap.size [.int .i64 s.a, .int .i64 s.b, .int .u8 s.v.kind, .int .i64 s.v.at'] 106 := by rw [hX]; exact RowAt.new _ _ _
      rw [← hX]
      have hO := hI.below hbX
      obtain ⟨gs, hgs⟩ : ∃ g, g = wr.heap.size := ⟨_, rfl⟩
      rw [← hgs] at r0 ⊢
      clear hX hbX a0 a1 a2 a3 hI hgs
      obtain ⟨v', w6, hrun, hO2, _⟩ := appE (hO.below (below_new (Below.refl _ X) (.cells #[.int .i64 s.a, .int .i64 s.b, .int .u8 s.v.kind, .int .i64 s.v.at'] 49))) (litE X s 49) htk
      have HI2 : Hid (OwnE w w6 v' (l.take (k + 1))) := by
        show OwnE _ _ _ _
        rw [HA.out]; exact hO2
      obtain ⟨p0, p1, p2, p3, pf⟩ := cells4 r0
      clear HA hO2 htk hO r0
      go_wp2_with fail
      go_roundw
      case rel => exact ⟨k + 1, by omega, by go_num, HI2⟩
      case measure => simp [Go.RowKit.intOf]; omega
    · have hkn : decide ((k : Int) < (n : Int)) = false := decide_eq_false (by omega)
      have hte : l.take k = l := by have := HN.out; exact List.take_of_length_le (by omega)
      have HI2 : Hid (OwnE w wr u3 l) := by rw [hte] at HI; exact HI.out
      clear HI hI hte
      go_wp2_with fail
      go_ret
      exact ⟨_, rfl, HI2.out⟩
end Go.Proofs.Ytmkbijnndbgjgaa.Ln
namespace Go.Proofs.Ytmkbijnndbgjgaa.Ln
open Go.RowKit
open Go.Proofs.Ytmkbijnndbgjgaa.Iv (Iv)
theorem vd_guard : Try.prog.eqGuardType Try.prog.depth 35 = false := by kernel_rfl
theorem er_guard : Try.prog.eqGuardType Try.prog.depth 49 = false := by kernel_rfl
theorem vd_inG (k l i j : Int) (w : World) (f : Nat) : (Op.equalIn (f + 2) 35 (.agg #[.int .u8 k, .int .i64 i]) (.agg #[.int .u8 l, .int .i64 j])).run Try.prog w = .ok (decide (k = l) && decide (i = j)) w := by
  have u9 := Try.underlying33
  have a9 := Try.isAgg33
  have z9 := Try.sizeOf33
  have u3 := Try.underlying3
  have a3 := Try.isAgg3
  have z3 := Try.sizeOf3
  have hS : Try.prog.underlying 35 = some (.struct (Try.prog.fieldsOf 35)) := by kernel_rfl
  have hp : Try.prog.stoodInHeld 35 = false := by kernel_rfl
  rw [show f + 2 = (f + 1) + 1 from rfl, run_equalIn_agg w (f + 1) 35 _ _ hS hp]
  simp only [Program.fieldsOf, Try.underlying35]
  by_cases h1 : k = l
  · subst h1
    by_cases h2 : i = j
    · subst h2
      go_simp
    · go_simp
  · go_simp
theorem vd_eql (v u : Vd) (w : World) : (binOp .eql 35 (.agg #[.int .u8 v.kind, .int .i64 v.at']) (.agg #[.int .u8 u.kind, .int .i64 u.at'])).run Try.prog w = .ok (.bool (eqV v u)) w := by
  rw [run_eql_struct, vd_inG _ _ _ _ w 9998]
  rfl
theorem vd_neq (v u : Vd) (w : World) : (binOp .neq 35 (.agg #[.int .u8 v.kind, .int .i64 v.at']) (.agg #[.int .u8 u.kind, .int .i64 u.at'])).run Try.prog w = .ok (.bool (!eqV v u)) w := by
  rw [run_neq_struct, vd_inG _ _ _ _ w 9998]
  rfl
theorem iv_inG (a b : Int) (w : World) (f : Nat) : (Op.equalIn (f + 2) 23 (.agg #[.int .i64 a, .int .i64 b]) (.agg #[.int .i64 a, .int .i64 b])).run Try.prog w = .ok true w := by
  have u3 := Try.underlying2
  have a3 := Try.isAgg2
  have z3 := Try.sizeOf2
  have hS : Try.prog.underlying 23 = some (.struct (Try.prog.fieldsOf 23)) := by kernel_rfl
  have hp : Try.prog.stoodInHeld 23 = false := by kernel_rfl
  rw [show f + 2 = (f + 1) + 1 from rfl, run_equalIn_agg w (f + 1) 23 _ _ hS hp]
  simp only [Program.fieldsOf, Try.underlying23]
  go_simp
theorem er_in (a b k i : Int) (w : World) : (Op.equalIn 10000 49 (.agg #[.int .i64 a, .int .i64 b, .int .u8 k, .int .i64 i]) (.agg #[.int .i64 a, .int .i64 b, .int .u8 k, .int .i64 i])).run Try.prog w = .ok true w := by
  have a24 := Try.isAgg23
  have z24 := Try.sizeOf23
  have a25 := Try.isAgg35
  have z25 := Try.sizeOf35
  have hS : Try.prog.underlying 49 = some (.struct (Try.prog.fieldsOf 49)) := by kernel_rfl
  have hp : Try.prog.stoodInHeld 49 = false := by kernel_rfl
  have h1 := fun w => iv_inG a b w 9997
  have h2 := fun w => vd_inG k k i i w 9997
  simp only [decide_true, Bool.and_self] at h2
  rw [show (10000 : Nat) = 9999 + 1 from rfl, run_equalIn_agg w 9999 49 _ _ hS hp]
  simp only [Program.fieldsOf, Try.underlying49]
  go_simp
theorem er_neq (a b k i : Int) (w : World) : (binOp .neq 49 (.agg #[.int .i64 a, .int .i64 b, .int .u8 k, .int .i64 i]) (.agg #[.int .i64 a, .int .i64 b, .int .u8 k, .int .i64 i])).run Try.prog w = .ok (.bool false) w := by
  rw [run_neq_struct, er_in]
  rfl
end Go.Proofs.Ytmkbijnndbgjgaa.Ln
namespace Go.Proofs.Ytmkbijnndbgjgaa.Ln
open Go.RowKit
open Go.Proofs.Ytmkbijnndbgjgaa.Iv (Iv FitT FitI okI okI_iff)
open Go.Proofs.Ytmkbijnndbgjgaa.Lk (HasRow addr_add)
open Go.Proofs.Ytmkbijnndbgjgaa.Addr (Bl bl_ne wp_region_bl bl_call RowAt below2 below_drew below_new bset RowAt.lt RowAt.cell RowAt.frozen RowAt.below RowAt.drew RowAt.new RowAt.alloc cells2 cells4)
set_option maxHeartbeats 8000000 in
set_option maxRecDepth 20000 in
theorem of_any (wi : Iv) (l : List Er) (v : Value) (w : World) (hl : HasL w v l) (hw : okI wi = true) :
    Calls Try.prog 39 #[v, .agg #[.int .i64 wi.1, .int .i64 wi.2]] w fun e w' => e = .returned (.bool (goE wi.2 none wi.1 l == some (wi.2 + 1))) ∧ Below w.heap.size w w' := by
  obtain ⟨wa, wb⟩ := wi
  have hw3 := okI_iff.1 hw
  simp only at hw3 ⊢
  obtain ⟨o, c, rfl, hc1, hc2⟩ := HasRow.slice hl
  obtain ⟨R, hR⟩ : ∃ R, R = (goE wb none wa l == some (wb + 1)) := ⟨_, rfl⟩
  have HRD : Hid (∀ z, goE wb none wa l = z → R = (z == some (wb + 1))) := fun z h => by rw [hR, h]
  rw [← hR]
  obtain ⟨n, hn⟩ : ∃ n, n = l.length := ⟨_, rfl⟩
  have HN : Hid (n = l.length) := hn
  obtain ⟨X, hX⟩ : ∃ X, X = w.alloc (.cells #[.int .i64 wa, .int .i64 wb] 23) := ⟨_, rfl⟩
  have hB0 : Below w.heap.size w X := by rw [hX]; exact below_new (Below.refl _ _) _
  have rw0 : RowAt X w.heap.size [.int .i64 wa, .int .i64 wb] 23 := by rw [hX]; exact RowAt.new _ _ _
  obtain ⟨g0, hg0⟩ : ∃ g, g = w.heap.size := ⟨_, rfl⟩
  rw [← hg0] at rw0
  have HR : Hid (∀ wr : World, Below X.heap.size X wr → HasL wr (.slice o l.length c) l ∧ RowAt wr g0 [.int .i64 wa, .int .i64 wb] 23 ∧ Below w.heap.size w wr) := fun wr hb => ⟨hl.keep (below2 hB0 hb), rw0.below hb, below2 hB0 hb⟩
  rw [← hn] at HR hc1 ⊢
  have hni : (n : Int) ≤ 9223372036854775807 := by omega
  have hwb : IntKind.i64.wrap (wb + 1) = wb + 1 := by rw [IntKind.wrap_i64]; omega
  clear hl hn hR hw hB0
  obtain ⟨z0, z1, zf⟩ := cells2 rw0
  go_enter Try.func39, Try.ntmps39
  go_upto_region 1 with fail
  rw [← hX, ← hg0]
  clear hX hg0 rw0
  go_wp2_with fail
  clear z0 z1 zf
  have H0 : Hid (goE wb none wa l = goE wb (prevV l 0) wa (l.drop 0)) := rfl
  go_loopw [5, 12] (fun u q wr => ∃ (k : Nat) (nx : Int), k ≤ n ∧ q = .int .i64 k ∧ u = .int .i64 nx ∧ 0 ≤ nx ∧ nx ≤ wb + 1 ∧ Below X.heap.size X wr ∧ Hid (goE wb none wa l = goE wb (prevV l k) nx (l.drop k))) (fun _ q _ => n - (Go.RowKit.intOf q).toNat)
  case atStart => exact ⟨0, wa, by omega, rfl, rfl, by omega, by omega, Below.refl _ _, H0⟩
  case round =>
    clear H0
    obtain ⟨k, nx, hk, rfl, rfl, hn0, hn1, hB, HG⟩ := hrel
    obtain ⟨hh, rw0, hBW⟩ := HR.out _ hB
    by_cases hlt : k < n
    · have hkz : k < l.length := by rw [← HN.out]; exact hlt
      obtain ⟨g1, i1, rfl, hg1, a0, a1, a2, a3⟩ := HasL.cell hh k hkz
      have hki : (k : Int) < (n : Int) := by omega
      have HNO : Hid (stepB wb (prevV l k) nx l[k] = false → R = false) := fun h => by
        rw [HRD.out none (by rw [HG.out, goE_drop hkz, h]; rfl)]; rfl
      have HYE : Hid (stepB wb (prevV l k) nx l[k] = true → goE wb none wa l = goE wb (prevV l (k + 1)) (l[k].b + 1) (l.drop (k + 1))) := fun h => by
        rw [HG.out, goE_drop hkz, h]; rfl
      unfold stepB at HNO HYE
      have HEQ : Hid (∀ (u : Vd) (W : World), (binOp .eql 35 (.agg #[.int .u8 l[k].v.kind, .int .i64 l[k].v.at']) (.agg #[.int .u8 u.kind, .int .i64 u.at'])).run Try.prog W = .ok (.bool (eqV l[k].v u)) W) := fun u W => vd_eql l[k].v u W
      have hP0 : Hid (k = 0 → notP (prevV l k) l[k].v = true) := fun h => by subst h; rfl
      have hP1 : Hid (∀ j (hj : j < l.length), k = j + 1 → notP (prevV l k) l[k].v = !eqV l[k].v l[j].v) := fun j hj h => by subst h; rw [prevV_succ hj]; rfl
      generalize notP (prevV l k) l[k].v = NP at HNO HYE hP0 hP1
      generalize l[k].v = xv at a2 a3 HEQ hP1
      generalize l[k].a = xa at a0 HNO HYE
      generalize l[k].b = xb at a1 HNO HYE
      generalize hxk : xv.kind = xk at *
      generalize hxi : xv.at' = xi at *
      clear hxk hxi HG hg1
      go_upto_region 5 with fail
      obtain ⟨Y, hY⟩ : ∃ X, X = wr.alloc (.cells #[.int .i64 xa, .int .i64 xb, .int .u8 xk, .int .i64 xi] 106) := ⟨_, rfl⟩
      have hbY : Below wr.heap.size wr Y := by rw [hY]; exact below_new (Below.refl _ _) _
      have rx : RowAt Y wr.heap.size [.int .i64 xa, .int .i64 xb, .int .u8 xk, .int .i64 xi] 106 := by rw [hY]; exact RowAt.new _ _ _
      rw [← hY]
      replace hB := below2 hB hbY
      replace rw0 := rw0.below hbY
      replace hh := hh.keep hbY
      clear hY hbY hBW a0 a1 a2 a3
      obtain ⟨gx, hgx⟩ : ∃ g, g = wr.heap.size := ⟨_, rfl⟩
      rw [← hgx] at rx ⊢
      clear hgx
      obtain ⟨x0, x1, x2, x3, xf⟩ := cells4 rx
      obtain ⟨z0, z1, zf⟩ := cells2 rw0
      have hBW := (HR.out _ hB).2.2
      by_cases h1 : xa = nx
      · subst h1
        have hne : (xa != xa) = false := by simp
        by_cases h2 : xb < xa
        · have HV : Hid (R = false) := HNO.out (by rw [decide_eq_false (show ¬ xa ≤ xb by omega)]; simp)
          have h2b : decide (xb < xa) = true := decide_eq_true h2
          clear HNO HYE HRD HEQ hP0 hP1 hh
          go_wp2_with fail
          go_ret
          exact ⟨by rw [HV.out]; rfl, hBW⟩
        · have h2b : decide (xb < xa) = false := decide_eq_false h2
          by_cases h3 : wb < xb
          · have HV : Hid (R = false) := HNO.out (by rw [decide_eq_false (show ¬ xb ≤ wb by omega)]; simp)
            have h3b : decide (wb < xb) = true := decide_eq_true h3
            clear HNO HYE HRD HEQ hP0 hP1 hh
            go_wp2_with fail
            go_ret
            exact ⟨by rw [HV.out]; rfl, hBW⟩
          · have h3b : decide (wb < xb) = false := decide_eq_false h3
            have hxb : IntKind.i64.wrap (xb + 1) = xb + 1 := by rw [IntKind.wrap_i64]; omega
            have HNO2 : Hid (NP = false → R = false) := fun h => HNO.out (by rw [h]; simp)
            have HYE2 : Hid (NP = true → goE wb none xa l = goE wb (prevV l (k + 1)) (xb + 1) (l.drop (k + 1)) ∨ True) := fun h => .inr trivial
            have HYE3 : Hid (NP = true → goE wb none wa l = goE wb (prevV l (k + 1)) (xb + 1) (l.drop (k + 1))) := fun h => HYE.out (by rw [h, decide_eq_true (show xa ≤ xb by omega), decide_eq_true (show xb ≤ wb by omega)]; simp)
            clear HNO HYE HYE2
            go_upto_region 7 with fail
            haveI := bl_ne Y
            have y2 := fun p : Bl Y => (rx.below p.h).cell 2
            have y3 := fun p : Bl Y => (rx.below p.h).cell 3
            simp only [List.getElem?_cons_succ, List.getElem?_cons_zero] at y2 y3
            by_cases hk0 : k = 0
            · have HYE4 : Hid (goE wb none wa l = goE wb (prevV l (k + 1)) (xb + 1) (l.drop (k + 1))) := HYE3.out (hP0.out hk0)
              have hz1 : decide ((0 : Int) < (k : Int)) = false := decide_eq_false (by omega)
              have hz2 : decide (0 < k) = false := decide_eq_false (by omega)
              clear HNO2 HYE3 HRD HEQ hP0 hP1 hh x0 x1 x2 x3 xf z0 z1 zf hk0
              refine wp_region_bl (by kernel_rfl) (by kernel_rfl) ?_
              repeat (go_big_quiet_step (first | fail))
              refine wpQuiet_nil ?_
              intro wq hw'
              obtain ⟨⟨wz, hq⟩, hw2⟩ := hw'
              subst hw2
              have hBZ := below2 hB hq
              obtain ⟨x0, x1, x2, x3, xf⟩ := cells4 (rx.below hq)
              clear y2 y3
              go_wp2_with fail
              go_roundw
              case rel => exact ⟨k + 1, xb + 1, by omega, by go_num, rfl, by omega, by omega, hBZ, HYE4⟩
              case measure => simp [Go.RowKit.intOf]; omega
            · obtain ⟨j, hj⟩ : ∃ j, k = j + 1 := ⟨k - 1, by omega⟩
              have hj2 : j < l.length := by omega
              obtain ⟨g2, i2, e12, hg2, _, _, b2, b3⟩ := HasL.cell hh j hj2
              injection e12 with e12
              injection e12 with e1 e2
              subst e1 e2
              have hNP := hP1.out j hj2 hj
              have heq := HEQ.out l[j].v
              have q2 : ∀ p : Bl Y, p.W.cell? ⟨g1, i1 + j * 4 + 2, none⟩ = some (.int .u8 l[j].v.kind) := fun p => (p.h.cell (p := ⟨g1, i1 + j * 4 + 2, none⟩) hg2).trans b2
              have q3 : ∀ p : Bl Y, p.W.cell? ⟨g1, i1 + j * 4 + 3, none⟩ = some (.int .i64 l[j].v.at') := fun p => (p.h.cell (p := ⟨g1, i1 + j * 4 + 3, none⟩) hg2).trans b3
              have e1 : (k : Int) - 1 = (j : Int) := by omega
              have e2 : IntKind.i64.wrap (j : Int) = (j : Int) := by rw [IntKind.wrap_i64]; omega
              have hkp : decide ((0 : Int) < (k : Int)) = true := decide_eq_true (by omega)
              have hkp2 : decide (0 < k) = true := decide_eq_true (by omega)
              have hjn : (j : Int) < (n : Int) := by omega
              have hvg := vd_guard
              generalize eqV xv l[j].v = E at hNP heq
              generalize l[j].v.kind = pk at *
              generalize l[j].v.at' = pi at *
              clear HEQ hP0 hP1 hh x0 x1 x2 x3 xf z0 z1 zf hk0 hj b2 b3 hg2
              cases E
              · have HYE4 : Hid (goE wb none wa l = goE wb (prevV l (k + 1)) (xb + 1) (l.drop (k + 1))) := HYE3.out (by rw [hNP]; rfl)
                clear HNO2 HYE3 HRD hNP
                refine wp_region_bl (by kernel_rfl) (by kernel_rfl) ?_
                repeat (go_big_quiet_step (first | fail))
                refine wpQuiet_nil ?_
                intro wq hw'
                obtain ⟨⟨wz, hq⟩, hw2⟩ := hw'
                subst hw2
                have hBZ := below2 hB hq
                obtain ⟨x0, x1, x2, x3, xf⟩ := cells4 (rx.below hq)
                clear y2 y3 q2 q3 e1 e2 hkp hkp2 hjn
                go_wp2_with fail
                go_roundw
                case rel => exact ⟨k + 1, xb + 1, by omega, by go_num, rfl, by omega, by omega, hBZ, HYE4⟩
                case measure => simp [Go.RowKit.intOf]; omega
              · have HV : Hid (R = false) := HNO2.out (by rw [hNP]; rfl)
                clear HNO2 HYE3 HRD hNP
                refine wp_region_bl (by kernel_rfl) (by kernel_rfl) ?_
                repeat (go_big_quiet_step (first | fail))
                refine wpQuiet_nil ?_
                intro wq hw'
                obtain ⟨⟨wz, hq⟩, hw2⟩ := hw'
                subst hw2
                have hBZ := below2 hBW hq
                clear y2 y3 q2 q3 e1 e2 hkp hkp2 hjn
                go_wp2_with fail
                go_ret
                exact ⟨by rw [HV.out]; rfl, hBZ⟩
      · have HV : Hid (R = false) := HNO.out (by rw [decide_eq_false h1]; rfl)
        have hne : (xa != nx) = true := by simp [h1]
        clear HNO HYE HRD HEQ hP0 hP1 hh
        go_wp2_with fail
        go_ret
        exact ⟨by rw [HV.out]; rfl, hBW⟩
    · have hkn : decide ((k : Int) < (n : Int)) = false := decide_eq_false (by omega)
      have hdr : l.drop k = [] := by have := HN.out; exact List.drop_eq_nil_of_le (by omega)
      have HV : Hid (R = (some nx == some (wb + 1))) := HRD.out _ (by rw [HG.out, hdr]; cases prevV l k <;> rfl)
      obtain ⟨z0, z1, zf⟩ := cells2 rw0
      clear HG HRD hdr hh
      by_cases he : nx = wb + 1
      · have he2 : (nx == wb + 1) = true := by simp [he]
        have he3 : decide (nx = wb + 1) = true := decide_eq_true he
        go_wp2_with fail
        go_ret
        exact ⟨by rw [HV.out]; simp [he], hBW⟩
      · have he2 : (nx == wb + 1) = false := by simp [he]
        have he3 : decide (nx = wb + 1) = false := decide_eq_false he
        go_wp2_with fail
        go_ret
        exact ⟨by rw [HV.out]; simp [he], hBW⟩
end Go.Proofs.Ytmkbijnndbgjgaa.Ln
namespace Go.Proofs.Ytmkbijnndbgjgaa.Ln
open Go.RowKit
open Go.Proofs.Ytmkbijnndbgjgaa.Iv (Iv FitT FitI okI okI_iff)
open Go.Proofs.Ytmkbijnndbgjgaa.Lk (HasRow)
open Go.Proofs.Ytmkbijnndbgjgaa.Sp (chk)
open Go.Proofs.Ytmkbijnndbgjgaa.Addr (Bl bl_ne wp_region_bl bl_call RowAt below2 below_drew below_new bset RowAt.lt RowAt.cell RowAt.frozen RowAt.below RowAt.drew RowAt.new RowAt.alloc cells2 cells4)
theorem any_not {l : List Er} : l.any (fun x => !okV x.v) = !l.all (fun x => okV x.v) := by
  induction l with
  | nil => rfl
  | cons x l ih => rw [List.any_cons, List.all_cons, ih]; cases okV x.v <;> rfl
set_option maxHeartbeats 8000000 in
set_option maxRecDepth 20000 in
theorem check_any (wi : Iv) (l : List Er) (v : Value) (w : World) (hl : HasE w v l) :
    Calls Try.prog 13 #[.agg #[.int .i64 wi.1, .int .i64 wi.2], v] w fun e w' => e = .returned (.int .i64 (chk (okL wi l))) ∧ Below w.heap.size w w' := by
  have c1 := fun (W : World) => right_any wi W
  have c2 := fun (W : World) (h : HasE W v l) => badE_any l v W h
  rw [any_not] at c2
  have c3 := fun (hl : l.length ≤ 1000000) (W : World) (h : HasE W v l) => verdicts_any l v W h hl
  have c4 := fun (hw : okI wi = true) (u : Value) (W : World) (h : HasL W u l) => of_any wi l u W h hw
  have hok : okL wi l = (okI wi && (decide (l.length ≤ 1024) && (l.all (fun x => okV x.v) && (goE wi.2 none wi.1 l == some (wi.2 + 1))))) := rfl
  have HC : Hid (∀ a b c d, okI wi = a → decide (l.length ≤ 1024) = b → l.all (fun x => okV x.v) = c → (goE wi.2 none wi.1 l == some (wi.2 + 1)) = d → okL wi l = (a && (b && (c && d)))) := fun a b c d h1 h2 h3 h4 => by rw [hok, h1, h2, h3, h4]
  generalize okL wi l = R at *
  clear hok
  generalize (goE wi.2 none wi.1 l == some (wi.2 + 1)) = G at *
  generalize l.all (fun x => okV x.v) = M at *
  obtain ⟨wa, wb⟩ := wi
  simp only at c1 c4 ⊢
  obtain ⟨o, c, rfl, hc1, hc2⟩ := HasRow.slice hl
  obtain ⟨n, hn⟩ : ∃ n, n = l.length := ⟨_, rfl⟩
  rw [← hn] at hc1 c2 c3 hl HC ⊢
  have hni : (n : Int) ≤ 9223372036854775807 := by omega
  obtain ⟨X, hX⟩ : ∃ X, X = w.alloc (.cells #[.int .i64 wa, .int .i64 wb] 23) := ⟨_, rfl⟩
  have hB0 : Below w.heap.size w X := by rw [hX]; exact below_new (Below.refl _ _) _
  have rw0 : RowAt X w.heap.size [.int .i64 wa, .int .i64 wb] 23 := by rw [hX]; exact RowAt.new _ _ _
  obtain ⟨g0, hg0⟩ : ∃ g, g = w.heap.size := ⟨_, rfl⟩
  rw [← hg0] at rw0
  replace hl := hl.keep hB0
  have HL : Hid (∀ W, Below X.heap.size X W → HasE W (.slice o n c) l) := fun W hq => hl.keep hq
  have HSK : Hid (∀ W : World, Below X.heap.size X W → W.cell? ⟨g0, 0, none⟩ = some (.int .i64 wa) ∧ W.cell? ⟨g0, 1, none⟩ = some (.int .i64 wb)) := fun W hq => by
    obtain ⟨z0, z1, _⟩ := cells2 (rw0.below hq)
    exact ⟨z0, z1⟩
  have hbA : Below X.heap.size X X := Below.refl _ _
  haveI := bl_ne X
  have y0 := fun p : Bl X => (rw0.below p.h).cell 0
  have y1 := fun p : Bl X => (rw0.below p.h).cell 1
  simp only [List.getElem?_cons_succ, List.getElem?_cons_zero] at y0 y1
  have hlp := fun p : Bl X => hl.keep p.h
  go_enter Try.func13, Try.ntmps13
  go_upto_region 1 with fail
  rw [← hX, ← hg0]
  clear hX hg0 rw0 hl hn
  cases hA : okI (wa, wb)
  · rw [hA] at c1
    have HV : Hid (R = false) := HC.out _ _ _ _ hA rfl rfl rfl
    clear HC c2 c3 c4 HL HSK hlp hbA hA
    refine wp_region_bl (by kernel_rfl) (by kernel_rfl) ?_
    repeat (go_big_quiet_step (first | (go_at_call 30; with_reducible exact bl_call (c1 _))))
    refine wpQuiet_nil ?_
    intro wq hw'
    obtain ⟨⟨wz, hq⟩, hw2⟩ := hw'
    subst hw2
    have hBZ := below2 hB0 hq
    clear y0 y1
    go_wp2_with fail
    go_ret
    exact ⟨by rw [HV.out]; rfl, hBZ⟩
  · have c5 := c4 hA
    rw [hA] at c1
    clear c4
    by_cases hbig : 1024 < n
    · have hb1 : decide ((1024 : Int) < (n : Int)) = true := decide_eq_true (by omega)
      have HV : Hid (R = false) := HC.out _ false _ _ hA (decide_eq_false (by omega)) rfl rfl
      clear HC c2 c3 c5 HL HSK hlp hbA hA
      refine wp_region_bl (by kernel_rfl) (by kernel_rfl) ?_
      repeat (go_big_quiet_step (first | (go_at_call 30; with_reducible exact bl_call (c1 _))))
      refine wpQuiet_nil ?_
      intro wq hw'
      obtain ⟨⟨wz, hq⟩, hw2⟩ := hw'
      subst hw2
      have hBZ := below2 hB0 hq
      clear y0 y1
      go_wp2_with fail
      go_ret
      exact ⟨by rw [HV.out]; rfl, hBZ⟩
    · have hb1 : decide ((1024 : Int) < (n : Int)) = false := decide_eq_false (by omega)
      have c6 := c3 (by omega)
      have c4 := c5
      clear c3 c5
      have c3 := c6
      clear c6
      cases M
      · have HV : Hid (R = false) := HC.out _ true false _ hA (decide_eq_true (by omega)) rfl rfl
        simp only [Bool.not_false] at c2
        have c2p := fun p : Bl X => c2 p.W (hlp p)
        clear HC c2 c3 c4 HL HSK hlp hbA hA
        refine wp_region_bl (by kernel_rfl) (by kernel_rfl) ?_
        repeat (go_big_quiet_step (first | (go_at_call 30; with_reducible exact bl_call (c1 _)) | (go_at_call 36; with_reducible exact bl_call (c2p _))))
        refine wpQuiet_nil ?_
        intro wq hw'
        obtain ⟨⟨wz, hq⟩, hw2⟩ := hw'
        subst hw2
        have hBZ := below2 hB0 hq
        clear y0 y1
        go_wp2_with fail
        go_ret
        exact ⟨by rw [HV.out]; rfl, hBZ⟩
      · simp only [Bool.not_true] at c2
        cases G
        · have HV : Hid (R = false) := HC.out _ true true false hA (decide_eq_true (by omega)) rfl rfl
          clear HC hlp hA
          clear y0 y1
          go_region_held (fun w' => w'.cell? ⟨g0, 0, none⟩ = some (.int .i64 wa) ∧ w'.cell? ⟨g0, 1, none⟩ = some (.int .i64 wb)) ((refine HSK.out _ ?_; repeat' (first | with_reducible exact hbA | with_reducible apply below_drew | with_reducible apply below_new))) (first
            | (go_at_call 30
               with_reducible refine (c1 _).mono ?_
               rintro e w3 ⟨rfl, hb3⟩
               have hbN : Below X.heap.size X w3 := below2 (by repeat' (first | with_reducible exact hbA | with_reducible apply below_drew)) hb3
               clear hbA
               have hbA := hbN
               clear hbN)
            | (go_at_call 36
               with_reducible refine (c2 _ (HL.out _ ?_)).mono ?_
               · repeat' (first | with_reducible exact hbA | with_reducible apply below_drew)
               rintro e w4 ⟨rfl, hb3⟩
               have hbN : Below X.heap.size X w4 := below2 (by repeat' (first | with_reducible exact hbA | with_reducible apply below_drew)) hb3
               clear hbA
               have hbA := hbN
               clear hbN)
            | (go_at_call 38
               with_reducible refine (c3 _ (HL.out _ ?_)).mono ?_
               · repeat' (first | with_reducible exact hbA | with_reducible apply below_drew)
               rintro e w5 ⟨u5, rfl, hO⟩
               have hr5 := hO.has
               have hbN : Below X.heap.size X w5 := below2 (by repeat' (first | with_reducible exact hbA | with_reducible apply below_drew)) hO.bl
               clear hbA hO
               have hbA := hbN
               clear hbN)
            | (go_at_call 39
               with_reducible refine (c4 _ _ (hr5.keep ?_)).mono ?_
               · repeat' (first | with_reducible exact Below.refl _ _ | with_reducible apply below_drew)
               rintro e w6 ⟨rfl, hb3⟩
               have hbN : Below X.heap.size X w6 := below2 (by repeat' (first | with_reducible exact hbA | with_reducible apply below_drew)) hb3
               clear hbA
               have hbA := hbN
               clear hbN))
          all_goals go_wp2_with fail
          all_goals go_ret
          all_goals exact ⟨by rw [HV.out]; rfl, below2 hB0 (by repeat' (first | with_reducible exact hbA | with_reducible apply below_drew))⟩
        · have HV : Hid (R = true) := HC.out _ true true true hA (decide_eq_true (by omega)) rfl rfl
          clear HC hlp hA
          clear y0 y1
          go_region_held (fun w' => w'.cell? ⟨g0, 0, none⟩ = some (.int .i64 wa) ∧ w'.cell? ⟨g0, 1, none⟩ = some (.int .i64 wb)) ((refine HSK.out _ ?_; repeat' (first | with_reducible exact hbA | with_reducible apply below_drew | with_reducible apply below_new))) (first
            | (go_at_call 30
               with_reducible refine (c1 _).mono ?_
               rintro e w3 ⟨rfl, hb3⟩
               have hbN : Below X.heap.size X w3 := below2 (by repeat' (first | with_reducible exact hbA | with_reducible apply below_drew)) hb3
               clear hbA
               have hbA := hbN
               clear hbN)
            | (go_at_call 36
               with_reducible refine (c2 _ (HL.out _ ?_)).mono ?_
               · repeat' (first | with_reducible exact hbA | with_reducible apply below_drew)
               rintro e w4 ⟨rfl, hb3⟩
               have hbN : Below X.heap.size X w4 := below2 (by repeat' (first | with_reducible exact hbA | with_reducible apply below_drew)) hb3
               clear hbA
               have hbA := hbN
               clear hbN)
            | (go_at_call 38
               with_reducible refine (c3 _ (HL.out _ ?_)).mono ?_
               · repeat' (first | with_reducible exact hbA | with_reducible apply below_drew)
               rintro e w5 ⟨u5, rfl, hO⟩
               have hr5 := hO.has
               have hbN : Below X.heap.size X w5 := below2 (by repeat' (first | with_reducible exact hbA | with_reducible apply below_drew)) hO.bl
               clear hbA hO
               have hbA := hbN
               clear hbN)
            | (go_at_call 39
               with_reducible refine (c4 _ _ (hr5.keep ?_)).mono ?_
               · repeat' (first | with_reducible exact Below.refl _ _ | with_reducible apply below_drew)
               rintro e w6 ⟨rfl, hb3⟩
               have hbN : Below X.heap.size X w6 := below2 (by repeat' (first | with_reducible exact hbA | with_reducible apply below_drew)) hb3
               clear hbA
               have hbA := hbN
               clear hbN))
          all_goals go_wp2_with fail
          all_goals go_ret
          all_goals exact ⟨by rw [HV.out]; rfl, below2 hB0 (by repeat' (first | with_reducible exact hbA | with_reducible apply below_drew))⟩
end Go.Proofs.Ytmkbijnndbgjgaa.Ln
namespace Go.Proofs.Ytmkbijnndbgjgaa.Ln
open Go.RowKit
open Go.Proofs.Ytmkbijnndbgjgaa.Iv (Iv FitT FitI okI okI_iff)
open Go.Proofs.Ytmkbijnndbgjgaa.Lk (HasRow addr_add)
open Go.Proofs.Ytmkbijnndbgjgaa.Sp (chk)
open Go.Proofs.Ytmkbijnndbgjgaa.Addr (Bl bl_ne wp_region_bl bl_call RowAt below2 below_drew below_new bset RowAt.lt RowAt.cell RowAt.frozen RowAt.below RowAt.drew RowAt.new RowAt.alloc cells2 cells4)
theorem okL_goNone {w : Iv} {l : List Er} (h : goE w.2 none w.1 l = none) : okL w l = false := by
  unfold okL; rw [h]
  have : ((none : Option Int) == some (w.2 + 1)) = false := rfl
  rw [this]; simp
theorem okL_bad {w : Iv} {l : List Er} {x : Er} (hx : x ∈ l) (h : okV x.v = false) : okL w l = false := by
  have : l.all (fun x => okV x.v) = false := by rw [← Bool.not_eq_true, List.all_eq_true]; intro hh; rw [hh x hx] at h; cases h
  unfold okL; rw [this]; simp
theorem okL_end {w : Iv} {l : List Er} {n : Int} (hw : okI w = true) (hl : l.length ≤ 1024) (ha : l.all (fun x => okV x.v) = true) (h : goE w.2 none w.1 l = some n) : okL w l = decide (n = w.2 + 1) := by
  unfold okL; rw [hw, ha, h, decide_eq_true hl]
  by_cases e : n = w.2 + 1
  · subst e; simp
  · simp [e]
set_option maxHeartbeats 8000000 in
set_option maxRecDepth 20000 in
theorem rcheck_any (wi : Iv) (l : List Er) (v : Value) (w : World) (hl : HasE w v l) :
    Calls Try.prog 14 #[.agg #[.int .i64 wi.1, .int .i64 wi.2], v] w fun e w' => e = .returned (.int .i64 (chk (okL wi l))) ∧ Below w.heap.size w w' := by
  have c1 := fun (W : World) => Iv.one_any wi W
  have hno : okI wi = false → okL wi l = false := fun h => by unfold okL; rw [h]; rfl
  have hbig : 1024 < l.length → okL wi l = false := fun h => by unfold okL; rw [decide_eq_false (show ¬ l.length ≤ 1024 by omega)]; simp
  have hnil : okI wi = true → l.length < 1 → okL wi l = false := fun h h1 => by
    have : l = [] := List.eq_nil_of_length_eq_zero (by omega)
    subst this
    rw [okL_end h (by simp) rfl rfl]
    have := okI_iff.1 h
    exact decide_eq_false (by omega)
  have hgn : goE wi.2 none wi.1 l = none → okL wi l = false := okL_goNone
  have hbv : ∀ x ∈ l, okV x.v = false → okL wi l = false := fun x hx h => okL_bad hx h
  have hend : okI wi = true → l.length ≤ 1024 → l.all (fun x => okV x.v) = true → ∀ n, goE wi.2 none wi.1 l = some n → okL wi l = decide (n = wi.2 + 1) := fun h1 h2 h3 n h4 => okL_end h1 h2 h3 h4
  obtain ⟨wa, wb⟩ := wi
  have hwi : okI (wa, wb) = true → 0 ≤ wa ∧ wa ≤ wb ∧ wb ≤ 1099511627776 := fun h => okI_iff.1 h
  simp only at c1 hgn hend ⊢
  generalize okL (wa, wb) l = R at *
  obtain ⟨o, c, rfl, hc1, hc2⟩ := HasRow.slice hl
  obtain ⟨n, hn⟩ : ∃ n, n = l.length := ⟨_, rfl⟩
  have HN : Hid (n = l.length) := hn
  obtain ⟨X, hX⟩ : ∃ X, X = w.alloc (.cells #[.int .i64 wa, .int .i64 wb] 23) := ⟨_, rfl⟩
  have hB0 : Below w.heap.size w X := by rw [hX]; exact below_new (Below.refl _ _) _
  have rw0 : RowAt X w.heap.size [.int .i64 wa, .int .i64 wb] 23 := by rw [hX]; exact RowAt.new _ _ _
  obtain ⟨g0, hg0⟩ : ∃ g, g = w.heap.size := ⟨_, rfl⟩
  rw [← hg0] at rw0
  have HR : Hid (∀ wr : World, Below X.heap.size X wr → HasE wr (.slice o l.length c) l ∧ RowAt wr g0 [.int .i64 wa, .int .i64 wb] 23 ∧ Below w.heap.size w wr) := fun wr hb => ⟨hl.keep (below2 hB0 hb), rw0.below hb, below2 hB0 hb⟩
  rw [← hn] at HR hc1 hbig hnil hend ⊢
  have hni : (n : Int) ≤ 9223372036854775807 := by omega
  have HGN : Hid (goE wb none wa l = none → R = false) := hgn
  have HBV : Hid (∀ x ∈ l, okV x.v = false → R = false) := hbv
  clear hl hn hgn hbv
  obtain ⟨z0, z1, zf⟩ := cells2 rw0
  go_enter Try.func14, Try.ntmps14
  go_upto_region 1 with fail
  rw [← hX, ← hg0]
  clear hX hg0 rw0
  go_wp2_with fail
  go_at_call 34; refine (c1 _).mono ?_; rintro e w2 ⟨rfl, hb2⟩
  have hB2 := (HR.out _ hb2).2.2
  clear c1 z0 z1 zf
  cases hA : okI (wa, wb)
  · have HV : Hid (R = false) := hno hA
    clear hno hbig hnil hend hwi HR HGN HBV hA
    go_wp2_with fail
    go_ret
    exact ⟨by rw [HV.out]; rfl, hB2⟩
  · have hw3 := hwi hA
    by_cases hl1 : n < 1
    · have HV : Hid (R = false) := hnil hA hl1
      have hl1b : decide ((n : Int) < (1 : Int)) = true := decide_eq_true (by omega)
      clear hno hbig hnil hend hwi HR HGN HBV hA
      go_wp2_with fail
      go_ret
      exact ⟨by rw [HV.out]; rfl, hB2⟩
    · have hl1b : decide ((n : Int) < (1 : Int)) = false := decide_eq_false (by omega)
      by_cases hl2 : 1024 < n
      · have HV : Hid (R = false) := hbig hl2
        have hl2b : decide ((1024 : Int) < (n : Int)) = true := decide_eq_true (by omega)
        clear hno hbig hnil hend hwi HR HGN HBV hA
        go_wp2_with fail
        go_ret
        exact ⟨by rw [HV.out]; rfl, hB2⟩
      · have hl2b : decide ((1024 : Int) < (n : Int)) = false := decide_eq_false (by omega)
        have HEND : Hid (l.all (fun x => okV x.v) = true → ∀ z, goE wb none wa l = some z → R = decide (z = wb + 1)) := hend hA (by omega)
        have hwb : IntKind.i64.wrap (wb + 1) = wb + 1 := by rw [IntKind.wrap_i64]; omega
        obtain ⟨z0, z1, zf⟩ := cells2 (HR.out _ hb2).2.1
        clear hno hbig hnil hend hwi hA
        go_wp2_with fail
        clear z0 z1 zf
        have H0 : Hid (goE wb none wa l = goE wb (prevV l 0) wa (l.drop 0) ∧ (l.take 0).all (fun x => okV x.v) = true) := ⟨rfl, rfl⟩
        go_loopw [5, 25] (fun u q wr => ∃ (k : Nat) (nx : Int), k ≤ n ∧ q = .int .i64 k ∧ u = .int .i64 nx ∧ 0 ≤ nx ∧ nx ≤ wb + 1 ∧ Below X.heap.size X wr ∧ Hid (goE wb none wa l = goE wb (prevV l k) nx (l.drop k) ∧ (l.take k).all (fun x => okV x.v) = true)) (fun _ q _ => n - (Go.RowKit.intOf q).toNat)
        case atStart => exact ⟨0, wa, by omega, rfl, rfl, by omega, by omega, hb2, H0⟩
        case round =>
          clear H0 hb2
          obtain ⟨k, nx, hk, rfl, rfl, hn0, hn1, hB, HG⟩ := hrel
          obtain ⟨hh, rw0, hBW⟩ := HR.out _ hB
          by_cases hlt : k < n
          · have hkz : k < l.length := by rw [← HN.out]; exact hlt
            obtain ⟨g1, i1, rfl, hg1, a0, a1, a2, a3⟩ := HasE.cell hh k hkz
            have hki : (k : Int) < (n : Int) := by omega
            have HNO : Hid (stepB wb (prevV l k) nx l[k] = false → R = false) := fun h => HGN.out (by rw [HG.out.1, goE_drop hkz, h]; rfl)
            have HYE : Hid (stepB wb (prevV l k) nx l[k] = true → okV l[k].v = true → goE wb none wa l = goE wb (prevV l (k + 1)) (l[k].b + 1) (l.drop (k + 1)) ∧ (l.take (k + 1)).all (fun x => okV x.v) = true) := fun h h2 => by
              refine ⟨by rw [HG.out.1, goE_drop hkz, h]; rfl, ?_⟩
              rw [List.take_succ_eq_append_getElem hkz, List.all_append, HG.out.2]
              simp [h2]
            have HBK : Hid (okV l[k].v = false → R = false) := fun h => HBV.out _ (List.getElem_mem hkz) h
            have cV := fun (W : World) => rone_any l[k].v W
            unfold stepB at HNO HYE
            have HEQ : Hid (∀ (u : Vd) (W : World), (binOp .eql 35 (.agg #[.int .u8 l[k].v.kind, .int .i64 l[k].v.at']) (.agg #[.int .u8 u.kind, .int .i64 u.at'])).run Try.prog W = .ok (.bool (eqV l[k].v u)) W) := fun u W => vd_eql l[k].v u W
            have hP0 : Hid (k = 0 → notP (prevV l k) l[k].v = true) := fun h => by subst h; rfl
            have hP1 : Hid (∀ j (hj : j < l.length), k = j + 1 → notP (prevV l k) l[k].v = !eqV l[k].v l[j].v) := fun j hj h => by subst h; rw [prevV_succ hj]; rfl
            generalize notP (prevV l k) l[k].v = NP at HNO HYE hP0 hP1
            generalize okV l[k].v = OV at HYE HBK cV
            generalize l[k].v = xv at a2 a3 HEQ hP1 cV
            generalize l[k].a = xa at a0 HNO HYE
            generalize l[k].b = xb at a1 HNO HYE
            generalize hxk : xv.kind = xk at *
            generalize hxi : xv.at' = xi at *
            clear hxk hxi HG hg1
            go_upto_region 7 with fail
            obtain ⟨Y0, hY⟩ : ∃ X, X = wr.alloc (.cells #[.int .i64 xa, .int .i64 xb, .int .u8 xk, .int .i64 xi] 49) := ⟨_, rfl⟩
            have hbY : Below wr.heap.size wr Y0 := by rw [hY]; exact below_new (Below.refl _ _) _
            have rx : RowAt Y0 wr.heap.size [.int .i64 xa, .int .i64 xb, .int .u8 xk, .int .i64 xi] 49 := by rw [hY]; exact RowAt.new _ _ _
            rw [← hY]
            replace hB := below2 hB hbY
            clear hY hbY hBW a0 a1 a2 a3 rw0 hh
            obtain ⟨gx, hgx⟩ : ∃ g, g = wr.heap.size := ⟨_, rfl⟩
            rw [← hgx] at rx ⊢
            clear hgx
            obtain ⟨x0, x1, x2, x3, xf⟩ := cells4 rx
            go_wp2_with fail
            go_at_call 35; refine (cV _).mono ?_; rintro e Y ⟨rfl, hb3⟩
            replace hB := below2 hB hb3
            replace rx := rx.below hb3
            clear x0 x1 x2 x3 xf cV hb3
            obtain ⟨hh, rw0, hBW⟩ := HR.out _ hB
            obtain ⟨x0, x1, x2, x3, xf⟩ := cells4 rx
            obtain ⟨z0, z1, zf⟩ := cells2 rw0
            cases OV
            · have HV : Hid (R = false) := HBK.out rfl
              clear HNO HYE HEND HGN HEQ hP0 hP1 hh HBV HBK
              go_wp2_with fail
              go_ret
              exact ⟨by rw [HV.out]; rfl, hBW⟩
            · by_cases h1 : xa = nx
              · subst h1
                have hne : (xa != xa) = false := by simp
                by_cases h2 : xb < xa
                · have HV : Hid (R = false) := HNO.out (by rw [decide_eq_false (show ¬ xa ≤ xb by omega)]; simp)
                  have h2b : decide (xb < xa) = true := decide_eq_true h2
                  clear HNO HYE HEND HGN HEQ hP0 hP1 hh HBV HBK
                  go_wp2_with fail
                  go_ret
                  exact ⟨by rw [HV.out]; rfl, hBW⟩
                · have h2b : decide (xb < xa) = false := decide_eq_false h2
                  by_cases h3 : wb < xb
                  · have HV : Hid (R = false) := HNO.out (by rw [decide_eq_false (show ¬ xb ≤ wb by omega)]; simp)
                    have h3b : decide (wb < xb) = true := decide_eq_true h3
                    clear HNO HYE HEND HGN HEQ hP0 hP1 hh HBV HBK
                    go_wp2_with fail
                    go_ret
                    exact ⟨by rw [HV.out]; rfl, hBW⟩
                  · have h3b : decide (wb < xb) = false := decide_eq_false h3
                    have hxb : IntKind.i64.wrap (xb + 1) = xb + 1 := by rw [IntKind.wrap_i64]; omega
                    have HNO2 : Hid (NP = false → R = false) := fun h => HNO.out (by rw [h]; simp)
                    have HYE3 : Hid (NP = true → goE wb none wa l = goE wb (prevV l (k + 1)) (xb + 1) (l.drop (k + 1)) ∧ (l.take (k + 1)).all (fun x => okV x.v) = true) := fun h => HYE.out (by rw [h, decide_eq_true (show xa ≤ xb by omega), decide_eq_true (show xb ≤ wb by omega)]; simp) rfl
                    clear HNO HYE HEND HGN HBV HBK
                    go_upto_region 9 with fail
                    haveI := bl_ne Y
                    have y2 := fun p : Bl Y => (rx.below p.h).cell 2
                    have y3 := fun p : Bl Y => (rx.below p.h).cell 3
                    simp only [List.getElem?_cons_succ, List.getElem?_cons_zero] at y2 y3
                    by_cases hk0 : k = 0
                    · have HYE4 : Hid (goE wb none wa l = goE wb (prevV l (k + 1)) (xb + 1) (l.drop (k + 1)) ∧ (l.take (k + 1)).all (fun x => okV x.v) = true) := HYE3.out (hP0.out hk0)
                      have hz1 : decide ((0 : Int) < (k : Int)) = false := decide_eq_false (by omega)
                      have hz2 : decide (0 < k) = false := decide_eq_false (by omega)
                      clear HNO2 HYE3 HEQ hP0 hP1 hh x0 x1 x2 x3 xf z0 z1 zf hk0
                      refine wp_region_bl (by kernel_rfl) (by kernel_rfl) ?_
                      repeat (go_big_quiet_step (first | fail))
                      refine wpQuiet_nil ?_
                      intro wq hw'
                      obtain ⟨⟨wz, hq⟩, hw2⟩ := hw'
                      subst hw2
                      have hBZ := below2 hB hq
                      obtain ⟨x0, x1, x2, x3, xf⟩ := cells4 (rx.below hq)
                      clear y2 y3
                      go_wp2_with fail
                      go_roundw
                      case rel => exact ⟨k + 1, xb + 1, by omega, by go_num, rfl, by omega, by omega, hBZ, HYE4⟩
                      case measure => simp [Go.RowKit.intOf]; omega
                    · obtain ⟨j, hj⟩ : ∃ j, k = j + 1 := ⟨k - 1, by omega⟩
                      have hj2 : j < l.length := by omega
                      obtain ⟨g2, i2, e12, hg2, _, _, b2, b3⟩ := HasE.cell hh j hj2
                      injection e12 with e12
                      injection e12 with e1 e2
                      subst e1 e2
                      have hNP := hP1.out j hj2 hj
                      have heq := HEQ.out l[j].v
                      have q2 : ∀ p : Bl Y, p.W.cell? ⟨g1, i1 + j * 4 + 2, none⟩ = some (.int .u8 l[j].v.kind) := fun p => (p.h.cell (p := ⟨g1, i1 + j * 4 + 2, none⟩) hg2).trans b2
                      have q3 : ∀ p : Bl Y, p.W.cell? ⟨g1, i1 + j * 4 + 3, none⟩ = some (.int .i64 l[j].v.at') := fun p => (p.h.cell (p := ⟨g1, i1 + j * 4 + 3, none⟩) hg2).trans b3
                      have e1 : (k : Int) - 1 = (j : Int) := by omega
                      have e2 : IntKind.i64.wrap (j : Int) = (j : Int) := by rw [IntKind.wrap_i64]; omega
                      have hkp : decide ((0 : Int) < (k : Int)) = true := decide_eq_true (by omega)
                      have hkp2 : decide (0 < k) = true := decide_eq_true (by omega)
                      have hjn : (j : Int) < (n : Int) := by omega
                      have hvg := vd_guard
                      generalize eqV xv l[j].v = E at hNP heq
                      generalize l[j].v.kind = pk at *
                      generalize l[j].v.at' = pi at *
                      clear HEQ hP0 hP1 hh x0 x1 x2 x3 xf z0 z1 zf hk0 hj b2 b3 hg2
                      cases E
                      · have HYE4 : Hid (goE wb none wa l = goE wb (prevV l (k + 1)) (xb + 1) (l.drop (k + 1)) ∧ (l.take (k + 1)).all (fun x => okV x.v) = true) := HYE3.out (by rw [hNP]; rfl)
                        clear HNO2 HYE3 hNP
                        refine wp_region_bl (by kernel_rfl) (by kernel_rfl) ?_
                        repeat (go_big_quiet_step (first | fail))
                        refine wpQuiet_nil ?_
                        intro wq hw'
                        obtain ⟨⟨wz, hq⟩, hw2⟩ := hw'
                        subst hw2
                        have hBZ := below2 hB hq
                        obtain ⟨x0, x1, x2, x3, xf⟩ := cells4 (rx.below hq)
                        clear y2 y3 q2 q3 e1 e2 hkp hkp2 hjn
                        go_wp2_with fail
                        go_roundw
                        case rel => exact ⟨k + 1, xb + 1, by omega, by go_num, rfl, by omega, by omega, hBZ, HYE4⟩
                        case measure => simp [Go.RowKit.intOf]; omega
                      · have HV : Hid (R = false) := HNO2.out (by rw [hNP]; rfl)
                        clear HNO2 HYE3 hNP
                        refine wp_region_bl (by kernel_rfl) (by kernel_rfl) ?_
                        repeat (go_big_quiet_step (first | fail))
                        refine wpQuiet_nil ?_
                        intro wq hw'
                        obtain ⟨⟨wz, hq⟩, hw2⟩ := hw'
                        subst hw2
                        have hBZ := below2 hBW hq
                        clear y2 y3 q2 q3 e1 e2 hkp hkp2 hjn
                        go_wp2_with fail
                        go_ret
                        exact ⟨by rw [HV.out]; rfl, hBZ⟩
              · have HV : Hid (R = false) := HNO.out (by rw [decide_eq_false h1]; rfl)
                have hne : (xa != nx) = true := by simp [h1]
                clear HNO HYE HEND HGN HEQ hP0 hP1 hh HBV HBK
                go_wp2_with fail
                go_ret
                exact ⟨by rw [HV.out]; rfl, hBW⟩
          · have hkn : decide ((k : Int) < (n : Int)) = false := decide_eq_false (by omega)
            have hdr : l.drop k = [] := by have := HN.out; exact List.drop_eq_nil_of_le (by omega)
            have hte : l.take k = l := by have := HN.out; exact List.take_of_length_le (by omega)
            rw [hte] at HG
            have HV : Hid (R = decide (nx = wb + 1)) := HEND.out HG.out.2 nx (by rw [HG.out.1, hdr]; cases prevV l k <;> rfl)
            obtain ⟨z0, z1, zf⟩ := cells2 rw0
            clear HG HEND HGN HBV hdr hte hh
            by_cases he : nx = wb + 1
            · have he2 : (nx != wb + 1) = false := by simp [he]
              rw [decide_eq_true he] at HV
              go_wp2_with fail
              go_ret
              exact ⟨by rw [HV.out]; rfl, hBW⟩
            · have he2 : (nx != wb + 1) = true := by simp [he]
              rw [decide_eq_false he] at HV
              go_wp2_with fail
              go_ret
              exact ⟨by rw [HV.out]; rfl, hBW⟩
end Go.Proofs.Ytmkbijnndbgjgaa.Ln
namespace Go.Proofs.Ytmkbijnndbgjgaa.Ln
open Go.RowKit
open Go.Proofs.Ytmkbijnndbgjgaa.Iv (Iv FitT FitI okI okI_iff)
open Go.Proofs.Ytmkbijnndbgjgaa.Lk (HasRow addr_add)
open Go.Proofs.Ytmkbijnndbgjgaa.Addr (Bl bl_ne wp_region_bl bl_call RowAt below2 below_drew below_new bset RowAt.lt RowAt.cell RowAt.frozen RowAt.below RowAt.drew RowAt.new RowAt.alloc cells2 cells4)
def gtP : Option Int → Int → Bool
  | none, _ => true
  | some u, t => decide (u < t)
def stepM (b : Int) (p : Option Int) (m : Mk) : Bool := okV m.v && (decide (m.t ≤ b) && gtP p m.t)
def marksB (b : Int) : Option Int → List Mk → Bool
  | _, [] => true
  | p, m :: l => stepM b p m && marksB b (some m.t) l
/-- the marks of a line of a right window -/
def okM (w : Iv) : List Mk → Bool
  | [] => false
  | m :: l => decide (m.t = w.1) && marksB w.2 none (m :: l)
def prevM (l : List Mk) : Nat → Option Int
  | 0 => none
  | j + 1 => (l[j]?).map (fun x => x.t)
theorem prevM_succ {l : List Mk} {j : Nat} (h : j < l.length) : prevM l (j + 1) = some l[j].t := by show (l[j]?).map (fun x => x.t) = _; rw [List.getElem?_eq_getElem h]; rfl
theorem marksB_drop {b : Int} {p : Option Int} {l : List Mk} {k : Nat} (h : k < l.length) : marksB b p (l.drop k) = (stepM b p l[k] && marksB b (prevM l (k + 1)) (l.drop (k + 1))) := by
  rw [List.drop_eq_getElem_cons h, prevM_succ h]; rfl
set_option maxHeartbeats 8000000 in
set_option maxRecDepth 20000 in
theorem marks_any (wi : Iv) (l : List Mk) (v : Value) (w : World) (hl : HasM w v l) :
    Calls Try.prog 31 #[.agg #[.int .i64 wi.1, .int .i64 wi.2], v] w fun e w' => e = .returned (.bool (okM wi l)) ∧ Below w.heap.size w w' := by
  obtain ⟨wa, wb⟩ := wi
  simp only
  have hnil : l.length = 0 → okM (wa, wb) l = false := fun h => by
    obtain rfl : l = [] := List.eq_nil_of_length_eq_zero h
    rfl
  have hfirst : ∀ h : 0 < l.length, okM (wa, wb) l = (decide (l[0].t = wa) && marksB wb none l) := fun h => by
    cases l with
    | nil => simp at h
    | cons m l => rfl
  generalize okM (wa, wb) l = R at *
  obtain ⟨o, c, rfl, hc1, hc2⟩ := HasRow.slice hl
  obtain ⟨n, hn⟩ : ∃ n, n = l.length := ⟨_, rfl⟩
  have HN : Hid (n = l.length) := hn
  obtain ⟨X, hX⟩ : ∃ X, X = w.alloc (.cells #[.int .i64 wa, .int .i64 wb] 23) := ⟨_, rfl⟩
  have hB0 : Below w.heap.size w X := by rw [hX]; exact below_new (Below.refl _ _) _
  have rw0 : RowAt X w.heap.size [.int .i64 wa, .int .i64 wb] 23 := by rw [hX]; exact RowAt.new _ _ _
  obtain ⟨g0, hg0⟩ : ∃ g, g = w.heap.size := ⟨_, rfl⟩
  rw [← hg0] at rw0
  have HR : Hid (∀ wr : World, Below X.heap.size X wr → HasM wr (.slice o l.length c) l ∧ RowAt wr g0 [.int .i64 wa, .int .i64 wb] 23 ∧ Below w.heap.size w wr) := fun wr hb => ⟨hl.keep (below2 hB0 hb), rw0.below hb, below2 hB0 hb⟩
  rw [← hn] at HR hc1 hnil ⊢
  have hni : (n : Int) ≤ 9223372036854775807 := by omega
  clear hl hB0
  haveI := bl_ne X
  have z0 := fun p : Bl X => (rw0.below p.h).cell 0
  simp only [List.getElem?_cons_zero] at z0
  go_enter Try.func31, Try.ntmps31
  go_upto_region 1 with fail
  rw [← hX, ← hg0]
  clear hX hg0 rw0
  by_cases hn0 : n = 0
  · have HV : Hid (R = false) := hnil hn0
    have hbW := (HR.out X (Below.refl _ _)).2.2
    have he0 : ((n : Int) == (0 : Int)) = true := by simp [hn0]
    have he0b : decide ((n : Int) = (0 : Int)) = true := decide_eq_true (by omega)
    have he0c : (n : Int) = 0 := by omega
    clear hfirst hnil HR hn
    refine wp_region_bl (by kernel_rfl) (by kernel_rfl) ?_
    repeat (go_big_quiet_step (first | fail))
    refine wpQuiet_nil ?_
    intro wq hw'
    obtain ⟨⟨wz, hq⟩, hw2⟩ := hw'
    subst hw2
    have hBZ := below2 hbW hq
    clear z0
    go_wp2_with fail
    go_ret
    exact ⟨by rw [HV.out]; rfl, hBZ⟩
  · have hp0 : 0 < l.length := by omega
    have hf := hfirst hp0
    obtain ⟨g1, i1, rfl, hg1, a0, _, _⟩ := HasM.cell (HR.out X (Below.refl _ _)).1 0 hp0
    have q0 : ∀ p : Bl X, p.W.cell? ⟨g1, i1, none⟩ = some (.int .i64 l[0].t) := fun p => (p.h.cell (p := ⟨g1, i1, none⟩) hg1).trans (by simpa using a0)
    have hne0 : ((n : Int) == (0 : Int)) = false := by simp; omega
    have hne0b : decide ((n : Int) = (0 : Int)) = false := decide_eq_false (by omega)
    have hn1 : (0 : Int) < (n : Int) := by omega
    have hn2 : 0 < n := by omega
    clear hnil hfirst a0 hg1 hn
    by_cases h0 : l[0].t = wa
    · have hm : R = marksB wb none l := by rw [hf, decide_eq_true h0]; rfl
      have e0 : (l[0].t != wa) = false := by simp [h0]
      have HM0 : Hid (R = marksB wb (prevM l 0) (l.drop 0)) := hm
      clear hf hm
      generalize l[0].t = t0 at *
      subst h0
      refine wp_region_bl (by kernel_rfl) (by kernel_rfl) ?_
      repeat (go_big_quiet_step (first | fail))
      refine wpQuiet_nil ?_
      intro wq hw'
      obtain ⟨⟨wz, hq⟩, hw2⟩ := hw'
      subst hw2
      clear z0 q0 e0
      go_wp2_with fail
      go_loopw [21] (fun q wr => ∃ k : Nat, k ≤ n ∧ q = .int .i64 k ∧ Below X.heap.size X wr ∧ Hid (R = marksB wb (prevM l k) (l.drop k))) (fun q _ => n - (Go.RowKit.intOf q).toNat)
      case atStart => exact ⟨0, by omega, rfl, hq, HM0⟩
      case round =>
        clear HM0 hq
        obtain ⟨k, hk, rfl, hB, HG⟩ := hrel
        obtain ⟨hh, rw0, hBW⟩ := HR.out _ hB
        by_cases hlt : k < n
        · have hkz : k < l.length := by rw [← HN.out]; exact hlt
          obtain ⟨g2, i2, e12, hg2, a0, a1, a2⟩ := HasM.cell hh k hkz
          injection e12 with e12
          injection e12 with e1 e2
          subst e1 e2
          have hki : (k : Int) < (n : Int) := by omega
          have HST : Hid (R = (stepM wb (prevM l k) l[k] && marksB wb (prevM l (k + 1)) (l.drop (k + 1)))) := by
            show _ = _
            rw [HG.out, marksB_drop hkz]
          unfold stepM at HST
          have hP0 : Hid (k = 0 → gtP (prevM l k) l[k].t = true) := fun h => by subst h; rfl
          have hP1 : Hid (∀ j (hj : j < l.length), k = j + 1 → gtP (prevM l k) l[k].t = decide (l[j].t < l[k].t)) := fun j hj h => by subst h; rw [prevM_succ hj]; rfl
          have cV := fun (W : World) => rightV_any l[k].v W
          generalize gtP (prevM l k) l[k].t = NP at HST hP0 hP1
          generalize okV l[k].v = OV at HST cV
          generalize l[k].v = xv at a1 a2 cV
          generalize l[k].t = xt at a0 HST hP1
          generalize xv.kind = xk at *
          generalize xv.at' = xi at *
          clear HG hg2
          go_upto_region 6 with fail
          obtain ⟨Y, hY⟩ : ∃ X, X = wr.alloc (.cells #[.int .i64 xt, .int .u8 xk, .int .i64 xi] 46) := ⟨_, rfl⟩
          have hbY : Below wr.heap.size wr Y := by rw [hY]; exact below_new (Below.refl _ _) _
          have rx : RowAt Y wr.heap.size [.int .i64 xt, .int .u8 xk, .int .i64 xi] 46 := by rw [hY]; exact RowAt.new _ _ _
          rw [← hY]
          replace hB := below2 hB hbY
          clear hY hbY hBW a0 a1 a2 rw0 hh
          obtain ⟨gx, hgx⟩ : ∃ g, g = wr.heap.size := ⟨_, rfl⟩
          rw [← hgx] at rx ⊢
          clear hgx
          obtain ⟨hh, rw0, hBW⟩ := HR.out _ hB
          haveI := bl_ne Y
          have y0 := fun p : Bl Y => (rx.below p.h).cell 0
          have y1 := fun p : Bl Y => (rx.below p.h).cell 1
          have y2 := fun p : Bl Y => (rx.below p.h).cell 2
          have z1 := fun p : Bl Y => (rw0.below p.h).cell 1
          simp only [List.getElem?_cons_succ, List.getElem?_cons_zero] at y0 y1 y2 z1
          cases OV
          · have HV : Hid (R = false) := by show _ = _; rw [HST.out]; rfl
            clear HST hP0 hP1 hh
            refine wp_region_bl (by kernel_rfl) (by kernel_rfl) ?_
            repeat (go_big_quiet_step (first | (go_at_call 64; with_reducible exact bl_call (cV _))))
            refine wpQuiet_nil ?_
            intro wq hw'
            obtain ⟨⟨wz, hq⟩, hw2⟩ := hw'
            subst hw2
            have hBZ := below2 hBW hq
            clear y0 y1 y2 z1
            go_wp2_with fail
            go_ret
            exact ⟨by rw [HV.out]; rfl, hBZ⟩
          · by_cases h2 : wb < xt
            · have HV : Hid (R = false) := by show _ = _; rw [HST.out, decide_eq_false (show ¬ xt ≤ wb by omega)]; rfl
              have h2b : decide (wb < xt) = true := decide_eq_true h2
              clear HST hP0 hP1 hh
              refine wp_region_bl (by kernel_rfl) (by kernel_rfl) ?_
              repeat (go_big_quiet_step (first | (go_at_call 64; with_reducible exact bl_call (cV _))))
              refine wpQuiet_nil ?_
              intro wq hw'
              obtain ⟨⟨wz, hq⟩, hw2⟩ := hw'
              subst hw2
              have hBZ := below2 hBW hq
              clear y0 y1 y2 z1
              go_wp2_with fail
              go_ret
              exact ⟨by rw [HV.out]; rfl, hBZ⟩
            · have h2b : decide (wb < xt) = false := decide_eq_false h2
              have HST2 : Hid (R = (NP && marksB wb (prevM l (k + 1)) (l.drop (k + 1)))) := by show _ = _; rw [HST.out, decide_eq_true (show xt ≤ wb by omega)]; rfl
              clear HST
              by_cases hk0 : k = 0
              · have HYE4 : Hid (R = marksB wb (prevM l (k + 1)) (l.drop (k + 1))) := by show _ = _; rw [HST2.out, hP0.out hk0]; rfl
                have hz1 : decide ((0 : Int) < (k : Int)) = false := decide_eq_false (by omega)
                have hz2 : decide (0 < k) = false := decide_eq_false (by omega)
                clear HST2 hP0 hP1 hh hk0
                refine wp_region_bl (by kernel_rfl) (by kernel_rfl) ?_
                repeat (go_big_quiet_step (first | (go_at_call 64; with_reducible exact bl_call (cV _))))
                refine wpQuiet_nil ?_
                intro wq hw'
                obtain ⟨⟨wz, hq⟩, hw2⟩ := hw'
                subst hw2
                have hBZ := below2 hB hq
                clear y0 y1 y2 z1
                go_wp2_with fail
                go_roundw
                case rel => exact ⟨k + 1, by omega, by go_num, hBZ, HYE4⟩
                case measure => simp [Go.RowKit.intOf]; omega
              · obtain ⟨j, hj⟩ : ∃ j, k = j + 1 := ⟨k - 1, by omega⟩
                have hj2 : j < l.length := by omega
                obtain ⟨g3, i3, e13, hg3, b0, _, _⟩ := HasM.cell hh j hj2
                injection e13 with e13
                injection e13 with e3 e4
                subst e3 e4
                have hNP := hP1.out j hj2 hj
                have q0 : ∀ p : Bl Y, p.W.cell? ⟨g1, i1 + j * 3, none⟩ = some (.int .i64 l[j].t) := fun p => (p.h.cell (p := ⟨g1, i1 + j * 3, none⟩) hg3).trans b0
                have e1 : (k : Int) - 1 = (j : Int) := by omega
                have e2 : IntKind.i64.wrap (j : Int) = (j : Int) := by rw [IntKind.wrap_i64]; omega
                have hkp : decide ((0 : Int) < (k : Int)) = true := decide_eq_true (by omega)
                have hkp2 : decide (0 < k) = true := decide_eq_true (by omega)
                have hjn : (j : Int) < (n : Int) := by omega
                generalize l[j].t = pt at *
                clear hP0 hP1 hh hk0 hj b0 hg3
                by_cases h3 : pt < xt
                · have HYE4 : Hid (R = marksB wb (prevM l (k + 1)) (l.drop (k + 1))) := by show _ = _; rw [HST2.out, hNP, decide_eq_true h3]; rfl
                  have h3b : decide (xt ≤ pt) = false := decide_eq_false (by omega)
                  clear HST2 hNP
                  refine wp_region_bl (by kernel_rfl) (by kernel_rfl) ?_
                  repeat (go_big_quiet_step (first | (go_at_call 64; with_reducible exact bl_call (cV _))))
                  refine wpQuiet_nil ?_
                  intro wq hw'
                  obtain ⟨⟨wz, hq⟩, hw2⟩ := hw'
                  subst hw2
                  have hBZ := below2 hB hq
                  clear y0 y1 y2 z1 q0 e1 e2 hkp hkp2 hjn
                  go_wp2_with fail
                  go_roundw
                  case rel => exact ⟨k + 1, by omega, by go_num, hBZ, HYE4⟩
                  case measure => simp [Go.RowKit.intOf]; omega
                · have HV : Hid (R = false) := by show _ = _; rw [HST2.out, hNP, decide_eq_false h3]; rfl
                  have h3b : decide (xt ≤ pt) = true := decide_eq_true (by omega)
                  clear HST2 hNP
                  refine wp_region_bl (by kernel_rfl) (by kernel_rfl) ?_
                  repeat (go_big_quiet_step (first | (go_at_call 64; with_reducible exact bl_call (cV _))))
                  refine wpQuiet_nil ?_
                  intro wq hw'
                  obtain ⟨⟨wz, hq⟩, hw2⟩ := hw'
                  subst hw2
                  have hBZ := below2 hBW hq
                  clear y0 y1 y2 z1 q0 e1 e2 hkp hkp2 hjn
                  go_wp2_with fail
                  go_ret
                  exact ⟨by rw [HV.out]; rfl, hBZ⟩
        · have hkn : decide ((k : Int) < (n : Int)) = false := decide_eq_false (by omega)
          have hdr : l.drop k = [] := by have := HN.out; exact List.drop_eq_nil_of_le (by omega)
          have HV : Hid (R = true) := by show _ = _; rw [HG.out, hdr]; cases prevM l k <;> rfl
          clear HG hh hdr
          go_wp2_with fail
          go_ret
          exact ⟨by rw [HV.out]; rfl, hBW⟩
    · have HV : Hid (R = false) := by show _ = _; rw [hf, decide_eq_false h0]; rfl
      have e0 : (l[0].t != wa) = true := by simp [h0]
      have hbW := (HR.out X (Below.refl _ _)).2.2
      clear hf HR
      generalize l[0].t = t0 at *
      refine wp_region_bl (by kernel_rfl) (by kernel_rfl) ?_
      repeat (go_big_quiet_step (first | fail))
      refine wpQuiet_nil ?_
      intro wq hw'
      obtain ⟨⟨wz, hq⟩, hw2⟩ := hw'
      subst hw2
      have hBZ := below2 hbW hq
      clear z0 q0
      go_wp2_with fail
      go_ret
      exact ⟨by rw [HV.out]; rfl, hBZ⟩
end Go.Proofs.Ytmkbijnndbgjgaa.Ln
namespace Go.Proofs.Ytmkbijnndbgjgaa.Ln
open Go.RowKit Go.Shelf
open Go.Proofs.Ytmkbijnndbgjgaa.Iv (Iv)
open Go.Proofs.Ytmkbijnndbgjgaa.Lk (HasRow hasRow_own addr_add)
open Go.Proofs.Ytmkbijnndbgjgaa.Addr (Bl bl_ne wp_region_bl bl_call RowAt below2 below_drew below_new bset RowAt.lt RowAt.cell RowAt.frozen RowAt.below RowAt.drew RowAt.new RowAt.alloc cells2 cells4)
attribute [-go_sem] Builtin.append_
theorem own_shapeL {w W : World} {u : Value} {R : List Er} (h : OwnL w W u R) (hR : 0 < R.length) : ∃ gr c, u = .slice (some ⟨gr, 0, none⟩) R.length c ∧ R.length ≤ c ∧ c ≤ 9223372036854775807 ∧ w.heap.size ≤ gr ∧ gr < W.heap.size := by
  rcases h.ou.2 with ⟨_, h0⟩ | ⟨g, cap, cur, rfl, hg, hgb, hnc, hcm, _⟩
  · omega
  · exact ⟨g, cap, rfl, hnc, by unfold maxLen at hcm; exact hcm, hg, (Array.getElem?_eq_some_iff.1 hgb).1⟩
theorem own_putL {w W : World} {gr c : Nat} {A : List Er} {x : Er} (y : Int) (h : OwnL w W (.slice (some ⟨gr, 0, none⟩) (A.length + 1) c) (A ++ [x])) (hg : w.heap.size ≤ gr) : OwnL w (W.setCell ⟨gr, A.length * 4 + 1, none⟩ (.int .i64 y)) (.slice (some ⟨gr, 0, none⟩) (A.length + 1) c) (A ++ [⟨x.a, y, x.v⟩]) := by
  refine ⟨?_, bset h.bl hg⟩
  have e2 : (A ++ [x]).length = A.length + 1 := by simp
  have e3 : (A ++ [(⟨x.a, y, x.v⟩ : Er)]).length = A.length + 1 := by simp
  have hou := h.ou
  rw [e2] at hou
  have h5 := (hou.stored (A.length * 4 + 1) (.int .i64 y)).1
  have e : (csL (A ++ [x])).set (A.length * 4 + 1) (.int .i64 y) = csL (A ++ [⟨x.a, y, x.v⟩]) := by
    rw [csL_app, csL_app, List.set_append_right _ _ (by rw [csL_len]; omega), csL_len, csL_one, csL_one, show A.length * 4 + 1 - A.length * 4 = 1 by omega]
    rfl
  rw [e] at h5
  rw [e3]
  exact h5
set_option maxHeartbeats 4000000 in
set_option maxRecDepth 20000 in
/-- behind an empty line -/
theorem put_nil (w W : World) (u : Value) (a b vk vi : Int) (h : OwnL w W u []) :
    Calls Try.prog 32 #[u, .agg #[.int .i64 a, .int .i64 b], .agg #[.int .u8 vk, .int .i64 vi]] W fun e w' => ∃ u', e = .returned u' ∧ OwnL w w' u' [⟨a, b, ⟨vk, vi⟩⟩] := by
  obtain ⟨o, c, rfl, _, _⟩ := HasRow.slice h.has
  obtain ⟨X, hX⟩ : ∃ X, X = (W.alloc (.cells #[.int .i64 a, .int .i64 b] 23)).alloc (.cells #[.int .u8 vk, .int .i64 vi] 35) := ⟨_, rfl⟩
  have hB0 : Below W.heap.size W X := by rw [hX]; exact below_new (below_new (Below.refl _ _) _) _
  have r1 : RowAt X W.heap.size [.int .i64 a, .int .i64 b] 23 := by rw [hX]; exact (RowAt.new _ _ _).alloc _
  have r2 : RowAt X (W.heap.size + 1) [.int .u8 vk, .int .i64 vi] 35 := by
    rw [hX, ← World.size_alloc W (.cells #[.int .i64 a, .int .i64 b] 23)]; exact RowAt.new _ _ _
  obtain ⟨g1, hg1⟩ : ∃ g, g = W.heap.size := ⟨_, rfl⟩
  obtain ⟨g2, hg2⟩ : ∃ g, g = W.heap.size + 1 := ⟨_, rfl⟩
  rw [← hg2] at r2
  rw [← hg1] at r1
  replace h := h.below hB0
  have hl0 : ([] : List Er).length = 0 := rfl
  rw [hl0] at h ⊢
  obtain ⟨y0, y1, yf⟩ := cells2 r1
  obtain ⟨z0, z1, zf⟩ := cells2 r2
  haveI := bl_ne X
  have HAP : Hid (∀ W', Below X.heap.size X W' → ∃ v' w6, (∀ ty, (Builtin.append_ #[62, 62] ty #[.slice o 0 c, .slice (some ⟨W'.heap.size, 0, none⟩) 1 1]).run Try.prog (W'.alloc (.cells #[.int .i64 a, .int .i64 b, .int .u8 vk, .int .i64 vi] 106)) = .ok v' w6) ∧ OwnL w w6 v' [⟨a, b, ⟨vk, vi⟩⟩]) := fun W' hq => by
    obtain ⟨v', w6, hrun, hO2, _⟩ := appLB ((h.below hq).below (below_new (Below.refl _ W') (.cells #[.int .i64 a, .int .i64 b, .int .u8 vk, .int .i64 vi] 106))) (litL W' ⟨a, b, ⟨vk, vi⟩⟩ 106) (by simp)
    exact ⟨v', w6, hrun, hO2⟩
  clear h
  go_enter Try.func32, Try.ntmps32
  go_upto_region 1 with fail
  rw [← hX, ← hg2, ← hg1]
  clear hX hg1 hg2
  have hm1 : IntKind.i64.wrap (-1) = -1 := by decide
  go_upto_region 2 with fail
  refine wp_region_bl (by kernel_rfl) (by kernel_rfl) ?_
  repeat (go_big_quiet_step (first | fail))
  refine wpQuiet_nil ?_
  intro wq hw'
  obtain ⟨⟨wz, hq⟩, hw2⟩ := hw'
  subst hw2
  obtain ⟨v', w6, hrun, hO2⟩ := HAP.out _ hq
  have HO : Hid (OwnL w w6 v' [⟨a, b, ⟨vk, vi⟩⟩]) := hO2
  clear y0 y1 yf z0 z1 zf HAP hO2
  obtain ⟨y0, y1, yf⟩ := cells2 (r1.below hq)
  obtain ⟨z0, z1, zf⟩ := cells2 (r2.below hq)
  go_wp2_with fail
  go_ret
  exact ⟨_, rfl, HO.out⟩
set_option maxHeartbeats 4000000 in
set_option maxRecDepth 20000 in
/-- behind an era: it goes on, or another begins -/
theorem put_some (w W : World) (u : Value) (A : List Er) (x : Er) (a b vk vi : Int) (h : OwnL w W u (A ++ [x])) (hl : A.length ≤ 2199023255552) :
    Calls Try.prog 32 #[u, .agg #[.int .i64 a, .int .i64 b], .agg #[.int .u8 vk, .int .i64 vi]] W fun e w' => ∃ u', e = .returned u' ∧ OwnL w w' u' (if eqV x.v ⟨vk, vi⟩ then A ++ [⟨x.a, b, x.v⟩] else A ++ [x] ++ [⟨a, b, ⟨vk, vi⟩⟩]) := by
  have e0 : (A ++ [x]).length = A.length + 1 := by simp
  obtain ⟨gr, c, rfl, hc5, hc6, hg5, hg6⟩ := own_shapeL h (by simp)
  obtain ⟨X, hX⟩ : ∃ X, X = (W.alloc (.cells #[.int .i64 a, .int .i64 b] 23)).alloc (.cells #[.int .u8 vk, .int .i64 vi] 35) := ⟨_, rfl⟩
  have hB0 : Below W.heap.size W X := by rw [hX]; exact below_new (below_new (Below.refl _ _) _) _
  have r1 : RowAt X W.heap.size [.int .i64 a, .int .i64 b] 23 := by rw [hX]; exact (RowAt.new _ _ _).alloc _
  have r2 : RowAt X (W.heap.size + 1) [.int .u8 vk, .int .i64 vi] 35 := by
    rw [hX, ← World.size_alloc W (.cells #[.int .i64 a, .int .i64 b] 23)]; exact RowAt.new _ _ _
  obtain ⟨g1, hg1⟩ : ∃ g, g = W.heap.size := ⟨_, rfl⟩
  obtain ⟨g2, hg2⟩ : ∃ g, g = W.heap.size + 1 := ⟨_, rfl⟩
  rw [← hg2] at r2
  rw [← hg1] at r1
  replace h := h.below hB0
  rw [e0] at h hc5 ⊢
  have hgr : gr < X.heap.size := Nat.lt_of_lt_of_le hg6 hB0.size
  have HST : Hid (∀ W', Below X.heap.size X W' → OwnL w (W'.setCell ⟨gr, A.length * 4 + 1, none⟩ (.int .i64 b)) (.slice (some ⟨gr, 0, none⟩) (A.length + 1) c) (A ++ [⟨x.a, b, x.v⟩])) := fun W' hq => own_putL b (h.below hq) hg5
  have HCL : Hid (∀ W', Below X.heap.size X W' → W'.cell? ⟨gr, A.length * 4 + 1, none⟩ = some (.int .i64 x.b) ∧ W'.cell? ⟨gr, A.length * 4 + 2, none⟩ = some (.int .u8 x.v.kind) ∧ W'.cell? ⟨gr, A.length * 4 + 3, none⟩ = some (.int .i64 x.v.at') ∧ (∀ k, W'.frozen? ⟨gr, k, none⟩ = false)) := fun W' hq => by
    have hou := (h.below hq).ou
    rw [e0] at hou
    have h2 := csL_at (A ++ [x]) A.length (by simp)
    simp only [List.getElem_concat_length] at h2
    refine ⟨(hou.cellAt (A.length * 4 + 1) (by omega)).trans (by rw [Nat.mul_comm]; exact h2.2.1), (hou.cellAt (A.length * 4 + 2) (by omega)).trans (by rw [Nat.mul_comm]; exact h2.2.2.1), (hou.cellAt (A.length * 4 + 3) (by omega)).trans (by rw [Nat.mul_comm]; exact h2.2.2.2), hou.frozenAt⟩
  have HAP : Hid (∀ W', Below X.heap.size X W' → ∃ v' w6, (∀ ty, (Builtin.append_ #[62, 62] ty #[.slice (some ⟨gr, 0, none⟩) (A.length + 1) c, .slice (some ⟨W'.heap.size, 0, none⟩) 1 1]).run Try.prog (W'.alloc (.cells #[.int .i64 a, .int .i64 b, .int .u8 vk, .int .i64 vi] 106)) = .ok v' w6) ∧ OwnL w w6 v' (A ++ [x] ++ [⟨a, b, ⟨vk, vi⟩⟩])) := fun W' hq => by
    obtain ⟨v', w6, hrun, hO2, _⟩ := appLB ((h.below hq).below (below_new (Below.refl _ W') (.cells #[.int .i64 a, .int .i64 b, .int .u8 vk, .int .i64 vi] 106))) (litL W' ⟨a, b, ⟨vk, vi⟩⟩ 106) (by simp; omega)
    exact ⟨v', w6, hrun, hO2⟩
  have hneq := fun W => vd_neq x.v ⟨vk, vi⟩ W
  have hvg := vd_guard
  haveI := bl_ne X
  have q2 := fun p : Bl X => (HCL.out _ p.h).2.1
  have q3 := fun p : Bl X => (HCL.out _ p.h).2.2.1
  have y0 := fun p : Bl X => (r2.below p.h).cell 0
  have y1 := fun p : Bl X => (r2.below p.h).cell 1
  simp only [List.getElem?_cons_succ, List.getElem?_cons_zero] at y0 y1
  simp only at hneq
  clear h hg6
  obtain ⟨n2, hn2⟩ : ∃ n2, n2 = A.length := ⟨_, rfl⟩
  rw [← hn2] at HST HCL HAP q2 q3 hc5 hl ⊢
  clear hn2 e0
  have hni : (n2 : Int) ≤ 2199023255552 := by omega
  have e1 : (n2 : Int) + 1 - 1 = (n2 : Int) := by omega
  have e2 : IntKind.i64.wrap (n2 : Int) = (n2 : Int) := by rw [IntKind.wrap_i64]; omega
  have e3 : decide ((n2 : Int) < 0) = false := decide_eq_false (by omega)
  have e4 : (n2 : Int) < (n2 : Int) + 1 := by omega
  generalize x.v.kind = xk at *
  generalize x.v.at' = xi at *
  generalize eqV x.v ⟨vk, vi⟩ = E at *
  obtain ⟨R, hR⟩ : ∃ R, R = (if E = true then A ++ [⟨x.a, b, x.v⟩] else A ++ [x] ++ [⟨a, b, ⟨vk, vi⟩⟩]) := ⟨_, rfl⟩
  have HRV : Hid (∀ e, E = e → R = (if e = true then A ++ [⟨x.a, b, x.v⟩] else A ++ [x] ++ [⟨a, b, ⟨vk, vi⟩⟩])) := fun e h => by rw [hR, h]
  rw [← hR]
  clear hR
  go_enter Try.func32, Try.ntmps32
  go_upto_region 1 with fail
  rw [← hX, ← hg2, ← hg1]
  clear hX hg1 hg2
  go_upto_region 2 with fail
  cases E
  · have HR2 : Hid (R = A ++ [x] ++ [⟨a, b, ⟨vk, vi⟩⟩]) := HRV.out false rfl
    clear HRV
    refine wp_region_bl (by kernel_rfl) (by kernel_rfl) ?_
    repeat (go_big_quiet_step (first | fail))
    refine wpQuiet_nil ?_
    intro wq hw'
    obtain ⟨⟨wz, hq⟩, hw2⟩ := hw'
    subst hw2
    obtain ⟨v', w6, hrun, hO2⟩ := HAP.out _ hq
    have HO : Hid (OwnL w w6 v' (A ++ [x] ++ [⟨a, b, ⟨vk, vi⟩⟩])) := hO2
    clear HAP hO2 HST HCL q2 q3 y0 y1 hneq
    obtain ⟨y0, y1, yf⟩ := cells2 (r1.below hq)
    obtain ⟨z0, z1, zf⟩ := cells2 (r2.below hq)
    go_wp2_with fail
    go_ret
    exact ⟨_, rfl, by rw [HR2.out]; exact HO.out⟩
  · have HR2 : Hid (R = A ++ [⟨x.a, b, x.v⟩]) := HRV.out true rfl
    clear HRV
    refine wp_region_bl (by kernel_rfl) (by kernel_rfl) ?_
    repeat (go_big_quiet_step (first | fail))
    refine wpQuiet_nil ?_
    intro wq hw'
    obtain ⟨⟨wz, hq⟩, hw2⟩ := hw'
    subst hw2
    have HO : Hid (OwnL w (wq.setCell ⟨gr, n2 * 4 + 1, none⟩ (.int .i64 b)) (.slice (some ⟨gr, 0, none⟩) (n2 + 1) c) (A ++ [⟨x.a, b, x.v⟩])) := HST.out _ hq
    obtain ⟨s1, _, _, sf⟩ := HCL.out _ hq
    clear HAP HST HCL q2 q3 y0 y1 hneq
    obtain ⟨y0, y1, yf⟩ := cells2 (r1.below hq)
    go_wp2_with fail
    go_ret
    exact ⟨_, rfl, by rw [HR2.out]; exact HO.out⟩
end Go.Proofs.Ytmkbijnndbgjgaa.Ln
namespace Go.Proofs.Ytmkbijnndbgjgaa.Ln
open Go.RowKit
open Go.Proofs.Ytmkbijnndbgjgaa.Iv (Iv)
def putE (l : List Er) (a b : Int) (v : Vd) : List Er :=
  match l.reverse with
  | [] => [⟨a, b, v⟩]
  | x :: r => if eqV x.v v = true then r.reverse ++ [⟨x.a, b, x.v⟩] else l ++ [⟨a, b, v⟩]
theorem putE_snoc (A : List Er) (x : Er) (a b : Int) (v : Vd) : putE (A ++ [x]) a b v = if eqV x.v v = true then A ++ [⟨x.a, b, x.v⟩] else A ++ [x] ++ [⟨a, b, v⟩] := by
  unfold putE
  rw [List.reverse_append]
  simp
theorem putE_len (l : List Er) (a b : Int) (v : Vd) : (putE l a b v).length ≤ l.length + 1 := by
  rcases List.eq_nil_or_concat l with rfl | ⟨A, x, rfl⟩
  · simp [putE]
  · rw [List.concat_eq_append, putE_snoc]
    cases eqV x.v v <;> simp
theorem put_any (w W : World) (u : Value) (l : List Er) (a b : Int) (v : Vd) (h : OwnL w W u l) (hl : l.length ≤ 2199023255552) :
    Calls Try.prog 32 #[u, .agg #[.int .i64 a, .int .i64 b], .agg #[.int .u8 v.kind, .int .i64 v.at']] W fun e w' => ∃ u', e = .returned u' ∧ OwnL w w' u' (putE l a b v) := by
  rcases List.eq_nil_or_concat l with rfl | ⟨A, x, rfl⟩
  · exact put_nil w W u a b v.kind v.at' h
  · rw [List.concat_eq_append] at h hl ⊢
    rw [putE_snoc]
    exact put_some w W u A x a b v.kind v.at' h (by simp at hl; omega)
/-- where a mark's verdict ends: ahead of the next one -/
def endM (b : Int) (ms : List Mk) (k : Nat) : Int := match ms[k + 1]? with | some m => m.t - 1 | none => b
def doneE (b : Int) (ms : List Mk) : Nat → List Er
  | 0 => []
  | k + 1 => match ms[k]? with | some m => putE (doneE b ms k) m.t (endM b ms k) m.v | none => doneE b ms k
theorem doneE_succ {b : Int} {ms : List Mk} {k : Nat} (h : k < ms.length) : doneE b ms (k + 1) = putE (doneE b ms k) ms[k].t (endM b ms k) ms[k].v := by
  show (match ms[k]? with | some m => putE (doneE b ms k) m.t (endM b ms k) m.v | none => doneE b ms k) = _
  rw [List.getElem?_eq_getElem h]
theorem doneE_len (b : Int) (ms : List Mk) : ∀ k, (doneE b ms k).length ≤ k := by
  intro k
  induction k with
  | zero => exact Nat.le_refl _
  | succ k ih =>
    show (match ms[k]? with | some m => putE (doneE b ms k) m.t (endM b ms k) m.v | none => doneE b ms k).length ≤ _
    cases ms[k]? with
    | none => show (doneE b ms k).length ≤ _; omega
    | some m =>
      show (putE (doneE b ms k) m.t (endM b ms k) m.v).length ≤ _
      have := putE_len (doneE b ms k) m.t (endM b ms k) m.v
      omega
end Go.Proofs.Ytmkbijnndbgjgaa.Ln
namespace Go.Proofs.Ytmkbijnndbgjgaa.Ln
open Go.RowKit
open Go.Proofs.Ytmkbijnndbgjgaa.Iv (Iv okI okI_iff)
theorem marksB_len (b : Int) : ∀ (l : List Mk) (p : Option Int) (m : Mk), marksB b p (m :: l) = true → ((l.length : Int) ≤ b - m.t) := by
  intro l
  induction l with
  | nil =>
    intro p m h
    simp only [marksB, stepM, Bool.and_eq_true, decide_eq_true_eq] at h
    simp only [List.length_nil]
    omega
  | cons x l ih =>
    intro p m h
    have h2 : marksB b (some m.t) (x :: l) = true := by
      simp only [marksB, Bool.and_eq_true] at h ⊢
      exact h.2
    have h3 := ih _ x h2
    have h4 : stepM b (some m.t) x = true := by
      simp only [marksB, Bool.and_eq_true] at h2
      exact h2.1
    simp only [stepM, gtP, Bool.and_eq_true, decide_eq_true_eq] at h4
    simp only [List.length_cons]
    omega
theorem marksB_at (b : Int) : ∀ (l : List Mk) (p : Option Int), marksB b p l = true → ∀ k (h : k < l.length), l[k].t ≤ b ∧ (∀ u, p = some u → u < l[k].t) ∧ okV l[k].v = true := by
  intro l
  induction l with
  | nil => intro p h k hk; simp at hk
  | cons m l ih =>
    intro p h k hk
    have h0 : stepM b p m = true ∧ marksB b (some m.t) l = true := by
      simp only [marksB, Bool.and_eq_true] at h
      exact h
    have h4 := h0.1
    simp only [stepM, Bool.and_eq_true, decide_eq_true_eq] at h4
    cases k with
    | zero =>
      refine ⟨h4.2.1, fun u hu => ?_, h4.1⟩
      subst hu
      have := h4.2.2
      simp only [gtP, decide_eq_true_eq] at this
      exact this
    | succ k =>
      have h5 := ih _ h0.2 k (by simpa using hk)
      simp only [List.getElem_cons_succ]
      refine ⟨h5.1, fun u hu => ?_, h5.2.2⟩
      subst hu
      have h6 := h4.2.2
      simp only [gtP, decide_eq_true_eq] at h6
      have := h5.2.1 _ rfl
      omega
theorem okM_len {w : Iv} {l : List Mk} (hw : okI w = true) (h : okM w l = true) : l.length ≤ 1099511627777 := by
  cases l with
  | nil => simp
  | cons m l =>
    simp only [okM, Bool.and_eq_true, decide_eq_true_eq] at h
    have h2 := marksB_len _ _ _ _ h.2
    have h3 := okI_iff.1 hw
    simp only [List.length_cons]
    omega
theorem okM_at {w : Iv} {l : List Mk} (hw : okI w = true) (h : okM w l = true) (k : Nat) (hk : k < l.length) : 0 ≤ l[k].t ∧ l[k].t ≤ w.2 ∧ w.2 ≤ 1099511627776 ∧ okV l[k].v = true := by
  cases l with
  | nil => simp at hk
  | cons m l =>
    simp only [okM, Bool.and_eq_true, decide_eq_true_eq] at h
    have h3 := okI_iff.1 hw
    have h4 := marksB_at _ _ _ h.2 k hk
    have h5 : marksB w.2 (some m.t) l = true := by have := h.2; simp only [marksB, Bool.and_eq_true] at this; exact this.2
    refine ⟨?_, h4.1, by omega, h4.2.2⟩
    cases k with
    | zero => simp only [List.getElem_cons_zero]; omega
    | succ k =>
      have h6 := (marksB_at _ _ _ h5 k (by simpa using hk)).2.1 _ rfl
      simp only [List.getElem_cons_succ]
      omega
theorem okM_pos {w : Iv} {l : List Mk} (h : okM w l = true) : 0 < l.length := by
  cases l with
  | nil => simp [okM] at h
  | cons m l => simp
theorem endM_next {b : Int} {l : List Mk} {k : Nat} (h : k + 1 < l.length) : endM b l k = l[k + 1].t - 1 := by unfold endM; rw [List.getElem?_eq_getElem h]
theorem endM_last {b : Int} {l : List Mk} {k : Nat} (h : l.length ≤ k + 1) : endM b l k = b := by unfold endM; rw [List.getElem?_eq_none h]
end Go.Proofs.Ytmkbijnndbgjgaa.Ln
namespace Go.Proofs.Ytmkbijnndbgjgaa.Ln
open Go.RowKit
open Go.Proofs.Ytmkbijnndbgjgaa.Iv (Iv FitT FitI okI okI_iff)
open Go.Proofs.Ytmkbijnndbgjgaa.Lk (HasRow)
open Go.Proofs.Ytmkbijnndbgjgaa.Addr (Bl bl_ne wp_region_bl bl_call RowAt below2 below_drew below_new bset RowAt.lt RowAt.cell RowAt.frozen RowAt.below RowAt.drew RowAt.new RowAt.alloc cells2 cells4)
theorem cells3 {W : World} {b : Nat} {x y z : Value} {t : TypeId} (h : RowAt W b [x, y, z] t) : W.cell? ⟨b, 0, none⟩ = some x ∧ W.cell? ⟨b, 1, none⟩ = some y ∧ W.cell? ⟨b, 2, none⟩ = some z ∧ ∀ k, W.frozen? ⟨b, k, none⟩ = false := ⟨h.cell 0, h.cell 1, h.cell 2, h.frozen⟩
/-- the line that marks make, and the error -/
def mkL (w : Iv) (ms : List Mk) : List Er × Int := if (okI w && okM w ms) = true then (if (doneE w.2 ms ms.length).length ≤ 1024 then (doneE w.2 ms ms.length, 0) else ([], 11)) else ([], 2)
set_option maxHeartbeats 8000000 in
set_option maxRecDepth 20000 in
theorem make_any (wi : Iv) (ms : List Mk) (v : Value) (w : World) (hl : HasM w v ms) :
    Calls Try.prog 9 #[.agg #[.int .i64 wi.1, .int .i64 wi.2], v] w fun e w' => ∃ u R why, e = .returned (.tuple #[u, .int .i64 why]) ∧ OwnE w w' u R ∧ (R, why) = mkL wi ms := by
  have c1 := fun (W : World) => right_any wi W
  have c2 := fun (W : World) (h : HasM W v ms) => marks_any wi ms v W h
  have hlen := fun (hw : okI wi = true) (hm : okM wi ms = true) => okM_len hw hm
  have hat := fun (hw : okI wi = true) (hm : okM wi ms = true) (k : Nat) (hk : k < ms.length) => okM_at hw hm k hk
  have HC : Hid (∀ a b, okI wi = a → okM wi ms = b → mkL wi ms = if (a && b) = true then (if (doneE wi.2 ms ms.length).length ≤ 1024 then (doneE wi.2 ms ms.length, 0) else ([], 11)) else ([], 2)) := fun a b h1 h2 => by unfold mkL; rw [h1, h2]
  generalize mkL wi ms = R at *
  generalize okM wi ms = M at *
  obtain ⟨wa, wb⟩ := wi
  simp only at c1 c2 hat HC ⊢
  obtain ⟨o, c, rfl, hc1, hc2⟩ := HasRow.slice hl
  obtain ⟨n, hn⟩ : ∃ n, n = ms.length := ⟨_, rfl⟩
  have HN : Hid (n = ms.length) := hn
  rw [← hn] at hc1 c2 hl HC hlen ⊢
  have hni : (n : Int) ≤ 9223372036854775807 := by omega
  obtain ⟨X, hX⟩ : ∃ X, X = w.alloc (.cells #[.int .i64 wa, .int .i64 wb] 23) := ⟨_, rfl⟩
  have hB0 : Below w.heap.size w X := by rw [hX]; exact below_new (Below.refl _ _) _
  have rw0 : RowAt X w.heap.size [.int .i64 wa, .int .i64 wb] 23 := by rw [hX]; exact RowAt.new _ _ _
  obtain ⟨g0, hg0⟩ : ∃ g, g = w.heap.size := ⟨_, rfl⟩
  rw [← hg0] at rw0
  replace hl := hl.keep hB0
  have HR : Hid (∀ wr : World, Below X.heap.size X wr → HasM wr (.slice o n c) ms ∧ RowAt wr g0 [.int .i64 wa, .int .i64 wb] 23) := fun wr hb => ⟨hl.keep hb, rw0.below hb⟩
  obtain ⟨q0, q1, _⟩ := cells2 rw0
  go_enter Try.func9, Try.ntmps9
  go_upto_region 1 with fail
  rw [← hX, ← hg0]
  clear hX hg0 rw0 hl hn
  cases hA : okI (wa, wb)
  · rw [hA] at c1
    have HV : Hid ((([] : List Er), (2 : Int)) = R) := (HC.out _ _ hA rfl).symm
    clear HC HR hA hlen hat c2
    go_wp2_with fail
    go_at_call 30; refine (c1 _).mono ?_; rintro e w3 ⟨rfl, hb3⟩
    clear c1 q0 q1
    have hBZ := below2 hB0 hb3
    go_wp2_with fail
    go_ret2
    exact ⟨_, [], _, rfl, (OwnE.nil w).below hBZ, HV.out⟩
  · rw [hA] at c1
    replace hlen := hlen hA
    replace hat := hat hA
    cases M
    · have HV : Hid ((([] : List Er), (2 : Int)) = R) := (HC.out _ _ hA rfl).symm
      clear HC hA hlen hat
      go_wp2_with fail
      go_at_call 30; refine (c1 _).mono ?_; rintro e w3 ⟨rfl, hb3⟩
      clear c1 q0 q1
      obtain ⟨hh, rw0⟩ := HR.out _ hb3
      obtain ⟨q0, q1, _⟩ := cells2 rw0
      have cc := c2 _ hh
      clear c2 hh rw0
      go_wp2_with fail
      go_at_call 31; refine cc.mono ?_; rintro e w4 ⟨rfl, hb4⟩
      have hq := below2 hb3 hb4
      clear cc q0 q1 hb3 hb4
      have hBZ := below2 hB0 hq
      go_wp2_with fail
      go_ret2
      exact ⟨_, [], _, rfl, (OwnE.nil w).below hBZ, HV.out⟩
    · replace hlen := hlen rfl
      have HT : Hid (∀ k (hk : k < ms.length), 0 ≤ ms[k].t ∧ ms[k].t ≤ wb ∧ wb ≤ 1099511627776) := fun k hk => ⟨(hat rfl k hk).1, (hat rfl k hk).2.1, (hat rfl k hk).2.2.1⟩
      have HV : Hid (R = if (doneE wb ms n).length ≤ 1024 then (doneE wb ms n, 0) else ([], 11)) := HC.out _ _ hA rfl
      clear HC hat hA
      go_wp2_with fail
      go_at_call 30; refine (c1 _).mono ?_; rintro e w3 ⟨rfl, hb3⟩
      clear c1 q0 q1
      obtain ⟨hh, rw0⟩ := HR.out _ hb3
      obtain ⟨q0, q1, _⟩ := cells2 rw0
      have cc := c2 _ hh
      clear c2 hh rw0
      go_wp2_with fail
      go_at_call 31; refine cc.mono ?_; rintro e w4 ⟨rfl, hb4⟩
      have hq := below2 hb3 hb4
      clear cc q0 q1 hb3 hb4
      have H0 : Hid (OwnL X w4 (.slice none 0 0) (doneE wb ms 0)) := (OwnL.nil w4).to hq
      clear hq
      go_wp2_with fail
      go_loopw [6, 21] (fun u q wr => ∃ k : Nat, k ≤ n ∧ q = .int .i64 k ∧ Hid (OwnL X wr u (doneE wb ms k))) (fun _ q _ => n - (Go.RowKit.intOf q).toNat)
      case atStart => exact ⟨0, by omega, rfl, H0⟩
      case round =>
        clear H0
        obtain ⟨k, hk, rfl, HI⟩ := hrel
        have hI := HI.out
        obtain ⟨hh, rw0⟩ := HR.out _ hI.bl
        by_cases hlt : k < n
        · have hkz : k < ms.length := by rw [← HN.out]; exact hlt
          obtain ⟨g2, i2, rfl, hg2, a0, a1, a2⟩ := HasM.cell hh k hkz
          have hki : (k : Int) < (n : Int) := by omega
          have hti := HT.out k hkz
          have HS : Hid (∀ b : Int, b = endM wb ms k → putE (doneE wb ms k) ms[k].t b ms[k].v = doneE wb ms (k + 1)) := fun b hb => by rw [hb, doneE_succ hkz]
          have hq5 := fun (u : Value) (W : World) (b : Int) (h : OwnL X W u (doneE wb ms k)) => put_any X W u (doneE wb ms k) ms[k].t b ms[k].v h (by have := doneE_len wb ms k; omega)
          generalize ms[k].v = xv at a1 a2 hq5 HS
          generalize ms[k].t = xt at a0 hq5 HS hti
          generalize xv.kind = xk at *
          generalize xv.at' = xi at *
          clear hg2 HI rw0 hh
          go_upto_region 7 with fail
          obtain ⟨Y, hY⟩ : ∃ X, X = wr.alloc (.cells #[.int .i64 xt, .int .u8 xk, .int .i64 xi] 46) := ⟨_, rfl⟩
          have hbY : Below wr.heap.size wr Y := by rw [hY]; exact below_new (Below.refl _ _) _
          have rx : RowAt Y wr.heap.size [.int .i64 xt, .int .u8 xk, .int .i64 xi] 46 := by rw [hY]; exact RowAt.new _ _ _
          rw [← hY]
          replace hI := hI.below hbY
          clear hY hbY a0 a1 a2
          obtain ⟨gx, hgx⟩ : ∃ g, g = wr.heap.size := ⟨_, rfl⟩
          rw [← hgx] at rx ⊢
          clear hgx
          obtain ⟨hh, rw0⟩ := HR.out _ hI.bl
          obtain ⟨z0, z1, _⟩ := cells2 rw0
          obtain ⟨x0, x1, x2, _⟩ := cells3 rx
          by_cases hnx : k + 1 < n
          · have hkx : k + 1 < ms.length := by rw [← HN.out]; exact hnx
            obtain ⟨g3, i3, e13, hg3, b0, _, _⟩ := HasM.cell hh (k + 1) hkx
            injection e13 with e13
            injection e13 with e3 e4
            subst e3 e4
            have ht2 := HT.out (k + 1) hkx
            have HE : Hid (ms[k + 1].t - 1 = endM wb ms k) := (endM_next hkx).symm
            have hnxi : decide ((k : Int) + 1 < (n : Int)) = true := decide_eq_true (by omega)
            have hnx2 : (k : Int) + 1 < (n : Int) := by omega
            generalize ms[k + 1].t = pt at *
            have e1 : IntKind.i64.wrap ((k : Int) + 1) = (k : Int) + 1 := by rw [IntKind.wrap_i64]; omega
            have e2 : IntKind.i64.wrap (pt - 1) = pt - 1 := by rw [IntKind.wrap_i64]; omega
            have e5 : ((k : Int) + 1).toNat = k + 1 := by omega
            clear hg3 hh
            have cc := hq5 _ _ (pt - 1) hI
            have HS2 := HS.out (pt - 1) HE.out
            rw [HS2] at cc
            clear hq5 HS HE HS2 hI
            go_wp2_with fail
            go_at_call 32; refine cc.mono ?_; rintro e w5 ⟨u5, rfl, hO⟩
            have HI2 : Hid (OwnL X w5 u5 (doneE wb ms (k + 1))) := hO
            clear cc hO z0 z1 x0 x1 x2 b0 rx rw0
            go_wp2_with fail
            go_roundw
            case rel => exact ⟨k + 1, by omega, by go_num, HI2⟩
            case measure => simp [Go.RowKit.intOf]; omega
          · have HE : Hid (wb = endM wb ms k) := (endM_last (by rw [← HN.out]; omega)).symm
            have hnxi : decide ((k : Int) + 1 < (n : Int)) = false := decide_eq_false (by omega)
            have cc := hq5 _ _ wb hI
            have HS2 := HS.out wb HE.out
            rw [HS2] at cc
            clear hq5 HS HE HS2 hI hh
            go_wp2_with fail
            go_at_call 32; refine cc.mono ?_; rintro e w5 ⟨u5, rfl, hO⟩
            have HI2 : Hid (OwnL X w5 u5 (doneE wb ms (k + 1))) := hO
            clear cc hO z0 z1 x0 x1 x2 rx rw0
            go_wp2_with fail
            go_roundw
            case rel => exact ⟨k + 1, by omega, by go_num, HI2⟩
            case measure => simp [Go.RowKit.intOf]; omega
        · have hkn : decide ((k : Int) < (n : Int)) = false := decide_eq_false (by omega)
          obtain rfl : k = n := by omega
          have hbE : (doneE wb ms k).length ≤ 1099511627777 := by have := doneE_len wb ms k; omega
          generalize doneE wb ms k = D at *
          obtain ⟨o5, c5, rfl, hd1, hd2⟩ := HasRow.slice hI.has
          obtain ⟨d, hd⟩ : ∃ d, d = D.length := ⟨_, rfl⟩
          have hD2 := hI.has
          rw [← hd] at hd1 hbE hD2 HV ⊢
          have hbl := below2 hB0 hI.bl
          clear HI hI hh rw0
          by_cases hbig : d ≤ 1024
          · have HV2 : Hid ((D, (0 : Int)) = R) := by show _ = _; rw [HV.out, if_pos hbig]
            have hbg : decide ((1024 : Int) < (d : Int)) = false := decide_eq_false (by omega)
            have cc := told_any D (.slice o5 d c5) wr hD2 (by omega)
            clear HV hD2 hd
            go_wp2_with fail
            go_at_call 33; refine cc.mono ?_; rintro e w6 ⟨u6, rfl, hO⟩
            have HO := hO.to hbl
            clear cc hO
            go_wp2_with fail
            go_ret2
            exact ⟨_, D, _, rfl, HO, HV2.out⟩
          · have HV2 : Hid ((([] : List Er), (11 : Int)) = R) := by show _ = _; rw [HV.out, if_neg hbig]
            have hbg : decide ((1024 : Int) < (d : Int)) = true := decide_eq_true (by omega)
            clear HV hD2 hd
            go_wp2_with fail
            go_ret2
            exact ⟨_, [], _, rfl, (OwnE.nil w).below hbl, HV2.out⟩
end Go.Proofs.Ytmkbijnndbgjgaa.Ln
namespace Go.Proofs.Ytmkbijnndbgjgaa.Ln
open Go.RowKit
open Go.Proofs.Ytmkbijnndbgjgaa.Iv (Iv okI okI_iff)
open Go.Proofs.Ytmkbijnndbgjgaa.Lk (idxL idx_at idx_none)
def inT (t : Int) (x : Er) : Bool := decide (x.a ≤ t) && decide (t ≤ x.b)
def zV : Vd := ⟨0, 0⟩
def holdL (l : List Er) (t : Int) : Vd := match l.find? (inT t) with | some x => x.v | none => zV
def atL (w : Iv) (l : List Er) (t : Int) : Vd × Int := if okL w l = true then (match l.find? (inT t) with | some x => (x.v, 0) | none => (zV, 1)) else (zV, 2)
theorem inT_iff {t : Int} {x : Er} : inT t x = true ↔ x.a ≤ t ∧ t ≤ x.b := by unfold inT; simp
theorem idx_find {α : Type} (p : α → Bool) (l : List α) : (∃ k, ∃ h : k < l.length, idxL p l = (k : Int) ∧ l.find? p = some l[k]) ∨ (idxL p l = -1 ∧ l.find? p = none) := by
  cases hf : l.findIdx? p with
  | none =>
    right
    have h0 := List.findIdx?_eq_none_iff.1 hf
    refine ⟨?_, List.find?_eq_none.2 (fun x hx => by rw [h0 x hx]; exact Bool.false_ne_true)⟩
    exact idx_none (fun j hj => h0 _ (List.getElem_mem hj))
  | some k =>
    left
    obtain ⟨hk, h1, h2⟩ := List.findIdx?_eq_some_iff_getElem.1 hf
    refine ⟨k, hk, idx_at hk (fun j hj hjk => by have := h2 j hjk; simpa using this) h1, ?_⟩
    rw [List.find?_eq_some_iff_getElem]
    exact ⟨h1, k, hk, rfl, fun j hj => by have := h2 j hj; simpa using this⟩
theorem goE_cover {b : Int} : ∀ (l : List Er) (p : Option Vd) (n m t : Int), goE b p n l = some m → n ≤ m ∧ ((∃ x ∈ l, inT t x = true) ↔ n ≤ t ∧ t < m) := by
  intro l
  induction l with
  | nil =>
    intro p n m t h
    simp only [goE, Option.some.injEq] at h
    subst h
    refine ⟨by omega, fun ⟨x, hx, _⟩ => by simp at hx, fun h => by omega⟩
  | cons x l ih =>
    intro p n m t h
    simp only [goE] at h
    split at h
    · rename_i hs
      obtain ⟨h1, h2⟩ := ih _ _ _ t h
      simp only [stepB, Bool.and_eq_true, decide_eq_true_eq] at hs
      refine ⟨by omega, fun ⟨y, hy, hi⟩ => ?_, fun h3 => ?_⟩
      · rcases List.mem_cons.1 hy with rfl | hy
        · have := inT_iff.1 hi; omega
        · have := h2.1 ⟨y, hy, hi⟩; omega
      · by_cases h4 : t ≤ x.b
        · exact ⟨x, List.mem_cons_self, inT_iff.2 ⟨by omega, h4⟩⟩
        · obtain ⟨y, hy, hi⟩ := h2.2 ⟨by omega, h3.2⟩
          exact ⟨y, List.mem_cons_of_mem _ hy, hi⟩
    · cases h
theorem okL_go {w : Iv} {l : List Er} (h : okL w l = true) : okI w = true ∧ l.length ≤ 1024 ∧ (∀ x ∈ l, okV x.v = true) ∧ goE w.2 none w.1 l = some (w.2 + 1) := by
  unfold okL at h
  simp only [Bool.and_eq_true, decide_eq_true_eq, List.all_eq_true, beq_iff_eq] at h
  exact h
theorem okL_in {w : Iv} {l : List Er} (t : Int) (h : okL w l = true) : (∃ x, l.find? (inT t) = some x) ↔ w.1 ≤ t ∧ t ≤ w.2 := by
  have h2 := (goE_cover l none w.1 (w.2 + 1) t (okL_go h).2.2.2).2
  have h3 : (∃ x, l.find? (inT t) = some x) ↔ ∃ x ∈ l, inT t x = true := by
    constructor
    · intro ⟨x, hx⟩; exact ⟨x, List.mem_of_find?_eq_some hx, List.find?_some hx⟩
    · intro ⟨x, hx, hi⟩
      cases hf : l.find? (inT t) with
      | some y => exact ⟨y, rfl⟩
      | none => exact absurd hi (by have := List.find?_eq_none.1 hf x hx; simpa using this)
  rw [h3, h2]
  omega
theorem atL_bad {w : Iv} {l : List Er} {t : Int} (h : okL w l = false) : atL w l t = (zV, 2) := by unfold atL; rw [h]; rfl
theorem atL_out {w : Iv} {l : List Er} {t : Int} (h : okL w l = true) (h2 : ¬ (w.1 ≤ t ∧ t ≤ w.2)) : atL w l t = (zV, 1) := by
  unfold atL
  rw [if_pos h]
  cases hf : l.find? (inT t) with
  | some y => exact absurd ((okL_in t h).1 ⟨y, hf⟩) h2
  | none => rfl
theorem atL_in {w : Iv} {l : List Er} {t : Int} (h : okL w l = true) (h2 : w.1 ≤ t ∧ t ≤ w.2) : atL w l t = (holdL l t, 0) := by
  obtain ⟨y, hf⟩ := (okL_in t h).2 h2
  unfold atL holdL
  rw [if_pos h, hf]
theorem atL_some {w : Iv} {l : List Er} {t : Int} {x : Er} (h : okL w l = true) (h2 : l.find? (inT t) = some x) : atL w l t = (x.v, 0) := by unfold atL; rw [if_pos h, h2]
theorem atL_none {w : Iv} {l : List Er} {t : Int} (h : okL w l = true) (h2 : l.find? (inT t) = none) : atL w l t = (zV, 1) := by unfold atL; rw [if_pos h, h2]
end Go.Proofs.Ytmkbijnndbgjgaa.Ln
namespace Go.Proofs.Ytmkbijnndbgjgaa.Ln
open Go.RowKit
open Go.Proofs.Ytmkbijnndbgjgaa.Iv (Iv FitT FitI okI okI_iff)
open Go.Proofs.Ytmkbijnndbgjgaa.Lk (HasRow idxL idx_at idx_none)
open Go.Proofs.Ytmkbijnndbgjgaa.Sp (chk)
open Go.Proofs.Ytmkbijnndbgjgaa.Addr (RowAt below2 below_drew below_new bset RowAt.lt RowAt.cell RowAt.frozen RowAt.below RowAt.drew RowAt.new RowAt.alloc cells2 cells4 results_cell)
set_option maxHeartbeats 2000000 in
/-- the closure: is the time in the era -/
theorem at1_any (t : Int) (x : Er) (g : Nat) (w : World) (hr : RowAt w g [.int .i64 t] 2) : Calls Try.prog 41 #[.agg #[.int .i64 x.a, .int .i64 x.b, .int .u8 x.v.kind, .int .i64 x.v.at'], .pointer (some ⟨g, 0, none⟩)] w fun e w' => e = .returned (.bool (inT t x)) ∧ Below w.heap.size w w' := by
  have HV : Hid (∀ a b, decide (x.a ≤ t) = a → decide (t ≤ x.b) = b → inT t x = (a && b)) := fun a b h1 h2 => by unfold inT; rw [h1, h2]
  generalize inT t x = R at *
  generalize x.v.kind = xk at *
  generalize x.v.at' = xi at *
  generalize x.a = xa at *
  generalize x.b = xb at *
  obtain ⟨X, hX⟩ : ∃ X, X = w.alloc (.cells #[.int .i64 xa, .int .i64 xb, .int .u8 xk, .int .i64 xi] 49) := ⟨_, rfl⟩
  have hB0 : Below w.heap.size w X := by rw [hX]; exact below_new (Below.refl _ _) _
  have rx : RowAt X w.heap.size [.int .i64 xa, .int .i64 xb, .int .u8 xk, .int .i64 xi] 49 := by rw [hX]; exact RowAt.new _ _ _
  have z0 := (hr.below hB0).cell 0
  simp only [List.getElem?_cons_zero] at z0
  go_enter Try.func41, Try.ntmps41
  go_upto_region 1 with fail
  rw [← hX]
  obtain ⟨gx, hgx⟩ : ∃ g, g = w.heap.size := ⟨_, rfl⟩
  rw [← hgx] at rx ⊢
  clear hX hgx hr
  obtain ⟨x0, x1, x2, x3, _⟩ := cells4 rx
  by_cases h1 : xa ≤ t
  · by_cases h2 : t ≤ xb
    · have HV2 : Hid (R = true) := HV.out _ _ (decide_eq_true h1) (decide_eq_true h2)
      clear HV
      go_wp2_with fail
      go_ret
      exact ⟨by rw [HV2.out]; rfl, hB0⟩
    · have HV2 : Hid (R = false) := HV.out _ _ (decide_eq_true h1) (decide_eq_false h2)
      clear HV
      go_wp2_with fail
      go_ret
      exact ⟨by rw [HV2.out]; rfl, hB0⟩
  · have HV2 : Hid (R = false) := HV.out _ _ (decide_eq_false h1) rfl
    clear HV
    go_wp2_with fail
    go_ret
    exact ⟨by rw [HV2.out]; rfl, hB0⟩
set_option maxHeartbeats 8000000 in
set_option maxRecDepth 20000 in
theorem idxT_any (l : List Er) (p : Er → Bool) (v : Value) (g : Nat) (w : World) (hl : HasE w v l)
    (ca : ∀ (x : Er) (W : World), Below w.heap.size w W → Calls Try.prog 41 #[.agg #[.int .i64 x.a, .int .i64 x.b, .int .u8 x.v.kind, .int .i64 x.v.at'], .pointer (some ⟨g, 0, none⟩)] W fun e w' => e = .returned (.bool (p x)) ∧ Below W.heap.size W w') :
    Calls Try.prog 40 #[v, .func (.func 41) #[] #[.pointer (some ⟨g, 0, none⟩)]] w fun e w' => e = .returned (.int .i64 (idxL p l)) ∧ Below w.heap.size w w' := by
  obtain ⟨o, c, rfl, hc1, hc2⟩ := HasRow.slice hl
  have HR : Hid (∀ wr : World, Below w.heap.size w wr → HasE wr (.slice o l.length c) l) := fun wr hb => hl.keep hb
  have HG : Hid (∀ (x : Er) (W : World), Below w.heap.size w W → Calls Try.prog 41 #[.agg #[.int .i64 x.a, .int .i64 x.b, .int .u8 x.v.kind, .int .i64 x.v.at'], .pointer (some ⟨g, 0, none⟩)] W fun e w' => e = .returned (.bool (p x)) ∧ Below W.heap.size W w') := ca
  obtain ⟨n, hn⟩ : ∃ n, n = l.length := ⟨_, rfl⟩
  have HN : Hid (n = l.length) := hn
  rw [← hn] at HR hc1 ⊢
  have hni : (n : Int) ≤ 9223372036854775807 := by omega
  obtain ⟨R, hR⟩ : ∃ R, R = idxL p l := ⟨_, rfl⟩
  have HRD : Hid (R = idxL p l) := hR
  rw [← hR]
  clear hl hn hR ca
  go_enter Try.func40, Try.ntmps40
  go_wp2_with fail
  go_loopw [8] (fun q wr => ∃ k : Nat, k ≤ n ∧ q = .int .i64 k ∧ Below w.heap.size w wr ∧ Hid (∀ j (hj : j < l.length), j < k → p l[j] = false)) (fun q _ => n - (Go.RowKit.intOf q).toNat)
  case atStart => exact ⟨0, by omega, rfl, Below.refl _ _, fun j hj h => absurd h (Nat.not_lt_zero _)⟩
  case round =>
    obtain ⟨k, hk, rfl, hB, HI⟩ := hrel
    by_cases hlt : k < n
    · have hkz : k < l.length := by rw [← HN.out]; exact hlt
      obtain ⟨g1, i1, rfl, hg1, a0, a1, a2, a3⟩ := HasE.cell (HR.out _ hB) k hkz
      have cc2 := HG.out l[k] wr hB
      have HV1 : Hid (∀ D : Bool, D = p l[k] → D = true → R = (k : Int)) := fun D e h => by rw [HRD.out]; exact idx_at hkz HI.out (by rw [← e, h])
      have HV2 : Hid (∀ D : Bool, D = p l[k] → D = false → ∀ j (hj : j < l.length), j < k + 1 → p l[j] = false) := fun D e h j hj hjk => by
        by_cases e2 : j = k
        · subst e2; rw [← e, h]
        · exact HI.out j hj (by omega)
      obtain ⟨D, hD⟩ : ∃ D, D = p l[k] := ⟨_, rfl⟩
      have HW1 : Hid (D = true → R = (k : Int)) := HV1.out D hD
      have HW2 : Hid (D = false → ∀ j (hj : j < l.length), j < k + 1 → p l[j] = false) := HV2.out D hD
      rw [← hD] at cc2
      have hki : (k : Int) < (n : Int) := by omega
      clear HI HV1 HV2 hD hg1
      generalize l[k].a = s0 at a0 cc2
      generalize l[k].b = s1 at a1 cc2
      generalize l[k].v.kind = s2 at a2 cc2
      generalize l[k].v.at' = s3 at a3 cc2
      go_wp2_with fail
      go_at_call 41; refine cc2.mono ?_; rintro e w2 ⟨rfl, hb2⟩
      have hB2 := below2 hB hb2
      cases D
      · have HV3 : Hid (∀ j (hj : j < l.length), j < k + 1 → p l[j] = false) := HW2.out rfl
        clear HW1 HW2 cc2
        go_wp2_with fail
        go_roundw
        case rel => exact ⟨k + 1, by omega, by go_num, hB2, HV3⟩
        case measure => simp [Go.RowKit.intOf]; omega
      · have HV : Hid (R = (k : Int)) := HW1.out rfl
        clear HW1 HW2 cc2
        go_wp2_with fail
        go_ret
        exact ⟨by have h := HV.out; subst h; rfl, hB2⟩
    · have hkn : decide ((k : Int) < (n : Int)) = false := decide_eq_false (by omega)
      have HV : Hid (R = -1) := by show _ = _; rw [HRD.out]; exact idx_none (fun j hj => HI.out j hj (by have := HN.out; omega))
      clear HI
      go_wp2_with fail
      go_ret
      exact ⟨by have h := HV.out; subst h; rfl, hB⟩
set_option maxHeartbeats 8000000 in
set_option maxRecDepth 20000 in
theorem at_any (wi : Iv) (l : List Er) (t : Int) (v : Value) (w : World) (hl : HasE w v l) :
    Calls Try.prog 15 #[.agg #[.int .i64 wi.1, .int .i64 wi.2], v, .int .i64 t] w fun e w' => ∃ k i why, e = .returned (.tuple #[.agg #[.int .u8 k, .int .i64 i], .int .i64 why]) ∧ Below w.heap.size w w' ∧ ((⟨k, i⟩ : Vd), why) = atL wi l t := by
  have c1 := fun (W : World) (h : HasE W v l) => check_any wi l v W h
  have hfind := idx_find (inT t) l
  have HC1 : Hid (okL wi l = false → atL wi l t = (zV, 2)) := fun h => atL_bad h
  have HC2 : Hid (okL wi l = true → ∀ x, l.find? (inT t) = some x → atL wi l t = (x.v, 0)) := fun h x h2 => atL_some h h2
  have HC3 : Hid (okL wi l = true → l.find? (inT t) = none → atL wi l t = (zV, 1)) := fun h h2 => atL_none h h2
  generalize atL wi l t = R at *
  generalize okL wi l = K at *
  obtain ⟨wa, wb⟩ := wi
  simp only at c1 ⊢
  obtain ⟨X, hX⟩ : ∃ X, X = ((w.alloc (.cells #[.int .i64 wa, .int .i64 wb] 23)).alloc (.cells #[.int .i64 t] 2)).alloc (.cells #[.int .u8 0, .int .i64 0] 35) := ⟨_, rfl⟩
  have hB0 : Below w.heap.size w X := by rw [hX]; exact below_new (below_new (below_new (Below.refl _ _) _) _) _
  have r0 : RowAt X w.heap.size [.int .i64 wa, .int .i64 wb] 23 := by rw [hX]; exact ((RowAt.new _ _ _).alloc _).alloc _
  have r1 : RowAt X (w.heap.size + 1) [.int .i64 t] 2 := by
    rw [hX, ← World.size_alloc w (.cells #[.int .i64 wa, .int .i64 wb] 23)]; exact (RowAt.new _ _ _).alloc _
  have r2 : RowAt X (w.heap.size + 1 + 1) [.int .u8 0, .int .i64 0] 35 := by
    rw [hX, show w.heap.size + 1 + 1 = ((w.alloc (.cells #[.int .i64 wa, .int .i64 wb] 23)).alloc (.cells #[.int .i64 t] 2)).heap.size by rw [World.size_alloc, World.size_alloc]]; exact RowAt.new _ _ _
  obtain ⟨g0, hg0⟩ : ∃ g, g = w.heap.size := ⟨_, rfl⟩
  obtain ⟨g1, hg1⟩ : ∃ g, g = w.heap.size + 1 := ⟨_, rfl⟩
  obtain ⟨g2, hg2⟩ : ∃ g, g = w.heap.size + 1 + 1 := ⟨_, rfl⟩
  have hge : w.heap.size ≤ g2 := by omega
  have hlt2 := RowAt.lt r2
  rw [← hg2] at r2 hlt2
  rw [← hg1] at r1
  rw [← hg0] at r0
  have cc := c1 X (hl.keep hB0)
  have hlX := hl.keep hB0
  have HL : Hid (∀ W, Below X.heap.size X W → HasE W v l) := fun W hq => hlX.keep hq
  have HT : Hid (∀ W, Below X.heap.size X W → Calls Try.prog 40 #[v, .func (.func 41) #[] #[.pointer (some ⟨g1, 0, none⟩)]] W fun e w' => e = .returned (.int .i64 (idxL (inT t) l)) ∧ Below W.heap.size W w') := fun W hq => idxT_any l (inT t) v g1 W (hlX.keep hq) (fun x W' hb => at1_any t x g1 W' (r1.below (below2 hq hb)))
  obtain ⟨q0, q1, _⟩ := cells2 r0
  clear c1 hl hlX
  obtain ⟨o, c, rfl, hc1, hc2⟩ := HasRow.slice (HL.out X (Below.refl _ _))
  go_enter Try.func15, Try.ntmps15
  go_upto_region 1 with fail
  rw [← hX]
  rw [← hg2, ← hg1, ← hg0]
  clear hX hg0 hg1 hg2
  go_wp2_with fail
  go_at_call 13; refine cc.mono ?_; rintro e w3 ⟨rfl, hb3⟩
  have hB3 := below2 hB0 hb3
  clear cc q0 q1
  cases K
  · have HV : Hid (((⟨0, 0⟩ : Vd), (2 : Int)) = R) := (HC1.out rfl).symm
    have hck : chk false = 2 := rfl
    rw [hck]
    have r2' := r2.below hb3
    have hlt3 := RowAt.lt r2'
    obtain ⟨y0, y1, yf⟩ := cells2 r2'
    clear HC1 HC2 HC3 HL HT hfind
    go_wp2_with fail
    (try simp only [Exit.inBlock, Exit.then])
    refine bodyPost_ret (v := .tuple #[.agg #[.int .u8 0, .int .i64 0], .int .i64 2]) ?_ rfl ⟨_, _, _, rfl, ?_, HV.out⟩
    · rw [results_cell_tmp rfl]
      go_simp
    · repeat' (first | with_reducible exact hB3 | with_reducible apply below_new | with_reducible refine bset ?_ (by omega))
  · have hck : chk true = 0 := rfl
    rw [hck]
    have ct := HT.out w3 hb3
    clear HC1 HT
    generalize idxL (inT t) l = Q at ct hfind
    go_wp2_with fail
    go_at_call 40; refine ct.mono ?_; rintro e w4 ⟨rfl, hb4⟩
    have hB4 := below2 hB3 hb4
    have r2' := r2.below (below2 hb3 hb4)
    have hlt3 := RowAt.lt r2'
    obtain ⟨y0, y1, yf⟩ := cells2 r2'
    clear ct
    rcases hfind with ⟨k, hk, hQ, hf⟩ | ⟨hQ, hf⟩
    · obtain ⟨gr, i1, rfl, hg, a0, a1, a2, a3⟩ := HasE.cell (HL.out _ (below2 hb3 hb4)) k hk
      have HV : Hid ((⟨l[k].v.kind, l[k].v.at'⟩, (0 : Int)) = R) := (HC2.out (by simp) _ hf).symm
      subst hQ
      have HL2 := HL.out _ (below2 hb3 hb4)
      clear HC2 HC3 HL hf a0 a1
      generalize l[k].v.kind = vk at a2 a3 HV
      generalize l[k].v.at' = vi at a3 HV
      clear HL2
      generalize l.length = n at *
      have hkn : decide ((k : Int) < 0) = false := decide_eq_false (by omega)
      have hki : (k : Int) < (n : Int) := by omega
      go_wp2_with fail
      (try simp only [Exit.inBlock, Exit.then])
      refine bodyPost_ret (v := .tuple #[.agg #[.int .u8 vk, .int .i64 vi], .int .i64 0]) ?_ rfl ⟨_, _, _, rfl, ?_, HV.out⟩
      · rw [results_cell_tmp rfl]
        go_simp
      · repeat' (first | with_reducible exact hB4 | with_reducible apply below_new | with_reducible refine bset ?_ (by omega))
    · have HV : Hid (((⟨0, 0⟩ : Vd), (1 : Int)) = R) := (HC3.out (by simp) hf).symm
      subst hQ
      clear HC2 HC3 HL hf
      go_wp2_with fail
      (try simp only [Exit.inBlock, Exit.then])
      refine bodyPost_ret (v := .tuple #[.agg #[.int .u8 0, .int .i64 0], .int .i64 1]) ?_ rfl ⟨_, _, _, rfl, ?_, HV.out⟩
      · rw [results_cell_tmp rfl]
        go_simp
      · repeat' (first | with_reducible exact hB4 | with_reducible apply below_new | with_reducible refine bset ?_ (by omega))
set_option maxHeartbeats 8000000 in
set_option maxRecDepth 20000 in
theorem hold_any (l : List Er) (t : Int) (v : Value) (w : World) (hl : HasE w v l) :
    Calls Try.prog 42 #[v, .int .i64 t] w fun e w' => e = .returned (.agg #[.int .u8 (holdL l t).kind, .int .i64 (holdL l t).at']) ∧ Below w.heap.size w w' := by
  have HS : Hid (∀ k (hk : k < l.length), (∀ j (hj : j < l.length), j < k → inT t l[j] = false) → inT t l[k] = true → holdL l t = l[k].v) := fun k hk h1 h2 => by
    have : l.find? (inT t) = some l[k] := by
      rw [List.find?_eq_some_iff_getElem]
      exact ⟨h2, k, hk, rfl, fun j hj => by have := h1 j (by omega) hj; simpa using this⟩
    unfold holdL; rw [this]
  have HN0 : Hid ((∀ j (hj : j < l.length), inT t l[j] = false) → holdL l t = zV) := fun h => by
    have : l.find? (inT t) = none := List.find?_eq_none.2 (fun x hx => by
      obtain ⟨j, hj, rfl⟩ := List.mem_iff_getElem.1 hx
      rw [h j hj]; exact Bool.false_ne_true)
    unfold holdL; rw [this]
  generalize holdL l t = R at *
  obtain ⟨o, c, rfl, hc1, hc2⟩ := HasRow.slice hl
  obtain ⟨n, hn⟩ : ∃ n, n = l.length := ⟨_, rfl⟩
  have HN : Hid (n = l.length) := hn
  obtain ⟨X, hX⟩ : ∃ X, X = w.alloc (.cells #[.int .u8 0, .int .i64 0] 35) := ⟨_, rfl⟩
  have hB0 : Below w.heap.size w X := by rw [hX]; exact below_new (Below.refl _ _) _
  have r0 : RowAt X w.heap.size [.int .u8 0, .int .i64 0] 35 := by rw [hX]; exact RowAt.new _ _ _
  obtain ⟨g0, hg0⟩ : ∃ g, g = w.heap.size := ⟨_, rfl⟩
  have hge : w.heap.size ≤ g0 := by omega
  rw [← hg0] at r0
  rw [← hn] at hc1 hl ⊢
  have hlX := hl.keep hB0
  have HR : Hid (∀ W, Below X.heap.size X W → HasE W (.slice o n c) l ∧ RowAt W g0 [.int .u8 0, .int .i64 0] 35 ∧ Below w.heap.size w W) := fun W hq => ⟨hlX.keep hq, r0.below hq, below2 hB0 hq⟩
  have hni : (n : Int) ≤ 9223372036854775807 := by omega
  clear hl hlX r0 hn
  go_enter Try.func42, Try.ntmps42
  go_upto_region 1 with fail
  rw [← hX, ← hg0]
  clear hX hg0
  go_wp2_with fail
  go_loopw [9] (fun q wr => ∃ k : Nat, k ≤ n ∧ q = .int .i64 k ∧ Below X.heap.size X wr ∧ Hid (∀ j (hj : j < l.length), j < k → inT t l[j] = false)) (fun q _ => n - (Go.RowKit.intOf q).toNat)
  case atStart => exact ⟨0, by omega, rfl, Below.refl _ _, fun j hj h => absurd h (Nat.not_lt_zero _)⟩
  case round =>
    obtain ⟨k, hk, rfl, hB, HI⟩ := hrel
    by_cases hlt : k < n
    · have hkz : k < l.length := by rw [← HN.out]; exact hlt
      obtain ⟨g1, i1, rfl, hg1, a0, a1, a2, a3⟩ := HasE.cell (HR.out _ hB).1 k hkz
      have hki : (k : Int) < (n : Int) := by omega
      have HY : Hid (inT t l[k] = true → R = l[k].v) := fun h => HS.out k hkz HI.out h
      have HNx : Hid (inT t l[k] = false → ∀ j (hj : j < l.length), j < k + 1 → inT t l[j] = false) := fun h j hj hjk => by
        by_cases e2 : j = k
        · subst e2; exact h
        · exact HI.out j hj (by omega)
      have HIN : Hid (∀ a b, decide (l[k].a ≤ t) = a → decide (t ≤ l[k].b) = b → inT t l[k] = (a && b)) := fun a b h1 h2 => by unfold inT; rw [h1, h2]
      generalize inT t l[k] = D at HY HNx HIN
      have HY2 : Hid (D = true → l[k].v.kind = R.kind ∧ l[k].v.at' = R.at') := fun h => by rw [HY.out h]; exact ⟨rfl, rfl⟩
      clear HY HI hg1
      generalize l[k].v.kind = xk at a2 HY2
      generalize l[k].v.at' = xi at a3 HY2
      generalize l[k].a = xa at a0 HIN
      generalize l[k].b = xb at a1 HIN
      go_upto_region 4 with fail
      obtain ⟨Y, hY⟩ : ∃ X, X = wr.alloc (.cells #[.int .i64 xa, .int .i64 xb, .int .u8 xk, .int .i64 xi] 49) := ⟨_, rfl⟩
      have hbY : Below wr.heap.size wr Y := by rw [hY]; exact below_new (Below.refl _ _) _
      have rx : RowAt Y wr.heap.size [.int .i64 xa, .int .i64 xb, .int .u8 xk, .int .i64 xi] 49 := by rw [hY]; exact RowAt.new _ _ _
      rw [← hY]
      replace hB := below2 hB hbY
      clear hY hbY a0 a1 a2 a3
      obtain ⟨gx, hgx⟩ : ∃ g, g = wr.heap.size := ⟨_, rfl⟩
      rw [← hgx] at rx ⊢
      clear hgx
      obtain ⟨_, r0, hBW⟩ := HR.out _ hB
      have hlt3 := RowAt.lt r0
      obtain ⟨y0, y1, yf⟩ := cells2 r0
      obtain ⟨x0, x1, x2, x3, _⟩ := cells4 rx
      by_cases h1 : xa ≤ t
      · by_cases h2 : t ≤ xb
        · obtain ⟨hv1, hv2⟩ := HY2.out (HIN.out _ _ (decide_eq_true h1) (decide_eq_true h2))
          have HV : Hid (Ending.returned (.agg #[.int .u8 xk, .int .i64 xi]) = .returned (.agg #[.int .u8 R.kind, .int .i64 R.at'])) := by show _ = _; rw [hv1, hv2]
          clear HY2 HNx HIN hv1 hv2
          go_wp2_with fail
          (try simp only [Exit.inBlock, Exit.then])
          refine bodyPost_ret (v := .agg #[.int .u8 xk, .int .i64 xi]) ?_ rfl ⟨HV.out, ?_⟩
          · rw [results_cell rfl]
            go_simp
          · repeat' (first | with_reducible exact hBW | with_reducible apply below_new | with_reducible refine bset ?_ (by omega))
        · have HI2 := HNx.out (HIN.out _ _ (decide_eq_true h1) (decide_eq_false h2))
          have HI3 : Hid (∀ j (hj : j < l.length), j < k + 1 → inT t l[j] = false) := HI2
          clear HY2 HNx HIN HI2 y0 y1
          go_wp2_with fail
          go_roundw
          case rel => exact ⟨k + 1, by omega, by go_num, hB, HI3⟩
          case measure => simp [Go.RowKit.intOf]; omega
      · have HI2 := HNx.out (HIN.out _ _ (decide_eq_false h1) rfl)
        have HI3 : Hid (∀ j (hj : j < l.length), j < k + 1 → inT t l[j] = false) := HI2
        clear HY2 HNx HIN HI2 y0 y1
        go_wp2_with fail
        go_roundw
        case rel => exact ⟨k + 1, by omega, by go_num, hB, HI3⟩
        case measure => simp [Go.RowKit.intOf]; omega
    · have hkn : decide ((k : Int) < (n : Int)) = false := decide_eq_false (by omega)
      have hz := HN0.out (fun j hj => HI.out j hj (by have := HN.out; omega))
      have HV : Hid (Ending.returned (.agg #[.int .u8 0, .int .i64 0]) = .returned (.agg #[.int .u8 R.kind, .int .i64 R.at'])) := by show _ = _; rw [hz]; rfl
      obtain ⟨_, r0, hBW⟩ := HR.out _ hB
      have hlt3 := RowAt.lt r0
      obtain ⟨y0, y1, yf⟩ := cells2 r0
      clear HI hz
      go_wp2_with fail
      (try simp only [Exit.inBlock, Exit.then])
      refine bodyPost_ret (v := .agg #[.int .u8 0, .int .i64 0]) ?_ rfl ⟨HV.out, ?_⟩
      · rw [results_cell rfl]
        go_simp
      · repeat' (first | with_reducible exact hBW | with_reducible apply below_new | with_reducible refine bset ?_ (by omega))
set_option maxHeartbeats 8000000 in
set_option maxRecDepth 20000 in
theorem rat_any (wi : Iv) (l : List Er) (t : Int) (v : Value) (w : World) (hl : HasE w v l) :
    Calls Try.prog 16 #[.agg #[.int .i64 wi.1, .int .i64 wi.2], v, .int .i64 t] w fun e w' => ∃ k i why, e = .returned (.tuple #[.agg #[.int .u8 k, .int .i64 i], .int .i64 why]) ∧ Below w.heap.size w w' ∧ ((⟨k, i⟩ : Vd), why) = atL wi l t := by
  have c1 := fun (W : World) (h : HasE W v l) => rcheck_any wi l v W h
  have HC1 : Hid (okL wi l = false → atL wi l t = (zV, 2)) := fun h => atL_bad h
  have HC2 : Hid (okL wi l = true → ¬ (wi.1 ≤ t ∧ t ≤ wi.2) → atL wi l t = (zV, 1)) := fun h h2 => atL_out h h2
  have HC3 : Hid (okL wi l = true → (wi.1 ≤ t ∧ t ≤ wi.2) → atL wi l t = (holdL l t, 0)) := fun h h2 => atL_in h h2
  generalize atL wi l t = R at *
  generalize okL wi l = K at *
  obtain ⟨wa, wb⟩ := wi
  simp only at c1 HC2 HC3 ⊢
  obtain ⟨X, hX⟩ : ∃ X, X = (w.alloc (.cells #[.int .i64 wa, .int .i64 wb] 23)).alloc (.cells #[.int .u8 0, .int .i64 0] 35) := ⟨_, rfl⟩
  have hB0 : Below w.heap.size w X := by rw [hX]; exact below_new (below_new (Below.refl _ _) _) _
  have r0 : RowAt X w.heap.size [.int .i64 wa, .int .i64 wb] 23 := by rw [hX]; exact (RowAt.new _ _ _).alloc _
  have r2 : RowAt X (w.heap.size + 1) [.int .u8 0, .int .i64 0] 35 := by
    rw [hX, ← World.size_alloc w (.cells #[.int .i64 wa, .int .i64 wb] 23)]; exact RowAt.new _ _ _
  obtain ⟨g0, hg0⟩ : ∃ g, g = w.heap.size := ⟨_, rfl⟩
  obtain ⟨g2, hg2⟩ : ∃ g, g = w.heap.size + 1 := ⟨_, rfl⟩
  have hge : w.heap.size ≤ g2 := by omega
  rw [← hg2] at r2
  rw [← hg0] at r0
  have cc := c1 X (hl.keep hB0)
  have hlX := hl.keep hB0
  have HL : Hid (∀ W, Below X.heap.size X W → HasE W v l ∧ RowAt W g0 [.int .i64 wa, .int .i64 wb] 23 ∧ RowAt W g2 [.int .u8 0, .int .i64 0] 35 ∧ Below w.heap.size w W) := fun W hq => ⟨hlX.keep hq, r0.below hq, r2.below hq, below2 hB0 hq⟩
  obtain ⟨q0, q1, _⟩ := cells2 r0
  clear c1 hl hlX r0 r2
  go_enter Try.func16, Try.ntmps16
  go_upto_region 1 with fail
  rw [← hX, ← hg2, ← hg0]
  clear hX hg0 hg2
  go_wp2_with fail
  go_at_call 14; refine cc.mono ?_; rintro e w3 ⟨rfl, hb3⟩
  clear cc q0 q1
  obtain ⟨hl3, r0, r2, hB3⟩ := HL.out _ hb3
  obtain ⟨q0, q1, _⟩ := cells2 r0
  have hlt3 := RowAt.lt r2
  obtain ⟨y0, y1, yf⟩ := cells2 r2
  cases K
  · have HV : Hid (((⟨0, 0⟩ : Vd), (2 : Int)) = R) := (HC1.out (by simp)).symm
    have hck : chk false = 2 := rfl
    rw [hck]
    clear HC1 HC2 HC3 HL q0 q1
    go_wp2_with fail
    (try simp only [Exit.inBlock, Exit.then])
    refine bodyPost_ret (v := .tuple #[.agg #[.int .u8 0, .int .i64 0], .int .i64 2]) ?_ rfl ⟨_, _, _, rfl, ?_, HV.out⟩
    · rw [results_cell_tmp rfl]
      go_simp
    · repeat' (first | with_reducible exact hB3 | with_reducible apply below_new | with_reducible refine bset ?_ (by omega))
  · have hck : chk true = 0 := rfl
    rw [hck]
    by_cases h1 : t < wa
    · have HV : Hid (((⟨0, 0⟩ : Vd), (1 : Int)) = R) := (HC2.out (by simp) (by omega)).symm
      clear HC1 HC2 HC3 HL
      go_wp2_with fail
      (try simp only [Exit.inBlock, Exit.then])
      refine bodyPost_ret (v := .tuple #[.agg #[.int .u8 0, .int .i64 0], .int .i64 1]) ?_ rfl ⟨_, _, _, rfl, ?_, HV.out⟩
      · rw [results_cell_tmp rfl]
        go_simp
      · repeat' (first | with_reducible exact hB3 | with_reducible apply below_new | with_reducible refine bset ?_ (by omega))
    · by_cases h2 : wb < t
      · have HV : Hid (((⟨0, 0⟩ : Vd), (1 : Int)) = R) := (HC2.out (by simp) (by omega)).symm
        clear HC1 HC2 HC3 HL
        go_wp2_with fail
        (try simp only [Exit.inBlock, Exit.then])
        refine bodyPost_ret (v := .tuple #[.agg #[.int .u8 0, .int .i64 0], .int .i64 1]) ?_ rfl ⟨_, _, _, rfl, ?_, HV.out⟩
        · rw [results_cell_tmp rfl]
          go_simp
        · repeat' (first | with_reducible exact hB3 | with_reducible apply below_new | with_reducible refine bset ?_ (by omega))
      · have HV : Hid ((⟨(holdL l t).kind, (holdL l t).at'⟩, (0 : Int)) = R) := (HC3.out (by simp) (by omega)).symm
        have ch := hold_any l t v w3 hl3
        generalize (holdL l t).kind = vk at ch HV
        generalize (holdL l t).at' = vi at ch HV
        clear HC1 HC2 HC3
        go_wp2_with fail
        go_at_call 42; refine ch.mono ?_; rintro e w4 ⟨rfl, hb4⟩
        obtain ⟨_, _, r2, hB4⟩ := HL.out _ (below2 hb3 hb4)
        clear ch q0 q1 y0 y1 yf hlt3 HL
        have hlt3 := RowAt.lt r2
        obtain ⟨y0, y1, yf⟩ := cells2 r2
        go_wp2_with fail
        (try simp only [Exit.inBlock, Exit.then])
        refine bodyPost_ret (v := .tuple #[.agg #[.int .u8 vk, .int .i64 vi], .int .i64 0]) ?_ rfl ⟨_, _, _, rfl, ?_, HV.out⟩
        · rw [results_cell_tmp rfl]
          go_simp
        · repeat' (first | with_reducible exact hB4 | with_reducible apply below_new | with_reducible refine bset ?_ (by omega))
end Go.Proofs.Ytmkbijnndbgjgaa.Ln
namespace Go.Proofs.Ytmkbijnndbgjgaa.Ln
open Go.RowKit
open Go.Proofs.Ytmkbijnndbgjgaa.Lk (HasRow addr_add)
open Go.Proofs.Ytmkbijnndbgjgaa.Addr (RowAt below2 below_drew below_new bset)
theorem below_drewN {B : Nat} {w0 w : World} (h : Below B w0 w) (n : Nat) : Below B w0 (w.drewN n) := h.trans ⟨rfl, rfl, rfl, Nat.le_refl _, fun _ _ => rfl⟩
set_option maxHeartbeats 2000000 in
set_option maxRecDepth 20000 in
theorem same_any (l : List Er) (v u : Value) (w : World) (h1 : HasE w v l) (h2 : HasE w u l) :
    Calls Try.prog 12 #[v, u] w fun e w' => e = .returned (.bool true) ∧ Below w.heap.size w w' := by
  obtain ⟨o1, c1, rfl, hq1, hq2⟩ := HasRow.slice h1
  obtain ⟨o2, c2, rfl, _, _⟩ := HasRow.slice h2
  have HR : Hid (∀ wr : World, Below w.heap.size w wr → HasE wr (.slice o1 l.length c1) l ∧ HasE wr (.slice o2 l.length c2) l) := fun wr hb => ⟨h1.keep hb, h2.keep hb⟩
  obtain ⟨n, hn⟩ : ∃ n, n = l.length := ⟨_, rfl⟩
  have HN : Hid (n = l.length) := hn
  rw [← hn] at HR hq1 ⊢
  have hni : (n : Int) ≤ 9223372036854775807 := by omega
  have hneq0 := er_neq
  have hgd := er_guard
  have hnn : ((n : Int) != (n : Int)) = false := by simp
  clear h1 h2 hn hq1 hq2
  go_enter Try.func12, Try.ntmps12
  go_wp2_with fail
  go_loopw [13] (fun i wr => ∃ k : Nat, k ≤ n ∧ i = .int .i64 k ∧ Below w.heap.size w wr) (fun i _ => n - (Go.RowKit.intOf i).toNat)
  case atStart => exact ⟨0, by omega, rfl, Below.refl _ _⟩
  case round =>
    obtain ⟨k, hk, rfl, hB⟩ := hrel
    obtain ⟨ha, hb⟩ := HR.out _ hB
    by_cases hlt : k < n
    · have hkz : k < l.length := by rw [← HN.out]; exact hlt
      obtain ⟨g1, i1, rfl, _, a1, a2, a3, a4⟩ := HasE.cell ha k hkz
      obtain ⟨g2, i2, rfl, _, b1, b2, b3, b4⟩ := HasE.cell hb k hkz
      have hneq := hneq0 l[k].a l[k].b l[k].v.kind l[k].v.at'
      generalize l[k].a = pa at a1 b1 hneq
      generalize l[k].b = pb at a2 b2 hneq
      generalize l[k].v.kind = pc at a3 b3 hneq
      generalize l[k].v.at' = pd at a4 b4 hneq
      have hki : (k : Int) < (n : Int) := by omega
      clear ha hb hneq0
      go_wp2_with fail
      go_quiet (fail)
      go_wp2_with fail
      go_roundw
      case rel => exact ⟨k + 1, by omega, by go_num, by first | exact hB | exact below_drew hB | exact below_drewN hB _⟩
      case measure => simp [Go.RowKit.intOf]; omega
    · have hkn : decide ((k : Int) < (n : Int)) = false := decide_eq_false (by omega)
      clear ha hb
      go_wp2_with fail
      go_ret
      exact ⟨rfl, hB⟩
end Go.Proofs.Ytmkbijnndbgjgaa.Ln
namespace Go.Proofs.Ytmkbijnndbgjgaa.Ln
open Go.RowKit
open Go.Proofs.Ytmkbijnndbgjgaa.Iv (Iv okI okI_iff toS ofS okS_to map_of_to)
open Go.Proofs.Ytmkbijnndbgjgaa.Sp (Sp Row inB inB_iff okS)
def ivE (x : Er) : Iv := (x.a, x.b)
def whenL (l : List Er) (v : Vd) : List Iv := (l.filter (fun x => eqV x.v v)).map ivE
def whenE (w : Iv) (l : List Er) (v : Vd) : List Iv × Int := if okL w l = true then (whenL l v, 0) else ([], 2)
theorem whenL_snoc (l : List Er) (x : Er) (v : Vd) : whenL (l ++ [x]) v = if eqV x.v v = true then whenL l v ++ [ivE x] else whenL l v := by
  unfold whenL
  rw [List.filter_append, List.map_append]
  cases h : eqV x.v v <;> simp [h]
theorem whenL_len (l : List Er) (v : Vd) : (whenL l v).length ≤ l.length := by
  unfold whenL
  rw [List.length_map]
  exact List.length_filter_le _ _
theorem when_go {b : Int} {v : Vd} : ∀ (l : List Er) (p : Option Vd) (n m : Int), goE b p n l = some m → (∀ x ∈ l.filter (fun x => eqV x.v v), n ≤ x.a ∧ (p = some v → n < x.a) ∧ x.a ≤ x.b ∧ x.b ≤ b) ∧ (l.filter (fun x => eqV x.v v)).Pairwise (fun x y => x.b + 1 < y.a) := by
  intro l
  induction l with
  | nil => intro p n m h; simp
  | cons x l ih =>
    intro p n m h
    simp only [goE] at h
    split at h
    · rename_i hs
      obtain ⟨h1, h2⟩ := ih _ _ _ h
      simp only [stepB, Bool.and_eq_true, decide_eq_true_eq] at hs
      cases hx : eqV x.v v with
      | false =>
        rw [List.filter_cons_of_neg (by rw [hx]; exact Bool.false_ne_true)]
        refine ⟨fun y hy => ?_, h2⟩
        obtain ⟨a1, a2, a3, a4⟩ := h1 y hy
        exact ⟨by omega, fun _ => by omega, a3, a4⟩
      | true =>
        rw [List.filter_cons_of_pos (p := fun x : Er => eqV x.v v) hx]
        have hxv := eqV_iff.1 hx
        refine ⟨fun y hy => ?_, List.pairwise_cons.2 ⟨fun y hy => ?_, h2⟩⟩
        · rcases List.mem_cons.1 hy with rfl | hy
          · refine ⟨by omega, fun hp => ?_, hs.2.1, hs.2.2.1⟩
            exfalso
            rw [hp] at hs
            have h9 := hs.2.2.2
            simp only [notP, Bool.not_eq_true'] at h9
            rw [hxv] at h9
            have : eqV v v = true := eqV_iff.2 rfl
            rw [this] at h9
            cases h9
          · obtain ⟨a1, a2, a3, a4⟩ := h1 y hy
            exact ⟨by omega, fun _ => by omega, a3, a4⟩
        · exact (h1 y hy).2.1 (by rw [hxv])
    · cases h
theorem when_okI {w : Iv} {l : List Er} {v : Vd} (h : okL w l = true) : (whenL l v).all okI = true := by
  obtain ⟨hw, _, _, hg⟩ := okL_go h
  have h1 := (when_go (v := v) l none w.1 _ hg).1
  have h2 := okI_iff.1 hw
  refine List.all_eq_true.2 fun y hy => ?_
  unfold whenL at hy
  obtain ⟨x, hx, rfl⟩ := List.mem_map.1 hy
  obtain ⟨a1, _, a3, a4⟩ := h1 x hx
  exact okI_iff.2 ⟨by show 0 ≤ x.a; omega, by show x.a ≤ x.b; omega, by show x.b ≤ _; omega⟩
theorem when_row {w : Iv} {l : List Er} {v : Vd} (h : okL w l = true) : Row true ((whenL l v).map toS) := by
  obtain ⟨hw, _, _, hg⟩ := okL_go h
  have h1 := (when_go (v := v) l none w.1 _ hg)
  have h2 := okI_iff.1 hw
  have h3 := when_okI (v := v) h
  refine ⟨fun s hs => ?_, ?_⟩
  · obtain ⟨x, hx, rfl⟩ := List.mem_map.1 hs
    exact okS_to (List.all_eq_true.1 h3 x hx)
  · unfold whenL
    rw [List.map_map, List.pairwise_map]
    refine List.Pairwise.imp_of_mem ?_ h1.2
    intro x y hx hy hxy
    obtain ⟨a1, _, a3, a4⟩ := h1.1 x hx
    obtain ⟨b1, _, b3, b4⟩ := h1.1 y hy
    show x.b.toNat + 1 < y.a.toNat
    omega
end Go.Proofs.Ytmkbijnndbgjgaa.Ln
namespace Go.Proofs.Ytmkbijnndbgjgaa.Ln
open Go.RowKit Go.Shelf
open Go.Proofs.Ytmkbijnndbgjgaa.Iv (Iv FitT FitI okI okI_iff OwnI HasI PostI MkI makeI_any toS ofS map_of_to)
open Go.Proofs.Ytmkbijnndbgjgaa.Lk (HasRow hasRow_own addr_add)
open Go.Proofs.Ytmkbijnndbgjgaa.Sp (chk row_ext)
open Go.Proofs.Ytmkbijnndbgjgaa.Addr (RowAt below2 below_drew below_new bset RowAt.lt RowAt.cell RowAt.frozen RowAt.below RowAt.drew RowAt.new RowAt.alloc cells2 cells4 results_cell)
attribute [-go_sem] Builtin.append_
set_option maxHeartbeats 8000000 in
set_option maxRecDepth 20000 in
theorem whenF_any (l : List Er) (v0 : Vd) (v : Value) (w : World) (hl : HasL w v l) (hlen : l.length ≤ 1024) :
    Calls Try.prog 44 #[v, .agg #[.int .u8 v0.kind, .int .i64 v0.at']] w fun e w' => ∃ u, e = .returned u ∧ OwnI w w' u (whenL l v0) := by
  obtain ⟨o, c, rfl, hc1, hc2⟩ := HasRow.slice hl
  obtain ⟨vk, hvk⟩ : ∃ k, k = v0.kind := ⟨_, rfl⟩
  obtain ⟨vi, hvi⟩ : ∃ k, k = v0.at' := ⟨_, rfl⟩
  have hv0 : v0 = ⟨vk, vi⟩ := by rw [hvk, hvi]
  rw [← hvk, ← hvi]
  clear hvk hvi
  obtain ⟨n, hn⟩ : ∃ n, n = l.length := ⟨_, rfl⟩
  have HN : Hid (n = l.length) := hn
  obtain ⟨X, hX⟩ : ∃ X, X = w.alloc (.cells #[.int .u8 vk, .int .i64 vi] 35) := ⟨_, rfl⟩
  have hB0 : Below w.heap.size w X := by rw [hX]; exact below_new (Below.refl _ _) _
  have r0 : RowAt X w.heap.size [.int .u8 vk, .int .i64 vi] 35 := by rw [hX]; exact RowAt.new _ _ _
  obtain ⟨g0, hg0⟩ : ∃ g, g = w.heap.size := ⟨_, rfl⟩
  rw [← hg0] at r0
  rw [← hn] at hc1 hl hlen ⊢
  have hlX := hl.keep hB0
  have HR : Hid (∀ wr : World, Below X.heap.size X wr → HasL wr (.slice o n c) l ∧ RowAt wr g0 [.int .u8 vk, .int .i64 vi] 35) := fun wr hb => ⟨hlX.keep hb, r0.below hb⟩
  have hni : (n : Int) ≤ 1024 := by omega
  have H0 : Hid (OwnI X X (.slice none 0 0) (whenL (l.take 0) v0)) := OwnI.nil X
  clear hl hlX r0 hn
  go_enter Try.func44, Try.ntmps44
  go_upto_region 1 with fail
  rw [← hX, ← hg0]
  clear hX hg0
  go_wp2_with fail
  go_loopw [5, 10] (fun u q wr => ∃ k : Nat, k ≤ n ∧ q = .int .i64 k ∧ Hid (OwnI X wr u (whenL (l.take k) v0))) (fun _ q _ => n - (Go.RowKit.intOf q).toNat)
  case atStart => exact ⟨0, by omega, rfl, H0⟩
  case round =>
    clear H0
    obtain ⟨k, hk, rfl, HI⟩ := hrel
    have hI := HI.out
    obtain ⟨hh, r1⟩ := HR.out _ hI.bl
    by_cases hlt : k < n
    · have hkz : k < l.length := by rw [← HN.out]; exact hlt
      obtain ⟨g1, i1, rfl, hg1, a0, a1, a2, a3⟩ := HasL.cell hh k hkz
      have hA0 := whenL_snoc (l.take k) l[k] v0
      rw [← List.take_succ_eq_append_getElem hkz] at hA0
      have hki : (k : Int) < (n : Int) := by omega
      have htk : (whenL (l.take k) v0).length ≤ 1000 * 999 := by have h1 := whenL_len (l.take k) v0; rw [List.length_take] at h1; omega
      obtain ⟨s, hs⟩ : ∃ s : Er, s = l[k] := ⟨_, rfl⟩
      rw [← hs] at hA0 a0 a1 a2 a3
      have HA : Hid (∀ e, eqV s.v v0 = e → whenL (l.take (k + 1)) v0 = if e = true then whenL (l.take k) v0 ++ [(s.a, s.b)] else whenL (l.take k) v0) := fun e h => by rw [← h]; exact hA0
      have HTK : Hid ((whenL (l.take k) v0).length + 1 ≤ 1000000) := by show _ ≤ _; omega
      generalize whenL (l.take k) v0 = D at *
      clear hs HI hg1 hh hA0 htk
      go_upto_region 5 with fail
      obtain ⟨Y, hY⟩ : ∃ X, X = wr.alloc (.cells #[.int .i64 s.a, .int .i64 s.b, .int .u8 s.v.kind, .int .i64 s.v.at'] 106) := ⟨_, rfl⟩
      have hbY : Below wr.heap.size wr Y := by rw [hY]; exact below_new (Below.refl _ _) _
      have rx : RowAt Y wr.heap.size [.int .i64 s.a, .int .i64 s.b, .int .u8 s.v.kind, .int .i64 s.v.at'] 106 := by rw [hY]; exact RowAt.new _ _ _
      rw [← hY]
      replace hI := hI.below hbY
      replace r1 := r1.below hbY
      obtain ⟨gs, hgs⟩ : ∃ g, g = wr.heap.size := ⟨_, rfl⟩
      rw [← hgs] at rx ⊢
      clear hY hbY a0 a1 a2 a3 hgs
      obtain ⟨x0, x1, x2, x3, xf⟩ := cells4 rx
      obtain ⟨z0, z1, zf⟩ := cells2 r1
      have heq := fun W => vd_eql s.v v0 W
      have hvg := vd_guard
      obtain ⟨v', w6, hrun, hO2, _⟩ := Iv.appI (hI.below (below_new (Below.refl _ Y) (.cells #[.int .i64 s.a, .int .i64 s.b] 23))) (Iv.litI Y (s.a, s.b) 23) (by have := HTK.out; simp; omega)
      have HO2 : Hid (OwnI X w6 v' (D ++ [(s.a, s.b)])) := hO2
      have HI2 : Hid (OwnI X Y u5 D) := hI
      subst hv0
      simp only at heq z0 z1
      generalize eqV s.v ⟨vk, vi⟩ = E at *
      clear hI hO2 HTK rx r1
      cases E
      · have HV : Hid (OwnI X Y u5 (whenL (l.take (k + 1)) ⟨vk, vi⟩)) := by show OwnI _ _ _ _; rw [HA.out false rfl]; exact HI2.out
        clear HA HI2 HO2 hrun
        go_wp2_with fail
        go_roundw
        case rel => exact ⟨k + 1, by omega, by go_num, HV⟩
        case measure => simp [Go.RowKit.intOf]; omega
      · have HV : Hid (OwnI X w6 v' (whenL (l.take (k + 1)) ⟨vk, vi⟩)) := by show OwnI _ _ _ _; rw [HA.out true rfl]; exact HO2.out
        clear HA HI2 HO2
        go_wp2_with fail
        go_roundw
        case rel => exact ⟨k + 1, by omega, by go_num, HV⟩
        case measure => simp [Go.RowKit.intOf]; omega
    · have hkn : decide ((k : Int) < (n : Int)) = false := decide_eq_false (by omega)
      have hte : l.take k = l := by have := HN.out; exact List.take_of_length_le (by omega)
      have HI2 : Hid (OwnI X wr u5 (whenL l v0)) := by rw [hte] at HI; exact HI.out
      clear HI hI hte hh
      go_wp2_with fail
      go_ret
      exact ⟨_, rfl, HI2.out.to hB0⟩
set_option maxHeartbeats 8000000 in
set_option maxRecDepth 20000 in
theorem when_any (wi : Iv) (l : List Er) (v0 : Vd) (v : Value) (w : World) (hl : HasE w v l) :
    Calls Try.prog 17 #[.agg #[.int .i64 wi.1, .int .i64 wi.2], v, .agg #[.int .u8 v0.kind, .int .i64 v0.at']] w fun e w' => ∃ u R why, e = .returned (.tuple #[u, .int .i64 why]) ∧ HasI w' u R ∧ Below w.heap.size w w' ∧ (R, why) = whenE wi l v0 := by
  have c1 := fun (W : World) (h : HasE W v l) => check_any wi l v W h
  have hk := fun (h : okL wi l = true) => okL_go h
  have HC1 : Hid (okL wi l = false → whenE wi l v0 = ([], 2)) := fun h => by unfold whenE; rw [h]; rfl
  have HC2 : Hid (okL wi l = true → l.length ≤ 1024 ∧ ∀ (W : World) (e : Ending) (W' : World), PostI W (MkI (whenL l v0)) e W' → ∃ u, e = .returned (.tuple #[u, .int .i64 0]) ∧ HasI W' u (whenL l v0) ∧ Below W.heap.size W W') := fun h => by
    have hle := (hk h).2.1
    refine ⟨hle, fun W e W' ⟨u, R, why, he, hH, hb, hM⟩ => ?_⟩
    have hall := when_okI (v := v0) h
    have hrow := when_row (v := v0) h
    have hwl := whenL_len l v0
    rcases hM with ⟨h3, _⟩ | ⟨_, h3, _⟩ | ⟨_, _, h3, h4, _, _, h5⟩
    · omega
    · rw [hall] at h3; cases h3
    · have : R = (whenL l v0).map toS := row_ext h4 hrow h5
      subst this h3
      rw [map_of_to hall] at hH
      exact ⟨u, he, hH, hb⟩
  have HC3 : Hid (okL wi l = true → whenE wi l v0 = (whenL l v0, 0)) := fun h => by unfold whenE; rw [if_pos h]
  generalize whenE wi l v0 = R at *
  generalize okL wi l = K at *
  clear hk
  obtain ⟨wa, wb⟩ := wi
  obtain ⟨vk, vi⟩ := v0
  simp only at c1 ⊢
  obtain ⟨X, hX⟩ : ∃ X, X = (w.alloc (.cells #[.int .i64 wa, .int .i64 wb] 23)).alloc (.cells #[.int .u8 vk, .int .i64 vi] 35) := ⟨_, rfl⟩
  have hB0 : Below w.heap.size w X := by rw [hX]; exact below_new (below_new (Below.refl _ _) _) _
  have r0 : RowAt X w.heap.size [.int .i64 wa, .int .i64 wb] 23 := by rw [hX]; exact (RowAt.new _ _ _).alloc _
  have r1 : RowAt X (w.heap.size + 1) [.int .u8 vk, .int .i64 vi] 35 := by
    rw [hX, ← World.size_alloc w (.cells #[.int .i64 wa, .int .i64 wb] 23)]; exact RowAt.new _ _ _
  obtain ⟨g0, hg0⟩ : ∃ g, g = w.heap.size := ⟨_, rfl⟩
  obtain ⟨g1, hg1⟩ : ∃ g, g = w.heap.size + 1 := ⟨_, rfl⟩
  rw [← hg1] at r1
  rw [← hg0] at r0
  have cc := c1 X (hl.keep hB0)
  have hlX := hl.keep hB0
  have HL : Hid (∀ W, Below X.heap.size X W → HasE W v l ∧ Below w.heap.size w W) := fun W hq => ⟨hlX.keep hq, below2 hB0 hq⟩
  have HSK : Hid (∀ W : World, Below X.heap.size X W → W.cell? ⟨g1, 0, none⟩ = some (.int .u8 vk) ∧ W.cell? ⟨g1, 1, none⟩ = some (.int .i64 vi)) := fun W hq => by
    obtain ⟨z0, z1, _⟩ := cells2 (r1.below hq)
    exact ⟨z0, z1⟩
  obtain ⟨q0, q1, _⟩ := cells2 r0
  clear c1 hl hlX r0 r1
  obtain ⟨o, c, rfl, hc1, hc2⟩ := HasRow.slice (HL.out X (Below.refl _ _)).1
  go_enter Try.func17, Try.ntmps17
  go_upto_region 1 with fail
  rw [← hX, ← hg1, ← hg0]
  clear hX hg0 hg1
  go_wp2_with fail
  go_at_call 13; refine cc.mono ?_; rintro e w3 ⟨rfl, hb3⟩
  clear cc q0 q1
  cases K
  · have HV : Hid ((([] : List Iv), (2 : Int)) = R) := (HC1.out (by simp)).symm
    have hck : chk false = 2 := rfl
    rw [hck]
    have hB3 := (HL.out _ hb3).2
    clear HC1 HC2 HC3 HL HSK
    go_wp2_with fail
    go_ret2
    exact ⟨_, [], _, rfl, Lk.hasRow_nil _ 2, hB3, HV.out⟩
  · have hck : chk true = 0 := rfl
    rw [hck]
    obtain ⟨hle, hmk⟩ := HC2.out (by simp)
    have HMK : Hid (∀ (W : World) (e : Ending) (W' : World), PostI W (MkI (whenL l ⟨vk, vi⟩)) e W' → ∃ u, e = .returned (.tuple #[u, .int .i64 0]) ∧ HasI W' u (whenL l ⟨vk, vi⟩) ∧ Below W.heap.size W W') := hmk
    have HV : Hid ((whenL l ⟨vk, vi⟩, (0 : Int)) = R) := (HC3.out (by simp)).symm
    have c3 := fun (W : World) (h : HasE W (.slice o l.length c) l) => verdicts_any l _ W h (by omega)
    have c4 := fun (u : Value) (W : World) (h : HasL W u l) => whenF_any l ⟨vk, vi⟩ u W h hle
    have c5 := fun (u : Value) (W : World) (h : HasI W u (whenL l ⟨vk, vi⟩)) => makeI_any (whenL l ⟨vk, vi⟩) u W h
    have HL5 : Hid (∀ W, Below w3.heap.size w3 W → HasE W (.slice o l.length c) l) := fun W hq => (HL.out W (below2 hb3 hq)).1
    have HSK5 : Hid (∀ W : World, Below w3.heap.size w3 W → W.cell? ⟨g1, 0, none⟩ = some (.int .u8 vk) ∧ W.cell? ⟨g1, 1, none⟩ = some (.int .i64 vi)) := fun W hq => HSK.out W (below2 hb3 hq)
    have hB3 := (HL.out _ hb3).2
    have hbA : Below w3.heap.size w3 w3 := Below.refl _ _
    clear HC1 HC2 HC3 HL HSK hmk hle
    generalize l.length = n at *
    go_upto_region 4 with fail
    go_region_held (fun w' => w'.cell? ⟨g1, 0, none⟩ = some (.int .u8 vk) ∧ w'.cell? ⟨g1, 1, none⟩ = some (.int .i64 vi)) ((refine HSK5.out _ ?_; repeat' (first | with_reducible exact hbA | with_reducible apply below_drew | with_reducible apply below_new))) (first
      | (go_at_call 38
         with_reducible refine (c3 _ (HL5.out _ ?_)).mono ?_
         · repeat' (first | with_reducible exact hbA | with_reducible apply below_drew)
         rintro e w5 ⟨u5, rfl, hO⟩
         have hr5 := hO.has
         have hbN : Below w3.heap.size w3 w5 := below2 (by repeat' (first | with_reducible exact hbA | with_reducible apply below_drew)) hO.bl
         clear hbA hO
         have hbA := hbN
         clear hbN)
      | (go_at_call 44
         with_reducible refine (c4 _ _ (hr5.keep ?_)).mono ?_
         · repeat' (first | with_reducible exact Below.refl _ _ | with_reducible apply below_drew)
         rintro e w6 ⟨u6, rfl, hO⟩
         have hr6 := hO.has
         have hbN : Below w3.heap.size w3 w6 := below2 (by repeat' (first | with_reducible exact hbA | with_reducible apply below_drew)) hO.bl
         clear hbA hO
         have hbA := hbN
         clear hbN)
      | (go_at_call 43
         with_reducible refine (c5 _ _ (hr6.keep ?_)).mono ?_
         · repeat' (first | with_reducible exact Below.refl _ _ | with_reducible apply below_drew)
         intro e w7 hp7
         obtain ⟨u7, rfl, hr7, hb7⟩ := HMK.out _ _ _ hp7
         have hbN : Below w3.heap.size w3 w7 := below2 (by repeat' (first | with_reducible exact hbA | with_reducible apply below_drew)) hb7
         have HR7 : Hid (HasI w7 u7 (whenL l ⟨vk, vi⟩)) := hr7
         clear hbA hb7 hr7 hp7
         have hbA := hbN
         clear hbN))
    all_goals go_wp2_with fail
    all_goals go_ret2
    all_goals exact ⟨_, whenL l ⟨vk, vi⟩, _, rfl, HR7.out.keep (by repeat' (first | with_reducible exact Below.refl _ _ | with_reducible apply below_drew)), below2 hB3 (by repeat' (first | with_reducible exact hbA | with_reducible apply below_drew)), HV.out⟩
set_option maxHeartbeats 8000000 in
set_option maxRecDepth 20000 in
theorem rwhen_any (wi : Iv) (l : List Er) (v0 : Vd) (v : Value) (w : World) (hl : HasE w v l) :
    Calls Try.prog 18 #[.agg #[.int .i64 wi.1, .int .i64 wi.2], v, .agg #[.int .u8 v0.kind, .int .i64 v0.at']] w fun e w' => ∃ u R why, e = .returned (.tuple #[u, .int .i64 why]) ∧ HasI w' u R ∧ Below w.heap.size w w' ∧ (R, why) = whenE wi l v0 := by
  have c1 := fun (W : World) (h : HasE W v l) => rcheck_any wi l v W h
  have HC1 : Hid (okL wi l = false → whenE wi l v0 = ([], 2)) := fun h => by unfold whenE; rw [h]; rfl
  have HC2 : Hid (okL wi l = true → l.length ≤ 1024) := fun h => (okL_go h).2.1
  have HC3 : Hid (okL wi l = true → whenE wi l v0 = (whenL l v0, 0)) := fun h => by unfold whenE; rw [if_pos h]
  generalize whenE wi l v0 = R at *
  generalize okL wi l = K at *
  obtain ⟨wa, wb⟩ := wi
  obtain ⟨vk, hvk⟩ : ∃ k, k = v0.kind := ⟨_, rfl⟩
  obtain ⟨vi, hvi⟩ : ∃ k, k = v0.at' := ⟨_, rfl⟩
  have hv0 : v0 = ⟨vk, vi⟩ := by rw [hvk, hvi]
  rw [← hvk, ← hvi]
  clear hvk hvi
  simp only at c1 ⊢
  obtain ⟨Z, hZ⟩ : ∃ X, X = (w.alloc (.cells #[.int .i64 wa, .int .i64 wb] 23)).alloc (.cells #[.int .u8 vk, .int .i64 vi] 35) := ⟨_, rfl⟩
  have hB0 : Below w.heap.size w Z := by rw [hZ]; exact below_new (below_new (Below.refl _ _) _) _
  have r0 : RowAt Z w.heap.size [.int .i64 wa, .int .i64 wb] 23 := by rw [hZ]; exact (RowAt.new _ _ _).alloc _
  have r1 : RowAt Z (w.heap.size + 1) [.int .u8 vk, .int .i64 vi] 35 := by
    rw [hZ, ← World.size_alloc w (.cells #[.int .i64 wa, .int .i64 wb] 23)]; exact RowAt.new _ _ _
  obtain ⟨g0, hg0⟩ : ∃ g, g = w.heap.size := ⟨_, rfl⟩
  obtain ⟨g1, hg1⟩ : ∃ g, g = w.heap.size + 1 := ⟨_, rfl⟩
  rw [← hg1] at r1
  rw [← hg0] at r0
  have hlX := hl.keep hB0
  have cc := c1 Z hlX
  obtain ⟨q0, q1, _⟩ := cells2 r0
  clear c1 hl r0
  obtain ⟨o, c, rfl, hc1, hc2⟩ := HasRow.slice hlX
  obtain ⟨n, hn⟩ : ∃ n, n = l.length := ⟨_, rfl⟩
  have HN : Hid (n = l.length) := hn
  rw [← hn] at hc1 hlX HC2 cc ⊢
  clear hn
  go_enter Try.func18, Try.ntmps18
  go_upto_region 1 with fail
  rw [← hZ, ← hg1, ← hg0]
  clear hZ hg0 hg1
  go_wp2_with fail
  go_at_call 14; refine cc.mono ?_; rintro e X ⟨rfl, hb3⟩
  clear cc q0 q1
  cases K
  · have HV : Hid ((([] : List Iv), (2 : Int)) = R) := (HC1.out (by simp)).symm
    have hck : chk false = 2 := rfl
    rw [hck]
    have hB3 := below2 hB0 hb3
    clear HC1 HC2 HC3 hv0
    go_wp2_with fail
    go_ret2
    exact ⟨_, [], _, rfl, Lk.hasRow_nil _ 2, hB3, HV.out⟩
  · have hck : chk true = 0 := rfl
    rw [hck]
    have hlen := HC2.out (by simp)
    have HV : Hid ((whenL l v0, (0 : Int)) = R) := (HC3.out (by simp)).symm
    have hB3 := below2 hB0 hb3
    have HR : Hid (∀ wr : World, Below X.heap.size X wr → HasE wr (.slice o n c) l ∧ RowAt wr g1 [.int .u8 vk, .int .i64 vi] 35) := fun wr hb => ⟨hlX.keep (below2 hb3 hb), r1.below (below2 hb3 hb)⟩
    have hni : (n : Int) ≤ 1024 := by omega
    have H0 : Hid (OwnI X X (.slice none 0 0) (whenL (l.take 0) v0)) := OwnI.nil X
    have HV0 : Hid (v0 = ⟨vk, vi⟩) := hv0
    clear HC1 HC2 HC3 hlX r1 hb3 hv0
    go_wp2_with fail
    have hv0 := HV0.out
    go_loopw [8, 17] (fun u q wr => ∃ k : Nat, k ≤ n ∧ q = .int .i64 k ∧ Hid (OwnI X wr u (whenL (l.take k) v0))) (fun _ q _ => n - (Go.RowKit.intOf q).toNat)
    case atStart => exact ⟨0, by omega, rfl, H0⟩
    case round =>
      clear H0
      obtain ⟨k, hk, rfl, HI⟩ := hrel
      have hI := HI.out
      obtain ⟨hh, r1⟩ := HR.out _ hI.bl
      by_cases hlt : k < n
      · have hkz : k < l.length := by rw [← HN.out]; exact hlt
        obtain ⟨g1, i1, rfl, hg1, a0, a1, a2, a3⟩ := HasE.cell hh k hkz
        have hA0 := whenL_snoc (l.take k) l[k] v0
        rw [← List.take_succ_eq_append_getElem hkz] at hA0
        have hki : (k : Int) < (n : Int) := by omega
        have htk : (whenL (l.take k) v0).length ≤ 1000 * 999 := by have h1 := whenL_len (l.take k) v0; rw [List.length_take] at h1; omega
        obtain ⟨s, hs⟩ : ∃ s : Er, s = l[k] := ⟨_, rfl⟩
        rw [← hs] at hA0 a0 a1 a2 a3
        have HA : Hid (∀ e, eqV s.v v0 = e → whenL (l.take (k + 1)) v0 = if e = true then whenL (l.take k) v0 ++ [(s.a, s.b)] else whenL (l.take k) v0) := fun e h => by rw [← h]; exact hA0
        have HTK : Hid ((whenL (l.take k) v0).length + 1 ≤ 1000000) := by show _ ≤ _; omega
        generalize whenL (l.take k) v0 = D at *
        clear hs HI hg1 hh hA0 htk
        go_upto_region 7 with fail
        obtain ⟨Y, hY⟩ : ∃ X, X = wr.alloc (.cells #[.int .i64 s.a, .int .i64 s.b, .int .u8 s.v.kind, .int .i64 s.v.at'] 49) := ⟨_, rfl⟩
        have hbY : Below wr.heap.size wr Y := by rw [hY]; exact below_new (Below.refl _ _) _
        have rx : RowAt Y wr.heap.size [.int .i64 s.a, .int .i64 s.b, .int .u8 s.v.kind, .int .i64 s.v.at'] 49 := by rw [hY]; exact RowAt.new _ _ _
        rw [← hY]
        replace hI := hI.below hbY
        replace r1 := r1.below hbY
        obtain ⟨gs, hgs⟩ : ∃ g, g = wr.heap.size := ⟨_, rfl⟩
        rw [← hgs] at rx ⊢
        clear hY hbY a0 a1 a2 a3 hgs
        obtain ⟨x0, x1, x2, x3, xf⟩ := cells4 rx
        obtain ⟨z0, z1, zf⟩ := cells2 r1
        have heq := fun W => vd_eql s.v v0 W
        have hvg := vd_guard
        obtain ⟨v', w6, hrun, hO2, _⟩ := Iv.appI (hI.below (below_new (Below.refl _ Y) (.cells #[.int .i64 s.a, .int .i64 s.b] 23))) (Iv.litI Y (s.a, s.b) 23) (by have := HTK.out; simp; omega)
        have HO2 : Hid (OwnI X w6 v' (D ++ [(s.a, s.b)])) := hO2
        have HI2 : Hid (OwnI X Y u8 D) := hI
        subst hv0
        simp only at heq z0 z1
        generalize eqV s.v ⟨vk, vi⟩ = E at *
        clear hI hO2 HTK rx r1
        cases E
        · have HV : Hid (OwnI X Y u8 (whenL (l.take (k + 1)) ⟨vk, vi⟩)) := by show OwnI _ _ _ _; rw [HA.out false rfl]; exact HI2.out
          clear HA HI2 HO2 hrun
          go_wp2_with fail
          go_roundw
          case rel => exact ⟨k + 1, by omega, by go_num, HV⟩
          case measure => simp [Go.RowKit.intOf]; omega
        · have HV : Hid (OwnI X w6 v' (whenL (l.take (k + 1)) ⟨vk, vi⟩)) := by show OwnI _ _ _ _; rw [HA.out true rfl]; exact HO2.out
          clear HA HI2 HO2
          go_wp2_with fail
          go_roundw
          case rel => exact ⟨k + 1, by omega, by go_num, HV⟩
          case measure => simp [Go.RowKit.intOf]; omega
      · have hkn : decide ((k : Int) < (n : Int)) = false := decide_eq_false (by omega)
        have hte : l.take k = l := by have := HN.out; exact List.take_of_length_le (by omega)
        have HI2 : Hid (OwnI X wr u8 (whenL l v0)) := by rw [hte] at HI; exact HI.out
        clear HI hI hte hh
        go_wp2_with fail
        go_ret2
        exact ⟨_, whenL l v0, _, rfl, HI2.out.has, below2 hB3 HI2.out.bl, HV.out⟩
end Go.Proofs.Ytmkbijnndbgjgaa.Ln
namespace Go.Proofs.Ytmkbijnndbgjgaa.Ln
open Go.RowKit
open Go.Proofs.Ytmkbijnndbgjgaa.Iv (Iv okI okI_iff)
def comI (x y : Iv) : Iv := (max x.1 y.1, min x.2 y.2)
def cut1 (tw : Iv) (x : Er) : Option Er := if max x.a tw.1 ≤ min x.b tw.2 then some ⟨max x.a tw.1, min x.b tw.2, x.v⟩ else none
def cutL (l : List Er) (tw : Iv) : List Er := l.filterMap (cut1 tw)
def cutE (w : Iv) (l : List Er) (tw : Iv) : List Er × Int := if okL w l = true then (if (okI tw && (decide (w.1 ≤ tw.1) && decide (tw.2 ≤ w.2))) = true then (cutL l tw, 0) else ([], 1)) else ([], 2)
theorem cutL_snoc (l : List Er) (x : Er) (tw : Iv) : cutL (l ++ [x]) tw = if max x.a tw.1 ≤ min x.b tw.2 then cutL l tw ++ [⟨max x.a tw.1, min x.b tw.2, x.v⟩] else cutL l tw := by
  unfold cutL
  rw [List.filterMap_append]
  by_cases h : max x.a tw.1 ≤ min x.b tw.2
  · rw [if_pos h]
    simp [cut1, h]
  · rw [if_neg h]
    simp [cut1, h]
theorem cutL_len (l : List Er) (tw : Iv) : (cutL l tw).length ≤ l.length := List.length_filterMap_le _ _
theorem cutE_bad {w : Iv} {l : List Er} {tw : Iv} (h : okL w l = false) : cutE w l tw = ([], 2) := by unfold cutE; rw [h]; rfl
theorem cutE_out {w : Iv} {l : List Er} {tw : Iv} (h : okL w l = true) (h2 : (okI tw && (decide (w.1 ≤ tw.1) && decide (tw.2 ≤ w.2))) = false) : cutE w l tw = ([], 1) := by unfold cutE; rw [if_pos h, h2]; rfl
theorem cutE_in {w : Iv} {l : List Er} {tw : Iv} (h : okL w l = true) (h2 : (okI tw && (decide (w.1 ≤ tw.1) && decide (tw.2 ≤ w.2))) = true) : cutE w l tw = (cutL l tw, 0) := by unfold cutE; rw [if_pos h, if_pos h2]
end Go.Proofs.Ytmkbijnndbgjgaa.Ln
namespace Go.Proofs.Ytmkbijnndbgjgaa.Ln
open Go.RowKit Go.Shelf
open Go.Proofs.Ytmkbijnndbgjgaa.Iv (Iv FitT FitI okI okI_iff one_any)
open Go.Proofs.Ytmkbijnndbgjgaa.Lk (HasRow hasRow_own addr_add)
open Go.Proofs.Ytmkbijnndbgjgaa.Sp (chk)
open Go.Proofs.Ytmkbijnndbgjgaa.Addr (Bl bl_ne wp_region_bl bl_call RowAt below2 below_drew below_new bset RowAt.lt RowAt.cell RowAt.frozen RowAt.below RowAt.drew RowAt.new RowAt.alloc cells2 cells4 results_cell)
attribute [-go_sem] Builtin.append_
theorem iv_inX (k l i j : Int) (w : World) (f : Nat) : (Op.equalIn (f + 2) 23 (.agg #[.int .i64 k, .int .i64 i]) (.agg #[.int .i64 l, .int .i64 j])).run Try.prog w = .ok (decide (k = l) && decide (i = j)) w := by
  have u3 := Try.underlying2
  have a3 := Try.isAgg2
  have z3 := Try.sizeOf2
  have hS : Try.prog.underlying 23 = some (.struct (Try.prog.fieldsOf 23)) := by kernel_rfl
  have hp : Try.prog.stoodInHeld 23 = false := by kernel_rfl
  rw [show f + 2 = (f + 1) + 1 from rfl, run_equalIn_agg w (f + 1) 23 _ _ hS hp]
  simp only [Program.fieldsOf, Try.underlying23]
  by_cases h1 : k = l
  · subst h1
    by_cases h2 : i = j
    · subst h2
      go_simp
    · go_simp
  · go_simp
theorem iv_neqX (k l i j : Int) (w : World) : (binOp .neq 23 (.agg #[.int .i64 k, .int .i64 i]) (.agg #[.int .i64 l, .int .i64 j])).run Try.prog w = .ok (.bool (!(decide (k = l) && decide (i = j)))) w := by
  rw [run_neq_struct, iv_inX _ _ _ _ w 9998]
  rfl
theorem iv_guard : Try.prog.eqGuardType Try.prog.depth 23 = false := by kernel_rfl
set_option maxHeartbeats 4000000 in
theorem com_any (x y : Iv) (w : World) : Calls Try.prog 45 #[.agg #[.int .i64 x.1, .int .i64 x.2], .agg #[.int .i64 y.1, .int .i64 y.2]] w fun e w' => e = .returned (.agg #[.int .i64 (comI x y).1, .int .i64 (comI x y).2]) ∧ Below w.heap.size w w' := by
  obtain ⟨wa, wb⟩ := x
  obtain ⟨ta, tb⟩ := y
  unfold comI
  simp only
  obtain ⟨lo, hlo0⟩ : ∃ lo, max wa ta = lo := ⟨_, rfl⟩
  obtain ⟨hi, hhi0⟩ : ∃ hi, min wb tb = hi := ⟨_, rfl⟩
  rw [hlo0, hhi0]
  have hm1 : ∀ ats ty W, (Builtin.max_ ats ty #[.int .i64 wa, .int .i64 ta]).run Try.prog W = .ok (.int .i64 lo) W := fun ats ty W => by rw [← hlo0]; exact Iv.run_max ats ty _ _ W
  have hm2 : ∀ ats ty W, (Builtin.min_ ats ty #[.int .i64 wb, .int .i64 tb]).run Try.prog W = .ok (.int .i64 hi) W := fun ats ty W => by rw [← hhi0]; exact Iv.run_min ats ty _ _ W
  obtain ⟨X, hX⟩ : ∃ X, X = ((w.alloc (.cells #[.int .i64 wa, .int .i64 wb] 23)).alloc (.cells #[.int .i64 ta, .int .i64 tb] 23)).alloc (.cells #[.int .i64 0, .int .i64 0] 23) := ⟨_, rfl⟩
  have hB0 : Below w.heap.size w X := by rw [hX]; exact below_new (below_new (below_new (Below.refl _ _) _) _) _
  have r0 : RowAt X w.heap.size [.int .i64 wa, .int .i64 wb] 23 := by rw [hX]; exact ((RowAt.new _ _ _).alloc _).alloc _
  have r1 : RowAt X (w.heap.size + 1) [.int .i64 ta, .int .i64 tb] 23 := by
    rw [hX, ← World.size_alloc w (.cells #[.int .i64 wa, .int .i64 wb] 23)]; exact (RowAt.new _ _ _).alloc _
  have r2 : RowAt X (w.heap.size + 1 + 1) [.int .i64 0, .int .i64 0] 23 := by
    rw [hX, show w.heap.size + 1 + 1 = ((w.alloc (.cells #[.int .i64 wa, .int .i64 wb] 23)).alloc (.cells #[.int .i64 ta, .int .i64 tb] 23)).heap.size by rw [World.size_alloc, World.size_alloc]]; exact RowAt.new _ _ _
  obtain ⟨g0, hg0⟩ : ∃ g, g = w.heap.size := ⟨_, rfl⟩
  obtain ⟨g1, hg1⟩ : ∃ g, g = w.heap.size + 1 := ⟨_, rfl⟩
  obtain ⟨g2, hg2⟩ : ∃ g, g = w.heap.size + 1 + 1 := ⟨_, rfl⟩
  have hge : w.heap.size ≤ g2 := by omega
  have hne1 : g2 ≠ g0 := by omega
  have hne2 : g2 ≠ g1 := by omega
  rw [← hg2] at r2
  rw [← hg1] at r1
  rw [← hg0] at r0
  have hlt2 := RowAt.lt r2
  obtain ⟨q0, q1, _⟩ := cells2 r0
  obtain ⟨p0, p1, _⟩ := cells2 r1
  obtain ⟨y0, y1, yf⟩ := cells2 r2
  clear r0 r1 r2 hlo0 hhi0
  go_enter Try.func45, Try.ntmps45
  go_upto_region 1 with fail
  rw [← hX, ← hg2, ← hg1, ← hg0]
  clear hX hg0 hg1 hg2
  go_wp2_with fail
  (try simp only [Exit.inBlock, Exit.then])
  refine bodyPost_ret (v := .agg #[.int .i64 lo, .int .i64 hi]) ?_ rfl ⟨rfl, ?_⟩
  · rw [results_cell rfl]
    go_simp
  · repeat' (first | with_reducible exact hB0 | with_reducible apply below_new | with_reducible refine bset ?_ (by omega))
set_option maxHeartbeats 8000000 in
set_option maxRecDepth 20000 in
theorem cutF_any (l : List Er) (tw : Iv) (v : Value) (w : World) (hl : HasL w v l) (hlen : l.length ≤ 1024) :
    Calls Try.prog 46 #[v, .agg #[.int .i64 tw.1, .int .i64 tw.2]] w fun e w' => ∃ u, e = .returned u ∧ OwnL w w' u (cutL l tw) := by
  obtain ⟨o, c, rfl, hc1, hc2⟩ := HasRow.slice hl
  obtain ⟨ta, tb⟩ := tw
  simp only
  obtain ⟨n, hn⟩ : ∃ n, n = l.length := ⟨_, rfl⟩
  have HN : Hid (n = l.length) := hn
  obtain ⟨X, hX⟩ : ∃ X, X = w.alloc (.cells #[.int .i64 ta, .int .i64 tb] 23) := ⟨_, rfl⟩
  have hB0 : Below w.heap.size w X := by rw [hX]; exact below_new (Below.refl _ _) _
  have r0 : RowAt X w.heap.size [.int .i64 ta, .int .i64 tb] 23 := by rw [hX]; exact RowAt.new _ _ _
  obtain ⟨g0, hg0⟩ : ∃ g, g = w.heap.size := ⟨_, rfl⟩
  rw [← hg0] at r0
  rw [← hn] at hc1 hl hlen ⊢
  have hlX := hl.keep hB0
  have HR : Hid (∀ wr : World, Below X.heap.size X wr → HasL wr (.slice o n c) l ∧ RowAt wr g0 [.int .i64 ta, .int .i64 tb] 23) := fun wr hb => ⟨hlX.keep hb, r0.below hb⟩
  have hni : (n : Int) ≤ 1024 := by omega
  have H0 : Hid (OwnL X X (.slice none 0 0) (cutL (l.take 0) (ta, tb))) := OwnL.nil X
  clear hl hlX r0 hn
  go_enter Try.func46, Try.ntmps46
  go_upto_region 1 with fail
  rw [← hX, ← hg0]
  clear hX hg0
  go_wp2_with fail
  go_loopw [5, 11] (fun u q wr => ∃ k : Nat, k ≤ n ∧ q = .int .i64 k ∧ Hid (OwnL X wr u (cutL (l.take k) (ta, tb)))) (fun _ q _ => n - (Go.RowKit.intOf q).toNat)
  case atStart => exact ⟨0, by omega, rfl, H0⟩
  case round =>
    clear H0
    obtain ⟨k, hk, rfl, HI⟩ := hrel
    have hI := HI.out
    obtain ⟨hh, r1⟩ := HR.out _ hI.bl
    by_cases hlt : k < n
    · have hkz : k < l.length := by rw [← HN.out]; exact hlt
      obtain ⟨g1, i1, rfl, hg1, a0, a1, a2, a3⟩ := HasL.cell hh k hkz
      have hA0 := cutL_snoc (l.take k) l[k] (ta, tb)
      rw [← List.take_succ_eq_append_getElem hkz] at hA0
      have hki : (k : Int) < (n : Int) := by omega
      have htk : (cutL (l.take k) (ta, tb)).length ≤ 1000 * 999 := by have h1 := cutL_len (l.take k) (ta, tb); rw [List.length_take] at h1; omega
      obtain ⟨s, hs⟩ : ∃ s : Er, s = l[k] := ⟨_, rfl⟩
      rw [← hs] at hA0 a0 a1 a2 a3
      obtain ⟨xa, xb, ⟨xk, xi⟩⟩ := s
      simp only at hA0 a0 a1 a2 a3
      obtain ⟨lo, hlo0⟩ : ∃ lo, max xa ta = lo := ⟨_, rfl⟩
      obtain ⟨hi, hhi0⟩ : ∃ hi, min xb tb = hi := ⟨_, rfl⟩
      rw [hlo0, hhi0] at hA0
      have HA1 : Hid (lo ≤ hi → cutL (l.take (k + 1)) (ta, tb) = cutL (l.take k) (ta, tb) ++ [⟨lo, hi, ⟨xk, xi⟩⟩]) := fun h => by rw [hA0, if_pos h]
      have HA2 : Hid (¬ lo ≤ hi → cutL (l.take (k + 1)) (ta, tb) = cutL (l.take k) (ta, tb)) := fun h => by rw [hA0, if_neg h]
      have HTK : Hid ((cutL (l.take k) (ta, tb)).length + 1 ≤ 1000000) := by show _ ≤ _; omega
      generalize cutL (l.take k) (ta, tb) = D at *
      clear hs HI hg1 hh hA0 htk
      go_upto_region 5 with fail
      obtain ⟨Y, hY⟩ : ∃ X, X = wr.alloc (.cells #[.int .i64 xa, .int .i64 xb, .int .u8 xk, .int .i64 xi] 106) := ⟨_, rfl⟩
      have hbY : Below wr.heap.size wr Y := by rw [hY]; exact below_new (Below.refl _ _) _
      have rx : RowAt Y wr.heap.size [.int .i64 xa, .int .i64 xb, .int .u8 xk, .int .i64 xi] 106 := by rw [hY]; exact RowAt.new _ _ _
      rw [← hY]
      replace hI := hI.below hbY
      replace r1 := r1.below hbY
      obtain ⟨gs, hgs⟩ : ∃ g, g = wr.heap.size := ⟨_, rfl⟩
      rw [← hgs] at rx ⊢
      clear hY hbY a0 a1 a2 a3 hgs
      obtain ⟨x0, x1, x2, x3, xf⟩ := cells4 rx
      obtain ⟨z0, z1, zf⟩ := cells2 r1
      have cc := com_any (xa, xb) (ta, tb) Y
      simp only at cc
      have hlo : max xa ta = lo := hlo0
      have hhi : min xb tb = hi := hhi0
      rw [show comI (xa, xb) (ta, tb) = (lo, hi) by unfold comI; simp only; rw [hlo, hhi]] at cc
      simp only at cc
      clear hlo hhi hlo0 hhi0
      go_wp2_with fail
      go_at_call 45; refine cc.mono ?_; rintro e w5 ⟨rfl, hb5⟩
      replace hI := hI.below hb5
      replace rx := rx.below hb5
      clear cc x0 x1 x2 x3 xf z0 z1 zf r1 hb5
      go_upto_region 6 with fail
      obtain ⟨Z, hZ⟩ : ∃ X, X = w5.alloc (.cells #[.int .i64 lo, .int .i64 hi] 23) := ⟨_, rfl⟩
      have hbZ : Below w5.heap.size w5 Z := by rw [hZ]; exact below_new (Below.refl _ _) _
      have ry : RowAt Z w5.heap.size [.int .i64 lo, .int .i64 hi] 23 := by rw [hZ]; exact RowAt.new _ _ _
      rw [← hZ]
      replace hI := hI.below hbZ
      replace rx := rx.below hbZ
      obtain ⟨gz, hgz⟩ : ∃ g, g = w5.heap.size := ⟨_, rfl⟩
      rw [← hgz] at ry ⊢
      clear hZ hbZ hgz
      obtain ⟨x0, x1, x2, x3, xf⟩ := cells4 rx
      obtain ⟨y0, y1, yf⟩ := cells2 ry
      by_cases hle : lo ≤ hi
      · obtain ⟨v', w6, hrun, hO2, _⟩ := appL (hI.below (below_new (Below.refl _ Z) (.cells #[.int .i64 lo, .int .i64 hi, .int .u8 xk, .int .i64 xi] 106))) (litL Z ⟨lo, hi, ⟨xk, xi⟩⟩ 106) (by have := HTK.out; simp; omega)
        have HV : Hid (OwnL X w6 v' (cutL (l.take (k + 1)) (ta, tb))) := by show OwnL _ _ _ _; rw [HA1.out (by omega)]; exact hO2
        clear HA1 HA2 hI hO2 HTK rx ry
        go_wp2_with fail
        go_roundw
        case rel => exact ⟨k + 1, by omega, by go_num, HV⟩
        case measure => simp [Go.RowKit.intOf]; omega
      · have HV : Hid (OwnL X Z u5 (cutL (l.take (k + 1)) (ta, tb))) := by show OwnL _ _ _ _; rw [HA2.out (by omega)]; exact hI
        clear HA1 HA2 hI HTK rx ry
        go_wp2_with fail
        go_roundw
        case rel => exact ⟨k + 1, by omega, by go_num, HV⟩
        case measure => simp [Go.RowKit.intOf]; omega
    · have hkn : decide ((k : Int) < (n : Int)) = false := decide_eq_false (by omega)
      have hte : l.take k = l := by have := HN.out; exact List.take_of_length_le (by omega)
      have HI2 : Hid (OwnL X wr u5 (cutL l (ta, tb))) := by rw [hte] at HI; exact HI.out
      clear HI hI hte hh
      go_wp2_with fail
      go_ret
      exact ⟨_, rfl, HI2.out.to hB0⟩
set_option maxHeartbeats 8000000 in
set_option maxRecDepth 20000 in
theorem cut_any (wi : Iv) (l : List Er) (tw : Iv) (v : Value) (w : World) (hl : HasE w v l) :
    Calls Try.prog 19 #[.agg #[.int .i64 wi.1, .int .i64 wi.2], v, .agg #[.int .i64 tw.1, .int .i64 tw.2]] w fun e w' => ∃ u R why, e = .returned (.tuple #[u, .int .i64 why]) ∧ HasE w' u R ∧ Below w.heap.size w w' ∧ (R, why) = cutE wi l tw := by
  have ck := fun (W : World) (h : HasE W v l) => check_any wi l v W h
  have c1 := fun (W : World) => right_any tw W
  have c2 := fun (W : World) => com_any wi tw W
  have hgo := fun (h : okL wi l = true) => okL_go h
  have HC1 : Hid (okL wi l = false → cutE wi l tw = ([], 2)) := fun h => cutE_bad h
  have HC2 : Hid (okL wi l = true → l.length ≤ 1024) := fun h => (hgo h).2.1
  have HC3 : Hid (okL wi l = true → ∀ a b, okI tw = a → (decide (max wi.1 tw.1 = tw.1) && decide (min wi.2 tw.2 = tw.2)) = b → cutE wi l tw = if (a && b) = true then (cutL l tw, 0) else ([], 1)) := fun h a b h1 h2 => by
    have e : (decide (max wi.1 tw.1 = tw.1) && decide (min wi.2 tw.2 = tw.2)) = (decide (wi.1 ≤ tw.1) && decide (tw.2 ≤ wi.2)) := by
      apply Bool.eq_iff_iff.2
      simp only [Bool.and_eq_true, decide_eq_true_eq]
      omega
    rw [e] at h2
    cases hab : (a && b) with
    | true => rw [if_pos rfl]; exact cutE_in h (by rw [h1, h2]; exact hab)
    | false => rw [if_neg Bool.false_ne_true]; exact cutE_out h (by rw [h1, h2]; exact hab)
  generalize cutE wi l tw = R at *
  generalize okL wi l = K at *
  clear hgo
  obtain ⟨wa, wb⟩ := wi
  obtain ⟨ta, tb⟩ := tw
  unfold comI at c2
  simp only at ck c1 c2 HC3 ⊢
  have hneq := fun W => iv_neqX (max wa ta) ta (min wb tb) tb W
  have hvg := iv_guard
  generalize (decide (max wa ta = ta) && decide (min wb tb = tb)) = B at hneq HC3
  generalize max wa ta = mx at c2 hneq
  generalize min wb tb = mn at c2 hneq
  obtain ⟨Z, hZ⟩ : ∃ X, X = (w.alloc (.cells #[.int .i64 wa, .int .i64 wb] 23)).alloc (.cells #[.int .i64 ta, .int .i64 tb] 23) := ⟨_, rfl⟩
  have hB0 : Below w.heap.size w Z := by rw [hZ]; exact below_new (below_new (Below.refl _ _) _) _
  have r0 : RowAt Z w.heap.size [.int .i64 wa, .int .i64 wb] 23 := by rw [hZ]; exact (RowAt.new _ _ _).alloc _
  have r1 : RowAt Z (w.heap.size + 1) [.int .i64 ta, .int .i64 tb] 23 := by
    rw [hZ, ← World.size_alloc w (.cells #[.int .i64 wa, .int .i64 wb] 23)]; exact RowAt.new _ _ _
  obtain ⟨g0, hg0⟩ : ∃ g, g = w.heap.size := ⟨_, rfl⟩
  obtain ⟨g1, hg1⟩ : ∃ g, g = w.heap.size + 1 := ⟨_, rfl⟩
  rw [← hg1] at r1
  rw [← hg0] at r0
  have hlX := hl.keep hB0
  have cc := ck Z hlX
  obtain ⟨q0, q1, _⟩ := cells2 r0
  clear ck hl
  obtain ⟨o, c, rfl, hc1, hc2⟩ := HasRow.slice hlX
  go_enter Try.func19, Try.ntmps19
  go_upto_region 1 with fail
  rw [← hZ, ← hg1, ← hg0]
  clear hZ hg0 hg1
  go_wp2_with fail
  go_at_call 13; refine cc.mono ?_; rintro e X ⟨rfl, hb3⟩
  clear cc q0 q1
  have hB3 := below2 hB0 hb3
  cases K
  · have HV : Hid ((([] : List Er), (2 : Int)) = R) := (HC1.out (by simp)).symm
    have hck : chk false = 2 := rfl
    rw [hck]
    clear HC1 HC2 HC3 c1 c2 hneq
    go_wp2_with fail
    go_ret2
    exact ⟨_, [], _, rfl, Lk.hasRow_nil _ 4, hB3, HV.out⟩
  · have hck : chk true = 0 := rfl
    rw [hck]
    have hle := HC2.out (by simp)
    replace HC3 := HC3.out (by simp)
    have HC4 : Hid (∀ a b, okI (ta, tb) = a → B = b → R = if (a && b) = true then (cutL l (ta, tb), 0) else ([], 1)) := HC3
    have HR : Hid (∀ wr : World, Below X.heap.size X wr → HasE wr (.slice o l.length c) l ∧ RowAt wr g0 [.int .i64 wa, .int .i64 wb] 23 ∧ RowAt wr g1 [.int .i64 ta, .int .i64 tb] 23 ∧ Below w.heap.size w wr) := fun wr hb => ⟨hlX.keep (below2 hb3 hb), r0.below (below2 hb3 hb), r1.below (below2 hb3 hb), below2 hB3 hb⟩
    obtain ⟨_, r0, r1, _⟩ := HR.out X (Below.refl _ _)
    haveI := bl_ne X
    have q0 := fun p : Bl X => (r0.below p.h).cell 0
    have q1 := fun p : Bl X => (r0.below p.h).cell 1
    have p0 := fun p : Bl X => (r1.below p.h).cell 0
    have p1 := fun p : Bl X => (r1.below p.h).cell 1
    simp only [List.getElem?_cons_succ, List.getElem?_cons_zero] at q0 q1 p0 p1
    clear HC1 HC2 HC3 hlX r0 r1 hb3
    go_upto_region 4 with fail
    cases hA : okI (ta, tb)
    · rw [hA] at c1
      have HV : Hid ((([] : List Er), (1 : Int)) = R) := (HC4.out _ _ hA rfl).symm
      clear HC4 hA c2 hneq
      refine wp_region_bl (by kernel_rfl) (by kernel_rfl) ?_
      repeat (go_big_quiet_step (first | (go_at_call 30; with_reducible exact bl_call (c1 _))))
      refine wpQuiet_nil ?_
      intro wq hw'
      obtain ⟨⟨wz, hq⟩, hw2⟩ := hw'
      subst hw2
      have hBZ := (HR.out _ hq).2.2.2
      clear q0 q1 p0 p1 HR
      go_wp2_with fail
      go_ret2
      exact ⟨_, [], _, rfl, Lk.hasRow_nil _ 4, hBZ, HV.out⟩
    · rw [hA] at c1
      cases B
      · have HV : Hid ((([] : List Er), (1 : Int)) = R) := (HC4.out _ _ hA rfl).symm
        clear HC4 hA
        simp only [Bool.not_false] at hneq
        refine wp_region_bl (by kernel_rfl) (by kernel_rfl) ?_
        repeat (go_big_quiet_step (first | (go_at_call 30; with_reducible exact bl_call (c1 _)) | (go_at_call 45; with_reducible exact bl_call (c2 _))))
        refine wpQuiet_nil ?_
        intro wq hw'
        obtain ⟨⟨wz, hq⟩, hw2⟩ := hw'
        subst hw2
        have hBZ := (HR.out _ hq).2.2.2
        clear q0 q1 p0 p1 HR
        go_wp2_with fail
        go_ret2
        exact ⟨_, [], _, rfl, Lk.hasRow_nil _ 4, hBZ, HV.out⟩
      · have HV : Hid ((cutL l (ta, tb), (0 : Int)) = R) := (HC4.out _ _ hA rfl).symm
        clear HC4 hA
        simp only [Bool.not_true] at hneq
        refine wp_region_bl (by kernel_rfl) (by kernel_rfl) ?_
        repeat (go_big_quiet_step (first | (go_at_call 30; with_reducible exact bl_call (c1 _)) | (go_at_call 45; with_reducible exact bl_call (c2 _))))
        refine wpQuiet_nil ?_
        intro wq hw'
        obtain ⟨⟨wz, hq⟩, hw2⟩ := hw'
        subst hw2
        have hBZ := (HR.out _ hq).2.2.2
        have HL5 : Hid (∀ W, Below wq.heap.size wq W → HasE W (.slice o l.length c) l) := fun W hq2 => (HR.out W (below2 hq hq2)).1
        have HSK5 : Hid (∀ W : World, Below wq.heap.size wq W → W.cell? ⟨g1, 0, none⟩ = some (.int .i64 ta) ∧ W.cell? ⟨g1, 1, none⟩ = some (.int .i64 tb)) := fun W hq2 => by
          obtain ⟨z0, z1, _⟩ := cells2 (HR.out W (below2 hq hq2)).2.2.1
          exact ⟨z0, z1⟩
        have c3 := fun (W : World) (h : HasE W (.slice o l.length c) l) => verdicts_any l _ W h (by omega)
        have c4 := fun (u : Value) (W : World) (h : HasL W u l) => cutF_any l (ta, tb) u W h hle
        have c5 := fun (u : Value) (W : World) (h : HasL W u (cutL l (ta, tb))) => told_any (cutL l (ta, tb)) u W h (by have := cutL_len l (ta, tb); omega)
        have hbA : Below wq.heap.size wq wq := Below.refl _ _
        clear q0 q1 p0 p1 HR hq hle c1 c2 hneq
        generalize l.length = n at *
        go_upto_region 6 with fail
        go_region_held (fun w' => w'.cell? ⟨g1, 0, none⟩ = some (.int .i64 ta) ∧ w'.cell? ⟨g1, 1, none⟩ = some (.int .i64 tb)) ((refine HSK5.out _ ?_; repeat' (first | with_reducible exact hbA | with_reducible apply below_drew | with_reducible apply below_new))) (first
          | (go_at_call 38
             with_reducible refine (c3 _ (HL5.out _ ?_)).mono ?_
             · repeat' (first | with_reducible exact hbA | with_reducible apply below_drew)
             rintro e w5 ⟨u5, rfl, hO⟩
             have hr5 := hO.has
             have hbN : Below wq.heap.size wq w5 := below2 (by repeat' (first | with_reducible exact hbA | with_reducible apply below_drew)) hO.bl
             clear hbA hO
             have hbA := hbN
             clear hbN)
          | (go_at_call 46
             with_reducible refine (c4 _ _ (hr5.keep ?_)).mono ?_
             · repeat' (first | with_reducible exact Below.refl _ _ | with_reducible apply below_drew)
             rintro e w6 ⟨u6, rfl, hO⟩
             have hr6 := hO.has
             have hbN : Below wq.heap.size wq w6 := below2 (by repeat' (first | with_reducible exact hbA | with_reducible apply below_drew)) hO.bl
             clear hbA hO
             have hbA := hbN
             clear hbN)
          | (go_at_call 33
             with_reducible refine (c5 _ _ (hr6.keep ?_)).mono ?_
             · repeat' (first | with_reducible exact Below.refl _ _ | with_reducible apply below_drew)
             rintro e w7 ⟨u7, rfl, hO⟩
             have hbN : Below wq.heap.size wq w7 := below2 (by repeat' (first | with_reducible exact hbA | with_reducible apply below_drew)) hO.bl
             have HR7 : Hid (HasE w7 u7 (cutL l (ta, tb))) := hO.has
             clear hbA hO
             have hbA := hbN
             clear hbN))
        all_goals go_wp2_with fail
        all_goals go_ret2
        all_goals exact ⟨_, cutL l (ta, tb), _, rfl, HR7.out.keep (by repeat' (first | with_reducible exact Below.refl _ _ | with_reducible apply below_drew)), below2 hBZ (by repeat' (first | with_reducible exact hbA | with_reducible apply below_drew)), HV.out⟩
set_option maxHeartbeats 8000000 in
set_option maxRecDepth 20000 in
theorem rcut_any (wi : Iv) (l : List Er) (tw : Iv) (v : Value) (w : World) (hl : HasE w v l) :
    Calls Try.prog 20 #[.agg #[.int .i64 wi.1, .int .i64 wi.2], v, .agg #[.int .i64 tw.1, .int .i64 tw.2]] w fun e w' => ∃ u R why, e = .returned (.tuple #[u, .int .i64 why]) ∧ HasE w' u R ∧ Below w.heap.size w w' ∧ (R, why) = cutE wi l tw := by
  have ck := fun (W : World) (h : HasE W v l) => rcheck_any wi l v W h
  have c1 := fun (W : World) => one_any tw W
  have HC1 : Hid (okL wi l = false → cutE wi l tw = ([], 2)) := fun h => cutE_bad h
  have HC2 : Hid (okL wi l = true → l.length ≤ 1024) := fun h => (okL_go h).2.1
  have HC3 : Hid (okL wi l = true → (okI tw && (decide (wi.1 ≤ tw.1) && decide (tw.2 ≤ wi.2))) = true → cutE wi l tw = (cutL l tw, 0)) := fun h h2 => cutE_in h h2
  have HC4 : Hid (okL wi l = true → (okI tw && (decide (wi.1 ≤ tw.1) && decide (tw.2 ≤ wi.2))) = false → cutE wi l tw = ([], 1)) := fun h h2 => cutE_out h h2
  generalize cutE wi l tw = R at *
  generalize okL wi l = K at *
  obtain ⟨wa, wb⟩ := wi
  obtain ⟨ta, tb⟩ := tw
  simp only at ck c1 HC3 HC4 ⊢
  obtain ⟨Z, hZ⟩ : ∃ X, X = (w.alloc (.cells #[.int .i64 wa, .int .i64 wb] 23)).alloc (.cells #[.int .i64 ta, .int .i64 tb] 23) := ⟨_, rfl⟩
  have hB0 : Below w.heap.size w Z := by rw [hZ]; exact below_new (below_new (Below.refl _ _) _) _
  have r0 : RowAt Z w.heap.size [.int .i64 wa, .int .i64 wb] 23 := by rw [hZ]; exact (RowAt.new _ _ _).alloc _
  have r1 : RowAt Z (w.heap.size + 1) [.int .i64 ta, .int .i64 tb] 23 := by
    rw [hZ, ← World.size_alloc w (.cells #[.int .i64 wa, .int .i64 wb] 23)]; exact RowAt.new _ _ _
  obtain ⟨g0, hg0⟩ : ∃ g, g = w.heap.size := ⟨_, rfl⟩
  obtain ⟨g1, hg1⟩ : ∃ g, g = w.heap.size + 1 := ⟨_, rfl⟩
  rw [← hg1] at r1
  rw [← hg0] at r0
  have hlX := hl.keep hB0
  have cc := ck Z hlX
  obtain ⟨q0, q1, _⟩ := cells2 r0
  clear ck hl
  obtain ⟨o, c, rfl, hc1, hc2⟩ := HasRow.slice hlX
  obtain ⟨n, hn⟩ : ∃ n, n = l.length := ⟨_, rfl⟩
  have HN : Hid (n = l.length) := hn
  rw [← hn] at hc1 hlX HC2 cc ⊢
  clear hn
  have HR0 : Hid (∀ wr : World, Below Z.heap.size Z wr → HasE wr (.slice o n c) l ∧ RowAt wr g0 [.int .i64 wa, .int .i64 wb] 23 ∧ RowAt wr g1 [.int .i64 ta, .int .i64 tb] 23 ∧ Below w.heap.size w wr) := fun wr hb => ⟨hlX.keep hb, r0.below hb, r1.below hb, below2 hB0 hb⟩
  clear hlX r0 r1
  go_enter Try.func20, Try.ntmps20
  go_upto_region 1 with fail
  rw [← hZ, ← hg1, ← hg0]
  clear hZ hg0 hg1
  go_wp2_with fail
  go_at_call 14; refine cc.mono ?_; rintro e w3 ⟨rfl, hb3⟩
  clear cc q0 q1
  cases K
  · have HV : Hid ((([] : List Er), (2 : Int)) = R) := (HC1.out (by simp)).symm
    have hck : chk false = 2 := rfl
    rw [hck]
    have hB3 := below2 hB0 hb3
    clear HC1 HC2 HC3 HC4 HR0 c1
    go_wp2_with fail
    go_ret2
    exact ⟨_, [], _, rfl, Lk.hasRow_nil _ 4, hB3, HV.out⟩
  · have hck : chk true = 0 := rfl
    rw [hck]
    have hlen := HC2.out (by simp)
    have HC5 : Hid ((okI (ta, tb) && (decide (wa ≤ ta) && decide (tb ≤ wb))) = true → R = (cutL l (ta, tb), 0)) := fun h => HC3.out (by simp) h
    have HC6 : Hid ((okI (ta, tb) && (decide (wa ≤ ta) && decide (tb ≤ wb))) = false → R = ([], 1)) := fun h => HC4.out (by simp) h
    obtain ⟨_, r0, r1, _⟩ := HR0.out _ hb3
    obtain ⟨p0, p1, _⟩ := cells2 r1
    clear HC1 HC2 HC3 HC4 r0 r1
    go_wp2_with fail
    go_at_call 34; refine (c1 _).mono ?_; rintro e X ⟨rfl, hb4⟩
    have hb5 := below2 hb3 hb4
    obtain ⟨_, r0, r1, hB3⟩ := HR0.out _ hb5
    clear p0 p1 c1 hb3 hb4
    obtain ⟨q0, q1, _⟩ := cells2 r0
    obtain ⟨p0, p1, _⟩ := cells2 r1
    cases hA : okI (ta, tb)
    · have HV : Hid ((([] : List Er), (1 : Int)) = R) := (HC6.out (by rw [hA]; rfl)).symm
      clear HC5 HC6 HR0 hA
      go_wp2_with fail
      go_ret2
      exact ⟨_, [], _, rfl, Lk.hasRow_nil _ 4, hB3, HV.out⟩
    · by_cases h1 : ta < wa
      · have HV : Hid ((([] : List Er), (1 : Int)) = R) := (HC6.out (by rw [hA, decide_eq_false (show ¬ wa ≤ ta by omega)]; rfl)).symm
        clear HC5 HC6 HR0 hA
        go_wp2_with fail
        go_ret2
        exact ⟨_, [], _, rfl, Lk.hasRow_nil _ 4, hB3, HV.out⟩
      · by_cases h2 : wb < tb
        · have HV : Hid ((([] : List Er), (1 : Int)) = R) := (HC6.out (by rw [hA, decide_eq_false (show ¬ tb ≤ wb by omega), Bool.and_false]; rfl)).symm
          clear HC5 HC6 HR0 hA
          go_wp2_with fail
          go_ret2
          exact ⟨_, [], _, rfl, Lk.hasRow_nil _ 4, hB3, HV.out⟩
        · have HV : Hid ((cutL l (ta, tb), (0 : Int)) = R) := (HC5.out (by rw [hA, decide_eq_true (show wa ≤ ta by omega), decide_eq_true (show tb ≤ wb by omega)]; rfl)).symm
          have HR : Hid (∀ wr : World, Below X.heap.size X wr → HasE wr (.slice o n c) l ∧ RowAt wr g1 [.int .i64 ta, .int .i64 tb] 23) := fun wr hb => ⟨(HR0.out wr (below2 hb5 hb)).1, (HR0.out wr (below2 hb5 hb)).2.2.1⟩
          have hni : (n : Int) ≤ 1024 := by omega
          have H0 : Hid (OwnE X X (.slice none 0 0) (cutL (l.take 0) (ta, tb))) := OwnE.nil X
          clear HC5 HC6 HR0 hA r0 r1 hb5
          go_wp2_with fail
          clear q0 q1 p0 p1
          go_loopw [8, 35] (fun u q wr => ∃ k : Nat, k ≤ n ∧ q = .int .i64 k ∧ Hid (OwnE X wr u (cutL (l.take k) (ta, tb)))) (fun _ q _ => n - (Go.RowKit.intOf q).toNat)
          case atStart => exact ⟨0, by omega, rfl, H0⟩
          case round =>
            clear H0
            obtain ⟨k, hk, rfl, HI⟩ := hrel
            have hI := HI.out
            obtain ⟨hh, r1⟩ := HR.out _ hI.bl
            by_cases hlt : k < n
            · have hkz : k < l.length := by rw [← HN.out]; exact hlt
              obtain ⟨g1, i1, rfl, hg1, a0, a1, a2, a3⟩ := HasE.cell hh k hkz
              have hA0 := cutL_snoc (l.take k) l[k] (ta, tb)
              rw [← List.take_succ_eq_append_getElem hkz] at hA0
              have hki : (k : Int) < (n : Int) := by omega
              have htk : (cutL (l.take k) (ta, tb)).length ≤ 1000 * 999 := by have h1 := cutL_len (l.take k) (ta, tb); rw [List.length_take] at h1; omega
              obtain ⟨s, hs⟩ : ∃ s : Er, s = l[k] := ⟨_, rfl⟩
              rw [← hs] at hA0 a0 a1 a2 a3
              obtain ⟨xa, xb, ⟨xk, xi⟩⟩ := s
              simp only at hA0 a0 a1 a2 a3
              obtain ⟨lo, hlo0⟩ : ∃ lo, max xa ta = lo := ⟨_, rfl⟩
              obtain ⟨hi, hhi0⟩ : ∃ hi, min xb tb = hi := ⟨_, rfl⟩
              rw [hlo0, hhi0] at hA0
              have HA1 : Hid (lo ≤ hi → cutL (l.take (k + 1)) (ta, tb) = cutL (l.take k) (ta, tb) ++ [⟨lo, hi, ⟨xk, xi⟩⟩]) := fun h => by rw [hA0, if_pos h]
              have HA2 : Hid (¬ lo ≤ hi → cutL (l.take (k + 1)) (ta, tb) = cutL (l.take k) (ta, tb)) := fun h => by rw [hA0, if_neg h]
              have HTK : Hid ((cutL (l.take k) (ta, tb)).length + 1 ≤ 1000000) := by show _ ≤ _; omega
              generalize cutL (l.take k) (ta, tb) = D at *
              clear hs HI hg1 hh hA0 htk
              go_upto_region 9 with fail
              obtain ⟨Y, hY⟩ : ∃ X, X = wr.alloc (.cells #[.int .i64 xa, .int .i64 xb, .int .u8 xk, .int .i64 xi] 49) := ⟨_, rfl⟩
              have hbY : Below wr.heap.size wr Y := by rw [hY]; exact below_new (Below.refl _ _) _
              have rx : RowAt Y wr.heap.size [.int .i64 xa, .int .i64 xb, .int .u8 xk, .int .i64 xi] 49 := by rw [hY]; exact RowAt.new _ _ _
              rw [← hY]
              replace hI := hI.below hbY
              replace r1 := r1.below hbY
              obtain ⟨gs, hgs⟩ : ∃ g, g = wr.heap.size := ⟨_, rfl⟩
              rw [← hgs] at rx ⊢
              clear hY hbY a0 a1 a2 a3 hgs
              obtain ⟨x0, x1, x2, x3, xf⟩ := cells4 rx
              obtain ⟨z0, z1, zf⟩ := cells2 r1
              have hm1 : ∀ ats ty W, (Builtin.max_ ats ty #[.int .i64 xa, .int .i64 ta]).run Try.prog W = .ok (.int .i64 lo) W := fun ats ty W => by rw [← hlo0]; exact Iv.run_max ats ty _ _ W
              have hm2 : ∀ ats ty W, (Builtin.min_ ats ty #[.int .i64 xb, .int .i64 tb]).run Try.prog W = .ok (.int .i64 hi) W := fun ats ty W => by rw [← hhi0]; exact Iv.run_min ats ty _ _ W
              clear hlo0 hhi0
              go_upto_region 10 with fail
              obtain ⟨Z, hZ⟩ : ∃ X, X = Y.alloc (.cells #[.int .i64 lo, .int .i64 hi] 23) := ⟨_, rfl⟩
              have hbZ : Below Y.heap.size Y Z := by rw [hZ]; exact below_new (Below.refl _ _) _
              have ry : RowAt Z Y.heap.size [.int .i64 lo, .int .i64 hi] 23 := by rw [hZ]; exact RowAt.new _ _ _
              rw [← hZ]
              clear x0 x1 x2 x3 xf z0 z1 zf r1 hm1 hm2
              replace hI := hI.below hbZ
              replace rx := rx.below hbZ
              obtain ⟨gz, hgz⟩ : ∃ g, g = Y.heap.size := ⟨_, rfl⟩
              rw [← hgz] at ry ⊢
              clear hZ hbZ hgz
              obtain ⟨x0, x1, x2, x3, xf⟩ := cells4 rx
              obtain ⟨y0, y1, yf⟩ := cells2 ry
              by_cases hle : lo ≤ hi
              · obtain ⟨v', w6, hrun, hO2, _⟩ := appE (hI.below (below_new (Below.refl _ Z) (.cells #[.int .i64 lo, .int .i64 hi, .int .u8 xk, .int .i64 xi] 49))) (litE Z ⟨lo, hi, ⟨xk, xi⟩⟩ 49) (by have := HTK.out; simp; omega)
                have HV : Hid (OwnE X w6 v' (cutL (l.take (k + 1)) (ta, tb))) := by show OwnE _ _ _ _; rw [HA1.out (by omega)]; exact hO2
                clear HA1 HA2 hI hO2 HTK rx ry
                go_wp2_with fail
                go_roundw
                case rel => exact ⟨k + 1, by omega, by go_num, HV⟩
                case measure => simp [Go.RowKit.intOf]; omega
              · have HV : Hid (OwnE X Z u8 (cutL (l.take (k + 1)) (ta, tb))) := by show OwnE _ _ _ _; rw [HA2.out (by omega)]; exact hI
                clear HA1 HA2 hI HTK rx ry
                go_wp2_with fail
                go_roundw
                case rel => exact ⟨k + 1, by omega, by go_num, HV⟩
                case measure => simp [Go.RowKit.intOf]; omega
            · have hkn : decide ((k : Int) < (n : Int)) = false := decide_eq_false (by omega)
              have hte : l.take k = l := by have := HN.out; exact List.take_of_length_le (by omega)
              have HI2 : Hid (OwnE X wr u8 (cutL l (ta, tb))) := by rw [hte] at HI; exact HI.out
              clear HI hI hte hh
              go_wp2_with fail
              go_ret2
              exact ⟨_, cutL l (ta, tb), _, rfl, HI2.out.has, below2 hB3 HI2.out.bl, HV.out⟩
end Go.Proofs.Ytmkbijnndbgjgaa.Ln
namespace Go.Proofs.Ytmkbijnndbgjgaa.Ln
open Go.RowKit
open Go.Proofs.Ytmkbijnndbgjgaa.Iv (Iv okI okI_iff toS ofS okS_to map_of_to)
open Go.Proofs.Ytmkbijnndbgjgaa.Sp (Sp Row inB inB_iff okS)
/-- an era of a line of Booleans -/
structure Eb where
  a : Int
  b : Int
  h : Bool
/-- a piece of both lines -/
structure Tg where
  lo : Int
  hi : Int
  u : Vd
  v : Vd
def putB (l : List Eb) (a b : Int) (h : Bool) : List Eb :=
  match l.reverse with
  | [] => [⟨a, b, h⟩]
  | x :: r => if (x.h == h) = true then r.reverse ++ [⟨x.a, b, x.h⟩] else l ++ [⟨a, b, h⟩]
theorem putB_snoc (A : List Eb) (x : Eb) (a b : Int) (h : Bool) : putB (A ++ [x]) a b h = if (x.h == h) = true then A ++ [⟨x.a, b, x.h⟩] else A ++ [x] ++ [⟨a, b, h⟩] := by
  unfold putB
  rw [List.reverse_append]
  simp
theorem putB_len (l : List Eb) (a b : Int) (h : Bool) : (putB l a b h).length ≤ l.length + 1 := by
  rcases List.eq_nil_or_concat l with rfl | ⟨A, x, rfl⟩
  · simp [putB]
  · rw [List.concat_eq_append, putB_snoc]
    split <;> simp
def ivB (x : Eb) : Iv := (x.a, x.b)
def whenB (l : List Eb) : List Iv := (l.filter (fun x => x.h)).map ivB
theorem whenB_snoc (l : List Eb) (x : Eb) : whenB (l ++ [x]) = if x.h = true then whenB l ++ [ivB x] else whenB l := by
  unfold whenB
  rw [List.filter_append, List.map_append]
  cases h : x.h <;> simp [h]
theorem whenB_len (l : List Eb) : (whenB l).length ≤ l.length := by
  unfold whenB
  rw [List.length_map]
  exact List.length_filter_le _ _
/-- eras that tell D from n up to c -/
structure DI (D : Int → Bool) (n c : Int) (U : List Eb) : Prop where
  nc : n ≤ c
  lo : ∀ x ∈ U, n ≤ x.a ∧ x.a ≤ x.b ∧ x.b < c
  last : ∀ A x, U = A ++ [x] → x.b + 1 = c
  pw : U.Pairwise (fun x y => x.b < y.a ∧ (x.h = true → y.h = true → x.b + 1 < y.a))
  mem : ∀ t, (∃ x ∈ U, x.h = true ∧ x.a ≤ t ∧ t ≤ x.b) ↔ n ≤ t ∧ t < c ∧ D t = true
theorem di_start (D : Int → Bool) (n : Int) : DI D n n [] := ⟨by omega, fun x hx => by simp at hx, fun A x h => by simp at h, List.Pairwise.nil, fun t => ⟨fun ⟨x, hx, _⟩ => by simp at hx, fun h => by omega⟩⟩
theorem snoc_inj {A B : List Eb} {x y : Eb} (h : A ++ [x] = B ++ [y]) : A = B ∧ x = y := by
  have := List.append_inj' h rfl
  exact ⟨this.1, by simpa using this.2⟩
theorem di_step {D : Int → Bool} {n c e : Int} {U : List Eb} {h : Bool} (hI : DI D n c U) (hc : c ≤ e) (hD : ∀ t, c ≤ t → t ≤ e → D t = h) : DI D n (e + 1) (putB U c e h) := by
  obtain ⟨h1, h2, h3, h4, h5⟩ := hI
  have hmem : ∀ t, (n ≤ t ∧ t < e + 1 ∧ D t = true) ↔ (n ≤ t ∧ t < c ∧ D t = true) ∨ (h = true ∧ c ≤ t ∧ t ≤ e) := fun t => by
    constructor
    · intro ⟨a1, a2, a3⟩
      by_cases ht : t < c
      · exact .inl ⟨a1, ht, a3⟩
      · exact .inr ⟨by rw [← hD t (by omega) (by omega)]; exact a3, by omega, by omega⟩
    · rintro (⟨a1, a2, a3⟩ | ⟨a1, a2, a3⟩)
      · exact ⟨a1, by omega, a3⟩
      · exact ⟨by omega, by omega, by rw [hD t a2 a3]; exact a1⟩
  rcases List.eq_nil_or_concat U with rfl | ⟨A, x, rfl⟩
  · show DI D n (e + 1) [⟨c, e, h⟩]
    refine ⟨by omega, fun x hx => ?_, fun A x hA => ?_, List.pairwise_singleton _ _, fun t => ?_⟩
    · rw [List.mem_singleton.1 hx]; exact ⟨h1, hc, by show e < e + 1; omega⟩
    · have := snoc_inj (A := []) hA
      rw [← this.2]
    · rw [hmem, ← h5]
      simp
  · rw [List.concat_eq_append] at h2 h3 h4 h5 ⊢
    rw [putB_snoc]
    have hxl := h3 A x rfl
    have hx := h2 x (by simp)
    have hpw := List.pairwise_append.1 h4
    by_cases hh : (x.h == h) = true
    · rw [if_pos hh]
      have hh2 : x.h = h := by simpa using hh
      refine ⟨by omega, fun y hy => ?_, fun B y hB => ?_, ?_, fun t => ?_⟩
      · rcases List.mem_append.1 hy with hy | hy
        · have := h2 y (by simp [hy]); exact ⟨this.1, this.2.1, by omega⟩
        · rw [List.mem_singleton.1 hy]; exact ⟨hx.1, by show x.a ≤ e; omega, by show e < e + 1; omega⟩
      · rw [← (snoc_inj hB).2]
      · refine List.pairwise_append.2 ⟨hpw.1, List.pairwise_singleton _ _, fun y hy z hz => ?_⟩
        rw [List.mem_singleton.1 hz]
        exact hpw.2.2 y hy x (by simp)
      · rw [hmem, ← h5]
        constructor
        · rintro ⟨y, hy, b1, b2, b3⟩
          rcases List.mem_append.1 hy with hy | hy
          · exact .inl ⟨y, by simp [hy], b1, b2, b3⟩
          · rw [List.mem_singleton.1 hy] at b1 b2 b3
            simp only at b1 b2 b3
            by_cases ht : t ≤ x.b
            · exact .inl ⟨x, by simp, b1, b2, ht⟩
            · exact .inr ⟨by rw [← hh2]; exact b1, by omega, b3⟩
        · rintro (⟨y, hy, b1, b2, b3⟩ | ⟨b1, b2, b3⟩)
          · rcases List.mem_append.1 hy with hy | hy
            · exact ⟨y, by simp [hy], b1, b2, b3⟩
            · rw [List.mem_singleton.1 hy] at b1 b2 b3
              exact ⟨⟨x.a, e, x.h⟩, by simp, b1, b2, by show t ≤ e; omega⟩
          · exact ⟨⟨x.a, e, x.h⟩, by simp, by show x.h = true; rw [hh2]; exact b1, by show x.a ≤ t; omega, b3⟩
    · rw [if_neg hh]
      have hh2 : ¬ x.h = h := by simpa using hh
      refine ⟨by omega, fun y hy => ?_, fun B y hB => ?_, ?_, fun t => ?_⟩
      · rcases List.mem_append.1 hy with hy | hy
        · have := h2 y hy; exact ⟨this.1, this.2.1, by omega⟩
        · rw [List.mem_singleton.1 hy]; exact ⟨by show n ≤ c; omega, hc, by show e < e + 1; omega⟩
      · rw [← (snoc_inj hB).2]
      · refine List.pairwise_append.2 ⟨h4, List.pairwise_singleton _ _, fun y hy z hz => ?_⟩
        rw [List.mem_singleton.1 hz]
        have hy2 := h2 y hy
        refine ⟨by show y.b < c; omega, fun e1 e2 => ?_⟩
        rcases List.mem_append.1 hy with hy | hy
        · have := (hpw.2.2 y hy x (by simp)).1
          show y.b + 1 < c
          omega
        · rw [List.mem_singleton.1 hy] at e1
          exact absurd (show x.h = h by rw [e1]; exact e2.symm) hh2
      · rw [hmem, ← h5]
        constructor
        · rintro ⟨y, hy, b1, b2, b3⟩
          rcases List.mem_append.1 hy with hy | hy
          · exact .inl ⟨y, hy, b1, b2, b3⟩
          · rw [List.mem_singleton.1 hy] at b1 b2 b3
            exact .inr ⟨b1, b2, b3⟩
        · rintro (⟨y, hy, b1, b2, b3⟩ | ⟨b1, b2, b3⟩)
          · exact ⟨y, List.mem_append.2 (.inl hy), b1, b2, b3⟩
          · exact ⟨⟨c, e, h⟩, by simp, b1, b2, b3⟩
theorem di_row {D : Int → Bool} {n c : Int} {U : List Eb} (hI : DI D n c U) (h0 : 0 ≤ n) (h1 : c ≤ 1099511627777) : (whenB U).all okI = true ∧ Row true ((whenB U).map toS) ∧ ∀ t : Nat, inB ((whenB U).map toS) t = true ↔ n ≤ (t : Int) ∧ (t : Int) < c ∧ D t = true := by
  have hall : (whenB U).all okI = true := by
    refine List.all_eq_true.2 fun y hy => ?_
    unfold whenB at hy
    obtain ⟨x, hx, rfl⟩ := List.mem_map.1 hy
    have := hI.lo x (List.mem_filter.1 hx).1
    exact okI_iff.2 ⟨by show 0 ≤ x.a; omega, this.2.1, by show x.b ≤ _; omega⟩
  refine ⟨hall, ⟨fun s hs => ?_, ?_⟩, fun t => ?_⟩
  · obtain ⟨x, hx, rfl⟩ := List.mem_map.1 hs
    exact okS_to (List.all_eq_true.1 hall x hx)
  · unfold whenB
    rw [List.map_map, List.pairwise_map]
    refine List.Pairwise.imp_of_mem ?_ (hI.pw.filter _)
    intro x y hx hy hxy
    have a1 := hI.lo x (List.mem_filter.1 hx).1
    have a2 := hI.lo y (List.mem_filter.1 hy).1
    have := hxy.2 (by simpa using (List.mem_filter.1 hx).2) (by simpa using (List.mem_filter.1 hy).2)
    show x.b.toNat + 1 < y.a.toNat
    omega
  · rw [← hI.mem t, inB_iff]
    unfold whenB
    constructor
    · rintro ⟨s, hs, b1, b2⟩
      obtain ⟨i, hi, rfl⟩ := List.mem_map.1 hs
      obtain ⟨x, hx, rfl⟩ := List.mem_map.1 hi
      have := hI.lo x (List.mem_filter.1 hx).1
      have b1' : x.a.toNat ≤ t := b1
      have b2' : t ≤ x.b.toNat := b2
      exact ⟨x, (List.mem_filter.1 hx).1, by simpa using (List.mem_filter.1 hx).2, by omega, by omega⟩
    · rintro ⟨x, hx, b1, b2, b3⟩
      have := hI.lo x hx
      refine ⟨toS (ivB x), List.mem_map.2 ⟨ivB x, List.mem_map.2 ⟨x, List.mem_filter.2 ⟨hx, b1⟩, rfl⟩, rfl⟩, ?_, ?_⟩
      · show x.a.toNat ≤ t; omega
      · show t ≤ x.b.toNat; omega
/-- the pieces in which neither line turns -/
def togF : Nat → List Er → List Er → List Tg
  | n + 1, x :: a, y :: b => ⟨max x.a y.a, min x.b y.b, x.v, y.v⟩ :: togF n (if x.b ≤ y.b then a else x :: a) (if y.b ≤ x.b then b else y :: b)
  | _, _, _ => []
def togL (a b : List Er) : List Tg := togF (a.length + b.length) a b
theorem togF_nil1 (n : Nat) (b : List Er) : togF n [] b = [] := by cases n <;> rfl
theorem togF_nil2 (n : Nat) (a : List Er) : togF n a [] = [] := by cases n <;> cases a <;> rfl
theorem togF_cons (n : Nat) (x y : Er) (a b : List Er) : togF (n + 1) (x :: a) (y :: b) = ⟨max x.a y.a, min x.b y.b, x.v, y.v⟩ :: togF n (if x.b ≤ y.b then a else x :: a) (if y.b ≤ x.b then b else y :: b) := rfl
theorem tog_less (x y : Er) (a b : List Er) : (if x.b ≤ y.b then a else x :: a).length + (if y.b ≤ x.b then b else y :: b).length < (x :: a).length + (y :: b).length := by
  by_cases h : x.b ≤ y.b <;> by_cases h2 : y.b ≤ x.b <;> simp [h, h2] <;> omega
theorem togF_more : ∀ (n m : Nat) (a b : List Er), a.length + b.length ≤ n → a.length + b.length ≤ m → togF n a b = togF m a b := by
  intro n
  induction n with
  | zero =>
    intro m a b h _
    have h1 : a = [] := List.eq_nil_of_length_eq_zero (by omega)
    subst h1
    rw [togF_nil1, togF_nil1]
  | succ n ih =>
    intro m a b h h2
    cases a with
    | nil => rw [togF_nil1, togF_nil1]
    | cons x a =>
      cases b with
      | nil => rw [togF_nil2, togF_nil2]
      | cons y b =>
        cases m with
        | zero => simp at h2
        | succ m =>
          have hl := tog_less x y a b
          rw [togF_cons, togF_cons, ih m _ _ (by omega) (by omega)]
theorem tog_nil1 (b : List Er) : togL [] b = [] := togF_nil1 _ b
theorem tog_nil2 (a : List Er) : togL a [] = [] := togF_nil2 _ a
theorem tog_cons (x y : Er) (a b : List Er) : togL (x :: a) (y :: b) = ⟨max x.a y.a, min x.b y.b, x.v, y.v⟩ :: togL (if x.b ≤ y.b then a else x :: a) (if y.b ≤ x.b then b else y :: b) := by
  have hl := tog_less x y a b
  unfold togL
  rw [show (x :: a).length + (y :: b).length = ((x :: a).length + b.length) + 1 by rw [List.length_cons, List.length_cons]; omega, togF_cons]
  rw [togF_more ((x :: a).length + b.length) _ _ _ (by simp only [List.length_cons] at hl ⊢; omega) (Nat.le_refl _)]
theorem tog_len : ∀ (n : Nat) (a b : List Er), a.length + b.length ≤ n → (togL a b).length ≤ n := by
  intro n
  induction n with
  | zero =>
    intro a b h
    have : a = [] := List.eq_nil_of_length_eq_zero (by omega)
    subst this
    rw [tog_nil1]; simp
  | succ n ih =>
    intro a b h
    cases a with
    | nil => rw [tog_nil1]; simp
    | cons x a =>
      cases b with
      | nil => rw [tog_nil2]; simp
      | cons y b =>
        rw [tog_cons, List.length_cons]
        simp only [List.length_cons] at h
        have := ih (if x.b ≤ y.b then a else x :: a) (if y.b ≤ x.b then b else y :: b) (by by_cases h1 : x.b ≤ y.b <;> by_cases h2 : y.b ≤ x.b <;> simp [h1, h2] <;> omega)
        omega
def foldT (U : List Eb) (l : List Tg) : List Eb := l.foldl (fun U t => putB U t.lo t.hi (!eqV t.u t.v)) U
theorem foldT_snoc (U : List Eb) (l : List Tg) (t : Tg) : foldT U (l ++ [t]) = putB (foldT U l) t.lo t.hi (!eqV t.u t.v) := by unfold foldT; rw [List.foldl_append]; rfl
theorem foldT_len (l : List Tg) : ∀ U, (foldT U l).length ≤ U.length + l.length := by
  induction l with
  | nil => intro U; exact Nat.le_refl _
  | cons t l ih =>
    intro U
    have h1 := ih (putB U t.lo t.hi (!eqV t.u t.v))
    have h2 := putB_len U t.lo t.hi (!eqV t.u t.v)
    show (foldT (putB U t.lo t.hi (!eqV t.u t.v)) l).length ≤ _
    rw [List.length_cons]
    omega
/-- eras that cover the times from c on -/
def Cov (e c : Int) : List Er → Prop
  | [] => c = e + 1
  | x :: l => x.a ≤ c ∧ c ≤ x.b ∧ x.b ≤ e ∧ goE e (some x.v) (x.b + 1) l = some (e + 1)
theorem cov_next {e : Int} {x : Er} {l : List Er} (h : goE e (some x.v) (x.b + 1) l = some (e + 1)) : Cov e (x.b + 1) l := by
  cases l with
  | nil => simpa [goE, Cov] using h
  | cons y l =>
    simp only [goE] at h
    split at h
    · rename_i hs
      simp only [stepB, Bool.and_eq_true, decide_eq_true_eq] at hs
      exact ⟨by omega, by omega, hs.2.2.1, h⟩
    · cases h
theorem cov_start {w : Iv} {l : List Er} (h : okL w l = true) : Cov w.2 w.1 l := by
  obtain ⟨hw, _, _, hg⟩ := okL_go h
  have h0 := okI_iff.1 hw
  cases l with
  | nil => simpa [goE, Cov] using hg
  | cons y l =>
    simp only [goE] at hg
    split at hg
    · rename_i hs
      simp only [stepB, Bool.and_eq_true, decide_eq_true_eq] at hs
      exact ⟨by omega, by omega, hs.2.2.1, hg⟩
    · cases hg
theorem hold_in {x : Er} {l : List Er} {t : Int} (h : x.a ≤ t ∧ t ≤ x.b) : holdL (x :: l) t = x.v := by
  unfold holdL
  rw [List.find?_cons_of_pos (inT_iff.2 h)]
theorem hold_off {x : Er} {l : List Er} {t : Int} (h : x.b < t) : holdL (x :: l) t = holdL l t := by
  unfold holdL
  rw [List.find?_cons_of_neg (fun h2 => by have := inT_iff.1 h2; omega)]
theorem tog_di {D : Int → Bool} {n e : Int} : ∀ (k : Nat) (a b : List Er) (c : Int) (U : List Eb), a.length + b.length ≤ k → c ≤ e + 1 → Cov e c a → Cov e c b → (∀ x y a' b', a = x :: a' → b = y :: b' → max x.a y.a = c) → DI D n c U → (∀ t, c ≤ t → t ≤ e → D t = !eqV (holdL a t) (holdL b t)) → DI D n (e + 1) (foldT U (togL a b)) := by
  intro k
  induction k with
  | zero =>
    intro a b c U hk hce ha hb hm hI hD
    have h1 : a = [] := List.eq_nil_of_length_eq_zero (by omega)
    subst h1
    rw [tog_nil1]
    have : c = e + 1 := ha
    subst this
    exact hI
  | succ k ih =>
    intro a b c U hk hce ha hb hm hI hD
    cases a with
    | nil =>
      rw [tog_nil1]
      have : c = e + 1 := ha
      subst this
      exact hI
    | cons x a =>
      cases b with
      | nil =>
        rw [tog_nil2]
        have : c = e + 1 := hb
        subst this
        exact hI
      | cons y b =>
        obtain ⟨p1, p2, p3, p4⟩ := ha
        obtain ⟨q1, q2, q3, q4⟩ := hb
        have hmx := hm x y a b rfl rfl
        rw [tog_cons, hmx]
        have hi1 : DI D n (min x.b y.b + 1) (putB U c (min x.b y.b) (!eqV x.v y.v)) := di_step hI (by omega) (fun t h1 h2 => by rw [hD t h1 (by omega), hold_in ⟨by omega, by omega⟩, hold_in ⟨by omega, by omega⟩])
        show DI D n (e + 1) (foldT (putB U c (min x.b y.b) (!eqV x.v y.v)) _)
        simp only [List.length_cons] at hk
        have hca : Cov e (min x.b y.b + 1) (if x.b ≤ y.b then a else x :: a) := by
          by_cases h : x.b ≤ y.b
          · rw [if_pos h, Int.min_eq_left h]; exact cov_next p4
          · rw [if_neg h]; exact ⟨by omega, by omega, p3, p4⟩
        have hcb : Cov e (min x.b y.b + 1) (if y.b ≤ x.b then b else y :: b) := by
          by_cases h : y.b ≤ x.b
          · rw [if_pos h, Int.min_eq_right h]; exact cov_next q4
          · rw [if_neg h]; exact ⟨by omega, by omega, q3, q4⟩
        have hha : ∀ t, min x.b y.b + 1 ≤ t → holdL (if x.b ≤ y.b then a else x :: a) t = holdL (x :: a) t := fun t ht => by
          by_cases h : x.b ≤ y.b
          · rw [if_pos h, hold_off (by omega)]
          · rw [if_neg h]
        have hhb : ∀ t, min x.b y.b + 1 ≤ t → holdL (if y.b ≤ x.b then b else y :: b) t = holdL (y :: b) t := fun t ht => by
          by_cases h : y.b ≤ x.b
          · rw [if_pos h, hold_off (by omega)]
          · rw [if_neg h]
        refine ih _ _ _ _ ?_ (by omega) hca hcb ?_ hi1 (fun t h1 h2 => ?_)
        · by_cases h1 : x.b ≤ y.b <;> by_cases h2 : y.b ≤ x.b <;> simp [h1, h2] <;> omega
        · intro x' y' a' b' e1 e2
          have starts : ∀ (z : Er) (l : List Er) (z' : Er) (l' : List Er), goE e (some z.v) (z.b + 1) l = some (e + 1) → l = z' :: l' → z'.a = z.b + 1 := fun z l z' l' hg hl => by
            subst hl
            simp only [goE] at hg
            split at hg
            · rename_i hs
              simp only [stepB, Bool.and_eq_true, decide_eq_true_eq] at hs
              exact hs.1
            · cases hg
          by_cases h : x.b ≤ y.b
          · rw [if_pos h] at e1
            have s1 := starts x a x' a' p4 e1
            by_cases h2 : y.b ≤ x.b
            · rw [if_pos h2] at e2
              have s2 := starts y b y' b' q4 e2
              omega
            · rw [if_neg h2] at e2
              injection e2 with e2 e3
              subst e2
              omega
          · rw [if_neg h] at e1
            rw [if_pos (by omega)] at e2
            have s2 := starts y b y' b' q4 e2
            injection e1 with e1 e3
            subst e1
            omega
        · rw [hha t h1, hhb t h1]
          exact hD t (by omega) h2
def difD (a b : List Er) (t : Int) : Bool := !eqV (holdL a t) (holdL b t)
theorem tog_all {w : Iv} {a b : List Er} (ha : okL w a = true) (hb : okL w b = true) : DI (difD a b) w.1 (w.2 + 1) (foldT [] (togL a b)) := by
  have h0 := okI_iff.1 (okL_go ha).1
  refine tog_di (a.length + b.length) a b w.1 [] (Nat.le_refl _) (by omega) (cov_start ha) (cov_start hb) ?_ (di_start _ _) (fun t _ _ => rfl)
  intro x y a' b' e1 e2
  have starts : ∀ (l : List Er) (z : Er) (l' : List Er), okL w l = true → l = z :: l' → z.a = w.1 := fun l z l' hl e => by
    subst e
    have hg := (okL_go hl).2.2.2
    simp only [goE] at hg
    split at hg
    · rename_i hs
      simp only [stepB, Bool.and_eq_true, decide_eq_true_eq] at hs
      exact hs.1
    · cases hg
  have s1 := starts a x a' ha e1
  have s2 := starts b y b' hb e2
  omega
/-- where they differ, and the error -/
def difL (a b : List Er) : List Iv := whenB (foldT [] (togL a b))
def difE (w : Iv) (a b : List Er) : List Iv × Int := if (okL w a && okL w b) = true then (if (difL a b).length ≤ 1024 then (difL a b, 0) else ([], 11)) else ([], 2)
end Go.Proofs.Ytmkbijnndbgjgaa.Ln
namespace Go.Proofs.Ytmkbijnndbgjgaa.Ln
open Go.RowKit Go.Shelf
open Go.Proofs.Ytmkbijnndbgjgaa.Iv (Iv FitT FitI okI okI_iff ivV OwnI)
open Go.Proofs.Ytmkbijnndbgjgaa.Lk (HasRow HasRow.keep HasRow.at hasRow_own addr_add)
open Go.Proofs.Ytmkbijnndbgjgaa.Sp (own_below row_ne info_parts)
open Go.Proofs.Ytmkbijnndbgjgaa.Addr (Bl bl_ne wp_region_bl bl_call RowAt below2 below_drew below_new bset RowAt.lt RowAt.cell RowAt.frozen RowAt.below RowAt.drew RowAt.new RowAt.alloc RowAt.gkeep cells2 cells4)
attribute [-go_sem] Builtin.append_
def cB (x : Eb) : List Value := [.int .i64 x.a, .int .i64 x.b, .bool x.h]
def csB (l : List Eb) : List Value := l.flatMap cB
theorem csB_len (l : List Eb) : (csB l).length = l.length * 3 := by
  induction l with
  | nil => rfl
  | cons s l ih =>
    show (cB s ++ csB l).length = _
    rw [List.length_append, ih, List.length_cons]
    show 3 + _ = _
    omega
theorem csB_app (a b : List Eb) : csB (a ++ b) = csB a ++ csB b := by unfold csB; rw [List.flatMap_append]
theorem csB_one (x : Eb) : csB [x] = cB x := by simp [csB]
theorem one_csB (l : List Eb) : ∀ x ∈ csB l, x.oneCell' = true := by
  intro x hx
  obtain ⟨p, _, h⟩ := List.mem_flatMap.1 hx
  simp only [cB, List.mem_cons, List.not_mem_nil, or_false] at h
  rcases h with rfl | rfl | rfl <;> rfl
def HasB (W : World) (v : Value) (l : List Eb) : Prop := HasRow W v 3 l.length (csB l)
theorem HasB.keep {W W' : World} {v : Value} {l : List Eb} (h : HasB W v l) (hb : Below W.heap.size W W') : HasB W' v l := HasRow.keep h hb
theorem hasB_nil (W : World) : HasB W (.slice none 0 0) [] := Lk.hasRow_nil W 3
theorem csB_at (l : List Eb) : ∀ j (h : j < l.length), (csB l)[3 * j]? = some (.int .i64 l[j].a) ∧ (csB l)[3 * j + 1]? = some (.int .i64 l[j].b) ∧ (csB l)[3 * j + 2]? = some (.bool l[j].h) := by
  induction l with
  | nil => intro j h; simp at h
  | cons p ps ih =>
    intro j h
    cases j with
    | zero => exact ⟨rfl, rfl, rfl⟩
    | succ j =>
      have := ih j (by simpa using h)
      rw [show csB (p :: ps) = .int .i64 p.a :: .int .i64 p.b :: .bool p.h :: csB ps from rfl, show 3 * (j + 1) = 3 * j + 1 + 1 + 1 by omega]
      rw [show 3 * j + 1 + 1 + 1 + 1 = (3 * j + 1) + 1 + 1 + 1 by omega, show 3 * j + 1 + 1 + 1 + 2 = (3 * j + 2) + 1 + 1 + 1 by omega]
      simp only [List.getElem?_cons_succ, List.getElem_cons_succ]
      exact this
theorem HasB.cell {W : World} {o : Option Addr} {m cap : Nat} {l : List Eb} (h : HasB W (.slice o m cap) l) (j : Nat) (hj : j < l.length) : ∃ b i, o = some ⟨b, i, none⟩ ∧ b < W.heap.size ∧ W.cell? ⟨b, i + j * 3, none⟩ = some (.int .i64 l[j].a) ∧ W.cell? ⟨b, i + j * 3 + 1, none⟩ = some (.int .i64 l[j].b) ∧ W.cell? ⟨b, i + j * 3 + 2, none⟩ = some (.bool l[j].h) := by
  obtain ⟨_, b, i, e, hb, hc⟩ := HasRow.at h (by omega)
  have h2 := csB_at l j hj
  exact ⟨b, i, e, hb, by rw [hc (j * 3) (by omega), Nat.mul_comm]; exact h2.1, by rw [Nat.add_assoc, hc (j * 3 + 1) (by omega), Nat.mul_comm]; exact h2.2.1, by rw [Nat.add_assoc, hc (j * 3 + 2) (by omega), Nat.mul_comm]; exact h2.2.2⟩
/-- a row that the call made, all of it in new memory -/
structure OwnB (w W : World) (u : Value) (a : List Eb) : Prop where
  ou : W.ownsRow w.heap.size 111 3 u a.length (csB a)
  bl : Below w.heap.size w W
theorem OwnB.below {w W W' : World} {u : Value} {a : List Eb} (h : OwnB w W u a) (hb : Below W.heap.size W W') : OwnB w W' u a := ⟨own_below h.ou hb, below2 h.bl hb⟩
theorem OwnB.has {w W : World} {u : Value} {a : List Eb} (h : OwnB w W u a) : HasB W u a := hasRow_own h.ou
theorem OwnB.nil (w : World) : OwnB w w (.slice none 0 0) [] := ⟨World.ownsRow_nil _ _ _ _, Below.refl _ _⟩
theorem OwnB.to {w w1 W : World} {u : Value} {a : List Eb} (h : OwnB w1 W u a) (hb : Below w.heap.size w w1) : OwnB w W u a := by
  refine ⟨⟨h.ou.1, ?_⟩, below2 hb h.bl⟩
  rcases h.ou.2 with h0 | ⟨g, cap, cur, e1, hg, rest⟩
  · exact .inl h0
  · exact .inr ⟨g, cap, cur, e1, Nat.le_trans hb.size hg, rest⟩
theorem litB (W : World) (x : Eb) (e : Nat) : HasB (W.alloc (.cells #[.int .i64 x.a, .int .i64 x.b, .bool x.h] e)) (.slice (some ⟨W.heap.size, 0, none⟩) 1 1) [x] := by
  refine ⟨rfl, .inr ⟨⟨W.heap.size, 0, none⟩, 1, rfl, Nat.le_refl _, by decide, fun _ => ⟨rfl, by simp⟩, fun j hj => ?_⟩⟩
  rw [addr_add, Nat.zero_add]
  exact (RowAt.new W (cB x) e).cell j
theorem infoB : (Try.prog.info? 111).map (fun i => (i.zero, i.size, i.bytes)) = some (some (.agg #[.int .i64 0, .int .i64 0, .bool false]), 3, 24) := by kernel_rfl
theorem appB {w W : World} {v u : Value} {m news : List Eb} (h : OwnB w W v m) (hu : HasB W u news) (hl : m.length + news.length ≤ 1000000) :
    ∃ v' w3, (∀ ty, (Builtin.append_ #[76, 76] ty #[v, u]).run Try.prog W = .ok v' w3) ∧ OwnB w w3 v' (m ++ news) ∧ (∀ t cs e, RowAt W t cs e → e ≠ 111 → RowAt w3 t cs e) := by
  obtain ⟨v', w3, hrun, ho, hg⟩ := Lk.append_row infoB Try.underlying76 rfl (by decide) h.ou hu (one_csB news) (by omega) (by omega) h.bl.size
  rw [← csB_app, ← List.length_append] at ho
  refine ⟨v', w3, hrun, ⟨ho, h.bl.grown hg h.bl.size (fun k e => (h.ou.lt k e).1)⟩, fun t cs e hr he => RowAt.gkeep hr hg (fun hb => he ?_)⟩
  rcases h.ou.2 with ⟨e0, _⟩ | ⟨g, cap, cur, e1, hgb, hgc, _⟩
  · rw [e0] at hb; cases hb
  · rw [e1] at hb
    injection hb with hb
    subst hb
    have h3 : W.heap[t]? = some (.cells cs.toArray e (0, 0)) := hr
    rw [hgc] at h3
    injection h3 with h3
    injection h3 with h4 h5
    exact h5.symm
theorem appBB {w W : World} {v u : Value} {m news : List Eb} (h : OwnB w W v m) (hu : HasB W u news) (hl : (m.length + news.length) * 24 ≤ 140737488355328) :
    ∃ v' w3, (∀ ty, (Builtin.append_ #[76, 76] ty #[v, u]).run Try.prog W = .ok v' w3) ∧ OwnB w w3 v' (m ++ news) ∧ (∀ t cs e, RowAt W t cs e → e ≠ 111 → RowAt w3 t cs e) := by
  obtain ⟨v', w3, hrun, ho, hg⟩ := Lk.append_row infoB Try.underlying76 rfl (by decide) h.ou hu (one_csB news) (by omega) (by omega) h.bl.size
  rw [← csB_app, ← List.length_append] at ho
  refine ⟨v', w3, hrun, ⟨ho, h.bl.grown hg h.bl.size (fun k e => (h.ou.lt k e).1)⟩, fun t cs e hr he => RowAt.gkeep hr hg (fun hb => he ?_)⟩
  rcases h.ou.2 with ⟨e0, _⟩ | ⟨g, cap, cur, e1, hgb, hgc, _⟩
  · rw [e0] at hb; cases hb
  · rw [e1] at hb
    injection hb with hb
    subst hb
    have h3 : W.heap[t]? = some (.cells cs.toArray e (0, 0)) := hr
    rw [hgc] at h3
    injection h3 with h3
    injection h3 with h4 h5
    exact h5.symm
theorem makeB (w : World) (n : Nat) (h : n ≤ 1000000) : ∃ w1, (∀ kl kc : IntKind, (Instr.makeSlice 76 (.int kl 0) (.int kc (n : Int))).run Try.prog w = .ok (.slice (some ⟨w.heap.size, 0, none⟩) 0 n) w1) ∧ OwnB w w1 (.slice (some ⟨w.heap.size, 0, none⟩) 0 n) [] := by
  obtain ⟨i0, hi, hz0, hz1, hz2⟩ := Sp.info_parts infoB
  obtain ⟨C, hC⟩ : ∃ C, C = madeCells ((.agg #[.int .i64 0, .int .i64 0, .bool false] : Value)).cells (n * 3) := ⟨_, rfl⟩
  have hs : C.size = n * 3 := by rw [hC]; simp [madeCells]
  refine ⟨w.alloc (.cells C 111), fun kl kc => ?_, ?_, below_new (Below.refl _ _) _⟩
  · have hr := run_make (P := Try.prog) w 76 111 i0 (.agg #[.int .i64 0, .int .i64 0, .bool false]) Try.underlying76 hi hz0 kl kc 0 n (by omega) (by omega) (by rw [hz2]; omega) (by omega)
    rw [hr, hz1, Int.toNat_natCast, hC]
    rfl
  · exact World.ownsRow_made w C n (Nat.le_refl _) (by unfold maxLen; omega) hs
theorem cells3b {W : World} {b : Nat} {x y z : Value} {t : TypeId} (h : RowAt W b [x, y, z] t) : W.cell? ⟨b, 0, none⟩ = some x ∧ W.cell? ⟨b, 1, none⟩ = some y ∧ W.cell? ⟨b, 2, none⟩ = some z ∧ ∀ k, W.frozen? ⟨b, k, none⟩ = false := ⟨h.cell 0, h.cell 1, h.cell 2, h.frozen⟩
theorem app_inB {W : World} {m : Nat} {u : Value} {a : List Eb} (h : W.ownsRow m 111 3 u a.length (csB a)) (x : Eb) (hb : a.length ≤ 1000000) (hm : m ≤ W.heap.size) :
    ∃ g cap w3, (∀ ty, (Builtin.append_ #[76, 76] ty #[u, .slice (some ⟨W.heap.size, 0, none⟩) 1 1]).run Try.prog (W.alloc (.cells #[.int .i64 x.a, .int .i64 x.b, .bool x.h] 111)) = .ok (.slice (some ⟨g, 0, none⟩) (a.length + 1) cap) w3) ∧ w3.ownsRow m 111 3 (.slice (some ⟨g, 0, none⟩) (a.length + 1) cap) (a ++ [x]).length (csB (a ++ [x])) ∧ (W.alloc (.cells #[.int .i64 x.a, .int .i64 x.b, .bool x.h] 111)).grownBy w3 u.ownBlock ∧ (u.ownBlock = some g ∨ W.heap.size ≤ g) ∧ g < w3.heap.size := by
  obtain ⟨i0, hi0, hz0, hz1, hz2⟩ := info_parts infoB
  have hx := litB W x 111
  have hk := own_below h (below_new (Below.refl _ W) (.cells #[.int .i64 x.a, .int .i64 x.b, .bool x.h] 111))
  have hsz : m ≤ (W.alloc (.cells #[.int .i64 x.a, .int .i64 x.b, .bool x.h] 111)).heap.size := by simp; omega
  have hsz2 : W.heap.size ≤ (W.alloc (.cells #[.int .i64 x.a, .int .i64 x.b, .bool x.h] 111)).heap.size := by simp
  obtain ⟨V, hV⟩ : ∃ V, V = W.alloc (.cells #[.int .i64 x.a, .int .i64 x.b, .bool x.h] 111) := ⟨_, rfl⟩
  rw [← hV] at hx hk hsz hsz2 ⊢
  generalize W.heap.size = b at *
  rcases hx.2 with ⟨h0, _⟩ | ⟨a0, cap, e0, g1, g2, g3, g4⟩
  · cases h0
  · injection e0 with e1 e2 e3
    injection e1 with e1
    subst e1 e3
    have hh := fun ty => run_append_lies (P := Try.prog) (w := V) 76 ty m 111 i0 (.agg #[.int .i64 0, .int .i64 0, .bool false]) 3 24 Try.underlying76 hi0 hz0 hz1 hz2 rfl (by decide) u a.length (csB a) hk ⟨b, 0, none⟩ 1 1 (csB [x]) hx.1
      (fun j y hj => by rw [g4 j (by have := hx.1; rw [← this]; exact (List.getElem?_eq_some_iff.1 hj).1)]; exact hj) (one_csB [x]) (by decide) (by unfold maxLen; omega) (by omega) hsz V.heap.size rfl
    obtain ⟨g, c2, w3, hrun, k1, k2, k3, k4⟩ := hh 0
    rw [← csB_app] at k1
    refine ⟨g, c2, w3, fun ty => hrun, by rw [List.length_append]; exact k1, k2, ?_, k4⟩
    rcases k3 with k3 | k3
    · exact .inl k3
    · exact .inr (by omega)
/-- what put leaves: the row, all else as it was -/
def PutB (m : Nat) (W : World) (u : Value) (l : List Eb) (e : Ending) (w' : World) : Prop := ∃ u', e = .returned u' ∧ w'.ownsRow m 111 3 u' l.length (csB l) ∧ W.grownBy w' u.ownBlock ∧ ∃ g, u'.ownBlock = some g ∧ (u.ownBlock = some g ∨ (W.heap.size ≤ g ∧ g < w'.heap.size))
set_option maxHeartbeats 4000000 in
set_option maxRecDepth 20000 in
theorem putB_nil (m : Nat) (W : World) (u : Value) (a b : Int) (h : Bool) (ho : W.ownsRow m 111 3 u 0 []) (hm : m ≤ W.heap.size) :
    Calls Try.prog 48 #[u, .agg #[.int .i64 a, .int .i64 b], .bool h] W (PutB m W u [⟨a, b, h⟩]) := by
  obtain ⟨o, c, rfl, _, _⟩ := HasRow.slice (hasRow_own ho)
  obtain ⟨X, hX⟩ : ∃ X, X = W.alloc (.cells #[.int .i64 a, .int .i64 b] 23) := ⟨_, rfl⟩
  have hB0 : Below W.heap.size W X := by rw [hX]; exact below_new (Below.refl _ _) _
  have hGX : W.grownBy X (Value.slice o 0 c).ownBlock := by rw [hX]; exact World.grownBy_alloc _ _ _
  have r1 : RowAt X W.heap.size [.int .i64 a, .int .i64 b] 23 := by rw [hX]; exact RowAt.new _ _ _
  obtain ⟨g1, hg1⟩ : ∃ g, g = W.heap.size := ⟨_, rfl⟩
  rw [← hg1] at r1
  have ho2 := own_below ho hB0
  obtain ⟨g, cap, w3, hrun, hown3, hgrow, hg2, hg3⟩ := app_inB (a := []) ho2 ⟨a, b, h⟩ (by simp) (Nat.le_trans hm hB0.size)
  have HP : Hid (PutB m W (.slice o 0 c) [⟨a, b, h⟩] (.returned (.slice (some ⟨g, 0, none⟩) 1 cap)) w3) := by
    have hs := hgrow.size
    rw [World.size_alloc] at hs
    have := hB0.size
    refine ⟨_, rfl, hown3, (hGX.trans (World.grownBy_alloc _ _ _)).trans hgrow, g, rfl, ?_⟩
    rcases hg2 with hg2 | hg2
    · exact .inl hg2
    · exact .inr ⟨by omega, hg3⟩
  obtain ⟨y0, y1, yf⟩ := cells2 r1
  simp only [List.length_nil, Nat.zero_add] at hrun
  clear ho ho2 hown3 hgrow hg2 hg3 hGX r1 hm
  go_enter Try.func48, Try.ntmps48
  go_upto_region 1 with fail
  rw [← hX, ← hg1]
  clear hX hg1 hB0
  have hm1 : IntKind.i64.wrap (-1) = -1 := by decide
  go_wp2_with fail
  go_ret
  exact HP.out
set_option maxHeartbeats 8000000 in
set_option maxRecDepth 20000 in
theorem putB_some (m : Nat) (W : World) (u : Value) (A : List Eb) (x : Eb) (a b : Int) (h : Bool) (ho : W.ownsRow m 111 3 u (A ++ [x]).length (csB (A ++ [x]))) (hm : m ≤ W.heap.size) (hl : A.length ≤ 999999) :
    Calls Try.prog 48 #[u, .agg #[.int .i64 a, .int .i64 b], .bool h] W (PutB m W u (if (x.h == h) = true then A ++ [⟨x.a, b, x.h⟩] else A ++ [x] ++ [⟨a, b, h⟩])) := by
  have e0 : (A ++ [x]).length = A.length + 1 := by simp
  have hgn : Hid (W.ownsRow m 111 3 u (A ++ [x]).length (csB (A ++ [x]))) := ho
  rcases ho.2 with ⟨_, h0⟩ | ⟨gr, c, cur, rfl, hg5, hgb, hc5, hc6, _⟩
  · rw [e0] at h0; omega
  have hgr0 : gr < W.heap.size := (Array.getElem?_eq_some_iff.1 hgb).1
  have hc7 : c ≤ 9223372036854775807 := by unfold maxLen at hc6; exact hc6
  obtain ⟨X, hX⟩ : ∃ X, X = W.alloc (.cells #[.int .i64 a, .int .i64 b] 23) := ⟨_, rfl⟩
  have hB0 : Below W.heap.size W X := by rw [hX]; exact below_new (Below.refl _ _) _
  have hGX : W.grownBy X (some gr) := by rw [hX]; exact World.grownBy_alloc _ _ _
  have r1 : RowAt X W.heap.size [.int .i64 a, .int .i64 b] 23 := by rw [hX]; exact RowAt.new _ _ _
  obtain ⟨g1, hg1⟩ : ∃ g, g = W.heap.size := ⟨_, rfl⟩
  rw [← hg1] at r1
  have hgr : gr < X.heap.size := Nat.lt_of_lt_of_le hgr0 hB0.size
  have ho2 := own_below ho hB0
  obtain ⟨xa, xb, xh⟩ := x
  have HAP := app_inB (a := A ++ [⟨xa, xb, xh⟩]) ho2 ⟨a, b, h⟩ (by rw [e0]; omega) (Nat.le_trans hm hB0.size)
  rw [e0] at ho2 hc5 HAP ⊢
  have hst := ho2.stored (A.length * 3 + 1) (.int .i64 b)
  have hcl1 : X.cell? ⟨gr, A.length * 3 + 1, none⟩ = some (.int .i64 xb) ∧ X.cell? ⟨gr, A.length * 3 + 2, none⟩ = some (.bool xh) ∧ (∀ k, X.frozen? ⟨gr, k, none⟩ = false) := by
    have h2 := csB_at (A ++ [⟨xa, xb, xh⟩]) A.length (by simp)
    simp only [List.getElem_concat_length] at h2
    refine ⟨(ho2.cellAt (A.length * 3 + 1) (by omega)).trans (by rw [Nat.mul_comm]; exact h2.2.1), (ho2.cellAt (A.length * 3 + 2) (by omega)).trans (by rw [Nat.mul_comm]; exact h2.2.2), ho2.frozenAt⟩
  obtain ⟨s1, s2, sf⟩ := hcl1
  have HST : Hid (PutB m W (.slice (some ⟨gr, 0, none⟩) (A.length + 1) c) (A ++ [⟨xa, b, xh⟩]) (.returned (.slice (some ⟨gr, 0, none⟩) (A.length + 1) c)) (X.setCell ⟨gr, A.length * 3 + 1, none⟩ (.int .i64 b))) := by
    have e : (csB (A ++ [⟨xa, xb, xh⟩])).set (A.length * 3 + 1) (.int .i64 b) = csB (A ++ [⟨xa, b, xh⟩]) := by
      rw [csB_app, csB_app, List.set_append_right _ _ (by rw [csB_len]; omega), csB_len, csB_one, csB_one, show A.length * 3 + 1 - A.length * 3 = 1 by omega]
      rfl
    rw [e] at hst
    refine ⟨_, rfl, ?_, hGX.trans hst.2, gr, rfl, .inl rfl⟩
    have e3 : (A ++ [(⟨xa, b, xh⟩ : Eb)]).length = A.length + 1 := by simp
    rw [e3]
    exact hst.1
  obtain ⟨g, cap, w3, hrun, hown3, hgrow, hg2, hg3⟩ := HAP
  have HP : Hid (PutB m W (.slice (some ⟨gr, 0, none⟩) (A.length + 1) c) (A ++ [⟨xa, xb, xh⟩] ++ [⟨a, b, h⟩]) (.returned (.slice (some ⟨g, 0, none⟩) (A.length + 1 + 1) cap)) w3) := by
    have hs := hgrow.size
    rw [World.size_alloc] at hs
    have := hB0.size
    refine ⟨_, rfl, hown3, (hGX.trans (World.grownBy_alloc _ _ _)).trans hgrow, g, rfl, ?_⟩
    rcases hg2 with hg2 | hg2
    · exact .inl hg2
    · exact .inr ⟨by omega, hg3⟩
  obtain ⟨y0, y1, yf⟩ := cells2 r1
  simp only
  obtain ⟨n2, hn2⟩ : ∃ n2, n2 = A.length := ⟨_, rfl⟩
  rw [← hn2] at HST HP hrun s1 s2 hc5 hl ⊢
  clear ho ho2 hown3 hgrow hg2 hg3 hGX r1 hm hst hgn hgb hg5 hc6 hn2 e0
  have hni : (n2 : Int) ≤ 1000000 := by omega
  have e1 : (n2 : Int) + 1 - 1 = (n2 : Int) := by omega
  have e2 : IntKind.i64.wrap (n2 : Int) = (n2 : Int) := by rw [IntKind.wrap_i64]; omega
  have e3 : decide ((n2 : Int) < 0) = false := decide_eq_false (by omega)
  have e4 : (n2 : Int) < (n2 : Int) + 1 := by omega
  cases xh <;> cases h
  all_goals
    simp only [beq_self_eq_true, reduceIte, show ((false == true) = true) = False by simp, show ((true == false) = true) = False by simp]
    go_enter Try.func48, Try.ntmps48
    go_upto_region 1 with fail
    rw [← hX, ← hg1]
    clear hX hg1 hB0
    go_wp2_with fail
    go_ret
    first | exact HST.out | exact HP.out | (have h9 := HP.out; rw [List.append_assoc] at h9; exact h9)
theorem putB_any (m : Nat) (W : World) (u : Value) (l : List Eb) (a b : Int) (h : Bool) (ho : W.ownsRow m 111 3 u l.length (csB l)) (hm : m ≤ W.heap.size) (hl : l.length ≤ 1000000) :
    Calls Try.prog 48 #[u, .agg #[.int .i64 a, .int .i64 b], .bool h] W (PutB m W u (putB l a b h)) := by
  rcases List.eq_nil_or_concat l with rfl | ⟨A, x, rfl⟩
  · exact putB_nil m W u a b h ho hm
  · rw [List.concat_eq_append] at ho hl ⊢
    rw [putB_snoc]
    exact putB_some m W u A x a b h ho hm (by simp at hl; omega)
set_option maxHeartbeats 8000000 in
set_option maxRecDepth 20000 in
theorem whenB_any (l : List Eb) (v : Value) (w : World) (hl : HasB w v l) (hlen : l.length ≤ 100000) :
    Calls Try.prog 49 #[v, .bool true] w fun e w' => ∃ u, e = .returned u ∧ OwnI w w' u (whenB l) := by
  obtain ⟨o, c, rfl, hc1, hc2⟩ := HasRow.slice hl
  obtain ⟨n, hn⟩ : ∃ n, n = l.length := ⟨_, rfl⟩
  have HN : Hid (n = l.length) := hn
  rw [← hn] at hc1 hl hlen ⊢
  have HR : Hid (∀ wr : World, Below w.heap.size w wr → HasB wr (.slice o n c) l) := fun wr hb => hl.keep hb
  have hni : (n : Int) ≤ 100000 := by omega
  have H0 : Hid (OwnI w w (.slice none 0 0) (whenB (l.take 0))) := OwnI.nil w
  clear hl hn
  go_enter Try.func49, Try.ntmps49
  go_wp2_with fail
  go_loopw [5, 10] (fun u q wr => ∃ k : Nat, k ≤ n ∧ q = .int .i64 k ∧ Hid (OwnI w wr u (whenB (l.take k)))) (fun _ q _ => n - (Go.RowKit.intOf q).toNat)
  case atStart => exact ⟨0, by omega, rfl, H0⟩
  case round =>
    clear H0
    obtain ⟨k, hk, rfl, HI⟩ := hrel
    have hI := HI.out
    have hh := HR.out _ hI.bl
    by_cases hlt : k < n
    · have hkz : k < l.length := by rw [← HN.out]; exact hlt
      obtain ⟨g1, i1, rfl, hg1, a0, a1, a2⟩ := HasB.cell hh k hkz
      have hA0 := whenB_snoc (l.take k) l[k]
      rw [← List.take_succ_eq_append_getElem hkz] at hA0
      have hki : (k : Int) < (n : Int) := by omega
      have htk : (whenB (l.take k)).length ≤ 1000 * 999 := by have h1 := whenB_len (l.take k); rw [List.length_take] at h1; omega
      obtain ⟨s, hs⟩ : ∃ s : Eb, s = l[k] := ⟨_, rfl⟩
      rw [← hs] at hA0 a0 a1 a2
      obtain ⟨sa, sb, sh⟩ := s
      simp only at hA0 a0 a1 a2
      have HA : Hid (∀ e, sh = e → whenB (l.take (k + 1)) = if e = true then whenB (l.take k) ++ [(sa, sb)] else whenB (l.take k)) := fun e h => by rw [← h]; exact hA0
      have HTK : Hid ((whenB (l.take k)).length + 1 ≤ 1000000) := by show _ ≤ _; omega
      generalize whenB (l.take k) = D at *
      clear hs HI hg1 hh hA0 htk
      go_upto_region 5 with fail
      obtain ⟨Y, hY⟩ : ∃ X, X = wr.alloc (.cells #[.int .i64 sa, .int .i64 sb, .bool sh] 111) := ⟨_, rfl⟩
      have hbY : Below wr.heap.size wr Y := by rw [hY]; exact below_new (Below.refl _ _) _
      have rx : RowAt Y wr.heap.size [.int .i64 sa, .int .i64 sb, .bool sh] 111 := by rw [hY]; exact RowAt.new _ _ _
      rw [← hY]
      replace hI := hI.below hbY
      obtain ⟨gs, hgs⟩ : ∃ g, g = wr.heap.size := ⟨_, rfl⟩
      rw [← hgs] at rx ⊢
      clear hY hbY a0 a1 a2 hgs
      obtain ⟨x0, x1, x2, xf⟩ := cells3b rx
      obtain ⟨v', w6, hrun, hO2, _⟩ := Iv.appI (hI.below (below_new (Below.refl _ Y) (.cells #[.int .i64 sa, .int .i64 sb] 23))) (Iv.litI Y (sa, sb) 23) (by have := HTK.out; simp; omega)
      have HO2 : Hid (OwnI w w6 v' (D ++ [(sa, sb)])) := hO2
      have HI2 : Hid (OwnI w Y u5 D) := hI
      clear hI hO2 HTK rx
      cases sh
      · have HV : Hid (OwnI w Y u5 (whenB (l.take (k + 1)))) := by show OwnI _ _ _ _; rw [HA.out false rfl]; exact HI2.out
        clear HA HI2 HO2 hrun
        go_wp2_with fail
        go_roundw
        case rel => exact ⟨k + 1, by omega, by go_num, HV⟩
        case measure => simp [Go.RowKit.intOf]; omega
      · have HV : Hid (OwnI w w6 v' (whenB (l.take (k + 1)))) := by show OwnI _ _ _ _; rw [HA.out true rfl]; exact HO2.out
        clear HA HI2 HO2
        go_wp2_with fail
        go_roundw
        case rel => exact ⟨k + 1, by omega, by go_num, HV⟩
        case measure => simp [Go.RowKit.intOf]; omega
    · have hkn : decide ((k : Int) < (n : Int)) = false := decide_eq_false (by omega)
      have hte : l.take k = l := by have := HN.out; exact List.take_of_length_le (by omega)
      have HI2 : Hid (OwnI w wr u5 (whenB l)) := by rw [hte] at HI; exact HI.out
      clear HI hI hte hh
      go_wp2_with fail
      go_ret
      exact ⟨_, rfl, HI2.out⟩
end Go.Proofs.Ytmkbijnndbgjgaa.Ln
