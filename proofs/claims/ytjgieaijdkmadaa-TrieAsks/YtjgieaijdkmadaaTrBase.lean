/- Routes, plain, and rows of them in memory. -/
import Derived.Test.YtjgieaijdkmadaaLkBase
import Derived.Test.YtjgieaijdkmadaaMsgChk
set_option linter.unusedVariables false
namespace Go.Proofs.Ytjgieaijdkmadaa.Tr
open Go.RowKit
open Go.Proofs.Ytjgieaijdkmadaa.Addr (Pf okP checkP wideN rightB hasB coversB cmpN kP hiN loN adV pfV firstN lastN freeN)
open Go.Proofs.Ytjgieaijdkmadaa.Msg (Ac acV okA FitA)
open Go.Proofs.Ytjgieaijdkmadaa.Lk (HasRow addr_add)
/-- a route, plain -/
structure Rt where
  pf : Pf
  act : Ac
def rtC (r : Rt) : List Value := [.bool r.pf.six, .int .u64 (hiN r.pf.n : Int), .int .u64 (loN r.pf.n : Int), .int .i64 r.pf.len, .int .u8 (r.act.k : Int), .int .i64 r.act.i]
def rtV (r : Rt) : Value := .agg (rtC r).toArray
def FitP (p : Pf) : Prop := (-9223372036854775808 ≤ p.len ∧ p.len ≤ 9223372036854775807) ∧ p.n < 2 ^ 128
def FitR (r : Rt) : Prop := FitP r.pf ∧ FitA r.act
def okR (r : Rt) : Bool := okP r.pf && okA r.act
def kindN (six : Bool) : Nat := if six then 1 else 0
def cmpI (a b : Int) : Int := if a < b then -1 else if a = b then 0 else 1
def ordP (p q : Pf) : Int := if cmpN (kindN p.six) (kindN q.six) = 0 then (if cmpN p.n q.n = 0 then cmpI p.len q.len else cmpN p.n q.n) else cmpN (kindN p.six) (kindN q.six)
def ltP (p q : Pf) : Prop := (p.six = false ∧ q.six = true) ∨ (p.six = q.six ∧ (p.n < q.n ∨ (p.n = q.n ∧ p.len < q.len)))
theorem ordP_lt (p q : Pf) : ordP p q < 0 ↔ ltP p q := by
  unfold ordP ltP cmpN cmpI kindN
  cases p.six <;> cases q.six <;> simp <;> (repeat' split) <;> simp_all <;> omega
theorem ordP_gt (p q : Pf) : 0 < ordP p q ↔ ltP q p := by
  unfold ordP ltP cmpN cmpI kindN
  cases p.six <;> cases q.six <;> simp <;> (repeat' split) <;> simp_all <;> omega
theorem ordP_eq (p q : Pf) : ordP p q = 0 ↔ p = q := by
  obtain ⟨a, b, c⟩ := p
  obtain ⟨d, e, f⟩ := q
  unfold ordP cmpN cmpI kindN
  cases a <;> cases d <;> simp <;> (repeat' split) <;> simp_all <;> omega
theorem ltP_trans {p q r : Pf} (h1 : ltP p q) (h2 : ltP q r) : ltP p r := by
  unfold ltP at *
  rcases h1 with ⟨a, b⟩ | ⟨a, b⟩ <;> rcases h2 with ⟨c, d⟩ | ⟨c, d⟩
  · rw [b] at c; cases c
  · exact .inl ⟨a, by rw [← c]; exact b⟩
  · exact .inl ⟨by rw [a]; exact c, d⟩
  · exact .inr ⟨a.trans c, by omega⟩
theorem ltP_irr (p : Pf) : ¬ ltP p p := by
  unfold ltP
  rintro (⟨a, b⟩ | ⟨_, b⟩)
  · rw [a] at b; cases b
  · omega
theorem ordP_val (p q : Pf) : ordP p q = -1 ∨ ordP p q = 0 ∨ ordP p q = 1 := by
  unfold ordP cmpN cmpI kindN
  cases p.six <;> cases q.six <;> simp <;> (repeat' split) <;> simp_all
/-- the routes rise behind a bound -/
def rise : Option Pf → List Rt → Bool
  | _, [] => true
  | none, s :: l => okR s && rise (some s.pf) l
  | some p, s :: l => okR s && decide (ordP p s.pf < 0) && rise (some s.pf) l
def okT (l : List Rt) : Bool := decide (l.length ≤ 256) && rise none l
def checkT (l : List Rt) : Int := if okT l then 0 else 2
abbrev Up (l : List Rt) : Prop := l.Pairwise (fun x y => ltP x.pf y.pf)
theorem rise_ok (l : List Rt) : ∀ p, rise p l = true → (∀ x ∈ l, okR x = true) ∧ Up l ∧ ∀ q, p = some q → ∀ x ∈ l, ltP q x.pf := by
  induction l with
  | nil => intro p _; exact ⟨by simp, List.Pairwise.nil, by simp⟩
  | cons s l ih =>
    intro p h
    have key : okR s = true ∧ rise (some s.pf) l = true ∧ ∀ q, p = some q → ltP q s.pf := by
      cases p with
      | none => simp only [rise, Bool.and_eq_true] at h; exact ⟨h.1, h.2, fun q e => by cases e⟩
      | some q => simp only [rise, Bool.and_eq_true, decide_eq_true_eq] at h; exact ⟨h.1.1, h.2, fun q' e => by injection e with e; subst e; exact (ordP_lt _ _).1 h.1.2⟩
    obtain ⟨i1, i2, i3⟩ := ih _ key.2.1
    refine ⟨fun x hx => ?_, List.pairwise_cons.2 ⟨fun x hx => i3 _ rfl x hx, i2⟩, fun q e x hx => ?_⟩
    · rcases List.mem_cons.1 hx with rfl | hx
      · exact key.1
      · exact i1 x hx
    · rcases List.mem_cons.1 hx with rfl | hx
      · exact key.2.2 q e
      · exact ltP_trans (key.2.2 q e) (i3 _ rfl x hx)
theorem rise_of (l : List Rt) : ∀ p, (∀ x ∈ l, okR x = true) → Up l → (∀ q, p = some q → ∀ x ∈ l, ltP q x.pf) → rise p l = true := by
  induction l with
  | nil => intro p _ _ _; cases p <;> rfl
  | cons s l ih =>
    intro p h1 h2 h3
    have hp := List.pairwise_cons.1 h2
    have hr := ih (some s.pf) (fun x hx => h1 x (List.mem_cons_of_mem _ hx)) hp.2 (fun r e x hx => by injection e with e; subst e; exact hp.1 x hx)
    have hs := h1 s List.mem_cons_self
    cases p with
    | none => simp only [rise, hs, hr, Bool.and_self]
    | some r => simp only [rise, hs, hr, Bool.and_true, Bool.true_and, decide_eq_true_eq]; exact (ordP_lt _ _).2 (h3 r rfl s List.mem_cons_self)
theorem okT_iff (l : List Rt) : okT l = true ↔ l.length ≤ 256 ∧ (∀ x ∈ l, okR x = true) ∧ Up l := by
  unfold okT
  rw [Bool.and_eq_true, decide_eq_true_eq]
  exact ⟨fun h => ⟨h.1, (rise_ok l none h.2).1, (rise_ok l none h.2).2.1⟩, fun h => ⟨h.1, rise_of l none h.2.1 h.2.2 (fun r e => by cases e)⟩⟩
theorem fit_ok {p : Pf} (h : okP p = true) : FitP p := by
  unfold okP rightB at h
  simp only [Bool.and_eq_true, decide_eq_true_eq] at h
  obtain ⟨⟨h1, h2⟩, h3, _⟩ := h
  have hw : wideN p.six ≤ 128 := by unfold wideN; split <;> omega
  exact ⟨by omega, Nat.lt_of_lt_of_le h3 (Nat.pow_le_pow_right (by decide) hw)⟩
/-- rows of routes -/
def rtCs (l : List Rt) : List Value := l.flatMap rtC
theorem rtCs_len (l : List Rt) : (rtCs l).length = l.length * 6 := by
  induction l with
  | nil => rfl
  | cons s l ih =>
    show (rtC s ++ rtCs l).length = _
    rw [List.length_append, ih, List.length_cons]
    show 6 + _ = _
    omega
theorem rtCs_app (a b : List Rt) : rtCs (a ++ b) = rtCs a ++ rtCs b := by unfold rtCs; rw [List.flatMap_append]
theorem one_routes (l : List Rt) : ∀ x ∈ rtCs l, x.oneCell' = true := by
  intro x hx
  obtain ⟨p, _, h⟩ := List.mem_flatMap.1 hx
  simp only [rtC, List.mem_cons, List.not_mem_nil, or_false] at h
  rcases h with rfl | rfl | rfl | rfl | rfl | rfl <;> rfl
def HasRts (W : World) (v : Value) (l : List Rt) : Prop := HasRow W v 6 l.length (rtCs l)
theorem HasRts.keep {W W' : World} {v : Value} {l : List Rt} (h : HasRts W v l) (hb : Below W.heap.size W W') : HasRts W' v l := Lk.HasRow.keep h hb
theorem rtCs_at (l : List Rt) : ∀ j (h : j < l.length) t, t < 6 → (rtCs l)[6 * j + t]? = (rtC l[j])[t]? := by
  induction l with
  | nil => intro j h; simp at h
  | cons p ps ih =>
    intro j h t ht
    show (rtC p ++ rtCs ps)[6 * j + t]? = _
    cases j with
    | zero => rw [List.getElem?_append_left (by show 6 * 0 + t < 6; omega)]; simp
    | succ j =>
      rw [List.getElem?_append_right (by show 6 ≤ 6 * (j + 1) + t; omega), show 6 * (j + 1) + t - (rtC p).length = 6 * j + t by show 6 * (j + 1) + t - 6 = _; omega, ih j (by simpa using h) t ht]
      rfl
theorem HasRts.cell {W : World} {o : Option Addr} {m cap : Nat} {l : List Rt} (h : HasRts W (.slice o m cap) l) (j : Nat) (hj : j < l.length) : ∃ b i, o = some ⟨b, i, none⟩ ∧ b < W.heap.size ∧ ∀ t, t < 6 → W.cell? ⟨b, i + j * 6 + t, none⟩ = (rtC l[j])[t]? := by
  obtain ⟨_, b, i, e, hb, hc⟩ := Lk.HasRow.at h (by omega)
  exact ⟨b, i, e, hb, fun t ht => by rw [Nat.add_assoc, hc (j * 6 + t) (by omega), Nat.mul_comm j 6]; exact rtCs_at l j hj t ht⟩
end Go.Proofs.Ytjgieaijdkmadaa.Tr
