/- What addr.Covers and addr.Halves return. -/
import Derived.Test.YtkjhnefbcnnjlaaGreatNv07
import Derived.Test.YtkjhnefbcnnjlaaGreatNv06
import Derived.Test.YtkjhnefbcnnjlaaGreatNv05
import Derived.Test.YtkjhnefbcnnjlaaGreatNv04
import Derived.Laws.AppendOwn
import Derived.OwnWalk
import Derived.Shelf.Slices.Clone
import Derived.RangeFuncBox
import Derived.Laws.Cover3
import Derived.Deep.DeepCutAuto
import Derived.Lib.AppendZeros
import Derived.Test.YtkjhnefbcnnjlaaGreatNv03
set_option linter.unusedVariables false
namespace Go.Proofs.YtkjhnefbcnnjlaaGreat.Lk
open Go.RowKit
theorem rise_some (l : List Lk) : ∀ (r : Int), rise (some r) l = true → ∀ x ∈ l, r < x.iface := by
  induction l with
  | nil => intro r _ x hx; simp at hx
  | cons s l ih =>
    intro r h x hx
    unfold rise at h
    simp only [Bool.and_eq_true, decide_eq_true_eq] at h
    rcases List.mem_cons.1 hx with rfl | hx
    · exact h.1.2
    · have := ih s.iface h.2 x hx; omega
theorem rise_drop (l : List Lk) : ∀ p, rise p l = true → l.Pairwise (fun x y => x.iface < y.iface) := by
  induction l with
  | nil => intro p _; exact List.Pairwise.nil
  | cons s l ih =>
    intro p h
    have h2 : rise (some s.iface) l = true := by
      cases p <;> (unfold rise at h; simp only [Bool.and_eq_true] at h; exact h.2)
    exact List.Pairwise.cons (fun y hy => rise_some l _ h2 y hy) (ih _ h2)
theorem okL_up {l : List Lk} (h : okL l = true) : l.Pairwise (fun x y => x.iface < y.iface) := by
  unfold okL at h
  simp only [Bool.and_eq_true] at h
  exact rise_drop l _ h.2
theorem okL_len2 {l : List Lk} (h : okL l = true) : l.length ≤ 32 := by
  unfold okL at h
  simp only [Bool.and_eq_true, decide_eq_true_eq] at h
  exact h.1
theorem up_ne {l : List Lk} (h : l.Pairwise (fun x y => x.iface < y.iface)) {j k : Nat} (hj : j < l.length) (hk : k < l.length) (hjk : j ≠ k) : l[j].iface ≠ l[k].iface := by
  rcases Nat.lt_or_gt_of_ne hjk with h1 | h1
  · have := List.pairwise_iff_getElem.1 h j k hj hk h1; omega
  · have := List.pairwise_iff_getElem.1 h k j hk hj h1; omega
theorem others_none {l : List Lk} {i : Int} (h : ∀ j (hj : j < l.length), ¬ l[j].iface = i) : others l i = l := by
  unfold others
  rw [List.filter_eq_self]
  intro x hx
  obtain ⟨j, hj, rfl⟩ := List.getElem_of_mem hx
  simp [h j hj]
theorem others_cut (l : List Lk) (k : Nat) (r : Int) : others l r = others (l.take k) r ++ others (l.drop k) r := by
  unfold others
  rw [← List.filter_append, List.take_append_drop]
theorem others_at {l : List Lk} (hp : l.Pairwise (fun x y => x.iface < y.iface)) {k : Nat} (hk : k < l.length) : others l l[k].iface = l.take k ++ l.drop (k + 1) := by
  have h1 : others (l.take k) l[k].iface = l.take k := others_none (fun j hj => by
    rw [List.length_take] at hj
    rw [List.getElem_take]
    exact up_ne hp (by omega) hk (by omega))
  have h2 : others (l.drop (k + 1)) l[k].iface = l.drop (k + 1) := others_none (fun j hj => by
    rw [List.length_drop] at hj
    rw [List.getElem_drop]
    exact up_ne hp (by omega) hk (by omega))
  have h3 : others (l.drop k) l[k].iface = others (l.drop (k + 1)) l[k].iface := by
    rw [List.drop_eq_getElem_cons hk]
    unfold others
    rw [List.filter_cons_of_neg (by simp)]
  rw [others_cut l k, h1, h3, h2]
/-- the row while it is shifted -/
def shift (l : List Lk) (k t : Nat) : List Lk := l.take k ++ ((l.drop (k + 1)).take t ++ l.drop (k + t))
theorem shift_zero (l : List Lk) (k : Nat) : shift l k 0 = l := by unfold shift; simp
theorem shift_len (l : List Lk) (k t : Nat) (h : k + 1 + t ≤ l.length) : (shift l k t).length = l.length := by
  unfold shift
  rw [List.length_append, List.length_append, List.length_take, List.length_take, List.length_drop, List.length_drop]
  omega
theorem shift_get (l : List Lk) (k t : Nat) (h : k + 1 + t ≤ l.length) (j : Nat) : (shift l k t)[j]? = if j < k then l[j]? else if j < k + t then l[j + 1]? else l[j]? := by
  unfold shift
  rw [List.getElem?_append, List.length_take, Nat.min_eq_left (by omega)]
  by_cases h1 : j < k
  · rw [if_pos h1, if_pos h1, List.getElem?_take_of_lt h1]
  · rw [if_neg h1, if_neg h1, List.getElem?_append, List.length_take, List.length_drop, Nat.min_eq_left (by omega)]
    by_cases h2 : j < k + t
    · rw [if_pos (by omega), if_pos h2, List.getElem?_take_of_lt (by omega), List.getElem?_drop]
      congr 1
      omega
    · rw [if_neg (by omega), if_neg h2, List.getElem?_drop]
      congr 1
      omega
theorem shift_at (l : List Lk) (k t : Nat) (h : k + 1 + t < l.length) (h2 : k + 1 + t < (shift l k t).length) : (shift l k t)[k + 1 + t] = l[k + 1 + t] := by
  have e := shift_get l k t (by omega) (k + 1 + t)
  rw [if_neg (by omega), if_neg (by omega), List.getElem?_eq_getElem h2, List.getElem?_eq_getElem h] at e
  exact Option.some.inj e
theorem shift_step (l : List Lk) (k t : Nat) (h : k + 1 + t < l.length) : (shift l k t).set (k + t) l[k + 1 + t] = shift l k (t + 1) := by
  apply List.ext_getElem?
  intro j
  rw [List.getElem?_set, shift_len l k t (by omega), shift_get l k t (by omega), shift_get l k (t + 1) (by omega)]
  by_cases hj : k + t = j
  · subst hj
    rw [if_pos rfl, if_pos (by omega), if_neg (by omega), if_pos (by omega), ← List.getElem?_eq_getElem h]
    congr 1
    omega
  · rw [if_neg hj]
    by_cases h1 : j < k
    · rw [if_pos h1, if_pos h1]
    · rw [if_neg h1, if_neg h1]
      by_cases h2 : j < k + t
      · rw [if_pos h2, if_pos (by omega)]
      · rw [if_neg h2, if_neg (by omega)]
theorem shift_end (l : List Lk) (k : Nat) (h : k < l.length) : (shift l k (l.length - 1 - k)).take (l.length - 1) = l.take k ++ l.drop (k + 1) := by
  unfold shift
  rw [← List.append_assoc, List.take_append_of_le_length (by rw [List.length_append, List.length_take, List.length_take, List.length_drop]; omega), List.take_of_length_le (by rw [List.length_append, List.length_take, List.length_take, List.length_drop]; omega), List.take_of_length_le (l := l.drop (k + 1)) (by rw [List.length_drop]; omega)]
theorem lkCs_set (m : List Lk) (x : Lk) : ∀ j, j < m.length → ((lkCs m).set (j * 2) (.int .i64 x.iface)).set (j * 2 + 1) (.int .i64 x.peer) = lkCs (m.set j x) := by
  induction m with
  | nil => intro j h; simp at h
  | cons s m ih =>
    intro j h
    cases j with
    | zero => rfl
    | succ j =>
      have := ih j (by simpa using h)
      show ((.int .i64 s.iface :: .int .i64 s.peer :: lkCs m : List Value).set ((j + 1) * 2) _).set ((j + 1) * 2 + 1) _ = .int .i64 s.iface :: .int .i64 s.peer :: lkCs (m.set j x)
      rw [show (j + 1) * 2 = j * 2 + 1 + 1 by omega]
      simp only [List.set_cons_succ]
      rw [this]
theorem lkCs_take (l : List Lk) : ∀ j, (lkCs l).take (j * 2) = lkCs (l.take j) := by
  induction l with
  | nil => intro j; simp [lkCs]
  | cons g l ih =>
    intro j
    cases j with
    | zero => simp [lkCs]
    | succ j =>
      show (lkC g ++ lkCs l).take ((j + 1) * 2) = lkC g ++ lkCs (l.take j)
      rw [← ih j, show (j + 1) * 2 = (lkC g).length + j * 2 by show _ = 2 + _; omega, List.take_length_add_append]
theorem rise_ok (l : List Lk) : ∀ p, rise p l = true → ∀ x ∈ l, okK x = true := by
  induction l with
  | nil => intro p h x hx; cases hx
  | cons s l ih =>
    intro p h x hx
    cases p with
    | none =>
      simp only [rise, Bool.and_eq_true] at h
      rcases List.mem_cons.1 hx with rfl | hx
      · exact h.1
      · exact ih _ h.2 x hx
    | some r =>
      simp only [rise, Bool.and_eq_true] at h
      rcases List.mem_cons.1 hx with rfl | hx
      · exact h.1.1
      · exact ih _ h.2 x hx
theorem okL_mem {l : List Lk} (h : okL l = true) {x : Lk} (hx : x ∈ l) : okK x = true := by
  unfold okL at h
  simp only [Bool.and_eq_true] at h
  exact rise_ok l none h.2 x hx
end Go.Proofs.YtkjhnefbcnnjlaaGreat.Lk
namespace Go.Proofs.YtkjhnefbcnnjlaaGreat.Lk
theorem all_behind {l : List Lk} {i : Int} (h : ∀ x ∈ l, i < x.iface) : aheadL l i = [] ∧ ofL l i = [] ∧ behindL l i = l ∧ others l i = l := by
  unfold aheadL ofL behindL others
  refine ⟨List.filter_eq_nil_iff.2 (fun x hx => by have := h x hx; simp; omega), List.filter_eq_nil_iff.2 (fun x hx => by have := h x hx; simp; omega), List.filter_eq_self.2 (fun x hx => by have := h x hx; simpa using this), List.filter_eq_self.2 (fun x hx => by have := h x hx; simp; omega)⟩
theorem others_split {l : List Lk} (h : l.Pairwise (fun x y => x.iface < y.iface)) (i : Int) : others l i = aheadL l i ++ behindL l i ∧ l.length = (others l i).length + (ofL l i).length := by
  induction l with
  | nil => exact ⟨rfl, rfl⟩
  | cons s t ih =>
    rw [List.pairwise_cons] at h
    obtain ⟨h1, h2⟩ := ih h.2
    have eA : aheadL (s :: t) i = (if s.iface < i then [s] else []) ++ aheadL t i := by
      unfold aheadL; by_cases q : s.iface < i <;> simp [q]
    have eB : behindL (s :: t) i = (if i < s.iface then [s] else []) ++ behindL t i := by
      unfold behindL; by_cases q : i < s.iface <;> simp [q]
    have eO : others (s :: t) i = (if s.iface = i then [] else [s]) ++ others t i := by
      unfold others; by_cases q : s.iface = i <;> simp [q]
    have eF : ofL (s :: t) i = (if s.iface = i then [s] else []) ++ ofL t i := by
      unfold ofL; by_cases q : s.iface = i <;> simp [q]
    rcases Int.lt_trichotomy s.iface i with q | q | q
    · have n1 : ¬ i < s.iface := by omega
      have n2 : ¬ s.iface = i := by omega
      rw [eA, eB, eO, eF, h1]
      simp only [if_pos q, if_neg n1, if_neg n2]
      refine ⟨by simp, ?_⟩
      rw [h1] at h2
      simp only [List.length_cons, List.length_append, List.length_nil] at h2 ⊢
      omega
    · obtain ⟨b1, b2, b3, b4⟩ := all_behind (l := t) (i := i) (fun x hx => by have := h.1 x hx; omega)
      have n1 : ¬ s.iface < i := by omega
      have n2 : ¬ i < s.iface := by omega
      rw [eA, eB, eO, eF, b1, b2, b3, b4]
      simp only [if_pos q, if_neg n1, if_neg n2]
      exact ⟨rfl, by simp⟩
    · obtain ⟨b1, b2, b3, b4⟩ := all_behind (l := t) (i := i) (fun x hx => by have := h.1 x hx; omega)
      have n1 : ¬ s.iface < i := by omega
      have n2 : ¬ s.iface = i := by omega
      rw [eA, eB, eO, eF, b1, b2, b3, b4]
      simp only [if_pos q, if_neg n1, if_neg n2]
      exact ⟨rfl, by simp⟩
end Go.Proofs.YtkjhnefbcnnjlaaGreat.Lk
namespace Go.Proofs.YtkjhnefbcnnjlaaGreat.Fib
open Go.RowKit
open Go.Proofs.YtkjhnefbcnnjlaaGreat.Addr (RowAt RowAt.cell)
open Go.Proofs.YtkjhnefbcnnjlaaGreat.Msg (Ev Ac okE)
open Go.Proofs.YtkjhnefbcnnjlaaGreat.Lk (Lk HasLks HasRow okL peerL delL FitL)
open Go.Proofs.YtkjhnefbcnnjlaaGreat.Tr (Rt HasRts okT putT delT FitR)
/-- a router, plain -/
structure Ro where
  id : Int
  up : Bool
  rts : List Rt
  lks : List Lk
def okId (i : Int) : Bool := decide (0 ≤ i) && decide (i ≤ 1048576)
def okRo (R : Ro) : Bool := okId R.id && okT R.rts && okL R.lks && (R.up || decide (R.rts.length + R.lks.length = 0))
def checkRo (R : Ro) : Int := if okRo R then 0 else 2
def zeroRo : Ro := ⟨0, false, [], []⟩
def makeRo (i : Int) : Ro × Int := if okId i then (⟨i, false, [], []⟩, 0) else (zeroRo, 1)
def misRo (R : Ro) (e : Ev) : Int := if e.router = R.id then (if decide (e.kind = 1) = R.up then 10 else 0) else 14
def takeRo (R : Ro) (e : Ev) : Ro × Int :=
  if e.kind = 1 then (⟨R.id, true, R.rts, R.lks⟩, 0)
  else if e.kind = 2 then (⟨R.id, false, [], []⟩, 0)
  else if e.kind = 3 then (⟨R.id, R.up, (putT R.rts ⟨e.pf, e.act⟩).1, R.lks⟩, (putT R.rts ⟨e.pf, e.act⟩).2)
  else if e.kind = 4 then (⟨R.id, R.up, (delT R.rts e.pf).1, R.lks⟩, 0)
  else if e.kind = 5 then (⟨R.id, R.up, R.rts, (Lk.putL R.lks ⟨e.iface, e.peer⟩).1⟩, (Lk.putL R.lks ⟨e.iface, e.peer⟩).2)
  else if e.kind = 6 then (⟨R.id, R.up, R.rts, (delL R.lks e.iface).1⟩, 0)
  else (R, 0)
def applyRo (R : Ro) (e : Ev) : Ro × Int := if okRo R && okE e then (if misRo R e = 0 then takeRo R e else (R, misRo R e)) else (zeroRo, 2)
/-- what becomes of a packet: kind, peer -/
def sendsRo (R : Ro) (i : Int) : Nat × Int := if (peerL R.lks i).2 = 0 then (1, (peerL R.lks i).1) else (0, 0)
def doesRo (R : Ro) (a : Ac) : Nat × Int := if a.k = 1 then sendsRo R a.i else if a.k = 2 then (2, 0) else if a.k = 3 then (3, 0) else (0, 0)
structure FitRo (R : Ro) : Prop where
  id : -9223372036854775808 ≤ R.id ∧ R.id ≤ 9223372036854775807
  rts : ∀ x ∈ R.rts, FitR x
  lks : ∀ x ∈ R.lks, FitL x
/-- rows stand apart from a box of a router -/
theorem row_apart {W W' : World} {v : Value} {sz n B : Nat} {cs : List Value} (h : HasRow W v sz n cs) (hg : W.grownBy W' (some B)) (hne : ∀ b i m c, v = .slice (some ⟨b, i, none⟩) m c → 0 < n → b ≠ B) : HasRow W' v sz n cs := by
  refine ⟨h.1, ?_⟩
  rcases h.2 with h0 | ⟨a, cap, e, h1, h2, h3, h4⟩
  · exact .inl h0
  · refine .inr ⟨a, cap, e, h1, h2, fun hp => ⟨(h3 hp).1, Nat.lt_of_lt_of_le (h3 hp).2 hg.size⟩, fun j hj => ?_⟩
    have hn : 0 < n := by
      rcases Nat.eq_zero_or_pos n with h0 | h0
      · subst h0; omega
      · exact h0
    obtain ⟨h5, h6⟩ := h3 hn
    obtain ⟨b, i, s⟩ := a
    simp only at h5 h6
    subst h5
    have hb := hne b i n cap e hn
    rw [Lk.addr_add] at *
    rw [← h4 j hj, Lk.addr_add]
    unfold World.cell?
    simp only
    rw [hg.block b h6 (fun e => by injection e with e; exact hb e)]
theorem rts_apart {W W' : World} {v : Value} {l : List Rt} {B : Nat} {c0 c1 c2 c3 : Value} {t : TypeId} (h : HasRts W v l) (hr : RowAt W B [c0, c1, c2, c3] t) (hg : W.grownBy W' (some B)) : HasRts W' v l := by
  refine row_apart h hg (fun b i m c e hp hb => ?_)
  subst hb
  subst e
  obtain ⟨b', i', e', _, hc⟩ := Tr.HasRts.cell h 0 hp
  injection e' with e'
  injection e' with e1 e2
  subst e1 e2
  have := hc 4 (by omega)
  rw [RowAt.cell hr] at this
  rw [List.getElem?_eq_none (by simp)] at this
  cases this
theorem lks_apart {W W' : World} {v : Value} {l : List Lk} {B : Nat} {k0 : IntKind} {i0 : Int} {u : Bool} {o2 o3 : Option Addr} {n2 n3 m2 m3 : Nat} {t : TypeId} (h : HasLks W v l) (hr : RowAt W B [.int k0 i0, .bool u, .slice o2 n2 m2, .slice o3 n3 m3] t) (hg : W.grownBy W' (some B)) : HasLks W' v l := by
  refine row_apart h hg (fun b i m c e hp hb => ?_)
  subst hb
  subst e
  obtain ⟨b', i', e', _, hc⟩ := Lk.HasLks.cell h 0 hp
  injection e' with e'
  injection e' with e1 e2
  subst e1 e2
  obtain ⟨h0, h1⟩ := hc
  rw [RowAt.cell hr] at h0 h1
  simp only [Nat.zero_mul, Nat.add_zero] at h0 h1
  rcases i with _ | _ | _ | _ | i
  · simp at h1
  · simp at h0
  · simp at h0
  · simp at h0
  · rw [List.getElem?_eq_none (by simp)] at h0
    cases h0
theorem okRo_parts {R : Ro} (h : okRo R = true) : okId R.id = true ∧ okT R.rts = true ∧ okL R.lks = true ∧ R.rts.length ≤ 256 ∧ R.lks.length ≤ 32 ∧ (R.up = false → R.rts = [] ∧ R.lks = []) := by
  unfold okRo at h
  simp only [Bool.and_eq_true, Bool.or_eq_true, decide_eq_true_eq] at h
  obtain ⟨⟨⟨h1, h2⟩, h3⟩, h4⟩ := h
  refine ⟨h1, h2, h3, ((Tr.okT_iff _).1 h2).1, Lk.okL_len2 h3, fun hu => ?_⟩
  rcases h4 with h4 | h4
  · rw [hu] at h4; cases h4
  · exact ⟨List.length_eq_zero_iff.1 (by omega), List.length_eq_zero_iff.1 (by omega)⟩
end Go.Proofs.YtkjhnefbcnnjlaaGreat.Fib
namespace Go.Proofs.YtkjhnefbcnnjlaaGreat.Tr
open Go.RowKit Go.Shelf
open Go.Proofs.YtkjhnefbcnnjlaaGreat.Lk (HasRow)
open Go.Proofs.YtkjhnefbcnnjlaaGreat.Addr (RowAt.lt RowAt.cell RowAt.drew RowAt.alloc)
attribute [-go_sem] Builtin.append_

theorem info_parts {e sz by' : Nat} {z : Value} (h : (Tryz.prog.info? e).map (fun i => (i.zero, i.size, i.bytes)) = some (some z, sz, by')) : ∃ i, Tryz.prog.info? e = some i ∧ i.zero = some z ∧ i.size = sz ∧ i.bytes = by' := by
  cases hq : Tryz.prog.info? e with
  | none => simp [hq] at h
  | some i => exact ⟨i, rfl, by simpa [hq] using congrArg (fun x => x.map (·.1)) h, by simpa [hq] using congrArg (fun x => x.map (·.2.1)) h, by simpa [hq] using congrArg (fun x => x.map (·.2.2)) h⟩
theorem info_rt : (Tryz.prog.info? 98).map (fun i => (i.zero, i.size, i.bytes)) = some (some (.agg #[.bool false, .int .u64 0, .int .u64 0, .int .i64 0, .int .u8 0, .int .i64 0]), 6, 48) := by kernel_rfl
theorem append_row {e tS sz bytes : Nat} {z : Value} (hi : (Tryz.prog.info? e).map (fun i => (i.zero, i.size, i.bytes)) = some (some z, sz, bytes)) (hu : Tryz.prog.underlying tS = some (.slice e)) (hz : z.cells.size = sz) (hsz : 0 < sz)
    {W : World} {n₀ k m : Nat} {v u : Value} {xs news : List Value} (hown : W.ownsRow n₀ e sz v k xs) (hsrc : HasRow W u sz m news) (h1 : ∀ x ∈ news, x.oneCell' = true) (hb : (k + m) * bytes ≤ 140737488355328) (hkm : k + m ≤ 9223372036854775807) (hn : n₀ ≤ W.heap.size) :
    ∃ v' w3, (∀ ty, (Builtin.append_ #[tS, tS] ty #[v, u]).run Tryz.prog W = .ok v' w3) ∧ w3.ownsRow n₀ e sz v' (k + m) (xs ++ news) ∧ W.grownBy w3 v.ownBlock := by
  obtain ⟨i0, hi0, hz0, hz1, hz2⟩ := info_parts hi
  rcases hsrc.2 with ⟨rfl, rfl⟩ | ⟨a, cap, rfl, g1, g2, g3, g4⟩
  · obtain rfl : news = [] := List.eq_nil_of_length_eq_zero (by rw [hsrc.1]; simp)
    have := fun ty => run_append_owned_none (P := Tryz.prog) W n₀ tS ty e i0 sz hu hi0 v k xs hown
    exact ⟨v, W, this, by simpa using hown, World.grownBy.refl _ _⟩
  · have h := run_append_own (P := Tryz.prog) W n₀ tS 0 e i0 z sz bytes hu hi0 hz0 hz1 hz2 hz hsz v k xs hown a m cap news hsrc.1
      (fun j x hj => by rw [g4 j (by rw [← hsrc.1]; exact (List.getElem?_eq_some_iff.1 hj).1)]; exact hj) h1 (by unfold maxLen; omega) hb hn
    obtain ⟨v', w3, hrun, k1, k2, _⟩ := h
    exact ⟨v', w3, fun ty => hrun, k1, k2⟩
theorem empty_own (w : World) (e sz : Nat) : (w.alloc (.cells #[] e)).ownsRow w.heap.size e sz (.slice (some ⟨w.heap.size, 0, none⟩) 0 0) 0 [] :=
  World.ownsRow_made (base := w.heap.size) (e := e) (size := sz) w #[] 0 (Nat.le_refl _) (by decide) (by simp)
theorem eql_slice_nil {t e : Nat} (h : Tryz.prog.underlying t = some (.slice e)) (a : Option Addr) (l c : Nat) (w : World) : (binOp .eql t (.slice a l c) (.slice none 0 0)).run Tryz.prog w = .ok (.bool a.isNone) w := by
  simp only [binOp]
  simp [run_equal_slice_nil w t e a l c h]
set_option maxRecDepth 20000 in
set_option maxHeartbeats 400000 in
theorem clone_any (l : List Rt) (v : Value) (w : World) (h : HasRts w v l) (hz : l.length ≤ 1000000000) :
    Calls Tryz.prog 52 #[v] w fun e w' => ∃ u, e = .returned u ∧ w'.ownsRow w.heap.size 98 6 u l.length (rtCs l) ∧ Below w.heap.size w w' := by
  have hk := h.keep ((Below.refl _ w).alloc (Nat.le_refl _) (.cells #[] 98))
  have he := eql_slice_nil Tryz.underlying48
  rcases h.2 with ⟨rfl, h0⟩ | ⟨a, cap, rfl, g1, g2, g3, g4⟩
  · obtain rfl : l = [] := List.eq_nil_of_length_eq_zero h0
    clear h hk h0 hz
    go_enter Tryz.func52, Tryz.ntmps52
    go_wp2
    go_ret
    exact ⟨_, rfl, World.ownsRow_nil _ _ _ _, Below.refl _ _⟩
  · obtain ⟨v', w3, hrun, h1, h2⟩ := append_row info_rt Tryz.underlying48 rfl (by decide) (empty_own w 98 6) hk (one_routes l) (by omega) (by omega) (by simp)
    rw [Nat.zero_add, List.nil_append] at h1
    have hB : Below w.heap.size w w3 := ((Below.refl _ w).alloc (Nat.le_refl _) _).grown h2 (by simp) (fun k e => by simp [Value.ownBlock] at e; omega)
    have H1 : Hid (w3.ownsRow w.heap.size 98 6 v' l.length (rtCs l)) := h1
    have hn9 : l.length ≤ 9223372036854775807 := by omega
    clear h hk h1 h2 g3 g4 hz
    generalize l.length = n at *
    go_enter Tryz.func52, Tryz.ntmps52
    go_wp2
    go_ret
    exact ⟨_, rfl, H1.out, hB⟩
theorem zeros_run (n : Nat) (w : World) (h0 : 0 < n) (hn : n ≤ 10000) : ∃ C W', (∀ ty, (Builtin.append_ #[48, 3] ty #[.slice none 0 0, .int .i64 (n : Int)]).run Tryz.prog w = .ok (.slice (some ⟨w.heap.size, 0, none⟩) n C) W') ∧ n ≤ C ∧ C ≤ 9223372036854775807 ∧
    W'.ownsRow w.heap.size 98 6 (.slice (some ⟨w.heap.size, 0, none⟩) 0 C) 0 [] ∧ Below w.heap.size w W' := by
  obtain ⟨i0, hi, hz0, hz1, hz2⟩ := info_parts info_rt
  have hr := fun ty => Lib.run_append_nil_zeros w 48 3 ty 98 i0 _ .i64 .i64 Tryz.underlying48 Tryz.underlying3 hi hz0 n h0 (by rw [hz1]; decide) (by omega) (by rw [hz2]; omega)
  refine ⟨_, _, hr, grownCap_ge _ _ _ _, ?_, ?_, ?_⟩
  · have := grownCap_le_maxLen w n 0 98 (by unfold maxLen; omega)
    unfold maxLen at this
    exact this
  · have := World.ownsRow_made (base := w.heap.size) (e := 98) (size := 6) w.drew (Builtin.zeroCells (Value.cells (.agg #[.bool false, .int .u64 0, .int .u64 0, .int .i64 0, .int .u8 0, .int .i64 0])) n ++ Builtin.zeroCells (Value.cells (.agg #[.bool false, .int .u64 0, .int .u64 0, .int .i64 0, .int .u8 0, .int .i64 0])) (grownCap w n 0 98 - n)) (grownCap w n 0 98) (Nat.le_refl _) (grownCap_le_maxLen w n 0 _ (by unfold maxLen; omega)) (by
      have := grownCap_ge w n 0 98
      rw [Array.size_append, size_zeroCells, size_zeroCells, show (Value.cells (.agg #[.bool false, .int .u64 0, .int .u64 0, .int .i64 0, .int .u8 0, .int .i64 0])).size = 6 from rfl]
      omega)
    exact this
  · exact ((Below.refl _ w).drew).alloc (Nat.le_refl _) _
set_option maxHeartbeats 1000000 in
set_option maxRecDepth 20000 in
theorem grow_any (n : Nat) (w : World) (hn : n ≤ 10000) :
    Calls Tryz.prog 137 #[.slice none 0 0, .int .i64 (n : Int)] w fun e w' => ∃ u, e = .returned u ∧ w'.ownsRow w.heap.size 98 6 u 0 [] ∧ Below w.heap.size w w' := by
  by_cases h0 : n = 0
  · subst h0
    go_enter Tryz.func137, Tryz.ntmps137
    go_wp2
    go_ret
    exact ⟨_, rfl, World.ownsRow_nil _ _ _ _, Below.refl _ _⟩
  · obtain ⟨C, W', hr, hC1, hC2, ho, hB⟩ := zeros_run n w (by omega) hn
    have h1 : (0 : Int) < (n : Int) := by omega
    have h1' : decide ((0 : Int) < (n : Int)) = true := by simp; omega
    have hz : 0 ≤ C := by omega
    have HO : Hid (W'.ownsRow w.heap.size 98 6 (.slice (some ⟨w.heap.size, 0, none⟩) 0 C) 0 []) := ho
    clear ho
    go_enter Tryz.func137, Tryz.ntmps137
    go_wp2
    go_ret
    exact ⟨_, rfl, HO.out, hB⟩
theorem hasRow_own {W : World} {B e sz n : Nat} {v : Value} {cs : List Value} (h : W.ownsRow B e sz v n cs) : HasRow W v sz n cs := Lk.hasRow_own h
set_option maxHeartbeats 4000000 in
set_option maxRecDepth 20000 in
theorem concat_any (b : Nat) (la lb lc : List Rt) (oa ob oc : Option Addr) (na nb nc ca cb cc : Nat) (w : World) (hb : b < w.heap.size) (h0 : w.cell? ⟨b, 0, none⟩ = some (.slice oa na ca)) (h1 : w.cell? ⟨b, 1, none⟩ = some (.slice ob nb cb)) (h2 : w.cell? ⟨b, 2, none⟩ = some (.slice oc nc cc))
    (ea : na = la.length) (eb : nb = lb.length) (ec : nc = lc.length)
    (ha : HasRts w (.slice oa na ca) la) (hbb : HasRts w (.slice ob nb cb) lb) (hc : HasRts w (.slice oc nc cc) lc) (hla : na ≤ 1000) (hlb : nb ≤ 1000) (hlc : nc ≤ 1000) :
    Calls Tryz.prog 117 #[.slice (some ⟨b, 0, none⟩) 3 3] w fun e w' => ∃ v, e = .returned v ∧ w'.ownsRow w.heap.size 98 6 v (la ++ (lb ++ lc)).length (rtCs (la ++ (lb ++ lc))) ∧ Below w.heap.size w w' := by
  have EA : Hid (na = la.length) := ea
  have EB : Hid (nb = lb.length) := eb
  have EC : Hid (nc = lc.length) := ec
  have cg := fun w => grow_any (na + nb + nc) w (by omega)
  rw [show ((na + nb + nc : Nat) : Int) = (na : Int) + (nb : Int) + (nc : Int) by omega] at cg
  have HA : Hid (HasRts w (.slice oa na ca) la) := ha
  have HB : Hid (HasRts w (.slice ob nb cb) lb) := hbb
  have HC : Hid (HasRts w (.slice oc nc cc) lc) := hc
  have hia : (na : Int) ≤ 1000 := by omega
  have hib : (nb : Int) ≤ 1000 := by omega
  have hic : (nc : Int) ≤ 1000 := by omega
  have hn0 : decide ((na : Int) < 0) = false := by simp
  have hn1 : decide ((na : Int) + (nb : Int) < 0) = false := by simp; omega
  have hn2 : decide ((na : Int) + (nb : Int) + (nc : Int) < 0) = false := by simp; omega
  clear ea eb ec ha hbb hc
  go_enter Tryz.func117, Tryz.ntmps117
  go_wp2_with fail
  refine wp_loop_rounds 4 ?_
  repeat any_goals (rw [rounds_succ]; go_wp2_with fail)
  go_at_call 137; refine (cg _).mono ?_; rintro e w1 ⟨v0, rfl, ho1, hb1⟩
  obtain ⟨v1, w2, hr1, ho2, hg1⟩ := append_row info_rt Tryz.underlying48 rfl (by decide) ho1 (HA.out.keep hb1) (one_routes la) (by rw [← EA.out]; omega) (by rw [← EA.out]; omega) hb1.size
  have hb2 : Below w.heap.size w w2 := hb1.grown hg1 hb1.size (fun k e => (ho1.lt k e).1)
  obtain ⟨v2, w3, hr2, ho3, hg2⟩ := append_row info_rt Tryz.underlying48 rfl (by decide) ho2 (HB.out.keep hb2) (one_routes lb) (by rw [← EA.out, ← EB.out]; omega) (by rw [← EA.out, ← EB.out]; omega) hb2.size
  have hb3 : Below w.heap.size w w3 := hb2.grown hg2 hb2.size (fun k e => (ho2.lt k e).1)
  obtain ⟨v3, w4, hr3, ho4, hg3⟩ := append_row info_rt Tryz.underlying48 rfl (by decide) ho3 (HC.out.keep hb3) (one_routes lc) (by rw [← EA.out, ← EB.out, ← EC.out]; omega) (by rw [← EA.out, ← EB.out, ← EC.out]; omega) hb3.size
  have hb4 : Below w.heap.size w w4 := hb3.grown hg3 hb3.size (fun k e => (ho3.lt k e).1)
  have HO : Hid (w4.ownsRow w.heap.size 98 6 v3 (la ++ (lb ++ lc)).length (rtCs (la ++ (lb ++ lc)))) := by
    show w4.ownsRow _ _ _ _ _ _
    rw [rtCs_app, rtCs_app, List.length_append, List.length_append]
    simp only [Nat.zero_add, List.nil_append, List.append_assoc, Nat.add_assoc] at ho4
    exact ho4
  have y0 := (hb1.cell (p := ⟨b, 0, none⟩) hb).trans h0
  have y1 := (hb2.cell (p := ⟨b, 1, none⟩) hb).trans h1
  have y2 := (hb3.cell (p := ⟨b, 2, none⟩) hb).trans h2
  clear ho1 ho2 ho3 ho4 hg1 hg2 hg3 hb1 hb2 hb3
  go_wp2_with fail
  refine wp_loop_rounds 4 ?_
  repeat any_goals (rw [rounds_succ]; go_wp2_with fail)
  go_ret
  exact ⟨_, rfl, HO.out, hb4⟩
set_option maxHeartbeats 4000000 in
set_option maxRecDepth 20000 in
theorem concat2_any (b : Nat) (la lb : List Rt) (oa ob : Option Addr) (na nb ca cb : Nat) (w : World) (hb : b < w.heap.size) (h0 : w.cell? ⟨b, 0, none⟩ = some (.slice oa na ca)) (h1 : w.cell? ⟨b, 1, none⟩ = some (.slice ob nb cb))
    (ea : na = la.length) (eb : nb = lb.length)
    (ha : HasRts w (.slice oa na ca) la) (hbb : HasRts w (.slice ob nb cb) lb) (hla : na ≤ 1000) (hlb : nb ≤ 1000) :
    Calls Tryz.prog 117 #[.slice (some ⟨b, 0, none⟩) 2 2] w fun e w' => ∃ v, e = .returned v ∧ w'.ownsRow w.heap.size 98 6 v (la ++ lb).length (rtCs (la ++ lb)) ∧ Below w.heap.size w w' := by
  have EA : Hid (na = la.length) := ea
  have EB : Hid (nb = lb.length) := eb
  have cg := fun w => grow_any (na + nb) w (by omega)
  rw [show ((na + nb : Nat) : Int) = (na : Int) + (nb : Int) by omega] at cg
  have HA : Hid (HasRts w (.slice oa na ca) la) := ha
  have HB : Hid (HasRts w (.slice ob nb cb) lb) := hbb
  have hia : (na : Int) ≤ 1000 := by omega
  have hib : (nb : Int) ≤ 1000 := by omega
  have hn0 : decide ((na : Int) < 0) = false := by simp
  have hn1 : decide ((na : Int) + (nb : Int) < 0) = false := by simp; omega
  clear ea eb ha hbb
  go_enter Tryz.func117, Tryz.ntmps117
  go_wp2_with fail
  refine wp_loop_rounds 3 ?_
  repeat any_goals (rw [rounds_succ]; go_wp2_with fail)
  go_at_call 137; refine (cg _).mono ?_; rintro e w1 ⟨v0, rfl, ho1, hb1⟩
  obtain ⟨v1, w2, hr1, ho2, hg1⟩ := append_row info_rt Tryz.underlying48 rfl (by decide) ho1 (HA.out.keep hb1) (one_routes la) (by rw [← EA.out]; omega) (by rw [← EA.out]; omega) hb1.size
  have hb2 : Below w.heap.size w w2 := hb1.grown hg1 hb1.size (fun k e => (ho1.lt k e).1)
  obtain ⟨v2, w3, hr2, ho3, hg2⟩ := append_row info_rt Tryz.underlying48 rfl (by decide) ho2 (HB.out.keep hb2) (one_routes lb) (by rw [← EA.out, ← EB.out]; omega) (by rw [← EA.out, ← EB.out]; omega) hb2.size
  have hb3 : Below w.heap.size w w3 := hb2.grown hg2 hb2.size (fun k e => (ho2.lt k e).1)
  have HO : Hid (w3.ownsRow w.heap.size 98 6 v2 (la ++ lb).length (rtCs (la ++ lb))) := by
    show w3.ownsRow _ _ _ _ _ _
    rw [rtCs_app, List.length_append]
    simp only [Nat.zero_add, List.nil_append] at ho3
    exact ho3
  have y0 := (hb1.cell (p := ⟨b, 0, none⟩) hb).trans h0
  have y1 := (hb2.cell (p := ⟨b, 1, none⟩) hb).trans h1
  clear ho1 ho2 ho3 hg1 hg2 hb1 hb2
  go_wp2_with fail
  refine wp_loop_rounds 3 ?_
  repeat any_goals (rw [rounds_succ]; go_wp2_with fail)
  go_ret
  exact ⟨_, rfl, HO.out, hb3⟩
end Go.Proofs.YtkjhnefbcnnjlaaGreat.Tr
namespace Go.Proofs.YtkjhnefbcnnjlaaGreat.Addr
open Go.RowKit

set_option maxHeartbeats 4000000 in
theorem has_any (p : Pf) (six : Bool) (a : Nat) (w : World) (hl : -9223372036854775808 ≤ p.len ∧ p.len ≤ 9223372036854775807) (hn : p.n < 2 ^ 128) (ha : a < 2 ^ 128) : Calls Tryz.prog 144 #[pfV p, .bool six, adV a] w fun e w' => e = .returned (.bool (hasB p six a)) ∧ Below w.heap.size w w' := by
  have cc := fun w => check_any p w hl hn
  have cr := fun w => right_any six a w ha
  have cf : 0 ≤ p.len ∧ p.len ≤ (wideN p.six : Int) → ∀ w, Calls Tryz.prog 133 #[pfV p, adV a] w fun e w' => e = .returned (adV (firstN (kP p) a)) ∧ Below w.heap.size w w' := fun h w => first_any p a w h ha
  have heq := fun w => ad_eql (firstN (kP p) a) p.n w
  have hgd := ad_guard
  obtain ⟨X, hX⟩ : ∃ X, X = (w.alloc (.cells #[.bool p.six, .int .u64 (hiN p.n : Int), .int .u64 (loN p.n : Int), .int .i64 p.len] 33)).alloc (.cells #[.int .u64 (hiN a : Int), .int .u64 (loN a : Int)] 31) := ⟨_, rfl⟩
  have hB0 : Below w.heap.size w X := by rw [hX]; exact below_new (below_new (Below.refl _ _) _) _
  have r0 : RowAt X w.heap.size [.bool p.six, .int .u64 (hiN p.n : Int), .int .u64 (loN p.n : Int), .int .i64 p.len] 33 := by rw [hX]; exact (RowAt.new _ _ _).alloc _
  have r1 : RowAt X (w.heap.size + 1) [.int .u64 (hiN a : Int), .int .u64 (loN a : Int)] 31 := by rw [hX, ← World.size_alloc w (.cells #[.bool p.six, .int .u64 (hiN p.n : Int), .int .u64 (loN p.n : Int), .int .i64 p.len] 33)]; exact RowAt.new _ _ _
  have q0 : ∀ b : Bl X, b.W.cell? ⟨w.heap.size, 0, none⟩ = some (.bool p.six) := fun p => (r0.below p.h).cell 0
  have q1 : ∀ b : Bl X, b.W.cell? ⟨w.heap.size, 1, none⟩ = some (.int .u64 (hiN p.n : Int)) := fun p => (r0.below p.h).cell 1
  have q2 : ∀ b : Bl X, b.W.cell? ⟨w.heap.size, 2, none⟩ = some (.int .u64 (loN p.n : Int)) := fun p => (r0.below p.h).cell 2
  have q3 : ∀ b : Bl X, b.W.cell? ⟨w.heap.size, 3, none⟩ = some (.int .i64 p.len) := fun p => (r0.below p.h).cell 3
  have p0 : ∀ b : Bl X, b.W.cell? ⟨w.heap.size + 1, 0, none⟩ = some (.int .u64 (hiN a : Int)) := fun p => (r1.below p.h).cell 0
  have p1 : ∀ b : Bl X, b.W.cell? ⟨w.heap.size + 1, 1, none⟩ = some (.int .u64 (loN a : Int)) := fun p => (r1.below p.h).cell 1
  clear r0 r1
  have HH : Hid (hasB p six a = (okP p && (decide (p.six = six) && (rightB six a && decide (firstN (kP p) a = p.n))))) := rfl
  generalize hasB p six a = R at *
  cases hok : okP p
  · rw [checkP_bad hok] at cc
    have HV : Hid (R = false) := by show _ = _; rw [HH.out, hok]; rfl
    clear HH cf heq hok
    unfold pfV adV at *
    generalize hiN p.n = h at *
    generalize loN p.n = l at *
    generalize hiN a = ah at *
    generalize loN a = al at *
    generalize p.six = sx at *
    generalize p.len = len at *
    clear hl hn ha
    go_enter Tryz.func144, Tryz.ntmps144
    go_wp2_with fail
    rw [← hX]
    clear hX
    haveI := bl_ne X
    refine wp_region_bl (by kernel_rfl) (by kernel_rfl) ?_
    repeat (quiet_step (first | (go_at_call 114; exact bl_call (cc _))))
    refine wpQuiet_nil ?_
    intro wq hw'
    obtain ⟨⟨wz, hq⟩, hw2⟩ := hw'
    subst hw2
    have hW := below2 hB0 hq
    go_wp2_with fail
    go_ret
    exact ⟨by rw [HV.out]; rfl, hW⟩
  rw [checkP_ok hok] at cc
  have cf := cf (okP_iff.1 hok).1
  rw [hok] at HH
  clear hok
  by_cases hs : p.six = six
  · rw [decide_eq_true hs] at HH
    subst hs
    cases hr : rightB p.six a
    · rw [hr] at cr HH
      have HV : Hid (R = false) := by show _ = _; rw [HH.out]; rfl
      clear HH cf heq hr
      unfold pfV adV at *
      generalize hiN p.n = h at *
      generalize loN p.n = l at *
      generalize hiN a = ah at *
      generalize loN a = al at *
      generalize p.six = sx at *
      generalize p.len = len at *
      clear hl hn ha
      go_enter Tryz.func144, Tryz.ntmps144
      go_wp2_with fail
      rw [← hX]
      clear hX
      haveI := bl_ne X
      refine wp_region_bl (by kernel_rfl) (by kernel_rfl) ?_
      repeat (quiet_step (first | (go_at_call 114; exact bl_call (cc _)) | (go_at_call 42; exact bl_call (cr _))))
      refine wpQuiet_nil ?_
      intro wq hw'
      obtain ⟨⟨wz, hq⟩, hw2⟩ := hw'
      subst hw2
      have hW := below2 hB0 hq
      go_wp2_with fail
      go_ret
      exact ⟨by rw [HV.out]; rfl, hW⟩
    · rw [hr] at cr HH
      have HV : Hid (R = decide (firstN (kP p) a = p.n)) := by show _ = _; rw [HH.out]; rfl
      clear HH hr
      generalize decide (firstN (kP p) a = p.n) = E at *
      unfold pfV adV at *
      generalize firstN (kP p) a = f at *
      generalize hiN f = fh at *
      generalize loN f = fl at *
      generalize hiN p.n = h at *
      generalize loN p.n = l at *
      generalize hiN a = ah at *
      generalize loN a = al at *
      generalize p.six = sx at *
      generalize p.len = len at *
      clear hl hn ha
      go_enter Tryz.func144, Tryz.ntmps144
      go_wp2_with fail
      rw [← hX]
      clear hX
      haveI := bl_ne X
      refine wp_region_bl (by kernel_rfl) (by kernel_rfl) ?_
      repeat (quiet_step (first | (go_at_call 114; exact bl_call (cc _)) | (go_at_call 42; exact bl_call (cr _)) | (go_at_call 133; exact bl_call (cf _))))
      refine wpQuiet_nil ?_
      intro wq hw'
      obtain ⟨⟨wz, hq⟩, hw2⟩ := hw'
      subst hw2
      have hW := below2 hB0 hq
      go_wp2_with fail
      go_ret
      exact ⟨by rw [HV.out]; rfl, hW⟩
  · have HV : Hid (R = false) := by show _ = _; rw [HH.out, decide_eq_false hs]; rfl
    have hs2 : (p.six == six) = false := by simpa using hs
    clear HH cf heq
    unfold pfV adV at *
    generalize hiN p.n = h at *
    generalize loN p.n = l at *
    generalize hiN a = ah at *
    generalize loN a = al at *
    generalize p.six = sx at *
    generalize p.len = len at *
    clear hl hn ha cr
    go_enter Tryz.func144, Tryz.ntmps144
    go_wp2_with fail
    rw [← hX]
    clear hX
    haveI := bl_ne X
    refine wp_region_bl (by kernel_rfl) (by kernel_rfl) ?_
    repeat (quiet_step (first | (go_at_call 114; exact bl_call (cc _))))
    refine wpQuiet_nil ?_
    intro wq hw'
    obtain ⟨⟨wz, hq⟩, hw2⟩ := hw'
    subst hw2
    have hW := below2 hB0 hq
    go_wp2_with fail
    go_ret
    exact ⟨by rw [HV.out]; rfl, hW⟩
end Go.Proofs.YtkjhnefbcnnjlaaGreat.Addr
namespace Go.Proofs.YtkjhnefbcnnjlaaGreat.Addr
open Go.RowKit

set_option maxHeartbeats 2000000 in
theorem covers_any (p q : Pf) (w : World) (hl : -9223372036854775808 ≤ p.len ∧ p.len ≤ 9223372036854775807) (hn : p.n < 2 ^ 128) (hl2 : -9223372036854775808 ≤ q.len ∧ q.len ≤ 9223372036854775807) (hn2 : q.n < 2 ^ 128) : Calls Tryz.prog 147 #[pfV p, pfV q] w fun e w' => e = .returned (.bool (coversB p q)) ∧ Below w.heap.size w w' := by
  have cc := fun w => check_any q w hl2 hn2
  have ch := fun w => has_any p q.six q.n w hl hn hn2
  obtain ⟨X, hX⟩ : ∃ X, X = (w.alloc (.cells #[.bool p.six, .int .u64 (hiN p.n : Int), .int .u64 (loN p.n : Int), .int .i64 p.len] 33)).alloc (.cells #[.bool q.six, .int .u64 (hiN q.n : Int), .int .u64 (loN q.n : Int), .int .i64 q.len] 33) := ⟨_, rfl⟩
  have hB0 : Below w.heap.size w X := by rw [hX]; exact below_new (below_new (Below.refl _ _) _) _
  have r0 : RowAt X w.heap.size [.bool p.six, .int .u64 (hiN p.n : Int), .int .u64 (loN p.n : Int), .int .i64 p.len] 33 := by rw [hX]; exact (RowAt.new _ _ _).alloc _
  have r1 : RowAt X (w.heap.size + 1) [.bool q.six, .int .u64 (hiN q.n : Int), .int .u64 (loN q.n : Int), .int .i64 q.len] 33 := by rw [hX, ← World.size_alloc w (.cells #[.bool p.six, .int .u64 (hiN p.n : Int), .int .u64 (loN p.n : Int), .int .i64 p.len] 33)]; exact RowAt.new _ _ _
  have HH : Hid (coversB p q = (okP q && (decide (p.len ≤ q.len) && hasB p q.six q.n))) := rfl
  generalize coversB p q = R at *
  generalize hasB p q.six q.n = HB at *
  cases hok : okP q
  · rw [checkP_bad hok] at cc
    have HV : Hid (R = false) := by show _ = _; rw [HH.out, hok]; rfl
    clear HH hok ch hl hl2 hn hn2
    unfold pfV at *
    (try unfold adV at *)
    generalize hiN p.n = h at *
    generalize loN p.n = l at *
    generalize hiN q.n = qh at *
    generalize loN q.n = ql at *
    generalize p.six = sx at *
    generalize p.len = len at *
    generalize q.six = qs at *
    generalize q.len = qn at *
    go_enter Tryz.func147, Tryz.ntmps147
    go_wp2_with fail
    go_at_call 114; refine (cc _).mono ?_; rintro e w2 ⟨rfl, hb2⟩
    rw [← hX] at hb2
    have hW := below2 hB0 hb2
    clear hX cc hB0 r0 r1 hb2
    go_wp2_with fail
    go_ret
    exact ⟨by rw [HV.out]; rfl, hW⟩
  rw [checkP_ok hok] at cc
  rw [hok] at HH
  clear hok
  by_cases hs : p.len ≤ q.len
  · have HV : Hid (R = HB) := by show _ = _; rw [HH.out, decide_eq_true hs]; simp
    have hd : decide (p.len ≤ q.len) = true := decide_eq_true hs
    clear HH hl hl2 hn hn2 hs
    unfold pfV at *
    (try unfold adV at *)
    generalize hiN p.n = h at *
    generalize loN p.n = l at *
    generalize hiN q.n = qh at *
    generalize loN q.n = ql at *
    generalize p.six = sx at *
    generalize p.len = len at *
    generalize q.six = qs at *
    generalize q.len = qn at *
    go_enter Tryz.func147, Tryz.ntmps147
    go_wp2_with fail
    go_at_call 114; refine (cc _).mono ?_; rintro e w2 ⟨rfl, hb2⟩
    rw [← hX] at hb2
    have hW := below2 hB0 hb2
    obtain ⟨q0, q1, q2, q3, qf⟩ := cells4 (r0.below hb2)
    obtain ⟨p0, p1, p2, p3, pf⟩ := cells4 (r1.below hb2)
    clear hX cc hB0 r0 r1 hb2
    go_wp2_with fail
    go_at_call 144; refine (ch _).mono ?_; rintro e w3 ⟨rfl, hb3⟩
    have hW := below2 hW hb3
    clear ch
    go_wp2_with fail
    go_ret
    exact ⟨by rw [HV.out]; rfl, hW⟩
  · have HV : Hid (R = false) := by show _ = _; rw [HH.out, decide_eq_false hs]; rfl
    have hd : decide (p.len ≤ q.len) = false := decide_eq_false hs
    clear HH ch hl hl2 hn hn2 hs
    unfold pfV at *
    (try unfold adV at *)
    generalize hiN p.n = h at *
    generalize loN p.n = l at *
    generalize hiN q.n = qh at *
    generalize loN q.n = ql at *
    generalize p.six = sx at *
    generalize p.len = len at *
    generalize q.six = qs at *
    generalize q.len = qn at *
    go_enter Tryz.func147, Tryz.ntmps147
    go_wp2_with fail
    go_at_call 114; refine (cc _).mono ?_; rintro e w2 ⟨rfl, hb2⟩
    rw [← hX] at hb2
    have hW := below2 hB0 hb2
    obtain ⟨q0, q1, q2, q3, qf⟩ := cells4 (r0.below hb2)
    obtain ⟨p0, p1, p2, p3, pf⟩ := cells4 (r1.below hb2)
    clear hX cc hB0 r0 r1 hb2
    go_wp2_with fail
    go_ret
    exact ⟨by rw [HV.out]; rfl, hW⟩
theorem RowAt.set1 {W : World} {g : Nat} {cs : List Value} {t : TypeId} (h : RowAt W g cs t) (k : Nat) (v : Value) : RowAt (W.setCell ⟨g, k, none⟩ v) g (cs.set k v) t := by
  unfold RowAt at *
  simp only [World.setCell]
  rw [Array.getElem?_modify, if_pos rfl, h]
  simp
theorem RowAt.far1 {W : World} {g b : Nat} {cs : List Value} {t : TypeId} (h : RowAt W g cs t) (hne : g ≠ b) (k : Nat) (v : Value) : RowAt (W.setCell ⟨b, k, none⟩ v) g cs t := by
  unfold RowAt at *
  simp only [World.setCell]
  rw [Array.getElem?_modify, if_neg (fun e => hne e.symm)]
  exact h
end Go.Proofs.YtkjhnefbcnnjlaaGreat.Addr
