/- Events held against each other. -/
import Derived.Test.YtaaedgfacnaggaaTs02
import Derived.Test.YtaaedgfacnaggaaTs03
import Derived.Lib.EndianBits
import Derived.BigQuiet
import Derived.Deep.QuietTactic
import Derived.OwnWalk
import Derived.Deep.Cut
import Derived.Deep.DeepCutAuto
import Derived.Deep.RegionHeld3
import Derived.Test.YtaaedgfacnaggaaTs01
set_option linter.unusedVariables false
namespace Go.Proofs.Ytaaedgfacnaggaa.Msg
open Go.RowKit
open Go.Proofs.Ytaaedgfacnaggaa.Addr (Pf okP hiN loN below_new)

structure Ac where
  k : Nat
  i : Int
structure Ev where
  kind : Nat
  router : Int
  seq : Nat
  time : Int
  pf : Pf
  act : Ac
  iface : Int
  peer : Int
def acV (a : Ac) : Value := .agg #[.int .u8 (a.k : Int), .int .i64 a.i]
def evC (e : Ev) : List Value := [.int .u8 (e.kind : Int), .int .i64 e.router, .int .u64 (e.seq : Int), .int .i64 e.time, .bool e.pf.six, .int .u64 (hiN e.pf.n : Int), .int .u64 (loN e.pf.n : Int), .int .i64 e.pf.len, .int .u8 (e.act.k : Int), .int .i64 e.act.i, .int .i64 e.iface, .int .i64 e.peer]
def evV (e : Ev) : Value := .agg (evC e).toArray
def FitA (a : Ac) : Prop := (a.k : Int) ≤ 255 ∧ -9223372036854775808 ≤ a.i ∧ a.i ≤ 9223372036854775807
structure FitE (e : Ev) : Prop where
  kind : (e.kind : Int) ≤ 255
  router : -9223372036854775808 ≤ e.router ∧ e.router ≤ 9223372036854775807
  seq : (e.seq : Int) ≤ 18446744073709551615
  time : -9223372036854775808 ≤ e.time ∧ e.time ≤ 9223372036854775807
  len : -9223372036854775808 ≤ e.pf.len ∧ e.pf.len ≤ 9223372036854775807
  n : e.pf.n < 2 ^ 128
  act : FitA e.act
  iface : -9223372036854775808 ≤ e.iface ∧ e.iface ≤ 9223372036854775807
  peer : -9223372036854775808 ≤ e.peer ∧ e.peer ≤ 9223372036854775807
def okA (a : Ac) : Bool := (decide (1 ≤ a.k) && decide (a.k ≤ 3)) && (decide (0 ≤ a.i) && decide (a.i ≤ 65536)) && (decide (a.k = 1) || decide (a.i = 0))
def checkA (a : Ac) : Int := if okA a then 0 else 2
def headB (e : Ev) : Bool := (decide (1 ≤ e.kind) && decide (e.kind ≤ 6)) && (decide (0 ≤ e.router) && decide (e.router ≤ 1048576)) && (decide (1 ≤ e.seq) && decide (e.seq ≤ 1099511627776)) && (decide (0 ≤ e.time) && decide (e.time ≤ 1099511627776))
def partsB (e : Ev) : Bool := okP e.pf && (decide (0 ≤ e.iface) && decide (e.iface ≤ 65536)) && (decide (0 ≤ e.peer) && decide (e.peer ≤ 1048576)) && (decide (e.kind ≠ 3) || okA e.act)
def zeroPf : Pf := ⟨false, 0, 0⟩
def zeroA : Ac := ⟨0, 0⟩
/-- what is left of an event when all that its kind names is taken out -/
def unN (e : Ev) : Ev := ⟨0, 0, 0, 0, if e.kind = 3 ∨ e.kind = 4 then zeroPf else e.pf, if e.kind = 3 then zeroA else e.act, if e.kind = 5 ∨ e.kind = 6 then 0 else e.iface, if e.kind = 5 then 0 else e.peer⟩
def zeroE : Ev := ⟨0, 0, 0, 0, zeroPf, zeroA, 0, 0⟩
theorem between_ek (a n b : Nat) (w : World) : Calls Try.prog 80 #[.int .u8 (a : Int), .int .u8 (n : Int), .int .u8 (b : Int)] w fun e w' => e = .returned (.bool (decide (a ≤ n) && decide (n ≤ b))) ∧ w' = w := by
  have e1 : decide ((a : Int) ≤ (n : Int)) = decide (a ≤ n) := decide_eq_decide.2 (by omega)
  have e2 : decide ((n : Int) ≤ (b : Int)) = decide (n ≤ b) := decide_eq_decide.2 (by omega)
  rw [← e1, ← e2]
  clear e1 e2
  generalize (a : Int) = x
  generalize (n : Int) = y
  generalize (b : Int) = z
  cases h : decide (x ≤ y)
  all_goals
    go_enter Try.func80, Try.ntmps80
    go_wp2_with fail
    go_ret
    exact ⟨rfl, rfl⟩
theorem between_ak (a n b : Nat) (w : World) : Calls Try.prog 90 #[.int .u8 (a : Int), .int .u8 (n : Int), .int .u8 (b : Int)] w fun e w' => e = .returned (.bool (decide (a ≤ n) && decide (n ≤ b))) ∧ w' = w := by
  have e1 : decide ((a : Int) ≤ (n : Int)) = decide (a ≤ n) := decide_eq_decide.2 (by omega)
  have e2 : decide ((n : Int) ≤ (b : Int)) = decide (n ≤ b) := decide_eq_decide.2 (by omega)
  rw [← e1, ← e2]
  clear e1 e2
  generalize (a : Int) = x
  generalize (n : Int) = y
  generalize (b : Int) = z
  cases h : decide (x ≤ y)
  all_goals
    go_enter Try.func90, Try.ntmps90
    go_wp2_with fail
    go_ret
    exact ⟨rfl, rfl⟩
theorem between_int (a n b : Int) (w : World) : Calls Try.prog 81 #[.int .i64 (a : Int), .int .i64 (n : Int), .int .i64 (b : Int)] w fun e w' => e = .returned (.bool (decide (a ≤ n) && decide (n ≤ b))) ∧ w' = w := by
  have e1 : decide ((a : Int) ≤ (n : Int)) = decide (a ≤ n) := decide_eq_decide.2 (by omega)
  have e2 : decide ((n : Int) ≤ (b : Int)) = decide (n ≤ b) := decide_eq_decide.2 (by omega)
  rw [← e1, ← e2]
  clear e1 e2
  generalize (a : Int) = x
  generalize (n : Int) = y
  generalize (b : Int) = z
  cases h : decide (x ≤ y)
  all_goals
    go_enter Try.func81, Try.ntmps81
    go_wp2_with fail
    go_ret
    exact ⟨rfl, rfl⟩
theorem between_i64 (a n b : Int) (w : World) : Calls Try.prog 83 #[.int .i64 (a : Int), .int .i64 (n : Int), .int .i64 (b : Int)] w fun e w' => e = .returned (.bool (decide (a ≤ n) && decide (n ≤ b))) ∧ w' = w := by
  have e1 : decide ((a : Int) ≤ (n : Int)) = decide (a ≤ n) := decide_eq_decide.2 (by omega)
  have e2 : decide ((n : Int) ≤ (b : Int)) = decide (n ≤ b) := decide_eq_decide.2 (by omega)
  rw [← e1, ← e2]
  clear e1 e2
  generalize (a : Int) = x
  generalize (n : Int) = y
  generalize (b : Int) = z
  cases h : decide (x ≤ y)
  all_goals
    go_enter Try.func83, Try.ntmps83
    go_wp2_with fail
    go_ret
    exact ⟨rfl, rfl⟩
theorem between_u64 (a n b : Nat) (w : World) : Calls Try.prog 82 #[.int .u64 (a : Int), .int .u64 (n : Int), .int .u64 (b : Int)] w fun e w' => e = .returned (.bool (decide (a ≤ n) && decide (n ≤ b))) ∧ w' = w := by
  have e1 : decide ((a : Int) ≤ (n : Int)) = decide (a ≤ n) := decide_eq_decide.2 (by omega)
  have e2 : decide ((n : Int) ≤ (b : Int)) = decide (n ≤ b) := decide_eq_decide.2 (by omega)
  rw [← e1, ← e2]
  clear e1 e2
  generalize (a : Int) = x
  generalize (n : Int) = y
  generalize (b : Int) = z
  cases h : decide (x ≤ y)
  all_goals
    go_enter Try.func82, Try.ntmps82
    go_wp2_with fail
    go_ret
    exact ⟨rfl, rfl⟩
set_option maxHeartbeats 1000000 in
theorem checkAction_any (a : Ac) (w : World) (hf : FitA a) : Calls Try.prog 84 #[acV a] w fun e w' => e = .returned (.int .i64 (checkA a)) ∧ Below w.heap.size w w' := by
  have c1 := fun W => between_ak 1 a.k 3 W
  have c2 := fun W => between_int 0 a.i 65536 W
  have HC : Hid (checkA a = if (decide (1 ≤ a.k) && decide (a.k ≤ 3)) && (decide (0 ≤ a.i) && decide (a.i ≤ 65536)) && (decide (a.k = 1) || decide (a.i = 0)) then 0 else 2) := rfl
  generalize checkA a = R at HC ⊢
  obtain ⟨k, i⟩ := a
  obtain ⟨h1, h2, h3⟩ := hf
  unfold acV
  simp only at *
  have hB := below_new (Below.refl _ w) (.cells #[.int .u8 (k : Int), .int .i64 i] 35)
  generalize (decide (1 ≤ k) && decide (k ≤ 3)) = B1 at *
  generalize (decide (0 ≤ i) && decide (i ≤ 65536)) = B2 at *
  cases B1
  · have HV : Hid (R = 2) := by show _ = _; rw [HC.out]; rfl
    clear HC
    go_enter Try.func84, Try.ntmps84
    go_wp2_with fail
    go_at_call 90; refine (c1 _).mono ?_; rintro e w1 ⟨rfl, rfl⟩
    go_wp2_with fail
    go_ret
    exact ⟨by rw [HV.out]; rfl, hB⟩
  · cases B2
    · have HV : Hid (R = 2) := by show _ = _; rw [HC.out]; rfl
      clear HC
      go_enter Try.func84, Try.ntmps84
      go_wp2_with fail
      go_at_call 90; refine (c1 _).mono ?_; rintro e w1 ⟨rfl, rfl⟩
      go_wp2_with fail
      go_at_call 81; refine (c2 _).mono ?_; rintro e w2 ⟨rfl, rfl⟩
      go_wp2_with fail
      go_ret
      exact ⟨by rw [HV.out]; rfl, hB⟩
    · by_cases hk : k = 1
      · have HV : Hid (R = 0) := by show _ = _; rw [HC.out, decide_eq_true hk]; rfl
        clear HC
        have q : ((k : Int) != 1) = false := by rw [hk]; rfl
        clear hk
        go_enter Try.func84, Try.ntmps84
        go_wp2_with fail
        go_at_call 90; refine (c1 _).mono ?_; rintro e w1 ⟨rfl, rfl⟩
        go_wp2_with fail
        go_at_call 81; refine (c2 _).mono ?_; rintro e w2 ⟨rfl, rfl⟩
        go_wp2_with fail
        go_ret
        exact ⟨by rw [HV.out]; rfl, hB⟩
      · have q : ((k : Int) != 1) = true := bne_iff_ne.2 (by omega)
        by_cases hi : i = 0
        · have HV : Hid (R = 0) := by show _ = _; rw [HC.out, decide_eq_true hi]; simp
          have q2 : (i != 0) = false := by rw [hi]; rfl
          clear HC hi hk
          go_enter Try.func84, Try.ntmps84
          go_wp2_with fail
          go_at_call 90; refine (c1 _).mono ?_; rintro e w1 ⟨rfl, rfl⟩
          go_wp2_with fail
          go_at_call 81; refine (c2 _).mono ?_; rintro e w2 ⟨rfl, rfl⟩
          go_wp2_with fail
          go_ret
          exact ⟨by rw [HV.out]; rfl, hB⟩
        · have HV : Hid (R = 2) := by show _ = _; rw [HC.out, decide_eq_false hi, decide_eq_false hk]; rfl
          have q2 : (i != 0) = true := bne_iff_ne.2 hi
          clear HC hi hk
          go_enter Try.func84, Try.ntmps84
          go_wp2_with fail
          go_at_call 90; refine (c1 _).mono ?_; rintro e w1 ⟨rfl, rfl⟩
          go_wp2_with fail
          go_at_call 81; refine (c2 _).mono ?_; rintro e w2 ⟨rfl, rfl⟩
          go_wp2_with fail
          go_ret
          exact ⟨by rw [HV.out]; rfl, hB⟩
set_option maxHeartbeats 1000000 in
theorem rightHead_any (e : Ev) (w : World) (hf : FitE e) : Calls Try.prog 64 #[evV e] w fun r w' => r = .returned (.bool (headB e)) ∧ Below w.heap.size w w' := by
  have c1 := fun W => between_ek 1 e.kind 6 W
  have c2 := fun W => between_int 0 e.router 1048576 W
  have c3 := fun W => between_u64 1 e.seq 1099511627776 W
  have c4 := fun W => between_i64 0 e.time 1099511627776 W
  have HC : Hid (headB e = ((decide (1 ≤ e.kind) && decide (e.kind ≤ 6)) && (decide (0 ≤ e.router) && decide (e.router ≤ 1048576)) && (decide (1 ≤ e.seq) && decide (e.seq ≤ 1099511627776)) && (decide (0 ≤ e.time) && decide (e.time ≤ 1099511627776)))) := rfl
  generalize headB e = R at HC ⊢
  generalize (decide (1 ≤ e.kind) && decide (e.kind ≤ 6)) = B1 at *
  generalize (decide (0 ≤ e.router) && decide (e.router ≤ 1048576)) = B2 at *
  generalize (decide (1 ≤ e.seq) && decide (e.seq ≤ 1099511627776)) = B3 at *
  generalize (decide (0 ≤ e.time) && decide (e.time ≤ 1099511627776)) = B4 at *
  have hB := below_new (Below.refl _ w) (.cells (evC e).toArray 91)
  unfold evV
  unfold evC at *
  clear hf
  cases B1
  · have HV : Hid (R = false) := by show _ = _; rw [HC.out]; rfl
    clear HC
    go_enter Try.func64, Try.ntmps64
    go_wp2_with fail
    go_at_call 80; refine (c1 _).mono ?_; rintro r w1 ⟨rfl, rfl⟩
    go_wp2_with fail
    go_ret
    exact ⟨by rw [HV.out]; rfl, hB⟩
  cases B2
  · have HV : Hid (R = false) := by show _ = _; rw [HC.out]; rfl
    clear HC
    go_enter Try.func64, Try.ntmps64
    go_wp2_with fail
    go_at_call 80; refine (c1 _).mono ?_; rintro r w1 ⟨rfl, rfl⟩
    go_wp2_with fail
    go_at_call 81; refine (c2 _).mono ?_; rintro r w1 ⟨rfl, rfl⟩
    go_wp2_with fail
    go_ret
    exact ⟨by rw [HV.out]; rfl, hB⟩
  cases B3
  · have HV : Hid (R = false) := by show _ = _; rw [HC.out]; rfl
    clear HC
    go_enter Try.func64, Try.ntmps64
    go_wp2_with fail
    go_at_call 80; refine (c1 _).mono ?_; rintro r w1 ⟨rfl, rfl⟩
    go_wp2_with fail
    go_at_call 81; refine (c2 _).mono ?_; rintro r w1 ⟨rfl, rfl⟩
    go_wp2_with fail
    go_at_call 82; refine (c3 _).mono ?_; rintro r w1 ⟨rfl, rfl⟩
    go_wp2_with fail
    go_ret
    exact ⟨by rw [HV.out]; rfl, hB⟩
  · have HV : Hid (R = B4) := by show _ = _; rw [HC.out]; cases B4 <;> rfl
    clear HC
    go_enter Try.func64, Try.ntmps64
    go_wp2_with fail
    go_at_call 80; refine (c1 _).mono ?_; rintro r w1 ⟨rfl, rfl⟩
    go_wp2_with fail
    go_at_call 81; refine (c2 _).mono ?_; rintro r w1 ⟨rfl, rfl⟩
    go_wp2_with fail
    go_at_call 82; refine (c3 _).mono ?_; rintro r w1 ⟨rfl, rfl⟩
    go_wp2_with fail
    go_at_call 83; refine (c4 _).mono ?_; rintro r w1 ⟨rfl, rfl⟩
    go_wp2_with fail
    go_ret
    exact ⟨by rw [HV.out]; rfl, hB⟩
end Go.Proofs.Ytaaedgfacnaggaa.Msg
namespace Go.Proofs.Ytaaedgfacnaggaa.Tr
open Go.RowKit
open Go.Proofs.Ytaaedgfacnaggaa.Addr (Pf okP wideN rightB cmpN hiN loN)
open Go.Proofs.Ytaaedgfacnaggaa.Msg (Ac okA FitA)
open Go.Proofs.Ytaaedgfacnaggaa.Lk (HasRow)
/-- a route, plain -/
structure Rt where
  pf : Pf
  act : Ac
def rtC (r : Rt) : List Value := [.bool r.pf.six, .int .u64 (hiN r.pf.n : Int), .int .u64 (loN r.pf.n : Int), .int .i64 r.pf.len, .int .u8 (r.act.k : Int), .int .i64 r.act.i]
def FitP (p : Pf) : Prop := (-9223372036854775808 ≤ p.len ∧ p.len ≤ 9223372036854775807) ∧ p.n < 2 ^ 128
def FitR (r : Rt) : Prop := FitP r.pf ∧ FitA r.act
def okR (r : Rt) : Bool := okP r.pf && okA r.act
def kindN (six : Bool) : Nat := if six then 1 else 0
def cmpI (a b : Int) : Int := if a < b then -1 else if a = b then 0 else 1
def ordP (p q : Pf) : Int := if cmpN (kindN p.six) (kindN q.six) = 0 then (if cmpN p.n q.n = 0 then cmpI p.len q.len else cmpN p.n q.n) else cmpN (kindN p.six) (kindN q.six)
def ltP (p q : Pf) : Prop := (p.six = false ∧ q.six = true) ∨ (p.six = q.six ∧ (p.n < q.n ∨ (p.n = q.n ∧ p.len < q.len)))
theorem ordP_lt (p q : Pf) : ordP p q < 0 ↔ ltP p q := by
  unfold ordP ltP cmpN cmpI kindN
  cases p.six <;> cases q.six <;> simp <;> (repeat' split) <;> simp_all <;> omega
theorem ordP_gt (p q : Pf) : 0 < ordP p q ↔ ltP q p := by
  unfold ordP ltP cmpN cmpI kindN
  cases p.six <;> cases q.six <;> simp <;> (repeat' split) <;> simp_all <;> omega
theorem ordP_eq (p q : Pf) : ordP p q = 0 ↔ p = q := by
  obtain ⟨a, b, c⟩ := p
  obtain ⟨d, e, f⟩ := q
  unfold ordP cmpN cmpI kindN
  cases a <;> cases d <;> simp <;> (repeat' split) <;> simp_all <;> omega
theorem ltP_trans {p q r : Pf} (h1 : ltP p q) (h2 : ltP q r) : ltP p r := by
  unfold ltP at *
  rcases h1 with ⟨a, b⟩ | ⟨a, b⟩ <;> rcases h2 with ⟨c, d⟩ | ⟨c, d⟩
  · rw [b] at c; cases c
  · exact .inl ⟨a, by rw [← c]; exact b⟩
  · exact .inl ⟨by rw [a]; exact c, d⟩
  · exact .inr ⟨a.trans c, by omega⟩
theorem ltP_irr (p : Pf) : ¬ ltP p p := by
  unfold ltP
  rintro (⟨a, b⟩ | ⟨_, b⟩)
  · rw [a] at b; cases b
  · omega
/-- the routes rise behind a bound -/
def rise : Option Pf → List Rt → Bool
  | _, [] => true
  | none, s :: l => okR s && rise (some s.pf) l
  | some p, s :: l => okR s && decide (ordP p s.pf < 0) && rise (some s.pf) l
def okT (l : List Rt) : Bool := decide (l.length ≤ 256) && rise none l
def checkT (l : List Rt) : Int := if okT l then 0 else 2
abbrev Up (l : List Rt) : Prop := l.Pairwise (fun x y => ltP x.pf y.pf)
theorem rise_ok (l : List Rt) : ∀ p, rise p l = true → (∀ x ∈ l, okR x = true) ∧ Up l ∧ ∀ q, p = some q → ∀ x ∈ l, ltP q x.pf := by
  induction l with
  | nil => intro p _; exact ⟨by simp, List.Pairwise.nil, by simp⟩
  | cons s l ih =>
    intro p h
    have key : okR s = true ∧ rise (some s.pf) l = true ∧ ∀ q, p = some q → ltP q s.pf := by
      cases p with
      | none => simp only [rise, Bool.and_eq_true] at h; exact ⟨h.1, h.2, fun q e => by cases e⟩
      | some q => simp only [rise, Bool.and_eq_true, decide_eq_true_eq] at h; exact ⟨h.1.1, h.2, fun q' e => by injection e with e; subst e; exact (ordP_lt _ _).1 h.1.2⟩
    obtain ⟨i1, i2, i3⟩ := ih _ key.2.1
    refine ⟨fun x hx => ?_, List.pairwise_cons.2 ⟨fun x hx => i3 _ rfl x hx, i2⟩, fun q e x hx => ?_⟩
    · rcases List.mem_cons.1 hx with rfl | hx
      · exact key.1
      · exact i1 x hx
    · rcases List.mem_cons.1 hx with rfl | hx
      · exact key.2.2 q e
      · exact ltP_trans (key.2.2 q e) (i3 _ rfl x hx)
theorem rise_of (l : List Rt) : ∀ p, (∀ x ∈ l, okR x = true) → Up l → (∀ q, p = some q → ∀ x ∈ l, ltP q x.pf) → rise p l = true := by
  induction l with
  | nil => intro p _ _ _; cases p <;> rfl
  | cons s l ih =>
    intro p h1 h2 h3
    have hp := List.pairwise_cons.1 h2
    have hr := ih (some s.pf) (fun x hx => h1 x (List.mem_cons_of_mem _ hx)) hp.2 (fun r e x hx => by injection e with e; subst e; exact hp.1 x hx)
    have hs := h1 s List.mem_cons_self
    cases p with
    | none => simp only [rise, hs, hr, Bool.and_self]
    | some r => simp only [rise, hs, hr, Bool.and_true, Bool.true_and, decide_eq_true_eq]; exact (ordP_lt _ _).2 (h3 r rfl s List.mem_cons_self)
theorem okT_iff (l : List Rt) : okT l = true ↔ l.length ≤ 256 ∧ (∀ x ∈ l, okR x = true) ∧ Up l := by
  unfold okT
  rw [Bool.and_eq_true, decide_eq_true_eq]
  exact ⟨fun h => ⟨h.1, (rise_ok l none h.2).1, (rise_ok l none h.2).2.1⟩, fun h => ⟨h.1, rise_of l none h.2.1 h.2.2 (fun r e => by cases e)⟩⟩
theorem fit_ok {p : Pf} (h : okP p = true) : FitP p := by
  unfold okP rightB at h
  simp only [Bool.and_eq_true, decide_eq_true_eq] at h
  obtain ⟨⟨h1, h2⟩, h3, _⟩ := h
  have hw : wideN p.six ≤ 128 := by unfold wideN; split <;> omega
  exact ⟨by omega, Nat.lt_of_lt_of_le h3 (Nat.pow_le_pow_right (by decide) hw)⟩
/-- rows of routes -/
def rtCs (l : List Rt) : List Value := l.flatMap rtC
theorem rtCs_len (l : List Rt) : (rtCs l).length = l.length * 6 := by
  induction l with
  | nil => rfl
  | cons s l ih =>
    show (rtC s ++ rtCs l).length = _
    rw [List.length_append, ih, List.length_cons]
    show 6 + _ = _
    omega
theorem rtCs_app (a b : List Rt) : rtCs (a ++ b) = rtCs a ++ rtCs b := by unfold rtCs; rw [List.flatMap_append]
theorem one_routes (l : List Rt) : ∀ x ∈ rtCs l, x.oneCell' = true := by
  intro x hx
  obtain ⟨p, _, h⟩ := List.mem_flatMap.1 hx
  simp only [rtC, List.mem_cons, List.not_mem_nil, or_false] at h
  rcases h with rfl | rfl | rfl | rfl | rfl | rfl <;> rfl
def HasRts (W : World) (v : Value) (l : List Rt) : Prop := HasRow W v 6 l.length (rtCs l)
theorem HasRts.keep {W W' : World} {v : Value} {l : List Rt} (h : HasRts W v l) (hb : Below W.heap.size W W') : HasRts W' v l := Lk.HasRow.keep h hb
theorem rtCs_at (l : List Rt) : ∀ j (h : j < l.length) t, t < 6 → (rtCs l)[6 * j + t]? = (rtC l[j])[t]? := by
  induction l with
  | nil => intro j h; simp at h
  | cons p ps ih =>
    intro j h t ht
    show (rtC p ++ rtCs ps)[6 * j + t]? = _
    cases j with
    | zero => rw [List.getElem?_append_left (by show 6 * 0 + t < 6; omega)]; simp
    | succ j =>
      rw [List.getElem?_append_right (by show 6 ≤ 6 * (j + 1) + t; omega), show 6 * (j + 1) + t - (rtC p).length = 6 * j + t by show 6 * (j + 1) + t - 6 = _; omega, ih j (by simpa using h) t ht]
      rfl
theorem HasRts.cell {W : World} {o : Option Addr} {m cap : Nat} {l : List Rt} (h : HasRts W (.slice o m cap) l) (j : Nat) (hj : j < l.length) : ∃ b i, o = some ⟨b, i, none⟩ ∧ b < W.heap.size ∧ ∀ t, t < 6 → W.cell? ⟨b, i + j * 6 + t, none⟩ = (rtC l[j])[t]? := by
  obtain ⟨_, b, i, e, hb, hc⟩ := Lk.HasRow.at h (by omega)
  exact ⟨b, i, e, hb, fun t ht => by rw [Nat.add_assoc, hc (j * 6 + t) (by omega), Nat.mul_comm j 6]; exact rtCs_at l j hj t ht⟩
end Go.Proofs.Ytaaedgfacnaggaa.Tr
namespace Go.Proofs.Ytaaedgfacnaggaa.Tr
open Go.RowKit
open Go.Proofs.Ytaaedgfacnaggaa.Addr (Pf cmpN hiN loN adV pfV cmp_any RowAt below2 below_drew below_new RowAt.cell RowAt.below RowAt.drew RowAt.new RowAt.alloc)
theorem kind_any (six : Bool) (w : World) : Calls Try.prog 41 #[.bool six] w fun e w' => e = .returned (.int .i64 (kindN six : Int)) ∧ w' = w := by
  cases six
  · go_enter Try.func41, Try.ntmps41
    go_wp2
    go_ret
    exact ⟨rfl, rfl⟩
  · go_enter Try.func41, Try.ntmps41
    go_wp2
    go_ret
    exact ⟨rfl, rfl⟩
theorem isNaN_any (a : Int) (w : World) : Calls Try.prog 67 #[.int .i64 a] w fun e w' => e = .returned (.bool false) ∧ w' = w := by
  go_enter Try.func67, Try.ntmps67
  go_wp2
  go_ret
  exact ⟨rfl, rfl⟩
theorem compareI_any (a b : Int) (w : World) : Calls Try.prog 45 #[.int .i64 a, .int .i64 b] w fun e w' => e = .returned (.int .i64 (cmpI a b)) ∧ w' = w := by
  have ci := fun a w => isNaN_any a w
  rcases Int.lt_trichotomy a b with h | h | h
  · have hR : cmpI a b = -1 := if_pos h
    rw [hR]
    go_enter Try.func45, Try.ntmps45
    go_wp2_with (go_at_call 67; refine (ci _ _).mono ?_; rintro e w2 ⟨rfl, rfl⟩)
    go_ret
    exact ⟨rfl, rfl⟩
  · have hR : cmpI a b = 0 := by unfold cmpI; rw [if_neg (by omega), if_pos h]
    rw [hR]
    subst h
    have h1 : decide (a < a) = false := decide_eq_false (by omega)
    go_enter Try.func45, Try.ntmps45
    go_wp2_with (go_at_call 67; refine (ci _ _).mono ?_; rintro e w2 ⟨rfl, rfl⟩)
    go_ret
    exact ⟨rfl, rfl⟩
  · have hR : cmpI a b = 1 := by unfold cmpI; rw [if_neg (by omega), if_neg (by omega)]
    rw [hR]
    have h1 : decide (a < b) = false := decide_eq_false (by omega)
    go_enter Try.func45, Try.ntmps45
    go_wp2_with (go_at_call 67; refine (ci _ _).mono ?_; rintro e w2 ⟨rfl, rfl⟩)
    go_ret
    exact ⟨rfl, rfl⟩
def or3 (a b c : Int) : Int := if a = 0 then (if b = 0 then c else b) else a
set_option maxHeartbeats 1000000 in
theorem or3_any (a b c : Int) (g : Nat) (w : World) (hg : RowAt w g [.int .i64 a, .int .i64 b, .int .i64 c] 3) : Calls Try.prog 44 #[.slice (some ⟨g, 0, none⟩) 3 3] w fun e w' => e = .returned (.int .i64 (or3 a b c)) ∧ w' = w := by
  have q0 : w.cell? ⟨g, 0, none⟩ = some (.int .i64 a) := hg.cell 0
  have q1 : w.cell? ⟨g, 1, none⟩ = some (.int .i64 b) := hg.cell 1
  have q2 : w.cell? ⟨g, 2, none⟩ = some (.int .i64 c) := hg.cell 2
  have HR : Hid (or3 a b c = if a = 0 then (if b = 0 then c else b) else a) := rfl
  generalize or3 a b c = R at HR ⊢
  clear hg
  go_enter Try.func44, Try.ntmps44
  go_wp2
  go_loop [8] (fun i => ∃ k : Nat, k ≤ 3 ∧ i = .int .i64 (k : Int) ∧ (1 ≤ k → a = 0) ∧ (2 ≤ k → b = 0) ∧ (3 ≤ k → c = 0)) (fun i => 3 - (Go.RowKit.intOf i).toNat)
  case atStart => exact ⟨0, by omega, rfl, by omega, by omega, by omega⟩
  case round =>
    obtain ⟨k, hk, rfl, h1, h2, h3⟩ := hrel
    have hk3 : k = 0 ∨ k = 1 ∨ k = 2 ∨ k = 3 := by omega
    rcases hk3 with rfl | rfl | rfl | rfl
    · by_cases ha : a = 0
      · subst ha
        go_wp2
        go_round
        case rel => exact ⟨1, by omega, rfl, fun _ => by trivial, by omega, by omega⟩
        case measure => simp [Go.RowKit.intOf]
      · have HV : Hid (R = a) := by show _ = _; rw [HR.out, if_neg ha]
        have ha2 : (a != 0) = true := by simpa using ha
        go_wp2
        go_ret
        exact ⟨by rw [HV.out]; rfl, rfl⟩
    · have ha := h1 (by omega)
      have HA : Hid (a = 0) := ha
      have HV : Hid (b ≠ 0 → R = b) := fun h => by rw [HR.out, if_pos HA.out, if_neg h]
      clear h1 h2 h3 ha HR
      by_cases hb : b = 0
      · subst hb
        go_wp2
        go_round
        case rel => exact ⟨2, by omega, rfl, fun _ => HA.out, fun _ => by trivial, by omega⟩
        case measure => simp [Go.RowKit.intOf]
      · have hV := HV.out hb
        have HV2 : Hid (R = b) := hV
        have hb2 : (b != 0) = true := by simpa using hb
        clear hV
        go_wp2
        go_ret
        exact ⟨by rw [HV2.out]; rfl, rfl⟩
    · have HA : Hid (a = 0 ∧ b = 0) := ⟨h1 (by omega), h2 (by omega)⟩
      have HV : Hid (R = c) := by show _ = _; rw [HR.out, if_pos HA.out.1, if_pos HA.out.2]
      clear h1 h2 h3 HR
      by_cases hb : c = 0
      · subst hb
        go_wp2
        go_round
        case rel => exact ⟨3, by omega, rfl, fun _ => HA.out.1, fun _ => HA.out.2, fun _ => by trivial⟩
        case measure => simp [Go.RowKit.intOf]
      · have hb2 : (c != 0) = true := by simpa using hb
        go_wp2
        go_ret
        exact ⟨by rw [HV.out]; rfl, rfl⟩
    · have HV : Hid (R = 0) := by show _ = _; rw [HR.out, if_pos (h1 (by omega)), if_pos (h2 (by omega)), h3 (by omega)]
      clear h1 h2 h3
      go_wp2
      go_ret
      exact ⟨by rw [HV.out]; rfl, rfl⟩
theorem kind_cmp (a b : Bool) : cmpI (kindN a : Int) (kindN b : Int) = cmpN (kindN a) (kindN b) := by
  cases a <;> cases b <;> rfl
theorem ord_or3 (p q : Pf) : or3 (cmpI (kindN p.six : Int) (kindN q.six : Int)) (cmpN p.n q.n) (cmpI p.len q.len) = ordP p q := by
  rw [kind_cmp]
  rfl
set_option maxHeartbeats 8000000 in
set_option maxRecDepth 20000 in
theorem order_any (p q : Pf) (w : World) (hp : FitP p) (hq : FitP q) : Calls Try.prog 22 #[pfV p, pfV q] w fun e w' => e = .returned (.int .i64 (ordP p q)) ∧ Below w.heap.size w w' := by
  have c1 := fun W => kind_any p.six W
  have c2 := fun W => kind_any q.six W
  have c3 := fun W => compareI_any (kindN p.six : Int) (kindN q.six : Int) W
  have c4 := fun W => cmp_any p.n q.n W hp.2 hq.2
  have c5 := fun W => compareI_any p.len q.len W
  have c6 := fun g W h => or3_any (cmpI (kindN p.six : Int) (kindN q.six : Int)) (cmpN p.n q.n) (cmpI p.len q.len) g W h
  rw [ord_or3] at c6
  unfold adV at c4
  unfold pfV
  obtain ⟨X, hX⟩ : ∃ X, X = (w.alloc (.cells #[.bool p.six, .int .u64 (hiN p.n : Int), .int .u64 (loN p.n : Int), .int .i64 p.len] 32)).alloc (.cells #[.bool q.six, .int .u64 (hiN q.n : Int), .int .u64 (loN q.n : Int), .int .i64 q.len] 32) := ⟨_, rfl⟩
  have hB : Below w.heap.size w X := by rw [hX]; exact below_new (below_new (Below.refl _ _) _) _
  have r0 : RowAt X w.heap.size [.bool p.six, .int .u64 (hiN p.n : Int), .int .u64 (loN p.n : Int), .int .i64 p.len] 32 := by rw [hX]; exact (RowAt.new _ _ _).alloc _
  have r1 : RowAt X (w.heap.size + 1) [.bool q.six, .int .u64 (hiN q.n : Int), .int .u64 (loN q.n : Int), .int .i64 q.len] 32 := by rw [hX, ← World.size_alloc w (.cells #[.bool p.six, .int .u64 (hiN p.n : Int), .int .u64 (loN p.n : Int), .int .i64 p.len] 32)]; exact RowAt.new _ _ _
  generalize ordP p q = R at *
  generalize cmpI (kindN p.six : Int) (kindN q.six : Int) = x at *
  generalize cmpN p.n q.n = y at *
  generalize cmpI p.len q.len = z at *
  generalize (kindN p.six : Int) = kp at *
  generalize (kindN q.six : Int) = kq at *
  generalize p.six = ps at *
  generalize q.six = qs at *
  generalize (hiN p.n : Int) = ph at *
  generalize (loN p.n : Int) = pl at *
  generalize (hiN q.n : Int) = qh at *
  generalize (loN q.n : Int) = ql at *
  generalize p.len = pe at *
  generalize q.len = qe at *
  clear hp hq
  have HSK : Hid (∀ W : World, Below X.heap.size X W → (W.cell? ⟨w.heap.size, 0, none⟩ = some (.bool ps) ∧ W.cell? ⟨w.heap.size, 1, none⟩ = some (.int .u64 ph) ∧ W.cell? ⟨w.heap.size, 2, none⟩ = some (.int .u64 pl) ∧ W.cell? ⟨w.heap.size, 3, none⟩ = some (.int .i64 pe)) ∧ W.cell? ⟨w.heap.size + 1, 0, none⟩ = some (.bool qs) ∧ W.cell? ⟨w.heap.size + 1, 1, none⟩ = some (.int .u64 qh) ∧ W.cell? ⟨w.heap.size + 1, 2, none⟩ = some (.int .u64 ql) ∧ W.cell? ⟨w.heap.size + 1, 3, none⟩ = some (.int .i64 qe)) := fun W hb => by
    have a := RowAt.below r0 hb
    have b := RowAt.below r1 hb
    exact ⟨⟨a.cell 0, a.cell 1, a.cell 2, a.cell 3⟩, b.cell 0, b.cell 1, b.cell 2, b.cell 3⟩
  have hbA : Below X.heap.size X X := Below.refl _ _
  go_enter Try.func22, Try.ntmps22
  go_upto_region 1 with fail
  rw [← hX]
  clear hX r0 r1
  go_region_held3 (fun W => (W.cell? ⟨w.heap.size, 0, none⟩ = some (.bool ps) ∧ W.cell? ⟨w.heap.size, 1, none⟩ = some (.int .u64 ph) ∧ W.cell? ⟨w.heap.size, 2, none⟩ = some (.int .u64 pl) ∧ W.cell? ⟨w.heap.size, 3, none⟩ = some (.int .i64 pe)) ∧ W.cell? ⟨w.heap.size + 1, 0, none⟩ = some (.bool qs) ∧ W.cell? ⟨w.heap.size + 1, 1, none⟩ = some (.int .u64 qh) ∧ W.cell? ⟨w.heap.size + 1, 2, none⟩ = some (.int .u64 ql) ∧ W.cell? ⟨w.heap.size + 1, 3, none⟩ = some (.int .i64 qe))
    (first
      | (refine HSK.out _ ?_
         repeat' (first | with_reducible exact hbA | with_reducible apply below_drew | with_reducible apply below_new)))
    (first
      | (go_at_call 41; with_reducible refine (c1 _).mono ?_; rintro e w2 ⟨rfl, rfl⟩)
      | (go_at_call 41; with_reducible refine (c2 _).mono ?_; rintro e w2 ⟨rfl, rfl⟩)
      | (go_at_call 45; with_reducible refine (c3 _).mono ?_; rintro e w2 ⟨rfl, rfl⟩)
      | (go_at_call 45; with_reducible refine (c5 _).mono ?_; rintro e w2 ⟨rfl, rfl⟩)
      | (go_at_call 36; with_reducible refine (c4 _).mono ?_; rintro e w2 ⟨rfl, hb2⟩
         have hbN : Below X.heap.size X w2 := below2 (by repeat' (first | with_reducible exact hbA | with_reducible apply below_drew)) hb2
         clear hbA
         have hbA := hbN
         clear hbN hb2)
      | (go_at_call 44; refine (c6 _ _ (by first | exact RowAt.new _ _ _ | exact (RowAt.new _ _ _).drew)).mono ?_; rintro e w3 ⟨rfl, rfl⟩
         have hbN := below_new hbA (.cells #[.int .i64 x, .int .i64 y, .int .i64 z] 3)))
  go_wp2_with fail
  go_ret
  exact ⟨rfl, below2 hB hbN⟩
end Go.Proofs.Ytaaedgfacnaggaa.Tr
namespace Go.Proofs.Ytaaedgfacnaggaa.Msg
open Go.RowKit
open Go.Proofs.Ytaaedgfacnaggaa.Addr (Pf hiN loN)

theorem ev_guard : Try.prog.eqGuardType Try.prog.depth 91 = false := by kernel_rfl
theorem ad_inG (n m : Nat) (w : World) (f : Nat) : (Op.equalIn (f + 2) 25 (.agg #[.int .u64 (hiN n : Int), .int .u64 (loN n : Int)]) (.agg #[.int .u64 (hiN m : Int), .int .u64 (loN m : Int)])).run Try.prog w = .ok (decide (n = m)) w := by
  have u9 := Try.underlying23
  have a9 := Try.isAgg23
  have z9 := Try.sizeOf23
  have hS : Try.prog.underlying 25 = some (.struct (Try.prog.fieldsOf 25)) := by kernel_rfl
  have hp : Try.prog.stoodInHeld 25 = false := by kernel_rfl
  have HD : (decide (n = m)) = (decide (hiN n = hiN m) && decide (loN n = loN m)) := by
    by_cases h : n = m
    · subst h; simp
    · have : ¬ (hiN n = hiN m ∧ loN n = loN m) := fun hc => h (Addr.eq_hilo hc.1 hc.2)
      rw [decide_eq_false h, ← Bool.decide_and, decide_eq_false this]
  rw [HD]
  generalize hiN n = a
  generalize loN n = b
  generalize hiN m = c
  generalize loN m = d
  rw [show f + 2 = (f + 1) + 1 from rfl, run_equalIn_agg w (f + 1) 25 _ _ hS hp]
  simp only [Program.fieldsOf, Try.underlying25]
  by_cases h1 : a = c
  · subst h1
    by_cases h2 : b = d
    · subst h2
      go_simp
    · have : ¬ ((b : Int) = (d : Int)) := by omega
      go_simp
  · have : ¬ ((a : Int) = (c : Int)) := by omega
    go_simp
theorem ac_inG (k l : Nat) (i j : Int) (w : World) (f : Nat) : (Op.equalIn (f + 2) 35 (.agg #[.int .u8 (k : Int), .int .i64 i]) (.agg #[.int .u8 (l : Int), .int .i64 j])).run Try.prog w = .ok (decide (k = l) && decide (i = j)) w := by
  have u9 := Try.underlying33
  have a9 := Try.isAgg33
  have z9 := Try.sizeOf33
  have u3 := Try.underlying3
  have a3 := Try.isAgg3
  have z3 := Try.sizeOf3
  have hS : Try.prog.underlying 35 = some (.struct (Try.prog.fieldsOf 35)) := by kernel_rfl
  have hp : Try.prog.stoodInHeld 35 = false := by kernel_rfl
  rw [show f + 2 = (f + 1) + 1 from rfl, run_equalIn_agg w (f + 1) 35 _ _ hS hp]
  simp only [Program.fieldsOf, Try.underlying35]
  by_cases h1 : k = l
  · subst h1
    by_cases h2 : i = j
    · subst h2
      go_simp
    · go_simp
  · have : ¬ ((k : Int) = (l : Int)) := by omega
    go_simp
theorem pf_inG (s t : Bool) (n m : Nat) (i j : Int) (w : World) (f : Nat) : (Op.equalIn (f + 3) 32 (.agg #[.bool s, .int .u64 (hiN n : Int), .int .u64 (loN n : Int), .int .i64 i]) (.agg #[.bool t, .int .u64 (hiN m : Int), .int .u64 (loN m : Int), .int .i64 j])).run Try.prog w = .ok (decide (s = t) && decide (n = m) && decide (i = j)) w := by
  have u3 := Try.underlying3
  have a3 := Try.isAgg3
  have z3 := Try.sizeOf3
  have u4 := Try.underlying4
  have a4 := Try.isAgg4
  have z4 := Try.sizeOf4
  have a24 := Try.isAgg25
  have z24 := Try.sizeOf25
  have hS : Try.prog.underlying 32 = some (.struct (Try.prog.fieldsOf 32)) := by kernel_rfl
  have hp : Try.prog.stoodInHeld 32 = false := by kernel_rfl
  have hin := fun w => ad_inG n m w f
  rw [show f + 3 = (f + 2) + 1 from rfl, run_equalIn_agg w (f + 2) 32 _ _ hS hp]
  simp only [Program.fieldsOf, Try.underlying32]
  generalize decide (n = m) = D at *
  by_cases h1 : s = t
  · subst h1
    cases D
    · go_simp
    · by_cases h2 : i = j
      · subst h2
        go_simp
      · go_simp
  · have hst : (s == t) = false := by cases s <;> cases t <;> simp_all
    go_simp
/-- all parts of two events are alike -/
def eqE (e f : Ev) : Bool := decide (e.kind = f.kind) && decide (e.router = f.router) && decide (e.seq = f.seq) && decide (e.time = f.time) && (decide (e.pf.six = f.pf.six) && decide (e.pf.n = f.pf.n) && decide (e.pf.len = f.pf.len)) && (decide (e.act.k = f.act.k) && decide (e.act.i = f.act.i)) && decide (e.iface = f.iface) && decide (e.peer = f.peer)
theorem eqE_iff (e f : Ev) : eqE e f = true ↔ e = f := by
  obtain ⟨k, r, s, t, ⟨sx, n, l⟩, ⟨ak, ai⟩, i, p⟩ := e
  obtain ⟨k', r', s', t', ⟨sx', n', l'⟩, ⟨ak', ai'⟩, i', p'⟩ := f
  unfold eqE
  simp only [Bool.and_eq_true, decide_eq_true_eq, Ev.mk.injEq, Addr.Pf.mk.injEq, Ac.mk.injEq, and_assoc]
set_option maxHeartbeats 1000000 in
theorem ev_in (e f : Ev) (w : World) : (Op.equalIn 10000 91 (evV e) (evV f)).run Try.prog w = .ok (eqE e f) w := by
  have u3 := Try.underlying3
  have a3 := Try.isAgg3
  have z3 := Try.sizeOf3
  have u2 := Try.underlying2
  have a2 := Try.isAgg2
  have z2 := Try.sizeOf2
  have u9 := Try.underlying23
  have a9 := Try.isAgg23
  have z9 := Try.sizeOf23
  have u7 := Try.underlying89
  have a7 := Try.isAgg89
  have z7 := Try.sizeOf89
  have a24 := Try.isAgg32
  have z24 := Try.sizeOf32
  have a25 := Try.isAgg35
  have z25 := Try.sizeOf35
  have hS : Try.prog.underlying 91 = some (.struct (Try.prog.fieldsOf 91)) := by kernel_rfl
  have hp : Try.prog.stoodInHeld 91 = false := by kernel_rfl
  obtain ⟨k, r, s, t, ⟨sx, n, l⟩, ⟨ak, ai⟩, i, p⟩ := e
  obtain ⟨k', r', s', t', ⟨sx', n', l'⟩, ⟨ak', ai'⟩, i', p'⟩ := f
  have h1 := fun w => pf_inG sx sx' n n' l l' w 9996
  have h2 := fun w => ac_inG ak ak' ai ai' w 9997
  unfold evV evC eqE
  simp only
  rw [show (10000 : Nat) = 9999 + 1 from rfl, run_equalIn_agg w 9999 91 _ _ hS hp]
  simp only [Program.fieldsOf, Try.underlying91]
  generalize (decide (sx = sx') && decide (n = n') && decide (l = l')) = D1 at *
  generalize (decide (ak = ak') && decide (ai = ai')) = D2 at *
  by_cases g1 : k = k'
  · subst g1
    by_cases g2 : r = r'
    · subst g2
      by_cases g3 : s = s'
      · subst g3
        by_cases g4 : t = t'
        · subst g4
          cases D1
          · go_simp
          · cases D2
            · go_simp
            · by_cases g5 : i = i'
              · subst g5
                by_cases g6 : p = p'
                · subst g6
                  go_simp
                · go_simp
              · go_simp
        · go_simp
      · have : ¬ ((s : Int) = (s' : Int)) := by omega
        go_simp
    · go_simp
  · have : ¬ ((k : Int) = (k' : Int)) := by omega
    go_simp
theorem ev_neq (e f : Ev) (w : World) : (binOp .neq 91 (evV e) (evV f)).run Try.prog w = .ok (.bool (!eqE e f)) w := by
  have h := ev_in e f w
  unfold evV at *
  rw [run_neq_struct, h]
  rfl
end Go.Proofs.Ytaaedgfacnaggaa.Msg
