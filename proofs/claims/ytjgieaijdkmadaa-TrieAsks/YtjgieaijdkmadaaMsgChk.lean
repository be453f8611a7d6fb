/- Events and actions; what between, checkAction, rightHead, rightParts and unnamed return. -/
import Derived.Test.YtjgieaijdkmadaaMsgTape
set_option linter.unusedVariables false
namespace Go.Proofs.Ytjgieaijdkmadaa.Msg
open Go.RowKit
open Go.Proofs.Ytjgieaijdkmadaa.Addr (Pf okP checkP wideN firstN kP hiN loN adV pfV RowAt below2 below_drew below_new bset RowAt.lt RowAt.cell RowAt.frozen RowAt.below RowAt.drew RowAt.new RowAt.alloc gdrew gset gbelow galloc grefl cells2 cells4 results_cell)

structure Ac where
  k : Nat
  i : Int
structure Ev where
  kind : Nat
  router : Int
  seq : Nat
  time : Int
  pf : Pf
  act : Ac
  iface : Int
  peer : Int
def acV (a : Ac) : Value := .agg #[.int .u8 (a.k : Int), .int .i64 a.i]
def evC (e : Ev) : List Value := [.int .u8 (e.kind : Int), .int .i64 e.router, .int .u64 (e.seq : Int), .int .i64 e.time, .bool e.pf.six, .int .u64 (hiN e.pf.n : Int), .int .u64 (loN e.pf.n : Int), .int .i64 e.pf.len, .int .u8 (e.act.k : Int), .int .i64 e.act.i, .int .i64 e.iface, .int .i64 e.peer]
def evV (e : Ev) : Value := .agg (evC e).toArray
def FitA (a : Ac) : Prop := (a.k : Int) ≤ 255 ∧ -9223372036854775808 ≤ a.i ∧ a.i ≤ 9223372036854775807
structure FitE (e : Ev) : Prop where
  kind : (e.kind : Int) ≤ 255
  router : -9223372036854775808 ≤ e.router ∧ e.router ≤ 9223372036854775807
  seq : (e.seq : Int) ≤ 18446744073709551615
  time : -9223372036854775808 ≤ e.time ∧ e.time ≤ 9223372036854775807
  len : -9223372036854775808 ≤ e.pf.len ∧ e.pf.len ≤ 9223372036854775807
  n : e.pf.n < 2 ^ 128
  act : FitA e.act
  iface : -9223372036854775808 ≤ e.iface ∧ e.iface ≤ 9223372036854775807
  peer : -9223372036854775808 ≤ e.peer ∧ e.peer ≤ 9223372036854775807
def okA (a : Ac) : Bool := (decide (1 ≤ a.k) && decide (a.k ≤ 3)) && (decide (0 ≤ a.i) && decide (a.i ≤ 65536)) && (decide (a.k = 1) || decide (a.i = 0))
def checkA (a : Ac) : Int := if okA a then 0 else 2
def headB (e : Ev) : Bool := (decide (1 ≤ e.kind) && decide (e.kind ≤ 6)) && (decide (0 ≤ e.router) && decide (e.router ≤ 1048576)) && (decide (1 ≤ e.seq) && decide (e.seq ≤ 1099511627776)) && (decide (0 ≤ e.time) && decide (e.time ≤ 1099511627776))
def partsB (e : Ev) : Bool := okP e.pf && (decide (0 ≤ e.iface) && decide (e.iface ≤ 65536)) && (decide (0 ≤ e.peer) && decide (e.peer ≤ 1048576)) && (decide (e.kind ≠ 3) || okA e.act)
def zeroPf : Pf := ⟨false, 0, 0⟩
def zeroA : Ac := ⟨0, 0⟩
/-- what is left of an event when all that its kind names is taken out -/
def unN (e : Ev) : Ev := ⟨0, 0, 0, 0, if e.kind = 3 ∨ e.kind = 4 then zeroPf else e.pf, if e.kind = 3 then zeroA else e.act, if e.kind = 5 ∨ e.kind = 6 then 0 else e.iface, if e.kind = 5 then 0 else e.peer⟩
def zeroE : Ev := ⟨0, 0, 0, 0, zeroPf, zeroA, 0, 0⟩
theorem between_ek (a n b : Nat) (w : World) : Calls Try.prog 98 #[.int .u8 (a : Int), .int .u8 (n : Int), .int .u8 (b : Int)] w fun e w' => e = .returned (.bool (decide (a ≤ n) && decide (n ≤ b))) ∧ w' = w := by
  have e1 : decide ((a : Int) ≤ (n : Int)) = decide (a ≤ n) := decide_eq_decide.2 (by omega)
  have e2 : decide ((n : Int) ≤ (b : Int)) = decide (n ≤ b) := decide_eq_decide.2 (by omega)
  rw [← e1, ← e2]
  clear e1 e2
  generalize (a : Int) = x
  generalize (n : Int) = y
  generalize (b : Int) = z
  cases h : decide (x ≤ y)
  all_goals
    go_enter Try.func98, Try.ntmps98
    go_wp2_with fail
    go_ret
    exact ⟨rfl, rfl⟩
theorem between_ak (a n b : Nat) (w : World) : Calls Try.prog 108 #[.int .u8 (a : Int), .int .u8 (n : Int), .int .u8 (b : Int)] w fun e w' => e = .returned (.bool (decide (a ≤ n) && decide (n ≤ b))) ∧ w' = w := by
  have e1 : decide ((a : Int) ≤ (n : Int)) = decide (a ≤ n) := decide_eq_decide.2 (by omega)
  have e2 : decide ((n : Int) ≤ (b : Int)) = decide (n ≤ b) := decide_eq_decide.2 (by omega)
  rw [← e1, ← e2]
  clear e1 e2
  generalize (a : Int) = x
  generalize (n : Int) = y
  generalize (b : Int) = z
  cases h : decide (x ≤ y)
  all_goals
    go_enter Try.func108, Try.ntmps108
    go_wp2_with fail
    go_ret
    exact ⟨rfl, rfl⟩
theorem between_int (a n b : Int) (w : World) : Calls Try.prog 99 #[.int .i64 (a : Int), .int .i64 (n : Int), .int .i64 (b : Int)] w fun e w' => e = .returned (.bool (decide (a ≤ n) && decide (n ≤ b))) ∧ w' = w := by
  have e1 : decide ((a : Int) ≤ (n : Int)) = decide (a ≤ n) := decide_eq_decide.2 (by omega)
  have e2 : decide ((n : Int) ≤ (b : Int)) = decide (n ≤ b) := decide_eq_decide.2 (by omega)
  rw [← e1, ← e2]
  clear e1 e2
  generalize (a : Int) = x
  generalize (n : Int) = y
  generalize (b : Int) = z
  cases h : decide (x ≤ y)
  all_goals
    go_enter Try.func99, Try.ntmps99
    go_wp2_with fail
    go_ret
    exact ⟨rfl, rfl⟩
theorem between_i64 (a n b : Int) (w : World) : Calls Try.prog 101 #[.int .i64 (a : Int), .int .i64 (n : Int), .int .i64 (b : Int)] w fun e w' => e = .returned (.bool (decide (a ≤ n) && decide (n ≤ b))) ∧ w' = w := by
  have e1 : decide ((a : Int) ≤ (n : Int)) = decide (a ≤ n) := decide_eq_decide.2 (by omega)
  have e2 : decide ((n : Int) ≤ (b : Int)) = decide (n ≤ b) := decide_eq_decide.2 (by omega)
  rw [← e1, ← e2]
  clear e1 e2
  generalize (a : Int) = x
  generalize (n : Int) = y
  generalize (b : Int) = z
  cases h : decide (x ≤ y)
  all_goals
    go_enter Try.func101, Try.ntmps101
    go_wp2_with fail
    go_ret
    exact ⟨rfl, rfl⟩
theorem between_u64 (a n b : Nat) (w : World) : Calls Try.prog 100 #[.int .u64 (a : Int), .int .u64 (n : Int), .int .u64 (b : Int)] w fun e w' => e = .returned (.bool (decide (a ≤ n) && decide (n ≤ b))) ∧ w' = w := by
  have e1 : decide ((a : Int) ≤ (n : Int)) = decide (a ≤ n) := decide_eq_decide.2 (by omega)
  have e2 : decide ((n : Int) ≤ (b : Int)) = decide (n ≤ b) := decide_eq_decide.2 (by omega)
  rw [← e1, ← e2]
  clear e1 e2
  generalize (a : Int) = x
  generalize (n : Int) = y
  generalize (b : Int) = z
  cases h : decide (x ≤ y)
  all_goals
    go_enter Try.func100, Try.ntmps100
    go_wp2_with fail
    go_ret
    exact ⟨rfl, rfl⟩
set_option maxHeartbeats 1000000 in
theorem checkAction_any (a : Ac) (w : World) (hf : FitA a) : Calls Try.prog 102 #[acV a] w fun e w' => e = .returned (.int .i64 (checkA a)) ∧ Below w.heap.size w w' := by
  have c1 := fun W => between_ak 1 a.k 3 W
  have c2 := fun W => between_int 0 a.i 65536 W
  have HC : Hid (checkA a = if (decide (1 ≤ a.k) && decide (a.k ≤ 3)) && (decide (0 ≤ a.i) && decide (a.i ≤ 65536)) && (decide (a.k = 1) || decide (a.i = 0)) then 0 else 2) := rfl
  generalize checkA a = R at HC ⊢
  obtain ⟨k, i⟩ := a
  obtain ⟨h1, h2, h3⟩ := hf
  unfold acV
  simp only at *
  have hB := below_new (Below.refl _ w) (.cells #[.int .u8 (k : Int), .int .i64 i] 30)
  generalize (decide (1 ≤ k) && decide (k ≤ 3)) = B1 at *
  generalize (decide (0 ≤ i) && decide (i ≤ 65536)) = B2 at *
  cases B1
  · have HV : Hid (R = 2) := by show _ = _; rw [HC.out]; rfl
    clear HC
    go_enter Try.func102, Try.ntmps102
    go_wp2_with fail
    go_at_call 108; refine (c1 _).mono ?_; rintro e w1 ⟨rfl, rfl⟩
    go_wp2_with fail
    go_ret
    exact ⟨by rw [HV.out]; rfl, hB⟩
  · cases B2
    · have HV : Hid (R = 2) := by show _ = _; rw [HC.out]; rfl
      clear HC
      go_enter Try.func102, Try.ntmps102
      go_wp2_with fail
      go_at_call 108; refine (c1 _).mono ?_; rintro e w1 ⟨rfl, rfl⟩
      go_wp2_with fail
      go_at_call 99; refine (c2 _).mono ?_; rintro e w2 ⟨rfl, rfl⟩
      go_wp2_with fail
      go_ret
      exact ⟨by rw [HV.out]; rfl, hB⟩
    · by_cases hk : k = 1
      · have HV : Hid (R = 0) := by show _ = _; rw [HC.out, decide_eq_true hk]; rfl
        clear HC
        have q : ((k : Int) != 1) = false := by rw [hk]; rfl
        clear hk
        go_enter Try.func102, Try.ntmps102
        go_wp2_with fail
        go_at_call 108; refine (c1 _).mono ?_; rintro e w1 ⟨rfl, rfl⟩
        go_wp2_with fail
        go_at_call 99; refine (c2 _).mono ?_; rintro e w2 ⟨rfl, rfl⟩
        go_wp2_with fail
        go_ret
        exact ⟨by rw [HV.out]; rfl, hB⟩
      · have q : ((k : Int) != 1) = true := bne_iff_ne.2 (by omega)
        by_cases hi : i = 0
        · have HV : Hid (R = 0) := by show _ = _; rw [HC.out, decide_eq_true hi]; simp
          have q2 : (i != 0) = false := by rw [hi]; rfl
          clear HC hi hk
          go_enter Try.func102, Try.ntmps102
          go_wp2_with fail
          go_at_call 108; refine (c1 _).mono ?_; rintro e w1 ⟨rfl, rfl⟩
          go_wp2_with fail
          go_at_call 99; refine (c2 _).mono ?_; rintro e w2 ⟨rfl, rfl⟩
          go_wp2_with fail
          go_ret
          exact ⟨by rw [HV.out]; rfl, hB⟩
        · have HV : Hid (R = 2) := by show _ = _; rw [HC.out, decide_eq_false hi, decide_eq_false hk]; rfl
          have q2 : (i != 0) = true := bne_iff_ne.2 hi
          clear HC hi hk
          go_enter Try.func102, Try.ntmps102
          go_wp2_with fail
          go_at_call 108; refine (c1 _).mono ?_; rintro e w1 ⟨rfl, rfl⟩
          go_wp2_with fail
          go_at_call 99; refine (c2 _).mono ?_; rintro e w2 ⟨rfl, rfl⟩
          go_wp2_with fail
          go_ret
          exact ⟨by rw [HV.out]; rfl, hB⟩
set_option maxHeartbeats 1000000 in
theorem rightHead_any (e : Ev) (w : World) (hf : FitE e) : Calls Try.prog 81 #[evV e] w fun r w' => r = .returned (.bool (headB e)) ∧ Below w.heap.size w w' := by
  have c1 := fun W => between_ek 1 e.kind 6 W
  have c2 := fun W => between_int 0 e.router 1048576 W
  have c3 := fun W => between_u64 1 e.seq 1099511627776 W
  have c4 := fun W => between_i64 0 e.time 1099511627776 W
  have HC : Hid (headB e = ((decide (1 ≤ e.kind) && decide (e.kind ≤ 6)) && (decide (0 ≤ e.router) && decide (e.router ≤ 1048576)) && (decide (1 ≤ e.seq) && decide (e.seq ≤ 1099511627776)) && (decide (0 ≤ e.time) && decide (e.time ≤ 1099511627776)))) := rfl
  generalize headB e = R at HC ⊢
  generalize (decide (1 ≤ e.kind) && decide (e.kind ≤ 6)) = B1 at *
  generalize (decide (0 ≤ e.router) && decide (e.router ≤ 1048576)) = B2 at *
  generalize (decide (1 ≤ e.seq) && decide (e.seq ≤ 1099511627776)) = B3 at *
  generalize (decide (0 ≤ e.time) && decide (e.time ≤ 1099511627776)) = B4 at *
  have hB := below_new (Below.refl _ w) (.cells (evC e).toArray 87)
  unfold evV
  unfold evC at *
  clear hf
  cases B1
  · have HV : Hid (R = false) := by show _ = _; rw [HC.out]; rfl
    clear HC
    go_enter Try.func81, Try.ntmps81
    go_wp2_with fail
    go_at_call 98; refine (c1 _).mono ?_; rintro r w1 ⟨rfl, rfl⟩
    go_wp2_with fail
    go_ret
    exact ⟨by rw [HV.out]; rfl, hB⟩
  cases B2
  · have HV : Hid (R = false) := by show _ = _; rw [HC.out]; rfl
    clear HC
    go_enter Try.func81, Try.ntmps81
    go_wp2_with fail
    go_at_call 98; refine (c1 _).mono ?_; rintro r w1 ⟨rfl, rfl⟩
    go_wp2_with fail
    go_at_call 99; refine (c2 _).mono ?_; rintro r w1 ⟨rfl, rfl⟩
    go_wp2_with fail
    go_ret
    exact ⟨by rw [HV.out]; rfl, hB⟩
  cases B3
  · have HV : Hid (R = false) := by show _ = _; rw [HC.out]; rfl
    clear HC
    go_enter Try.func81, Try.ntmps81
    go_wp2_with fail
    go_at_call 98; refine (c1 _).mono ?_; rintro r w1 ⟨rfl, rfl⟩
    go_wp2_with fail
    go_at_call 99; refine (c2 _).mono ?_; rintro r w1 ⟨rfl, rfl⟩
    go_wp2_with fail
    go_at_call 100; refine (c3 _).mono ?_; rintro r w1 ⟨rfl, rfl⟩
    go_wp2_with fail
    go_ret
    exact ⟨by rw [HV.out]; rfl, hB⟩
  · have HV : Hid (R = B4) := by show _ = _; rw [HC.out]; cases B4 <;> rfl
    clear HC
    go_enter Try.func81, Try.ntmps81
    go_wp2_with fail
    go_at_call 98; refine (c1 _).mono ?_; rintro r w1 ⟨rfl, rfl⟩
    go_wp2_with fail
    go_at_call 99; refine (c2 _).mono ?_; rintro r w1 ⟨rfl, rfl⟩
    go_wp2_with fail
    go_at_call 100; refine (c3 _).mono ?_; rintro r w1 ⟨rfl, rfl⟩
    go_wp2_with fail
    go_at_call 101; refine (c4 _).mono ?_; rintro r w1 ⟨rfl, rfl⟩
    go_wp2_with fail
    go_ret
    exact ⟨by rw [HV.out]; rfl, hB⟩
end Go.Proofs.Ytjgieaijdkmadaa.Msg
