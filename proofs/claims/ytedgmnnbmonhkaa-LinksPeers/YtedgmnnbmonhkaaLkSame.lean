/- Rows of links, and of numbers, that are one. -/
import Derived.Test.YtedgmnnbmonhkaaLkBase
import Derived.BigQuiet
import Derived.Deep.QuietTactic
import Derived.Laws.StructEq
set_option linter.unusedVariables false
namespace Go.Proofs.Ytedgmnnbmonhkaa.Lk
open Go.RowKit
open Go.Proofs.Ytedgmnnbmonhkaa.Addr (RowAt below2 below_drew below_new bset RowAt.lt RowAt.cell RowAt.frozen RowAt.below RowAt.drew RowAt.new RowAt.alloc cells2)
attribute [-go_sem] Builtin.append_
theorem lk_neq (a b : Int) (w : World) : (binOp .neq 24 (.agg #[.int .i64 a, .int .i64 b]) (.agg #[.int .i64 a, .int .i64 b])).run Try.prog w = .ok (.bool false) w := by
  have u3 := Try.underlying3
  have a3 := Try.isAgg3
  have z3 := Try.sizeOf3
  have hS : Try.prog.underlying 24 = some (.struct (Try.prog.fieldsOf 24)) := by kernel_rfl
  have hp : Try.prog.stoodInHeld 24 = false := by kernel_rfl
  rw [run_neq_struct, show (10000 : Nat) = 9999 + 1 from rfl, run_equalIn_agg w 9999 24 _ _ hS hp]
  simp only [Program.fieldsOf, Try.underlying24]
  go_simp
theorem lk_guard : Try.prog.eqGuardType Try.prog.depth 24 = false := by kernel_rfl
theorem below_drewN {B : Nat} {w0 w : World} (h : Below B w0 w) (n : Nat) : Below B w0 (w.drewN n) := h.trans ⟨rfl, rfl, rfl, Nat.le_refl _, fun _ _ => rfl⟩
set_option maxHeartbeats 2000000 in
set_option maxRecDepth 20000 in
theorem same_any (l : List Lk) (v u : Value) (w : World) (h1 : HasLks w v l) (h2 : HasLks w u l) :
    Calls Try.prog 14 #[v, u] w fun e w' => e = .returned (.bool true) ∧ Below w.heap.size w w' := by
  obtain ⟨o1, c1, rfl, hq1, hq2⟩ := HasRow.slice h1
  obtain ⟨o2, c2, rfl, _, _⟩ := HasRow.slice h2
  have HR : Hid (∀ wr : World, Below w.heap.size w wr → HasLks wr (.slice o1 l.length c1) l ∧ HasLks wr (.slice o2 l.length c2) l) := fun wr hb => ⟨h1.keep hb, h2.keep hb⟩
  obtain ⟨n, hn⟩ : ∃ n, n = l.length := ⟨_, rfl⟩
  have HN : Hid (n = l.length) := hn
  rw [← hn] at HR hq1 ⊢
  have hni : (n : Int) ≤ 9223372036854775807 := by omega
  have hneq := lk_neq
  have hgd := lk_guard
  have hnn : ((n : Int) != (n : Int)) = false := by simp
  clear h1 h2 hn hq1 hq2
  go_enter Try.func14, Try.ntmps14
  go_wp2_with fail
  go_loopw [13] (fun i wr => ∃ k : Nat, k ≤ n ∧ i = .int .i64 k ∧ Below w.heap.size w wr) (fun i _ => n - (intOf i).toNat)
  case atStart => exact ⟨0, by omega, rfl, Below.refl _ _⟩
  case round =>
    obtain ⟨k, hk, rfl, hB⟩ := hrel
    obtain ⟨ha, hb⟩ := HR.out _ hB
    by_cases hlt : k < n
    · have hkz : k < l.length := by rw [← HN.out]; exact hlt
      obtain ⟨g1, i1, rfl, _, a1, a2⟩ := HasLks.cell ha k hkz
      obtain ⟨g2, i2, rfl, _, b1, b2⟩ := HasLks.cell hb k hkz
      generalize l[k].iface = pa at a1 b1
      generalize l[k].peer = pb at a2 b2
      have hki : (k : Int) < (n : Int) := by omega
      clear ha hb
      go_wp2_with fail
      go_quiet (fail)
      go_wp2_with fail
      go_roundw
      case rel => exact ⟨k + 1, by omega, by go_num, by first | exact hB | exact below_drew hB | exact below_drewN hB _⟩
      case measure => simp [intOf]; omega
    · clear ha hb
      go_wp2
      go_ret
      exact ⟨rfl, hB⟩
/-- rows of numbers -/
def intCs (l : List Int) : List Value := l.map (fun n => .int .i64 n)
def HasInts (W : World) (v : Value) (l : List Int) : Prop := HasRow W v 1 l.length (intCs l)
theorem HasInts.keep {W W' : World} {v : Value} {l : List Int} (h : HasInts W v l) (hb : Below W.heap.size W W') : HasInts W' v l := HasRow.keep h hb
theorem HasInts.cell {W : World} {o : Option Addr} {m cap : Nat} {l : List Int} (h : HasInts W (.slice o m cap) l) (j : Nat) (hj : j < l.length) : ∃ b i, o = some ⟨b, i, none⟩ ∧ b < W.heap.size ∧ W.cell? ⟨b, i + j, none⟩ = some (.int .i64 l[j]) := by
  obtain ⟨_, b, i, e, hb, hc⟩ := HasRow.at h (by omega)
  refine ⟨b, i, e, hb, ?_⟩
  rw [hc j (by omega)]
  unfold intCs
  rw [List.getElem?_map, List.getElem?_eq_getElem hj]
  rfl
set_option maxHeartbeats 2000000 in
set_option maxRecDepth 20000 in
theorem alike_any (l : List Int) (v u : Value) (w : World) (h1 : HasInts w v l) (h2 : HasInts w u l) :
    Calls Try.prog 19 #[v, u] w fun e w' => e = .returned (.bool true) ∧ Below w.heap.size w w' := by
  obtain ⟨o1, c1, rfl, hq1, hq2⟩ := HasRow.slice h1
  obtain ⟨o2, c2, rfl, _, _⟩ := HasRow.slice h2
  have HR : Hid (∀ wr : World, Below w.heap.size w wr → HasInts wr (.slice o1 l.length c1) l ∧ HasInts wr (.slice o2 l.length c2) l) := fun wr hb => ⟨h1.keep hb, h2.keep hb⟩
  obtain ⟨n, hn⟩ : ∃ n, n = l.length := ⟨_, rfl⟩
  have HN : Hid (n = l.length) := hn
  rw [← hn] at HR hq1 ⊢
  have hni : (n : Int) ≤ 9223372036854775807 := by omega
  have hnn : ((n : Int) != (n : Int)) = false := by simp
  clear h1 h2 hn hq1 hq2
  go_enter Try.func19, Try.ntmps19
  go_wp2_with fail
  go_loopw [13] (fun i wr => ∃ k : Nat, k ≤ n ∧ i = .int .i64 k ∧ Below w.heap.size w wr) (fun i _ => n - (intOf i).toNat)
  case atStart => exact ⟨0, by omega, rfl, Below.refl _ _⟩
  case round =>
    obtain ⟨k, hk, rfl, hB⟩ := hrel
    obtain ⟨ha, hb⟩ := HR.out _ hB
    by_cases hlt : k < n
    · have hkz : k < l.length := by rw [← HN.out]; exact hlt
      obtain ⟨g1, i1, rfl, _, a1⟩ := HasInts.cell ha k hkz
      obtain ⟨g2, i2, rfl, _, b1⟩ := HasInts.cell hb k hkz
      generalize l[k] = pa at a1 b1
      have hpp : (pa != pa) = false := by simp
      have hki : (k : Int) < (n : Int) := by omega
      clear ha hb
      go_wp2_with fail
      go_quiet (fail)
      go_wp2_with fail
      go_roundw
      case rel => exact ⟨k + 1, by omega, by go_num, by first | exact hB | exact below_drew hB | exact below_drewN hB _⟩
      case measure => simp [intOf]; omega
    · clear ha hb
      go_wp2
      go_ret
      exact ⟨rfl, hB⟩
end Go.Proofs.Ytedgmnnbmonhkaa.Lk
