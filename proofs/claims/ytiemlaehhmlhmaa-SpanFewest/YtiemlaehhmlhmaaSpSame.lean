/- Rows of spans, and of prefixes, that are one; a span of IPv4. -/
import Derived.Test.YtiemlaehhmlhmaaSpPref
import Derived.Test.YtiemlaehhmlhmaaAddrEql
import Derived.BigQuiet
import Derived.Deep.QuietTactic
import Derived.Laws.StructEq
set_option linter.unusedVariables false
namespace Go.Proofs.Ytiemlaehhmlhmaa.Sp
open Go.RowKit
open Go.Proofs.Ytiemlaehhmlhmaa.Lk (HasRow addr_add)
open Go.Proofs.Ytiemlaehhmlhmaa.Addr (Pf pfV hiN loN adV ad_inF pf_guard RowAt below2 below_drew below_new bset RowAt.lt RowAt.cell RowAt.frozen RowAt.below RowAt.drew RowAt.new RowAt.alloc cells2 cells4 results_cell)
attribute [-go_sem] Builtin.append_
theorem below_drewN {B : Nat} {w0 w : World} (h : Below B w0 w) (n : Nat) : Below B w0 (w.drewN n) := h.trans ⟨rfl, rfl, rfl, Nat.le_refl _, fun _ _ => rfl⟩
theorem same_any_guard : Try.prog.eqGuardType Try.prog.depth 34 = false := by kernel_rfl
theorem alike_any_guard : Try.prog.eqGuardType Try.prog.depth 27 = false := by kernel_rfl
theorem sp_inT (s : Sp) (w : World) : (Op.equalIn 10000 34 (.agg #[.int .u64 (hiN s.1 : Int), .int .u64 (loN s.1 : Int), .int .u64 (hiN s.2 : Int), .int .u64 (loN s.2 : Int)]) (.agg #[.int .u64 (hiN s.1 : Int), .int .u64 (loN s.1 : Int), .int .u64 (hiN s.2 : Int), .int .u64 (loN s.2 : Int)])).run Try.prog w = .ok true w := by
  have a24 := Try.isAgg25
  have z24 := Try.sizeOf25
  have hS : Try.prog.underlying 34 = some (.struct (Try.prog.fieldsOf 34)) := by kernel_rfl
  have hp : Try.prog.stoodInHeld 34 = false := by kernel_rfl
  have h1 := fun w => ad_inF s.1 w 9997
  have h2 := fun w => ad_inF s.2 w 9997
  rw [show (10000 : Nat) = 9999 + 1 from rfl, run_equalIn_agg w 9999 34 _ _ hS hp]
  simp only [Program.fieldsOf, Try.underlying34]
  go_simp
theorem same_any_neq (s : Sp) (w : World) : (binOp .neq 34 (.agg #[.int .u64 (hiN s.1 : Int), .int .u64 (loN s.1 : Int), .int .u64 (hiN s.2 : Int), .int .u64 (loN s.2 : Int)]) (.agg #[.int .u64 (hiN s.1 : Int), .int .u64 (loN s.1 : Int), .int .u64 (hiN s.2 : Int), .int .u64 (loN s.2 : Int)])).run Try.prog w = .ok (.bool false) w := by
  rw [run_neq_struct, sp_inT]
  rfl
theorem sp_eqlT (s : Sp) (w : World) : (binOp .eql 34 (.agg #[.int .u64 (hiN s.1 : Int), .int .u64 (loN s.1 : Int), .int .u64 (hiN s.2 : Int), .int .u64 (loN s.2 : Int)]) (.agg #[.int .u64 (hiN s.1 : Int), .int .u64 (loN s.1 : Int), .int .u64 (hiN s.2 : Int), .int .u64 (loN s.2 : Int)])).run Try.prog w = .ok (.bool true) w := by
  rw [run_eql_struct, sp_inT]
  rfl
theorem alike_any_neq (p : Pf) (w : World) : (binOp .neq 27 (.agg #[.bool p.six, .int .u64 (hiN p.n : Int), .int .u64 (loN p.n : Int), .int .i64 p.len]) (.agg #[.bool p.six, .int .u64 (hiN p.n : Int), .int .u64 (loN p.n : Int), .int .i64 p.len])).run Try.prog w = .ok (.bool false) w := by
  have u9 := Try.underlying23
  have a9 := Try.isAgg23
  have z9 := Try.sizeOf23
  have u3 := Try.underlying3
  have a3 := Try.isAgg3
  have z3 := Try.sizeOf3
  have u4 := Try.underlying4
  have a4 := Try.isAgg4
  have z4 := Try.sizeOf4
  have a24 := Try.isAgg25
  have z24 := Try.sizeOf25
  have hS : Try.prog.underlying 27 = some (.struct (Try.prog.fieldsOf 27)) := by kernel_rfl
  have hp : Try.prog.stoodInHeld 27 = false := by kernel_rfl
  have hin := fun w => ad_inF p.n w 9997
  rw [run_neq_struct, show (10000 : Nat) = 9999 + 1 from rfl, run_equalIn_agg w 9999 27 _ _ hS hp]
  simp only [Program.fieldsOf, Try.underlying27]
  go_simp
theorem pfCs_at (l : List Pf) : ∀ j (h : j < l.length), (pfCs l)[4 * j]? = some (.bool l[j].six) ∧ (pfCs l)[4 * j + 1]? = some (.int .u64 (hiN l[j].n : Int)) ∧ (pfCs l)[4 * j + 2]? = some (.int .u64 (loN l[j].n : Int)) ∧ (pfCs l)[4 * j + 3]? = some (.int .i64 l[j].len) := by
  induction l with
  | nil => intro j h; simp at h
  | cons p ps ih =>
    intro j h
    cases j with
    | zero => exact ⟨rfl, rfl, rfl, rfl⟩
    | succ j =>
      have := ih j (by simpa using h)
      rw [show pfCs (p :: ps) = .bool p.six :: .int .u64 (hiN p.n : Int) :: .int .u64 (loN p.n : Int) :: .int .i64 p.len :: pfCs ps from rfl, show 4 * (j + 1) = 4 * j + 1 + 1 + 1 + 1 by omega]
      rw [show 4 * j + 1 + 1 + 1 + 1 + 1 = (4 * j + 1) + 1 + 1 + 1 + 1 by omega, show 4 * j + 1 + 1 + 1 + 1 + 2 = (4 * j + 2) + 1 + 1 + 1 + 1 by omega, show 4 * j + 1 + 1 + 1 + 1 + 3 = (4 * j + 3) + 1 + 1 + 1 + 1 by omega]
      simp only [List.getElem?_cons_succ, List.getElem_cons_succ]
      exact this
theorem HasPfs.cell {W : World} {o : Option Addr} {m cap : Nat} {l : List Pf} (h : HasPfs W (.slice o m cap) l) (j : Nat) (hj : j < l.length) : ∃ b i, o = some ⟨b, i, none⟩ ∧ b < W.heap.size ∧ W.cell? ⟨b, i + j * 4, none⟩ = some (.bool l[j].six) ∧ W.cell? ⟨b, i + j * 4 + 1, none⟩ = some (.int .u64 (hiN l[j].n : Int)) ∧ W.cell? ⟨b, i + j * 4 + 2, none⟩ = some (.int .u64 (loN l[j].n : Int)) ∧ W.cell? ⟨b, i + j * 4 + 3, none⟩ = some (.int .i64 l[j].len) := by
  obtain ⟨_, b, i, e, hb, hc⟩ := HasRow.at h (by omega)
  have h2 := pfCs_at l j hj
  exact ⟨b, i, e, hb, by rw [hc (j * 4) (by omega), Nat.mul_comm]; exact h2.1, by rw [Nat.add_assoc, hc (j * 4 + 1) (by omega), Nat.mul_comm]; exact h2.2.1, by rw [Nat.add_assoc, hc (j * 4 + 2) (by omega), Nat.mul_comm]; exact h2.2.2.1, by rw [Nat.add_assoc, hc (j * 4 + 3) (by omega), Nat.mul_comm]; exact h2.2.2.2⟩
set_option maxHeartbeats 2000000 in
set_option maxRecDepth 20000 in
theorem same_any (l : List Sp) (v u : Value) (w : World) (h1 : HasSps w v l) (h2 : HasSps w u l) :
    Calls Try.prog 15 #[v, u] w fun e w' => e = .returned (.bool true) ∧ Below w.heap.size w w' := by
  obtain ⟨o1, c1, rfl, hq1, hq2⟩ := HasRow.slice h1
  obtain ⟨o2, c2, rfl, _, _⟩ := HasRow.slice h2
  have HR : Hid (∀ wr : World, Below w.heap.size w wr → HasSps wr (.slice o1 l.length c1) l ∧ HasSps wr (.slice o2 l.length c2) l) := fun wr hb => ⟨h1.keep hb, h2.keep hb⟩
  obtain ⟨n, hn⟩ : ∃ n, n = l.length := ⟨_, rfl⟩
  have HN : Hid (n = l.length) := hn
  rw [← hn] at HR hq1 ⊢
  have hni : (n : Int) ≤ 9223372036854775807 := by omega
  have hneq0 := same_any_neq
  have hgd := same_any_guard
  have hnn : ((n : Int) != (n : Int)) = false := by simp
  clear h1 h2 hn hq1 hq2
  go_enter Try.func15, Try.ntmps15
  go_wp2_with fail
  go_loopw [13] (fun i wr => ∃ k : Nat, k ≤ n ∧ i = .int .i64 k ∧ Below w.heap.size w wr) (fun i _ => n - (Go.RowKit.intOf i).toNat)
  case atStart => exact ⟨0, by omega, rfl, Below.refl _ _⟩
  case round =>
    obtain ⟨k, hk, rfl, hB⟩ := hrel
    obtain ⟨ha, hb⟩ := HR.out _ hB
    by_cases hlt : k < n
    · have hkz : k < l.length := by rw [← HN.out]; exact hlt
      obtain ⟨g1, i1, rfl, _, a1, a2, a3, a4⟩ := HasSps.cell ha k hkz
      obtain ⟨g2, i2, rfl, _, b1, b2, b3, b4⟩ := HasSps.cell hb k hkz
      have hneq := hneq0 l[k]
      generalize hiN l[k].1 = pa at a1 b1 hneq
      generalize loN l[k].1 = pb at a2 b2 hneq
      generalize hiN l[k].2 = pc at a3 b3 hneq
      generalize loN l[k].2 = pd at a4 b4 hneq
      have hki : (k : Int) < (n : Int) := by omega
      clear ha hb
      go_wp2_with fail
      go_quiet (fail)
      go_wp2_with fail
      go_roundw
      case rel => exact ⟨k + 1, by omega, by go_num, by first | exact hB | exact below_drew hB | exact below_drewN hB _⟩
      case measure => simp [Go.RowKit.intOf]; omega
    · clear ha hb
      go_wp2
      go_ret
      exact ⟨rfl, hB⟩
set_option maxHeartbeats 2000000 in
set_option maxRecDepth 20000 in
theorem alike_any (l : List Pf) (v u : Value) (w : World) (h1 : HasPfs w v l) (h2 : HasPfs w u l) :
    Calls Try.prog 28 #[v, u] w fun e w' => e = .returned (.bool true) ∧ Below w.heap.size w w' := by
  obtain ⟨o1, c1, rfl, hq1, hq2⟩ := HasRow.slice h1
  obtain ⟨o2, c2, rfl, _, _⟩ := HasRow.slice h2
  have HR : Hid (∀ wr : World, Below w.heap.size w wr → HasPfs wr (.slice o1 l.length c1) l ∧ HasPfs wr (.slice o2 l.length c2) l) := fun wr hb => ⟨h1.keep hb, h2.keep hb⟩
  obtain ⟨n, hn⟩ : ∃ n, n = l.length := ⟨_, rfl⟩
  have HN : Hid (n = l.length) := hn
  rw [← hn] at HR hq1 ⊢
  have hni : (n : Int) ≤ 9223372036854775807 := by omega
  have hneq0 := alike_any_neq
  have hgd := alike_any_guard
  have hnn : ((n : Int) != (n : Int)) = false := by simp
  clear h1 h2 hn hq1 hq2
  go_enter Try.func28, Try.ntmps28
  go_wp2_with fail
  go_loopw [13] (fun i wr => ∃ k : Nat, k ≤ n ∧ i = .int .i64 k ∧ Below w.heap.size w wr) (fun i _ => n - (Go.RowKit.intOf i).toNat)
  case atStart => exact ⟨0, by omega, rfl, Below.refl _ _⟩
  case round =>
    obtain ⟨k, hk, rfl, hB⟩ := hrel
    obtain ⟨ha, hb⟩ := HR.out _ hB
    by_cases hlt : k < n
    · have hkz : k < l.length := by rw [← HN.out]; exact hlt
      obtain ⟨g1, i1, rfl, _, a1, a2, a3, a4⟩ := HasPfs.cell ha k hkz
      obtain ⟨g2, i2, rfl, _, b1, b2, b3, b4⟩ := HasPfs.cell hb k hkz
      have hneq := hneq0 l[k]
      generalize l[k].six = pa at a1 b1 hneq
      generalize hiN l[k].n = pb at a2 b2 hneq
      generalize loN l[k].n = pc at a3 b3 hneq
      generalize l[k].len = pd at a4 b4 hneq
      have hki : (k : Int) < (n : Int) := by omega
      clear ha hb
      go_wp2_with fail
      go_quiet (fail)
      go_wp2_with fail
      go_roundw
      case rel => exact ⟨k + 1, by omega, by go_num, by first | exact hB | exact below_drew hB | exact below_drewN hB _⟩
      case measure => simp [Go.RowKit.intOf]; omega
    · clear ha hb
      go_wp2
      go_ret
      exact ⟨rfl, hB⟩
set_option maxHeartbeats 1000000 in
theorem at_any (a b : Int) (w : World) : Calls Try.prog 33 #[.int .u64 a, .int .u64 b] w fun e w' => e = .returned (.agg #[.int .u64 0, .int .u64 a, .int .u64 0, .int .u64 b]) ∧ Below w.heap.size w w' := by
  obtain ⟨X, hX⟩ : ∃ X, X = w.alloc (.cells #[.int .u64 0, .int .u64 0, .int .u64 0, .int .u64 0] 34) := ⟨_, rfl⟩
  have hB : Below w.heap.size w X := by rw [hX]; exact below_new (Below.refl _ _) _
  have rz : RowAt X w.heap.size [.int .u64 0, .int .u64 0, .int .u64 0, .int .u64 0] 34 := by rw [hX]; exact RowAt.new _ _ _
  have hlt := rz.lt
  obtain ⟨z0, z1, z2, z3, zf⟩ := cells4 rz
  go_enter Try.func33, Try.ntmps33
  go_upto_region 1 with fail
  rw [← hX]
  clear hX rz
  go_wp2_with fail
  (try simp only [Exit.inBlock, Exit.then])
  refine bodyPost_ret (v := .agg #[.int .u64 0, .int .u64 a, .int .u64 0, .int .u64 b]) ?_ rfl ⟨rfl, ?_⟩
  · rw [results_cell rfl]
    go_simp
  · repeat' (first | with_reducible exact hB | with_reducible refine bset ?_ (by omega))
end Go.Proofs.Ytiemlaehhmlhmaa.Sp
