/- For all routers: spoorlaw17.FibPatched returns true, and changes nothing that was there. No condition. -/
import Derived.Test.YtklbnnnkogghpaaTrHY
import Derived.Test.YtklbnnnkogghpaaFibHR
import Derived.Test.YtklbnnnkogghpaaLkHZ
import Derived.Test.YtklbnnnkogghpaaTrRows
import Derived.Test.YtklbnnnkogghpaaTrPutM
import Derived.Test.YtklbnnnkogghpaaFibHZ
import Derived.Deep.RegionHeld3
import Derived.Laws.EntriesVeiled
import Derived.Test.YtklbnnnkogghpaaRows
import Derived.Test.YtklbnnnkogghpaaFibHL
import Derived.Test.YtklbnnnkogghpaaAddrOpen
import Derived.Test.YtklbnnnkogghpaaMsgOpen
import Derived.ProofKit
import Derived.OpenShut
import Derived.ShutString
import Derived.SizedLaws
set_option linter.unusedVariables false
namespace Go.Proofs.Ytklbnnnkogghpaa.Tr
open Go.RowKit
open Go.Proofs.Ytklbnnnkogghpaa.Lk (HasRow below_drewN idxL idx_at idx_none)
open Go.Proofs.Ytklbnnnkogghpaa.Addr (Pf hiN loN RowAt below2 below_drew below_new bset RowAt.lt RowAt.cell RowAt.frozen RowAt.below RowAt.drew RowAt.new RowAt.alloc cells2)
def memR (l : List Rt) (x : Rt) : Bool := l.any (fun s => eqR x s)
theorem memR_iff (l : List Rt) (x : Rt) : memR l x = true ↔ x ∈ l := by
  unfold memR
  rw [List.any_eq_true]
  constructor
  · rintro ⟨s, hs, h⟩
    rw [(eqR_iff x s).1 h]; exact hs
  · intro h
    exact ⟨x, h, (eqR_iff x x).2 rfl⟩
set_option maxHeartbeats 4000000 in
set_option maxRecDepth 20000 in
theorem index_any (l : List Rt) (v : Value) (x : Rt) (w : World) (hl : HasRts w v l) :
    Calls Try.prog 73 #[v, .agg #[.bool x.pf.six, .int .u64 (hiN x.pf.n : Int), .int .u64 (loN x.pf.n : Int), .int .i64 x.pf.len, .int .u8 (x.act.k : Int), .int .i64 x.act.i]] w fun e w' => ∃ r : Int, e = .returned (.int .i64 r) ∧ decide (0 ≤ r) = memR l x ∧ Below w.heap.size w w' := by
  obtain ⟨o, c, rfl, hc1, hc2⟩ := Lk.HasRow.slice hl
  have HQ : Hid (∀ (s : Rt) (W : World), (binOp .eql 61 (.agg #[.bool x.pf.six, .int .u64 (hiN x.pf.n : Int), .int .u64 (loN x.pf.n : Int), .int .i64 x.pf.len, .int .u8 (x.act.k : Int), .int .i64 x.act.i]) (.agg #[.bool s.pf.six, .int .u64 (hiN s.pf.n : Int), .int .u64 (loN s.pf.n : Int), .int .i64 s.pf.len, .int .u8 (s.act.k : Int), .int .i64 s.act.i])).run Try.prog W = .ok (.bool (eqR x s)) W) := fun s W => rt_eql x s W
  have hgd := rt_guard
  obtain ⟨X, hX⟩ : ∃ X, X = w.alloc (.cells #[.bool x.pf.six, .int .u64 (hiN x.pf.n : Int), .int .u64 (loN x.pf.n : Int), .int .i64 x.pf.len, .int .u8 (x.act.k : Int), .int .i64 x.act.i] 61) := ⟨_, rfl⟩
  have hB : Below w.heap.size w X := by rw [hX]; exact below_new (Below.refl _ _) _
  have r0 : RowAt X w.heap.size [.bool x.pf.six, .int .u64 (hiN x.pf.n : Int), .int .u64 (loN x.pf.n : Int), .int .i64 x.pf.len, .int .u8 (x.act.k : Int), .int .i64 x.act.i] 61 := by rw [hX]; exact RowAt.new _ _ _
  have HR : Hid (∀ wr : World, Below X.heap.size X wr → HasRts wr (.slice o l.length c) l) := fun wr hb => (hl.keep hB).keep hb
  have HM1 : Hid (∀ k (h : k < l.length), eqR x l[k] = true → memR l x = true) := fun k h e => by unfold memR; exact List.any_eq_true.2 ⟨l[k], List.getElem_mem h, e⟩
  have HM0 : Hid ((∀ k (h : k < l.length), eqR x l[k] = false) → memR l x = false) := fun h => by
    unfold memR
    rw [List.any_eq_false]
    intro s hs
    obtain ⟨j, hj, rfl⟩ := List.getElem_of_mem hs
    rw [h j hj]; simp
  generalize memR l x = M at HM1 HM0 ⊢
  obtain ⟨n, hn⟩ : ∃ n, n = l.length := ⟨_, rfl⟩
  have HN : Hid (n = l.length) := hn
  rw [← hn] at HR hc1 ⊢
  have hni : (n : Int) ≤ 9223372036854775807 := by omega
  have HE : Hid (∀ k (h : k < l.length), l[k] = l[k]) := fun _ _ => rfl
  generalize x.pf.six = t0 at *
  generalize (hiN x.pf.n : Int) = t1 at *
  generalize (loN x.pf.n : Int) = t2 at *
  generalize x.pf.len = t3 at *
  generalize (x.act.k : Int) = t4 at *
  generalize x.act.i = t5 at *
  clear hl hn HE
  go_enter Try.func73, Try.ntmps73
  go_upto_region 1 with fail
  rw [← hX]
  clear hX
  go_wp2_with fail
  go_loopw [8] (fun q wr => ∃ k : Nat, k ≤ n ∧ q = .int .i64 k ∧ Hid (Below X.heap.size X wr ∧ ∀ j (hj : j < l.length), j < k → eqR x l[j] = false)) (fun q _ => n - (Go.RowKit.intOf q).toNat)
  case atStart => exact ⟨0, by omega, rfl, Below.refl _ _, fun j hj h => absurd h (Nat.not_lt_zero _)⟩
  case round =>
    obtain ⟨k, hk, rfl, HI⟩ := hrel
    have hbl := HI.out.1
    by_cases hlt : k < n
    · have hkz : k < l.length := by rw [← HN.out]; exact hlt
      obtain ⟨g1, i1, rfl, hg1, ax⟩ := HasRts.cell (HR.out _ hbl) k hkz
      obtain ⟨a0, a1, a2, a3, a4, a5⟩ := six_at ax
      clear ax
      have hq := HQ.out l[k]
      obtain ⟨q, hqd⟩ : ∃ q, q = eqR x l[k] := ⟨_, rfl⟩
      rw [← hqd] at hq
      have HK : Hid (q = eqR x l[k]) := hqd
      clear hqd
      generalize l[k].pf.six = s0 at a0 hq
      generalize (hiN l[k].pf.n : Int) = s1 at a1 hq
      generalize (loN l[k].pf.n : Int) = s2 at a2 hq
      generalize l[k].pf.len = s3 at a3 hq
      generalize (l[k].act.k : Int) = s4 at a4 hq
      generalize l[k].act.i = s5 at a5 hq
      have hki : (k : Int) < (n : Int) := by omega
      obtain ⟨z0, z1, z2, z3, z4, z5, zf⟩ := six_of (RowAt.below r0 hbl)
      cases q
      · have hne : eqR x l[k] = false := HK.out.symm
        go_wp2_with fail
        go_quiet (fail)
        go_wp2_with fail
        go_roundw
        case rel => exact ⟨k + 1, by omega, by go_num, by first | exact hbl | exact below_drew hbl | exact below_drewN hbl _, fun j h h' => by
          rcases Nat.lt_or_ge j k with h9 | h9
          · exact HI.out.2 j h h9
          · have : j = k := by omega
            subst this; exact hne⟩
        case measure => simp [Go.RowKit.intOf]; omega
      · have HV : Hid (M = true) := HM1.out k hkz HK.out.symm
        clear HM1 HM0 HI HK
        go_wp2_with fail
        go_quiet (fail)
        go_wp2_with fail
        go_ret
        exact ⟨_, rfl, by rw [HV.out]; exact decide_eq_true (by omega), by first | exact below2 hB hbl | exact below2 hB (below_drew hbl) | exact below2 hB (below_drewN hbl _)⟩
    · have HV : Hid (M = false) := HM0.out (fun j h => HI.out.2 j h (by have := HN.out; omega))
      have hkf : decide ((k : Int) < (n : Int)) = false := decide_eq_false (by omega)
      clear HM1 HM0 HI
      go_wp2_with fail
      go_ret
      exact ⟨_, rfl, by rw [HV.out]; rfl, below2 hB hbl⟩
theorem contains_any (l : List Rt) (v : Value) (x : Rt) (w : World) (hl : HasRts w v l) :
    Calls Try.prog 50 #[v, .agg #[.bool x.pf.six, .int .u64 (hiN x.pf.n : Int), .int .u64 (loN x.pf.n : Int), .int .i64 x.pf.len, .int .u8 (x.act.k : Int), .int .i64 x.act.i]] w fun e w' => e = .returned (.bool (memR l x)) ∧ Below w.heap.size w w' := by
  have ci := fun W (hb : Below w.heap.size w W) => index_any l v x W (hl.keep hb)
  obtain ⟨o, c, rfl, hc1, hc2⟩ := Lk.HasRow.slice hl
  generalize memR l x = M at ci ⊢
  generalize l.length = n at *
  generalize x.pf.six = t0 at *
  generalize (hiN x.pf.n : Int) = t1 at *
  generalize (loN x.pf.n : Int) = t2 at *
  generalize x.pf.len = t3 at *
  generalize (x.act.k : Int) = t4 at *
  generalize x.act.i = t5 at *
  clear hl
  obtain ⟨X, hX⟩ : ∃ X, X = w.alloc (.cells #[.bool t0, .int .u64 t1, .int .u64 t2, .int .i64 t3, .int .u8 t4, .int .i64 t5] 61) := ⟨_, rfl⟩
  have hB : Below w.heap.size w X := by rw [hX]; exact below_new (Below.refl _ _) _
  have r0 : RowAt X w.heap.size [.bool t0, .int .u64 t1, .int .u64 t2, .int .i64 t3, .int .u8 t4, .int .i64 t5] 61 := by rw [hX]; exact RowAt.new _ _ _
  go_enter Try.func50, Try.ntmps50
  go_upto_region 1 with fail
  rw [← hX]
  clear hX
  obtain ⟨z0, z1, z2, z3, z4, z5, zf⟩ := six_of r0
  go_wp2_with fail
  go_at_call 73; refine (ci _ hB).mono ?_; rintro e w1 ⟨r, rfl, hr, hb1⟩
  have hr2 : decide (r ≥ 0) = M := hr
  have HM : Hid (decide (0 ≤ r) = M) := hr
  clear hr ci
  cases M
  · go_wp2_with fail
    go_ret
    exact ⟨rfl, below2 hB hb1⟩
  · go_wp2_with fail
    go_ret
    exact ⟨rfl, below2 hB hb1⟩
theorem among_any (o : Option Addr) (n c : Nat) (w : World) : Calls Try.prog 28 #[.slice o n c] w fun e w' => e = .returned (.func (.func 49) #[] #[.pointer (some ⟨w.heap.size, 0, none⟩)]) ∧ w' = w.alloc (.cells #[.slice o n c] 22) := by
  go_enter Try.func28, Try.ntmps28
  go_wp2_with fail
  go_ret
  exact ⟨rfl, rfl⟩
set_option maxHeartbeats 2000000 in
theorem among1_any (x : Rt) (m : List Rt) (u : Value) (g : Nat) (w : World) (hg : w.cell? ⟨g, 0, none⟩ = some u) (hl : g < w.heap.size) (hu : HasRts w u m) : Calls Try.prog 49 #[.agg #[.bool x.pf.six, .int .u64 (hiN x.pf.n : Int), .int .u64 (loN x.pf.n : Int), .int .i64 x.pf.len, .int .u8 (x.act.k : Int), .int .i64 x.act.i], .pointer (some ⟨g, 0, none⟩)] w fun e w' => e = .returned (.bool (memR m x)) ∧ Below w.heap.size w w' := by
  have cc := fun W (hb : Below w.heap.size w W) => contains_any m u x W (hu.keep hb)
  obtain ⟨o, c, rfl, hc1, hc2⟩ := Lk.HasRow.slice hu
  generalize memR m x = M at cc ⊢
  generalize m.length = n at *
  generalize x.pf.six = t0 at *
  generalize (hiN x.pf.n : Int) = t1 at *
  generalize (loN x.pf.n : Int) = t2 at *
  generalize x.pf.len = t3 at *
  generalize (x.act.k : Int) = t4 at *
  generalize x.act.i = t5 at *
  clear hu
  obtain ⟨X, hX⟩ : ∃ X, X = w.alloc (.cells #[.bool t0, .int .u64 t1, .int .u64 t2, .int .i64 t3, .int .u8 t4, .int .i64 t5] 61) := ⟨_, rfl⟩
  have hB : Below w.heap.size w X := by rw [hX]; exact below_new (Below.refl _ _) _
  have r0 : RowAt X w.heap.size [.bool t0, .int .u64 t1, .int .u64 t2, .int .i64 t3, .int .u8 t4, .int .i64 t5] 61 := by rw [hX]; exact RowAt.new _ _ _
  have hg2 : X.cell? ⟨g, 0, none⟩ = some (.slice o n c) := (hB.cell (p := ⟨g, 0, none⟩) hl).trans hg
  go_enter Try.func49, Try.ntmps49
  go_upto_region 1 with fail
  rw [← hX]
  clear hX
  obtain ⟨z0, z1, z2, z3, z4, z5, zf⟩ := six_of r0
  go_wp2_with fail
  go_at_call 50; refine (cc _ hB).mono ?_; rintro e w1 ⟨rfl, hb1⟩
  go_wp2_with fail
  go_ret
  exact ⟨rfl, below2 hB hb1⟩
set_option maxHeartbeats 4000000 in
set_option maxRecDepth 20000 in
theorem idxAmong_any (l : List Rt) (v : Value) (m : List Rt) (u : Value) (g : Nat) (w : World) (hl : HasRts w v l) (hg : w.cell? ⟨g, 0, none⟩ = some u) (hlt : g < w.heap.size) (hu : HasRts w u m) :
    Calls Try.prog 48 #[v, .func (.func 49) #[] #[.pointer (some ⟨g, 0, none⟩)]] w fun e w' => e = .returned (.int .i64 (idxL (memR m) l)) ∧ Below w.heap.size w w' := by
  obtain ⟨o, c, rfl, hc1, hc2⟩ := Lk.HasRow.slice hl
  have HR : Hid (∀ wr : World, Below w.heap.size w wr → HasRts wr (.slice o l.length c) l) := fun wr hb => hl.keep hb
  have HG : Hid (∀ (x : Rt) (wr : World), Below w.heap.size w wr → Calls Try.prog 49 #[.agg #[.bool x.pf.six, .int .u64 (hiN x.pf.n : Int), .int .u64 (loN x.pf.n : Int), .int .i64 x.pf.len, .int .u8 (x.act.k : Int), .int .i64 x.act.i], .pointer (some ⟨g, 0, none⟩)] wr fun e w' => e = .returned (.bool (memR m x)) ∧ Below wr.heap.size wr w') := fun x wr hb => among1_any x m u g wr ((hb.cell (p := ⟨g, 0, none⟩) hlt).trans hg) (Nat.lt_of_lt_of_le hlt hb.size) (hu.keep hb)
  obtain ⟨n, hn⟩ : ∃ n, n = l.length := ⟨_, rfl⟩
  have HN : Hid (n = l.length) := hn
  rw [← hn] at HR hc1 ⊢
  have hni : (n : Int) ≤ 9223372036854775807 := by omega
  obtain ⟨R, hR⟩ : ∃ R, R = idxL (memR m) l := ⟨_, rfl⟩
  have HRD : Hid (R = idxL (memR m) l) := hR
  rw [← hR]
  clear hl hn hR hg hlt hu
  go_enter Try.func48, Try.ntmps48
  go_wp2_with fail
  go_loopw [8] (fun q wr => ∃ k : Nat, k ≤ n ∧ q = .int .i64 k ∧ Below w.heap.size w wr ∧ Hid (∀ j (hj : j < l.length), j < k → memR m l[j] = false)) (fun q _ => n - (Go.RowKit.intOf q).toNat)
  case atStart => exact ⟨0, by omega, rfl, Below.refl _ _, fun j hj h => absurd h (Nat.not_lt_zero _)⟩
  case round =>
    obtain ⟨k, hk, rfl, hB, HI⟩ := hrel
    by_cases hlt : k < n
    · have hkz : k < l.length := by rw [← HN.out]; exact hlt
      obtain ⟨g1, i1, rfl, hg1, ax⟩ := HasRts.cell (HR.out _ hB) k hkz
      obtain ⟨a0, a1, a2, a3, a4, a5⟩ := six_at ax
      clear ax
      have cc2 := HG.out l[k] wr hB
      have HV1 : Hid (∀ D : Bool, D = memR m l[k] → D = true → R = (k : Int)) := fun D e h => by rw [HRD.out]; exact idx_at hkz HI.out (by rw [← e, h])
      have HV2 : Hid (∀ D : Bool, D = memR m l[k] → D = false → ∀ j (hj : j < l.length), j < k + 1 → memR m l[j] = false) := fun D e h j hj hjk => by
        by_cases e2 : j = k
        · subst e2; rw [← e, h]
        · exact HI.out j hj (by omega)
      obtain ⟨D, hD⟩ : ∃ D, D = memR m l[k] := ⟨_, rfl⟩
      have HW1 : Hid (D = true → R = (k : Int)) := HV1.out D hD
      have HW2 : Hid (D = false → ∀ j (hj : j < l.length), j < k + 1 → memR m l[j] = false) := HV2.out D hD
      rw [← hD] at cc2
      have hki : (k : Int) < (n : Int) := by omega
      clear HI HV1 HV2 hD hg1
      generalize l[k].pf.six = s0 at a0 cc2
      generalize (hiN l[k].pf.n : Int) = s1 at a1 cc2
      generalize (loN l[k].pf.n : Int) = s2 at a2 cc2
      generalize l[k].pf.len = s3 at a3 cc2
      generalize (l[k].act.k : Int) = s4 at a4 cc2
      generalize l[k].act.i = s5 at a5 cc2
      go_wp2_with fail
      go_at_call 49; refine cc2.mono ?_; rintro e w2 ⟨rfl, hb2⟩
      have hB2 := below2 hB hb2
      cases D
      · have HV3 : Hid (∀ j (hj : j < l.length), j < k + 1 → memR m l[j] = false) := HW2.out rfl
        clear HW1 HW2 cc2
        go_wp2_with fail
        go_roundw
        case rel => exact ⟨k + 1, by omega, by go_num, hB2, HV3⟩
        case measure => simp [Go.RowKit.intOf]; omega
      · have HV : Hid (R = (k : Int)) := HW1.out rfl
        clear HW1 HW2 cc2
        go_wp2_with fail
        go_ret
        exact ⟨by have h := HV.out; subst h; rfl, hB2⟩
    · have hkn : decide ((k : Int) < (n : Int)) = false := decide_eq_false (by omega)
      have HV : Hid (R = -1) := by show _ = _; rw [HRD.out]; exact idx_none (fun j hj => HI.out j hj (by have := HN.out; omega))
      clear HI
      go_wp2_with fail
      go_ret
      exact ⟨by have h := HV.out; subst h; rfl, hB⟩
end Go.Proofs.Ytklbnnnkogghpaa.Tr
namespace Go.Proofs.Ytklbnnnkogghpaa.Tr
open Go.RowKit
open Go.Proofs.Ytklbnnnkogghpaa.Lk (HasRow idxL own_cut own_below hasRow_own)
open Go.Proofs.Ytklbnnnkogghpaa.Addr (Pf hiN loN RowAt below2 below_drew below_new bset RowAt.lt RowAt.cell RowAt.frozen RowAt.below RowAt.drew RowAt.new RowAt.alloc cells2)
attribute [-go_sem] Builtin.append_
def zeroCs : Array Value := #[.bool false, .int .u64 0, .int .u64 0, .int .i64 0, .int .u8 0, .int .i64 0]
def zerosR (n : Nat) : List Value := (Builtin.zeroCells zeroCs n).toList
theorem zeros_len (n : Nat) : (zerosR n).length = n * 6 := by
  unfold zerosR Builtin.zeroCells
  simp [show zeroCs.size = 6 from rfl]
theorem zeros_one (n : Nat) : ∀ v ∈ zerosR n, v.oneCell' = true := by
  intro v hv
  unfold zerosR Builtin.zeroCells at hv
  simp only [Array.toList_map, List.mem_map, show zeroCs.size = 6 from rfl] at hv
  obtain ⟨i, _, rfl⟩ := hv
  have key : ∀ r, r < 6 → (zeroCs[r]!).oneCell' = true := by decide
  exact key _ (Nat.mod_lt _ (by decide))
theorem clear_rts (w : World) (ty : TypeId) (b o n c : Nat) (hn : 0 < n) (hc : ∀ j, j < n * 6 → (w.cell? ⟨b, o + j, none⟩).isSome = true) (hf : ∀ j, w.frozen? ⟨b, j, none⟩ = false) :
    (Builtin.clear_ #[22] ty #[.slice (some ⟨b, o, none⟩) n c]).run Try.prog w = .ok (.tuple #[]) (w.setCells b o (zerosR n)) := by
  have hv : ∀ w, (zeroValue 61).run Try.prog w = .ok (.agg zeroCs) w := fun w => by simp [zeroValue, show Try.t61.zero = some (.agg zeroCs) from by kernel_rfl]
  have hst := run_storeCells_cells (P := Try.prog) b o (zerosR n) 0 w (by rw [zeros_len]; intro j hj; simpa using hc j hj) (fun j _ => hf _) (zeros_one n)
  simp only [Nat.add_zero] at hst
  have hzc : (Builtin.zeroCells (Value.cells (.agg zeroCs)) n).toList = zerosR n := rfl
  obtain ⟨m, rfl⟩ : ∃ m, n = m + 1 := ⟨n - 1, by omega⟩
  simp [Builtin.clear_, run_underlying Try.underlying22, hv, hzc, hst]
theorem own_sets {B e sz g n cap : Nat} : ∀ (vs : List Value) (o : Nat) {W : World} {xs : List Value}, W.ownsRow B e sz (.slice (some ⟨g, 0, none⟩) n cap) n xs → ∃ ys, (W.setCells g o vs).ownsRow B e sz (.slice (some ⟨g, 0, none⟩) n cap) n ys ∧ ys.take o = xs.take o ∧ W.grownBy (W.setCells g o vs) (some g)
  | [], o, W, xs, h => ⟨xs, h, rfl, ⟨rfl, rfl, rfl, Nat.le_refl _, fun _ _ _ => rfl⟩⟩
  | v :: vs, o, W, xs, h => by
    obtain ⟨s1, s2⟩ := h.stored o v
    obtain ⟨ys, h1, h2, h3⟩ := own_sets vs (o + 1) s1
    refine ⟨ys, h1, ?_, ?_⟩
    · have := congrArg (List.take o) h2
      rw [List.take_take, List.take_take, Nat.min_eq_left (by omega)] at this
      rw [this, List.take_set, List.set_eq_of_length_le (by rw [List.length_take]; omega)]
    · exact ⟨h3.os.trans s2.os, h3.tape.trans s2.tape, h3.output.trans s2.output, Nat.le_trans s2.size h3.size, fun j hj hn => (h3.block j (Nat.lt_of_lt_of_le hj s2.size) hn).trans (s2.block j hj hn)⟩
theorem rtCs_set (m : List Rt) (x : Rt) (j : Nat) (h : j < m.length) : ((((((rtCs m).set (j * 6) (.bool x.pf.six)).set (j * 6 + 1) (.int .u64 (hiN x.pf.n : Int))).set (j * 6 + 2) (.int .u64 (loN x.pf.n : Int))).set (j * 6 + 3) (.int .i64 x.pf.len)).set (j * 6 + 4) (.int .u8 (x.act.k : Int))).set (j * 6 + 5) (.int .i64 x.act.i) = rtCs (m.set j x) := by
  induction m generalizing j with
  | nil => simp at h
  | cons s m ih =>
    cases j with
    | zero => rfl
    | succ j =>
      have := ih j (by simpa using h)
      show ((((((rtC s ++ rtCs m).set ((j + 1) * 6) _).set ((j + 1) * 6 + 1) _).set ((j + 1) * 6 + 2) _).set ((j + 1) * 6 + 3) _).set ((j + 1) * 6 + 4) _).set ((j + 1) * 6 + 5) _ = rtC s ++ rtCs (m.set j x)
      rw [← this, show (j + 1) * 6 = (rtC s).length + j * 6 by show _ = 6 + _; omega]
      simp only [Nat.add_assoc]
      simp only [List.set_append_right _ _ (Nat.le_add_right _ _), Nat.add_sub_cancel_left]
/-- the row while routes are taken out: q kept ones of the first j, and the others as they were -/
structure DelI (p : Rt → Bool) (l M : List Rt) (q j : Nat) : Prop where
  len : M.length = l.length
  qj : q < j
  jn : j ≤ l.length
  kept : M.take q = (l.take j).filter (fun x => !p x)
  rest : M.drop j = l.drop j
theorem DelI.at {p : Rt → Bool} {l M : List Rt} {q j : Nat} (h : DelI p l M q j) (hj : j < l.length) (hM : j < M.length) : M[j] = l[j] := by
  have h1 : M[j]? = l[j]? := by
    have := congrArg (fun z : List Rt => z[0]?) h.rest
    simpa [List.getElem?_drop] using this
  rw [List.getElem?_eq_getElem hM, List.getElem?_eq_getElem hj] at h1
  exact Option.some.inj h1
theorem DelI.skip {p : Rt → Bool} {l M : List Rt} {q j : Nat} (h : DelI p l M q j) (hj : j < l.length) (hp : p l[j] = true) : DelI p l M q (j + 1) := by
  refine ⟨h.len, Nat.lt_succ_of_lt h.qj, hj, ?_, ?_⟩
  · rw [List.take_succ_eq_append_getElem hj, List.filter_append, ← h.kept]
    simp [hp]
  · have := congrArg (List.drop 1) h.rest
    simpa [List.drop_drop] using this
theorem DelI.put {p : Rt → Bool} {l M : List Rt} {q j : Nat} (h : DelI p l M q j) (hj : j < l.length) (hp : p l[j] = false) : DelI p l (M.set q l[j]) (q + 1) (j + 1) := by
  have hq := h.qj
  have hl := h.len
  refine ⟨by rw [List.length_set, h.len], by omega, hj, ?_, ?_⟩
  · rw [List.take_succ_eq_append_getElem hj, List.filter_append, ← h.kept, List.take_succ_eq_append_getElem (by rw [List.length_set]; omega)]
    rw [List.getElem_set_self, List.take_set, List.set_eq_of_length_le (by rw [List.length_take]; omega)]
    simp [hp]
  · rw [List.drop_set_of_lt (by omega)]
    have := congrArg (List.drop 1) h.rest
    simpa [List.drop_drop] using this
theorem idx_cases {p : Rt → Bool} {l : List Rt} : (idxL p l = -1 ∧ l.filter (fun x => !p x) = l) ∨ ∃ k, ∃ h : k < l.length, idxL p l = (k : Int) ∧ DelI p l l k (k + 1) := by
  unfold idxL
  cases hf : l.findIdx? p with
  | none =>
    refine .inl ⟨rfl, List.filter_eq_self.2 (fun x hx => ?_)⟩
    have := List.findIdx?_eq_none_iff.1 hf x hx
    rw [this]; rfl
  | some k =>
    obtain ⟨hk, hp, hb⟩ := List.findIdx?_eq_some_iff_getElem.1 hf
    refine .inr ⟨k, hk, rfl, rfl, by omega, hk, ?_, rfl⟩
    rw [List.take_succ_eq_append_getElem hk, List.filter_append, List.filter_cons_of_neg (by rw [hp]; decide), List.filter_nil, List.append_nil]
    symm
    refine List.filter_eq_self.2 (fun x hx => ?_)
    obtain ⟨j, hj, rfl⟩ := List.getElem_of_mem hx
    rw [List.length_take] at hj
    have := hb j (by omega)
    rw [List.getElem_take]
    simpa using this
end Go.Proofs.Ytklbnnnkogghpaa.Tr
namespace Go.Proofs.Ytklbnnnkogghpaa.Tr
open Go.RowKit
open Go.Proofs.Ytklbnnnkogghpaa.Lk (HasRow idxL own_cut own_below hasRow_own)
open Go.Proofs.Ytklbnnnkogghpaa.Addr (Pf hiN loN RowAt below2 below_drew below_new bset RowAt.lt RowAt.cell RowAt.frozen RowAt.below RowAt.drew RowAt.new RowAt.alloc cells2)
attribute [-go_sem] Builtin.append_
theorem own_put6 {W : World} {B e gr n cap q : Nat} {xs : List Value} (h : W.ownsRow B e 6 (.slice (some ⟨gr, 0, none⟩) n cap) n xs) (v0 v1 v2 v3 v4 v5 : Value) (Z : World) (hZ : Z = (((((W.setCell ⟨gr, q * 6, none⟩ v0).setCell ⟨gr, q * 6 + 1, none⟩ v1).setCell ⟨gr, q * 6 + 2, none⟩ v2).setCell ⟨gr, q * 6 + 3, none⟩ v3).setCell ⟨gr, q * 6 + 4, none⟩ v4).setCell ⟨gr, q * 6 + 5, none⟩ v5) :
    Z.ownsRow B e 6 (.slice (some ⟨gr, 0, none⟩) n cap) n ((((((xs.set (q * 6) v0).set (q * 6 + 1) v1).set (q * 6 + 2) v2).set (q * 6 + 3) v3).set (q * 6 + 4) v4).set (q * 6 + 5) v5) ∧ W.grownBy Z (some gr) := by
  subst hZ
  exact ⟨((((((h.stored (q * 6) v0).1.stored (q * 6 + 1) v1).1.stored (q * 6 + 2) v2).1.stored (q * 6 + 3) v3).1.stored (q * 6 + 4) v4).1.stored (q * 6 + 5) v5).1, Addr.gset (Addr.gset (Addr.gset (Addr.gset (Addr.gset (Addr.gset (Addr.grefl _ _))))))⟩
set_option maxHeartbeats 8000000 in
set_option maxRecDepth 20000 in
theorem delfR_any (l : List Rt) (p : Rt → Bool) (u : Value) (gr cap n g B : Nat) (w : World) (hn : n = l.length) (hlen : n ≤ 1000)
    (hown : w.ownsRow B 61 6 (.slice (some ⟨gr, 0, none⟩) n cap) n (rtCs l)) (hB : B ≤ gr) (hBw : B ≤ w.heap.size) (hcap : n ≤ cap ∧ cap ≤ 9223372036854775807) (hg : w.cell? ⟨g, 0, none⟩ = some u) (hgl : g < w.heap.size) (hgg : g ≠ gr)
    (ci : ∀ W : World, Below w.heap.size w W → Calls Try.prog 48 #[.slice (some ⟨gr, 0, none⟩) n cap, .func (.func 49) #[] #[.pointer (some ⟨g, 0, none⟩)]] W fun e w' => e = .returned (.int .i64 (idxL p l)) ∧ Below W.heap.size W w')
    (ca : ∀ (x : Rt) (W : World), W.cell? ⟨g, 0, none⟩ = some u → g < W.heap.size → Below B w W → Calls Try.prog 49 #[.agg #[.bool x.pf.six, .int .u64 (hiN x.pf.n : Int), .int .u64 (loN x.pf.n : Int), .int .i64 x.pf.len, .int .u8 (x.act.k : Int), .int .i64 x.act.i], .pointer (some ⟨g, 0, none⟩)] W fun e w' => e = .returned (.bool (p x)) ∧ Below W.heap.size W w') :
    Calls Try.prog 26 #[.slice (some ⟨gr, 0, none⟩) n cap, .func (.func 49) #[] #[.pointer (some ⟨g, 0, none⟩)]] w fun e w' => ∃ k, e = .returned (.slice (some ⟨gr, 0, none⟩) k cap) ∧ w'.ownsRow B 61 6 (.slice (some ⟨gr, 0, none⟩) k cap) k (rtCs (l.filter (fun x => !p x))) ∧ Below B w w' := by
  have hni : (n : Int) ≤ 1000 := by omega
  have HN : Hid (n = l.length) := hn
  have HCA : Hid (∀ (x : Rt) (W : World), W.cell? ⟨g, 0, none⟩ = some u → g < W.heap.size → Below B w W → Calls Try.prog 49 #[.agg #[.bool x.pf.six, .int .u64 (hiN x.pf.n : Int), .int .u64 (loN x.pf.n : Int), .int .i64 x.pf.len, .int .u8 (x.act.k : Int), .int .i64 x.act.i], .pointer (some ⟨g, 0, none⟩)] W fun e w' => e = .returned (.bool (p x)) ∧ Below W.heap.size W w') := ca
  clear ca
  rcases idx_cases (p := p) (l := l) with ⟨hi, hfl⟩ | ⟨k, hkl, hi, hD⟩
  · rw [hi] at ci
    rw [hfl]
    have HOW : Hid (w.ownsRow B 61 6 (.slice (some ⟨gr, 0, none⟩) n cap) n (rtCs l)) := hown
    clear hown hi hfl hn
    go_enter Try.func26, Try.ntmps26
    go_wp2_with fail
    go_at_call 48; refine (ci _ (Below.refl _ _)).mono ?_; rintro e w1 ⟨rfl, hb1⟩
    clear ci
    go_wp2_with fail
    go_ret
    exact ⟨_, rfl, own_below HOW.out hb1, Below.mono hb1 hBw⟩
  rw [hi] at ci
  have HDI : Hid (DelI p l l k (k + 1)) := hD
  have HOW : Hid (w.ownsRow B 61 6 (.slice (some ⟨gr, 0, none⟩) n cap) n (rtCs l)) := hown
  have hk1 : ((k : Int) == -1) = false := beq_eq_false_iff_ne.2 (by omega)
  have hkn : k < n := by omega
  clear hown hi hD hn hkl
  go_enter Try.func26, Try.ntmps26
  go_wp2_with fail
  go_at_call 48; refine (ci _ (Below.refl _ _)).mono ?_; rintro e w1 ⟨rfl, hb1⟩
  replace hg : w1.cell? ⟨g, 0, none⟩ = some u := (hb1.cell (p := ⟨g, 0, none⟩) hgl).trans hg
  have hgl1 : g < w1.heap.size := Nat.lt_of_lt_of_le hgl hb1.size
  have HO1 : Hid (w1.ownsRow B 61 6 (.slice (some ⟨gr, 0, none⟩) n cap) n (rtCs l)) := own_below HOW.out hb1
  have hBB : Below B w w1 := Below.mono hb1 hBw
  have hBw1 : B ≤ w1.heap.size := Nat.le_trans hBw hb1.size
  clear ci hb1 HOW hgl
  go_wp2_with fail
  go_loopw [5, 6] (fun a b wr => ∃ (q j : Nat) (M : List Rt), Hid (DelI p l M q j) ∧ j ≤ n ∧ q < j ∧ a = .int .i64 (q : Int) ∧ b = .int .i64 (j : Int) ∧ Hid (wr.ownsRow B 61 6 (.slice (some ⟨gr, 0, none⟩) n cap) n (rtCs M)) ∧ Below B w wr ∧ wr.cell? ⟨g, 0, none⟩ = some u ∧ g < wr.heap.size ∧ B ≤ wr.heap.size) (fun _ b _ => n - (Go.RowKit.intOf b).toNat)
  case atStart => exact ⟨k, k + 1, l, HDI, by omega, by omega, rfl, by first | rfl | go_num, HO1, hBB, hg, hgl1, hBw1⟩
  case round =>
    obtain ⟨q, j, M, HI, hjn, hqj, rfl, rfl, HO, hBr, hgc, hgs, hBs⟩ := hrel
    clear hg hgl1 HO1 hBB hBw1 HDI
    have hML : M.length = n := by rw [HI.out.len, HN.out]
    by_cases hlt : j < n
    · have hjl : j < l.length := by have := HN.out; omega
      have hh : HasRts wr (.slice (some ⟨gr, 0, none⟩) n cap) M := by
        unfold HasRts
        rw [hML]
        exact hasRow_own HO.out
      obtain ⟨g1, i1, e1, hg1, ax⟩ := HasRts.cell hh j (by rw [hML]; exact hlt)
      injection e1 with e1
      injection e1 with e11 e12
      subst e11 e12
      rw [HI.out.at hjl (by rw [hML]; exact hlt)] at ax
      obtain ⟨a0, a1, a2, a3, a4, a5⟩ := six_at ax
      simp only [Nat.zero_add] at a0 a1 a2 a3 a4 a5
      clear ax
      have cc := HCA.out l[j]
      have HSS : Hid (((((((rtCs M).set (q * 6) (.bool l[j].pf.six)).set (q * 6 + 1) (.int .u64 (hiN l[j].pf.n : Int))).set (q * 6 + 2) (.int .u64 (loN l[j].pf.n : Int))).set (q * 6 + 3) (.int .i64 l[j].pf.len)).set (q * 6 + 4) (.int .u8 (l[j].act.k : Int))).set (q * 6 + 5) (.int .i64 l[j].act.i) = rtCs (M.set q l[j])) := rtCs_set M l[j] q (by rw [hML]; omega)
      have HS1 : Hid (∀ D : Bool, D = p l[j] → D = true → DelI p l M q (j + 1)) := fun D e h => HI.out.skip hjl (by rw [← e, h])
      have HS2 : Hid (∀ D : Bool, D = p l[j] → D = false → DelI p l (M.set q l[j]) (q + 1) (j + 1)) := fun D e h => HI.out.put hjl (by rw [← e, h])
      obtain ⟨D, hD⟩ : ∃ D, D = p l[j] := ⟨_, rfl⟩
      have HT1 : Hid (D = true → DelI p l M q (j + 1)) := HS1.out D hD
      have HT2 : Hid (D = false → DelI p l (M.set q l[j]) (q + 1) (j + 1)) := HS2.out D hD
      rw [← hD] at cc
      clear HS1 HS2 hD HI
      obtain ⟨MS, hMS⟩ : ∃ MS, MS = M.set q l[j] := ⟨_, rfl⟩
      rw [← hMS] at HSS HT2
      clear hMS
      generalize l[j].pf.six = s0 at *
      generalize (hiN l[j].pf.n : Int) = s1 at *
      generalize (loN l[j].pf.n : Int) = s2 at *
      generalize l[j].pf.len = s3 at *
      generalize (l[j].act.k : Int) = s4 at *
      generalize l[j].act.i = s5 at *
      have hji : (j : Int) < (n : Int) := by omega
      have hqi : (q : Int) < (n : Int) := by omega
      have hqn6 : q * 6 + 5 < n * 6 := by omega
      clear hh hlt hjl
      obtain ⟨X, hX⟩ : ∃ X, X = wr.alloc (.cells #[.bool s0, .int .u64 s1, .int .u64 s2, .int .i64 s3, .int .u8 s4, .int .i64 s5] 61) := ⟨_, rfl⟩
      have hbX : Below wr.heap.size wr X := by rw [hX]; exact below_new (Below.refl _ _) _
      have r0 : RowAt X wr.heap.size [.bool s0, .int .u64 s1, .int .u64 s2, .int .i64 s3, .int .u8 s4, .int .i64 s5] 61 := by rw [hX]; exact RowAt.new _ _ _
      go_upto_region 8 with fail
      rw [← hX]
      replace HO : Hid (X.ownsRow B 61 6 (.slice (some ⟨gr, 0, none⟩) n cap) n (rtCs M)) := own_below HO.out hbX
      replace hgc : X.cell? ⟨g, 0, none⟩ = some u := (hbX.cell (p := ⟨g, 0, none⟩) hgs).trans hgc
      have hgs2 : g < X.heap.size := Nat.lt_of_lt_of_le hgs hbX.size
      have hBX : Below B w X := hBr.trans (Below.mono hbX hBs)
      have hBs2 : B ≤ X.heap.size := Nat.le_trans hBs hbX.size
      have hne : wr.heap.size ≠ gr := by omega
      clear hX hbX a0 a1 a2 a3 a4 a5 hgs hBr hBs hg1
      generalize wr.heap.size = gs at r0 hne ⊢
      obtain ⟨y0, y1, y2, y3, y4, y5, yf⟩ := six_of r0
      go_wp2_with fail
      go_at_call 49; refine (cc _ hgc hgs2 hBX).mono ?_; rintro e w2 ⟨rfl, hb2⟩
      replace HO : Hid (w2.ownsRow B 61 6 (.slice (some ⟨gr, 0, none⟩) n cap) n (rtCs M)) := own_below HO.out hb2
      replace hgc : w2.cell? ⟨g, 0, none⟩ = some u := (hb2.cell (p := ⟨g, 0, none⟩) hgs2).trans hgc
      have hgs3 : g < w2.heap.size := Nat.lt_of_lt_of_le hgs2 hb2.size
      have hB2 : Below B w w2 := hBX.trans (Below.mono hb2 hBs2)
      have hBs3 : B ≤ w2.heap.size := Nat.le_trans hBs2 hb2.size
      replace r0 := RowAt.below r0 hb2
      clear y0 y1 y2 y3 y4 y5 yf hb2 hgs2 hBX hBs2 cc
      obtain ⟨y0, y1, y2, y3, y4, y5, yf⟩ := six_of r0
      cases D
      · have HI2 := HT2.out rfl
        replace HI2 : Hid (DelI p l MS (q + 1) (j + 1)) := HI2
        have hf : ∀ j, w2.frozen? ⟨gr, j, none⟩ = false := fun j => (HO.out).frozenAt j
        obtain ⟨Z, hZ⟩ : ∃ Z, Z = ((((((w2.setCell ⟨gr, q * 6, none⟩ (.bool s0)).setCell ⟨gr, q * 6 + 1, none⟩ (.int .u64 s1)).setCell ⟨gr, q * 6 + 2, none⟩ (.int .u64 s2)).setCell ⟨gr, q * 6 + 3, none⟩ (.int .i64 s3)).setCell ⟨gr, q * 6 + 4, none⟩ (.int .u8 s4)).setCell ⟨gr, q * 6 + 5, none⟩ (.int .i64 s5)) := ⟨_, rfl⟩
        obtain ⟨p1, p2⟩ := own_put6 HO.out _ _ _ _ _ _ Z hZ
        rw [HSS.out] at p1
        have HO5 : Hid (Z.ownsRow B 61 6 (.slice (some ⟨gr, 0, none⟩) n cap) n (rtCs MS)) := p1
        have HC5 : Hid (Z.cell? ⟨g, 0, none⟩ = some u ∧ Below B w Z ∧ g < Z.heap.size ∧ B ≤ Z.heap.size) := ⟨by rw [World.cell?_of_block (p2.block g hgs3 (by intro e; injection e with e; exact hgg e))]; exact hgc, hB2.grown p2 hBs3 (fun x e => by injection e with e; omega), Nat.lt_of_lt_of_le hgs3 p2.size, Nat.le_trans hBs3 p2.size⟩
        clear p1 p2
        have hcq : ∀ x, x < n * 6 → ∃ z, w2.cell? ⟨gr, x, none⟩ = some z := fun x hx => ⟨_, (HO.out).cellAt x hx |>.trans (List.getElem?_eq_getElem (by rw [(HO.out).1]; exact hx))⟩
        obtain ⟨z0, hz0⟩ := hcq (q * 6) (by omega)
        obtain ⟨z1, hz1⟩ := hcq (q * 6 + 1) (by omega)
        obtain ⟨z2, hz2⟩ := hcq (q * 6 + 2) (by omega)
        obtain ⟨z3, hz3⟩ := hcq (q * 6 + 3) (by omega)
        obtain ⟨z4, hz4⟩ := hcq (q * 6 + 4) (by omega)
        obtain ⟨z5, hz5⟩ := hcq (q * 6 + 5) (by omega)
        clear HO HSS r0 hcq HT1 HT2
        go_upto_region 10 with fail
        rw [← hZ]
        clear hZ
        go_wp2_with fail
        go_roundw
        case rel => exact ⟨q + 1, j + 1, MS, HI2, by omega, by omega, by go_num, by go_num, HO5, HC5.out.2.1, HC5.out.1, HC5.out.2.2⟩
        case measure => simp [Go.RowKit.intOf]; omega
      · have HI2 := HT1.out rfl
        replace HI2 : Hid (DelI p l M q (j + 1)) := HI2
        clear HSS r0 HT1 HT2
        go_wp2_with fail
        go_roundw
        case rel => exact ⟨q, j + 1, M, HI2, by omega, by omega, rfl, by go_num, HO, hB2, hgc, hgs3, hBs3⟩
        case measure => simp [Go.RowKit.intOf]; omega
    · have hjn2 : j = n := by omega
      subst hjn2
      have hjd : decide ((j : Int) < (j : Int)) = false := decide_eq_false (by omega)
      have hqi : (q : Int) ≤ (j : Int) := by omega
      have hqc : (q : Int) ≤ (cap : Int) := by omega
      have hcq : ¬ cap = q := by omega
      have hcells : ∀ x, x < j * 6 → (wr.cell? ⟨gr, x, none⟩).isSome = true := fun x hx => by
        rw [(HO.out).cellAt x hx |>.trans (List.getElem?_eq_getElem (by rw [(HO.out).1]; exact hx))]; rfl
      have hf : ∀ x, wr.frozen? ⟨gr, x, none⟩ = false := fun x => (HO.out).frozenAt x
      have hcl := fun ty => clear_rts wr ty gr (q * 6) (j - q) (cap - q) (by omega) (fun x hx => hcells _ (by omega)) hf
      obtain ⟨ys, o1, o2, o3⟩ := own_sets (zerosR (j - q)) (q * 6) HO.out
      obtain ⟨Z, hZ⟩ : ∃ Z, Z = wr.setCells gr (q * 6) (zerosR (j - q)) := ⟨_, rfl⟩
      rw [← hZ] at o1 o3
      simp only [← hZ] at hcl
      have hBZ : Below B w Z := hBr.grown o3 hBs (fun x e => by injection e with e; omega)
      have HF : Hid (Z.ownsRow B 61 6 (.slice (some ⟨gr, 0, none⟩) q cap) q (rtCs (l.filter (fun x => !p x)))) := by
        have h1 := own_cut o1 (m := q) (by omega)
        rw [o2, rtCs_take, HI.out.kept, HN.out, List.take_length] at h1
        exact h1
      clear o1 o2 o3 hZ HO hcells hf HI
      go_wp2_with fail
      go_ret
      exact ⟨q, rfl, HF.out, hBZ⟩
end Go.Proofs.Ytklbnnnkogghpaa.Tr
namespace Go.Proofs.Ytklbnnnkogghpaa.Tr
open Go.RowKit
open Go.Proofs.Ytklbnnnkogghpaa.Lk (HasRow idxL own_below hasRow_own)
open Go.Proofs.Ytklbnnnkogghpaa.Addr (Pf hiN loN RowAt below2 below_drew below_new bset RowAt.lt RowAt.cell RowAt.frozen RowAt.below RowAt.drew RowAt.new RowAt.alloc cells2)
attribute [-go_sem] Builtin.append_
theorem delf_nil (g : Nat) (w : World) (ci : ∀ W : World, Below w.heap.size w W → Calls Try.prog 48 #[.slice none 0 0, .func (.func 49) #[] #[.pointer (some ⟨g, 0, none⟩)]] W fun e w' => e = .returned (.int .i64 (-1)) ∧ Below W.heap.size W w') :
    Calls Try.prog 26 #[.slice none 0 0, .func (.func 49) #[] #[.pointer (some ⟨g, 0, none⟩)]] w fun e w' => e = .returned (.slice none 0 0) ∧ Below w.heap.size w w' := by
  go_enter Try.func26, Try.ntmps26
  go_wp2_with fail
  go_at_call 48; refine (ci _ (Below.refl _ _)).mono ?_; rintro e w1 ⟨rfl, hb1⟩
  go_wp2_with fail
  go_ret
  exact ⟨rfl, hb1⟩
set_option maxHeartbeats 4000000 in
set_option maxRecDepth 20000 in
theorem withoutF_any (l m : List Rt) (v u : Value) (w : World) (hl : HasRts w v l) (hu : HasRts w u m) (hlen : l.length ≤ 1000) :
    Calls Try.prog 13 #[v, u] w fun e w' => ∃ r, e = .returned r ∧ HasRts w' r (l.filter (fun x => !memR m x)) ∧ Below w.heap.size w w' := by
  have ck := fun W (hb : Below w.heap.size w W) => clone_any l v W (hl.keep hb) (by omega)
  obtain ⟨ou, cu, rfl, _⟩ := Lk.HasRow.slice hu
  have HU : Hid (∀ W, Below w.heap.size w W → HasRts W (.slice ou m.length cu) m) := fun W hb => hu.keep hb
  obtain ⟨ov, cv, rfl, _⟩ := Lk.HasRow.slice hl
  generalize m.length = nm at *
  have HL : Hid (l.length ≤ 1000) := hlen
  have HFE : Hid (l = [] → l.filter (fun x => !memR m x) = []) := fun h => by rw [h]; rfl
  generalize hln : l.length = nl at *
  have HLN : Hid (l.length = nl) := hln
  clear hl hu hln
  go_enter Try.func13, Try.ntmps13
  go_wp2_with fail
  go_at_call 27; refine (ck _ (Below.refl _ _)).mono ?_; rintro e w1 ⟨v1, rfl, ho1, hb1⟩
  obtain ⟨o1, c1, rfl, hc1, hc2⟩ := Lk.HasRow.slice (hasRow_own ho1)
  have HO1 : Hid (w1.ownsRow w.heap.size 61 6 (.slice o1 nl c1) nl (rtCs l)) := ho1
  clear ck ho1
  have ca := among_any ou nm cu w1
  go_wp2_with fail
  go_at_call 28; refine ca.mono ?_; rintro e w2 ⟨rfl, hw2⟩
  have hb2 : Below w1.heap.size w1 w2 := by rw [hw2]; exact below_new (Below.refl _ _) _
  have hg : w2.cell? ⟨w1.heap.size, 0, none⟩ = some (.slice ou nm cu) := by rw [hw2]; exact (RowAt.new w1 [.slice ou nm cu] 22).cell 0
  have hgl : w1.heap.size < w2.heap.size := by rw [hw2]; simp
  clear hw2 ca
  have hB2 := below2 hb1 hb2
  have HO2 : Hid (w2.ownsRow w.heap.size 61 6 (.slice o1 nl c1) nl (rtCs l)) := own_below HO1.out hb2
  have HI : Hid (∀ W : World, Below w2.heap.size w2 W → Calls Try.prog 48 #[.slice o1 nl c1, .func (.func 49) #[] #[.pointer (some ⟨w1.heap.size, 0, none⟩)]] W fun e w' => e = .returned (.int .i64 (idxL (memR m) l)) ∧ Below W.heap.size W w') := fun W hb => by
    have hh : HasRts W (.slice o1 nl c1) l := by
      have := hasRow_own (own_below HO2.out hb)
      unfold HasRts
      rw [HLN.out]
      exact this
    exact idxAmong_any l _ m _ w1.heap.size W hh ((hb.cell (p := ⟨w1.heap.size, 0, none⟩) hgl).trans hg) (Nat.lt_of_lt_of_le hgl hb.size) (HU.out W (below2 hB2 hb))
  cases o1 with
  | none =>
    have hnl : nl = 0 := by
      rcases HO2.out.2 with ⟨e, h⟩ | ⟨g', cap', cur, e, _⟩
      · exact h
      · cases e
    have hcl : c1 = 0 := by
      rcases HO2.out.2 with ⟨e, h⟩ | ⟨g', cap', cur, e, _⟩
      · injection e
      · cases e
    have hle : l = [] := List.eq_nil_of_length_eq_zero (by rw [HLN.out]; exact hnl)
    have HE : Hid (l.filter (fun x => !memR m x) = []) := HFE.out hle
    subst hnl hcl
    have hci := HI.out
    rw [show idxL (memR m) l = -1 by rw [hle]; rfl] at hci
    have hdf := delf_nil w1.heap.size w2 hci
    clear hci HI HO1 HO2 hle
    go_wp2_with fail
    go_at_call 26; refine hdf.mono ?_; rintro e w3 ⟨rfl, hb3⟩
    go_wp2_with fail
    go_ret
    exact ⟨_, rfl, by rw [HE.out]; exact Lk.hasRow_nil _ 6, below2 hB2 hb3⟩
  | some a =>
    obtain ⟨gr, hgr⟩ : ∃ gr, a = ⟨gr, 0, none⟩ := by
      rcases HO2.out.2 with ⟨e, h⟩ | ⟨g', cap', cur, e, _⟩
      · cases e
      · injection e with e; injection e with e; exact ⟨g', e⟩
    subst hgr
    have hlt := (HO1.out).lt gr rfl
    have hdf := delfR_any l (memR m) (.slice ou nm cu) gr c1 nl w1.heap.size w.heap.size w2 HLN.out.symm HL.out HO2.out hlt.1 hB2.size ⟨hc1, hc2⟩ hg hgl (by omega) HI.out (fun x W h1 h2 h3 => among1_any x m _ w1.heap.size W h1 h2 (HU.out W (hB2.trans h3)))
    have HLF : Hid (∀ (k : Nat) (W : World), W.ownsRow w.heap.size 61 6 (.slice (some ⟨gr, 0, none⟩) k c1) k (rtCs (l.filter (fun x => !memR m x))) → HasRts W (.slice (some ⟨gr, 0, none⟩) k c1) (l.filter (fun x => !memR m x))) := fun k W h => by
      have hk : (l.filter (fun x => !memR m x)).length = k := by have := h.1; rw [rtCs_len] at this; omega
      unfold HasRts
      rw [hk]
      exact hasRow_own h
    clear HI HO1 HO2
    go_wp2_with fail
    go_at_call 26; refine hdf.mono ?_; rintro e w3 ⟨k, rfl, h3, hb3⟩
    have hh := HLF.out k w3 h3
    clear h3 hdf
    go_wp2_with fail
    go_ret
    exact ⟨_, rfl, hh, hB2.trans hb3⟩
end Go.Proofs.Ytklbnnnkogghpaa.Tr
namespace Go.Proofs.Ytklbnnnkogghpaa.Tr
open Go.RowKit Go.Shelf
open Go.Proofs.Ytklbnnnkogghpaa.Lk (HasRow append_row own_below hasRow_own)
open Go.Proofs.Ytklbnnnkogghpaa.Addr (Pf okP hiN loN pfV RowAt below2 below_drew below_new bset RowAt.lt RowAt.cell RowAt.frozen RowAt.below RowAt.drew RowAt.new RowAt.alloc cells2 cells4)
attribute [-go_sem] Builtin.append_
theorem Own1.appB {w W : World} {u x : Value} {a m : List Rt} (h : Own1 w W u a) (hx : HasRts W x m) (hb : (a.length + m.length) * 48 ≤ 140737488355328) :
    ∃ v' w3, (∀ ty, (Builtin.append_ #[22, 22] ty #[u, x]).run Try.prog W = .ok v' w3) ∧ Own1 w w3 v' (a ++ m) := by
  obtain ⟨v', w3, hrun, h1, h2⟩ := append_row info_rt Try.underlying22 rfl (by decide) h.ou hx (one_routes m) hb (by omega) h.bl.size
  refine ⟨v', w3, hrun, by rw [← List.length_append, ← rtCs_app] at h1; exact h1, ?_⟩
  exact h.bl.grown h2 h.bl.size (fun k e => (h.ou.lt k e).1)
theorem any_snoc (p : Rt → Bool) (l : List Rt) (k : Nat) (h : k < l.length) : (l.take (k + 1)).any p = ((l.take k).any p || p l[k]) := by
  rw [List.take_succ_eq_append_getElem h, List.any_append]
  simp
end Go.Proofs.Ytklbnnnkogghpaa.Tr
namespace Go.Proofs.Ytklbnnnkogghpaa.Fib
open Go.RowKit
open Go.Proofs.Ytklbnnnkogghpaa.Addr (RowAt below2 below_drew below_new RowAt.lt RowAt.cell RowAt.frozen RowAt.below RowAt.drew RowAt.new RowAt.alloc cells4)
open Go.Proofs.Ytklbnnnkogghpaa.Lk (Lk HasLks HasLks.keep)
open Go.Proofs.Ytklbnnnkogghpaa.Tr (Rt HasRts HasRts.keep memR)
set_option maxHeartbeats 8000000 in
set_option maxRecDepth 20000 in
theorem differ_walk (i1 i2 : Int) (u1 u2 : Bool) (a1 b1 a2 b2 : Option Addr) (n1 m1 p1 q1 n2 m2 p2 q2 : Nat) (r1 r2 : List Rt) (l1 l2 : List Lk) (k1 k2 : Bool) (G C : List Rt) (D : (List Rt × List Rt) × Int) (w : World)
    (h1 : HasRts w (.slice a1 n1 m1) r1) (g1 : HasLks w (.slice b1 p1 q1) l1) (h2 : HasRts w (.slice a2 n2 m2) r2) (g2 : HasLks w (.slice b2 p2 q2) l2)
    (c1 : ∀ W, HasRts W (.slice a1 n1 m1) r1 → HasLks W (.slice b1 p1 q1) l1 → Calls Try.prog 12 #[.agg #[.int .i64 i1, .bool u1, .slice a1 n1 m1, .slice b1 p1 q1]] W fun e w' => e = .returned (.int .i64 (if k1 then 0 else 2)) ∧ Below W.heap.size W w')
    (c2 : ∀ W, HasRts W (.slice a2 n2 m2) r2 → HasLks W (.slice b2 p2 q2) l2 → Calls Try.prog 12 #[.agg #[.int .i64 i2, .bool u2, .slice a2 n2 m2, .slice b2 p2 q2]] W fun e w' => e = .returned (.int .i64 (if k2 then 0 else 2)) ∧ Below W.heap.size W w')
    (c3 : k1 = true → k2 = true → ∀ W, HasRts W (.slice a1 n1 m1) r1 → HasRts W (.slice a2 n2 m2) r2 → Calls Try.prog 13 #[.slice a1 n1 m1, .slice a2 n2 m2] W fun e w' => ∃ o n m, e = .returned (.slice o n m) ∧ HasRts w' (.slice o n m) G ∧ Below W.heap.size W w')
    (c4 : k1 = true → k2 = true → ∀ W, HasRts W (.slice a2 n2 m2) r2 → HasRts W (.slice a1 n1 m1) r1 → Calls Try.prog 13 #[.slice a2 n2 m2, .slice a1 n1 m1] W fun e w' => ∃ o n m, e = .returned (.slice o n m) ∧ HasRts w' (.slice o n m) C ∧ Below W.heap.size W w')
    (H2 : (k1 = false ∨ k2 = false) → Hid (D = (([], []), 2))) (H14 : k1 = true → k2 = true → ¬ i1 = i2 → Hid (D = (([], []), 14))) (H0 : k1 = true → k2 = true → i1 = i2 → Hid (D = ((G, C), 0))) :
    Calls Try.prog 5 #[.agg #[.int .i64 i1, .bool u1, .slice a1 n1 m1, .slice b1 p1 q1], .agg #[.int .i64 i2, .bool u2, .slice a2 n2 m2, .slice b2 p2 q2]] w fun e w' => ∃ o1 n1 m1 o2 n2 m2, e = .returned (.tuple #[.slice o1 n1 m1, .slice o2 n2 m2, .int .i64 D.2]) ∧ HasRts w' (.slice o1 n1 m1) D.1.1 ∧ HasRts w' (.slice o2 n2 m2) D.1.2 ∧ Below w.heap.size w w' := by
  obtain ⟨X, hX⟩ : ∃ X, X = (w.alloc (.cells #[.int .i64 i1, .bool u1, .slice a1 n1 m1, .slice b1 p1 q1] 25)).alloc (.cells #[.int .i64 i2, .bool u2, .slice a2 n2 m2, .slice b2 p2 q2] 25) := ⟨_, rfl⟩
  have hB : Below w.heap.size w X := by rw [hX]; exact below_new (below_new (Below.refl _ _) _) _
  have x1 : RowAt X w.heap.size [.int .i64 i1, .bool u1, .slice a1 n1 m1, .slice b1 p1 q1] 25 := by rw [hX]; exact (RowAt.new _ _ _).alloc _
  have x2 : RowAt X (w.heap.size + 1) [.int .i64 i2, .bool u2, .slice a2 n2 m2, .slice b2 p2 q2] 25 := by rw [hX, ← World.size_alloc w (.cells #[.int .i64 i1, .bool u1, .slice a1 n1 m1, .slice b1 p1 q1] 25)]; exact RowAt.new _ _ _
  replace h1 := h1.keep hB
  replace g1 := g1.keep hB
  replace h2 := h2.keep hB
  replace g2 := g2.keep hB
  go_enter Try.func5, Try.ntmps5
  go_upto_region 1 with fail
  rw [← hX]
  clear hX
  obtain ⟨s0, s1, s2, s3, sf⟩ := cells4 x1
  go_wp2_with fail
  clear s0 s1 s2 s3 sf
  go_at_call 12; refine (c1 _ h1 g1).mono ?_; rintro e w1 ⟨rfl, hb1⟩
  replace hB := below2 hB hb1
  replace h1 := h1.keep hb1
  replace h2 := h2.keep hb1
  replace g2 := g2.keep hb1
  replace x1 := RowAt.below x1 hb1
  replace x2 := RowAt.below x2 hb1
  clear hb1 c1 g1
  cases k1
  · have HV := H2 (.inl rfl)
    clear H2 H14 H0 c2 c3 c4
    go_wp2_with fail
    (try simp only [Exit.inBlock, Exit.then])
    refine bodyPost_ret (results_tmp3 rfl _ _ _) rfl ⟨none, 0, 0, none, 0, 0, by rw [HV.out]; rfl, by rw [HV.out]; exact Lk.hasRow_nil _ 6, by rw [HV.out]; exact Lk.hasRow_nil _ 6, hB⟩
  obtain ⟨s0, s1, s2, s3, sf⟩ := cells4 x2
  go_wp2_with fail
  clear s0 s1 s2 s3 sf
  go_at_call 12; refine (c2 _ h2 g2).mono ?_; rintro e w2 ⟨rfl, hb2⟩
  replace hB := below2 hB hb2
  replace h1 := h1.keep hb2
  replace h2 := h2.keep hb2
  replace x1 := RowAt.below x1 hb2
  replace x2 := RowAt.below x2 hb2
  clear hb2 c2 g2
  cases k2
  · have HV := H2 (.inr rfl)
    clear H2 H14 H0 c3 c4
    go_wp2_with fail
    (try simp only [Exit.inBlock, Exit.then])
    refine bodyPost_ret (results_tmp3 rfl _ _ _) rfl ⟨none, 0, 0, none, 0, 0, by rw [HV.out]; rfl, by rw [HV.out]; exact Lk.hasRow_nil _ 6, by rw [HV.out]; exact Lk.hasRow_nil _ 6, hB⟩
  replace H14 := H14 (by first | rfl | trivial) (by first | rfl | trivial)
  replace H0 := H0 (by first | rfl | trivial) (by first | rfl | trivial)
  replace c3 := c3 (by first | rfl | trivial) (by first | rfl | trivial)
  replace c4 := c4 (by first | rfl | trivial) (by first | rfl | trivial)
  clear H2
  obtain ⟨s0, s1, s2, s3, sf⟩ := cells4 x1
  obtain ⟨t0, t1, t2, t3, tf⟩ := cells4 x2
  by_cases hi : i1 = i2
  · have HV := H0 hi
    clear H14 H0
    have HSK : Hid (∀ V : World, Below w2.heap.size w2 V → V.cell? ⟨w.heap.size, 2, none⟩ = some (.slice a1 n1 m1) ∧ V.cell? ⟨w.heap.size + 1, 2, none⟩ = some (.slice a2 n2 m2)) := fun V hb => ⟨(RowAt.below x1 hb).cell 2, (RowAt.below x2 hb).cell 2⟩
    have HH : Hid (∀ V : World, Below w2.heap.size w2 V → HasRts V (.slice a1 n1 m1) r1 ∧ HasRts V (.slice a2 n2 m2) r2) := fun V hb => ⟨h1.keep hb, h2.keep hb⟩
    have hbA : Below w2.heap.size w2 w2 := Below.refl _ _
    subst hi
    clear h1 h2
    go_upto_region 5 with fail
    clear s0 s1 s2 s3 sf t0 t1 t2 t3 tf x1 x2
    go_region_held3 (fun V => V.cell? ⟨w.heap.size, 2, none⟩ = some (.slice a1 n1 m1) ∧ V.cell? ⟨w.heap.size + 1, 2, none⟩ = some (.slice a2 n2 m2))
      (first
        | (refine HSK.out _ ?_
           repeat' (first | with_reducible exact hbA | with_reducible apply Below.drew)))
      (first
        | (go_at_call 13
           with_reducible refine (c3 _ ?_ ?_).mono ?_
           · exact (HH.out _ (by repeat' (first | with_reducible exact hbA | with_reducible apply Below.drew))).1
           · exact (HH.out _ (by repeat' (first | with_reducible exact hbA | with_reducible apply Below.drew))).2
           rintro e w3 ⟨o3, n3, m3, rfl, hG, hb3⟩
           have hbN : Below w2.heap.size w2 w3 := below2 (by repeat' (first | with_reducible exact hbA | with_reducible apply Below.drew)) hb3
           clear hbA
           have hbA := hbN
           clear hbN hb3)
        | (go_at_call 13
           with_reducible refine (c4 _ ?_ ?_).mono ?_
           · exact (HH.out _ (by repeat' (first | with_reducible exact hbA | with_reducible apply Below.drew))).2
           · exact (HH.out _ (by repeat' (first | with_reducible exact hbA | with_reducible apply Below.drew))).1
           rintro e w4 ⟨o4, n4, m4, rfl, hC, hb4⟩
           have hbN : Below w2.heap.size w2 w4 := below2 (by repeat' (first | with_reducible exact hbA | with_reducible apply Below.drew)) hb4
           replace hG := hG.keep (below2 (by repeat' (first | with_reducible exact Below.refl _ _ | with_reducible apply Below.drew)) hb4)
           clear hbA
           have hbA := hbN
           clear hbN hb4))
    all_goals go_wp2_with fail
    all_goals (try simp only [Exit.inBlock, Exit.then])
    all_goals exact bodyPost_ret (results_tmp3 rfl _ _ _) rfl ⟨_, _, _, _, _, _, by rw [HV.out]; rfl, by rw [HV.out]; exact hG, by rw [HV.out]; exact hC, below2 hB hbA⟩
  · have HV := H14 hi
    have hib : (i1 != i2) = true := by simpa using hi
    clear H14 H0 c3 c4
    go_wp2_with fail
    (try simp only [Exit.inBlock, Exit.then])
    refine bodyPost_ret (results_tmp3 rfl _ _ _) rfl ⟨none, 0, 0, none, 0, 0, by rw [HV.out]; rfl, by rw [HV.out]; exact Lk.hasRow_nil _ 6, by rw [HV.out]; exact Lk.hasRow_nil _ 6, hB⟩
end Go.Proofs.Ytklbnnnkogghpaa.Fib
namespace Go.Proofs.Ytklbnnnkogghpaa.Fib
open Go.RowKit
open Go.Proofs.Ytklbnnnkogghpaa.Lk (Lk HasLks HasLks.keep)
open Go.Proofs.Ytklbnnnkogghpaa.Tr (Rt HasRts HasRts.keep memR)
def differE (R S : Ro) : (List Rt × List Rt) × Int := if okRo R && okRo S then (if R.id = S.id then ((R.rts.filter (fun x => !memR S.rts x), S.rts.filter (fun x => !memR R.rts x)), 0) else (([], []), 14)) else (([], []), 2)
/-- two rows are answered, with an error -/
def TwoIs (D : (List Rt × List Rt) × Int) (w : World) (e : Ending) (w' : World) : Prop :=
  ∃ o1 n1 m1 o2 n2 m2, e = .returned (.tuple #[.slice o1 n1 m1, .slice o2 n2 m2, .int .i64 D.2]) ∧ HasRts w' (.slice o1 n1 m1) D.1.1 ∧ HasRts w' (.slice o2 n2 m2) D.1.2 ∧ Below w.heap.size w w'
theorem as_slice {W : World} {u : Value} {l : List Rt} (h : HasRts W u l) : ∃ o n m, u = .slice o n m := by obtain ⟨o, c, e, _⟩ := Lk.HasRow.slice h; exact ⟨_, _, _, e⟩
theorem differ_any (R S : Ro) (a b c d : Value) (w : World) (ha : HasRts w a R.rts) (hb : HasLks w b R.lks) (hc : HasRts w c S.rts) (hd : HasLks w d S.lks) (hR : FitRo R) (hS : FitRo S) :
    Calls Try.prog 5 #[.agg #[.int .i64 R.id, .bool R.up, a, b], .agg #[.int .i64 S.id, .bool S.up, c, d]] w (TwoIs (differE R S) w) := by
  obtain ⟨o1, c1, rfl, _⟩ := Lk.HasRow.slice ha
  obtain ⟨o2, c2, rfl, _⟩ := Lk.HasRow.slice hb
  obtain ⟨o3, c3, rfl, _⟩ := Lk.HasRow.slice hc
  obtain ⟨o4, c4, rfl, _⟩ := Lk.HasRow.slice hd
  refine differ_walk R.id S.id R.up S.up o1 o2 o3 o4 _ c1 _ c2 _ c3 _ c4 R.rts S.rts R.lks S.lks (okRo R) (okRo S) (R.rts.filter (fun x => !memR S.rts x)) (S.rts.filter (fun x => !memR R.rts x)) (differE R S) w ha hb hc hd
    (fun W h h' => check_any R _ _ W h h' hR.rts) (fun W h h' => check_any S _ _ W h h' hS.rts) ?_ ?_ ?_ ?_ ?_
  · intro k1 k2 W h h'
    refine (Tr.withoutF_any R.rts S.rts _ _ W h h' (by have := okRo_parts k1; omega)).mono ?_
    rintro e w' ⟨r, rfl, hr, hb'⟩
    obtain ⟨o, n, m, rfl⟩ := as_slice hr
    exact ⟨o, n, m, rfl, hr, hb'⟩
  · intro k1 k2 W h h'
    refine (Tr.withoutF_any S.rts R.rts _ _ W h h' (by have := okRo_parts k2; omega)).mono ?_
    rintro e w' ⟨r, rfl, hr, hb'⟩
    obtain ⟨o, n, m, rfl⟩ := as_slice hr
    exact ⟨o, n, m, rfl, hr, hb'⟩
  · intro h
    show _ = _
    unfold differE
    rcases h with h | h <;> rw [h]
    · rfl
    · rw [Bool.and_false]; rfl
  · intro k1 k2 h
    show _ = _
    unfold differE
    rw [k1, k2, if_neg h]; rfl
  · intro k1 k2 h
    show _ = _
    unfold differE
    rw [k1, k2, if_pos h]; rfl
end Go.Proofs.Ytklbnnnkogghpaa.Fib
namespace Go.Proofs.Ytklbnnnkogghpaa.Tr
open Go.RowKit
open Go.Proofs.Ytklbnnnkogghpaa.Lk (HasRow below_drewN idxL idx_at idx_none)
open Go.Proofs.Ytklbnnnkogghpaa.Addr (Pf hiN loN RowAt below2 below_drew below_new bset RowAt.lt RowAt.cell RowAt.frozen RowAt.below RowAt.drew RowAt.new RowAt.alloc cells2)
set_option maxHeartbeats 2000000 in
theorem patch1_any (x : Rt) (m : List Rt) (u : Value) (g f : Nat) (w : World) (hg : w.cell? ⟨g, 0, none⟩ = some (.func (.func 49) #[] #[.pointer (some ⟨f, 0, none⟩)])) (hl : g < w.heap.size) (hf : w.cell? ⟨f, 0, none⟩ = some u) (hfl : f < w.heap.size) (hu : HasRts w u m) : Calls Try.prog 31 #[.agg #[.bool x.pf.six, .int .u64 (hiN x.pf.n : Int), .int .u64 (loN x.pf.n : Int), .int .i64 x.pf.len, .int .u8 (x.act.k : Int), .int .i64 x.act.i], .pointer (some ⟨g, 0, none⟩)] w fun e w' => e = .returned (.bool (!memR m x)) ∧ Below w.heap.size w w' := by
  have cc := fun W (hb : Below w.heap.size w W) => among1_any x m u f W ((hb.cell (p := ⟨f, 0, none⟩) hfl).trans hf) (Nat.lt_of_lt_of_le hfl hb.size) (hu.keep hb)
  generalize memR m x = M at cc ⊢
  generalize x.pf.six = t0 at *
  generalize (hiN x.pf.n : Int) = t1 at *
  generalize (loN x.pf.n : Int) = t2 at *
  generalize x.pf.len = t3 at *
  generalize (x.act.k : Int) = t4 at *
  generalize x.act.i = t5 at *
  clear hu hf
  obtain ⟨X, hX⟩ : ∃ X, X = w.alloc (.cells #[.bool t0, .int .u64 t1, .int .u64 t2, .int .i64 t3, .int .u8 t4, .int .i64 t5] 61) := ⟨_, rfl⟩
  have hB : Below w.heap.size w X := by rw [hX]; exact below_new (Below.refl _ _) _
  have r0 : RowAt X w.heap.size [.bool t0, .int .u64 t1, .int .u64 t2, .int .i64 t3, .int .u8 t4, .int .i64 t5] 61 := by rw [hX]; exact RowAt.new _ _ _
  have hg2 : X.cell? ⟨g, 0, none⟩ = some (.func (.func 49) #[] #[.pointer (some ⟨f, 0, none⟩)]) := (hB.cell (p := ⟨g, 0, none⟩) hl).trans hg
  go_enter Try.func31, Try.ntmps31
  go_upto_region 1 with fail
  rw [← hX]
  clear hX
  obtain ⟨z0, z1, z2, z3, z4, z5, zf⟩ := six_of r0
  go_wp2_with fail
  go_at_call 49; refine (cc _ hB).mono ?_; rintro e w1 ⟨rfl, hb1⟩
  go_wp2_with fail
  go_ret
  exact ⟨rfl, below2 hB hb1⟩
set_option maxHeartbeats 4000000 in
set_option maxRecDepth 20000 in
theorem idxPatch_any (l : List Rt) (v : Value) (m : List Rt) (u : Value) (g : Nat) (w : World) (hl : HasRts w v l) (f : Nat) (hg : w.cell? ⟨g, 0, none⟩ = some (.func (.func 49) #[] #[.pointer (some ⟨f, 0, none⟩)])) (hlt : g < w.heap.size) (hgf : w.cell? ⟨f, 0, none⟩ = some u) (hft : f < w.heap.size) (hu : HasRts w u m) :
    Calls Try.prog 48 #[v, .func (.func 31) #[] #[.pointer (some ⟨g, 0, none⟩)]] w fun e w' => e = .returned (.int .i64 (idxL (fun x => !memR m x) l)) ∧ Below w.heap.size w w' := by
  obtain ⟨o, c, rfl, hc1, hc2⟩ := Lk.HasRow.slice hl
  have HR : Hid (∀ wr : World, Below w.heap.size w wr → HasRts wr (.slice o l.length c) l) := fun wr hb => hl.keep hb
  have HG : Hid (∀ (x : Rt) (wr : World), Below w.heap.size w wr → Calls Try.prog 31 #[.agg #[.bool x.pf.six, .int .u64 (hiN x.pf.n : Int), .int .u64 (loN x.pf.n : Int), .int .i64 x.pf.len, .int .u8 (x.act.k : Int), .int .i64 x.act.i], .pointer (some ⟨g, 0, none⟩)] wr fun e w' => e = .returned (.bool (!memR m x)) ∧ Below wr.heap.size wr w') := fun x wr hb => patch1_any x m u g f wr ((hb.cell (p := ⟨g, 0, none⟩) hlt).trans hg) (Nat.lt_of_lt_of_le hlt hb.size) ((hb.cell (p := ⟨f, 0, none⟩) hft).trans hgf) (Nat.lt_of_lt_of_le hft hb.size) (hu.keep hb)
  obtain ⟨n, hn⟩ : ∃ n, n = l.length := ⟨_, rfl⟩
  have HN : Hid (n = l.length) := hn
  rw [← hn] at HR hc1 ⊢
  have hni : (n : Int) ≤ 9223372036854775807 := by omega
  obtain ⟨R, hR⟩ : ∃ R, R = idxL (fun x => !memR m x) l := ⟨_, rfl⟩
  have HRD : Hid (R = idxL (fun x => !memR m x) l) := hR
  rw [← hR]
  clear hl hn hR hg hlt hu hgf hft
  go_enter Try.func48, Try.ntmps48
  go_wp2_with fail
  go_loopw [8] (fun q wr => ∃ k : Nat, k ≤ n ∧ q = .int .i64 k ∧ Below w.heap.size w wr ∧ Hid (∀ j (hj : j < l.length), j < k → (fun x => !memR m x) l[j] = false)) (fun q _ => n - (Go.RowKit.intOf q).toNat)
  case atStart => exact ⟨0, by omega, rfl, Below.refl _ _, fun j hj h => absurd h (Nat.not_lt_zero _)⟩
  case round =>
    obtain ⟨k, hk, rfl, hB, HI⟩ := hrel
    by_cases hlt : k < n
    · have hkz : k < l.length := by rw [← HN.out]; exact hlt
      obtain ⟨g1, i1, rfl, hg1, ax⟩ := HasRts.cell (HR.out _ hB) k hkz
      obtain ⟨a0, a1, a2, a3, a4, a5⟩ := six_at ax
      clear ax
      have cc2 := HG.out l[k] wr hB
      have HV1 : Hid (∀ D : Bool, D = (fun x => !memR m x) l[k] → D = true → R = (k : Int)) := fun D e h => by rw [HRD.out]; exact idx_at hkz HI.out (e.symm.trans h)
      have HV2 : Hid (∀ D : Bool, D = (fun x => !memR m x) l[k] → D = false → ∀ j (hj : j < l.length), j < k + 1 → (fun x => !memR m x) l[j] = false) := fun D e h j hj hjk => by
        by_cases e2 : j = k
        · subst e2; exact e.symm.trans h
        · exact HI.out j hj (by omega)
      obtain ⟨D, hD⟩ : ∃ D, D = (fun x => !memR m x) l[k] := ⟨_, rfl⟩
      have HW1 : Hid (D = true → R = (k : Int)) := HV1.out D hD
      have HW2 : Hid (D = false → ∀ j (hj : j < l.length), j < k + 1 → (fun x => !memR m x) l[j] = false) := HV2.out D hD
      replace cc2 : Calls Try.prog 31 #[.agg #[.bool l[k].pf.six, .int .u64 (hiN l[k].pf.n : Int), .int .u64 (loN l[k].pf.n : Int), .int .i64 l[k].pf.len, .int .u8 (l[k].act.k : Int), .int .i64 l[k].act.i], .pointer (some ⟨g, 0, none⟩)] wr fun e w' => e = .returned (.bool D) ∧ Below wr.heap.size wr w' := by rw [hD]; exact cc2
      have hki : (k : Int) < (n : Int) := by omega
      clear HI HV1 HV2 hD hg1
      generalize l[k].pf.six = s0 at a0 cc2
      generalize (hiN l[k].pf.n : Int) = s1 at a1 cc2
      generalize (loN l[k].pf.n : Int) = s2 at a2 cc2
      generalize l[k].pf.len = s3 at a3 cc2
      generalize (l[k].act.k : Int) = s4 at a4 cc2
      generalize l[k].act.i = s5 at a5 cc2
      go_wp2_with fail
      go_at_call 31; refine cc2.mono ?_; rintro e w2 ⟨rfl, hb2⟩
      have hB2 := below2 hB hb2
      cases D
      · have HV3 : Hid (∀ j (hj : j < l.length), j < k + 1 → (fun x => !memR m x) l[j] = false) := HW2.out rfl
        clear HW1 HW2 cc2
        go_wp2_with fail
        go_roundw
        case rel => exact ⟨k + 1, by omega, by go_num, hB2, HV3⟩
        case measure => simp [Go.RowKit.intOf]; omega
      · have HV : Hid (R = (k : Int)) := HW1.out rfl
        clear HW1 HW2 cc2
        go_wp2_with fail
        go_ret
        exact ⟨by have h := HV.out; subst h; rfl, hB2⟩
    · have hkn : decide ((k : Int) < (n : Int)) = false := decide_eq_false (by omega)
      have HV : Hid (R = -1) := by show _ = _; rw [HRD.out]; exact idx_none (fun j hj => HI.out j hj (by have := HN.out; omega))
      clear HI
      go_wp2_with fail
      go_ret
      exact ⟨by have h := HV.out; subst h; rfl, hB⟩
theorem idx_pos {p : Rt → Bool} {l : List Rt} : decide (0 ≤ idxL p l) = l.any p := by
  cases h : l.any p with
  | false =>
    rw [idx_none (fun j hj => by have := List.any_eq_false.1 h l[j] (List.getElem_mem hj); simpa using this)]
    rfl
  | true =>
    unfold idxL
    cases hf : l.findIdx? p with
    | none =>
      exfalso
      obtain ⟨x, hx, hp⟩ := List.any_eq_true.1 h
      rw [List.findIdx?_eq_none_iff.1 hf x hx] at hp
      cases hp
    | some k => exact decide_eq_true (by simp)
theorem containsF_any (l : List Rt) (v : Value) (m : List Rt) (u : Value) (g f : Nat) (w : World) (hl : HasRts w v l) (hg : w.cell? ⟨g, 0, none⟩ = some (.func (.func 49) #[] #[.pointer (some ⟨f, 0, none⟩)])) (hlt : g < w.heap.size) (hgf : w.cell? ⟨f, 0, none⟩ = some u) (hft : f < w.heap.size) (hu : HasRts w u m) :
    Calls Try.prog 30 #[v, .func (.func 31) #[] #[.pointer (some ⟨g, 0, none⟩)]] w fun e w' => e = .returned (.bool (l.any (fun x => !memR m x))) ∧ Below w.heap.size w w' := by
  have ci := idxPatch_any l v m u g w hl f hg hlt hgf hft hu
  have hp := idx_pos (p := fun x => !memR m x) (l := l)
  obtain ⟨o, c, rfl, _⟩ := Lk.HasRow.slice hl
  generalize idxL (fun x => !memR m x) l = R at ci hp
  generalize l.any (fun x => !memR m x) = M at hp ⊢
  generalize l.length = n at *
  clear hl hg hgf hu
  have hr2 : decide (R ≥ 0) = M := hp
  cases M
  · go_enter Try.func30, Try.ntmps30
    go_wp2_with fail
    go_at_call 48; refine ci.mono ?_; rintro e w1 ⟨rfl, hb1⟩
    go_wp2_with fail
    go_ret
    exact ⟨rfl, hb1⟩
  · go_enter Try.func30, Try.ntmps30
    go_wp2_with fail
    go_at_call 48; refine ci.mono ?_; rintro e w1 ⟨rfl, hb1⟩
    go_wp2_with fail
    go_ret
    exact ⟨rfl, hb1⟩
end Go.Proofs.Ytklbnnnkogghpaa.Tr
namespace Go.Proofs.Ytklbnnnkogghpaa.Fib
open Go.RowKit
open Go.Proofs.Ytklbnnnkogghpaa.Addr (Pf hiN loN RowAt below2 below_drew below_new RowAt.lt RowAt.cell RowAt.frozen RowAt.below RowAt.drew RowAt.new RowAt.alloc RowAt.set1 RowAt.far1 cells4 gset grefl bset gbelow gdrew)
open Go.Proofs.Ytklbnnnkogghpaa.Lk (Lk HasLks HasLks.keep)
open Go.Proofs.Ytklbnnnkogghpaa.Tr (Rt HasRts HasRts.keep FitR memR putT six_at six_of)
/-- routes put one by one, up to the first that is refused -/
def putsT : List Rt → List Rt → List Rt × Int
  | l, [] => (l, 0)
  | l, r :: rs => if (putT l r).2 = 0 then putsT (putT l r).1 rs else (l, (putT l r).2)
def patchRo (R : Ro) (gone come : List Rt) : Ro × Int :=
  if !R.up && decide (0 < gone.length + come.length) then (R, 10)
  else if gone.any (fun x => !memR R.rts x) then (R, 3)
  else if (putsT (R.rts.filter (fun x => !memR gone x)) come).2 = 0 then (⟨R.id, R.up, (putsT (R.rts.filter (fun x => !memR gone x)) come).1, R.lks⟩, 0)
  else (R, (putsT (R.rts.filter (fun x => !memR gone x)) come).2)
theorem putT_fit {l : List Rt} {r : Rt} (hl : ∀ x ∈ l, FitR x) (hr : FitR r) : ∀ x ∈ (putT l r).1, FitR x := by
  intro x hx
  unfold putT at hx
  split at hx
  · split at hx
    · exact hl x hx
    · rcases Tr.insT_mem hx with rfl | hx
      · exact hr
      · exact hl x hx
  · cases hx
end Go.Proofs.Ytklbnnnkogghpaa.Fib
namespace Go.Proofs.Ytklbnnnkogghpaa.Fib
open Go.RowKit
open Go.Proofs.Ytklbnnnkogghpaa.Addr (Pf hiN loN RowAt below2 below_drew below_new RowAt.lt RowAt.cell RowAt.frozen RowAt.below RowAt.drew RowAt.new RowAt.alloc RowAt.set1 RowAt.far1 cells4 gset grefl bset gbelow gdrew)
open Go.Proofs.Ytklbnnnkogghpaa.Lk (Lk HasLks HasLks.keep)
open Go.Proofs.Ytklbnnnkogghpaa.Tr (Rt HasRts HasRts.keep FitR memR putT six_at six_of)
set_option maxHeartbeats 16000000 in
set_option maxRecDepth 20000 in
theorem patch_t (id : Int) (rts : List Rt) (lks : List Lk) (gone come : List Rt) (B : Nat) (o2 o3 og oc : Option Addr) (n2 n3 ng nc m2 m3 mg mc : Nat) (w : World) (hr : RowAt w B [.int .i64 id, .bool true, .slice o2 n2 m2, .slice o3 n3 m3] 58) (ha : HasRts w (.slice o2 n2 m2) rts) (hb : HasLks w (.slice o3 n3 m3) lks) (hg : HasRts w (.slice og ng mg) gone) (hc : HasRts w (.slice oc nc mc) come)
    (hlr : rts.length ≤ 1000) (hfr : ∀ x ∈ rts, FitR x) (hfc : ∀ x ∈ come, FitR x) (HC : Hid (nc = come.length)) (hnci : (nc : Int) ≤ 4000000000000) (hw9 : IntKind.i64.wrap ((ng : Int) + (nc : Int)) = (ng : Int) + (nc : Int)) (A : Bool) (HA : Hid (A = gone.any (fun x => !memR rts x))) (P : Ro × Int) (H3 : A = true → Hid (P = ((⟨id, true, rts, lks⟩ : Ro), 3))) (H0 : A = false → Hid (P = if (putsT (rts.filter (fun x => !memR gone x)) come).2 = 0 then (⟨id, true, (putsT (rts.filter (fun x => !memR gone x)) come).1, lks⟩, 0) else ((⟨id, true, rts, lks⟩ : Ro), (putsT (rts.filter (fun x => !memR gone x)) come).2))) :
    Calls Try.prog 15 #[.pointer (some ⟨B, 0, none⟩), .slice og ng mg, .slice oc nc mc] w (TakeIs B w P.1.id P.1.up P.1.rts P.1.lks P.2) := by
  have hlt := hr.lt
  have HW0 : Hid (∀ W, Below w.heap.size w W → RowAt W B [.int .i64 id, .bool true, .slice o2 n2 m2, .slice o3 n3 m3] 58 ∧ HasRts W (.slice o2 n2 m2) rts ∧ HasLks W (.slice o3 n3 m3) lks ∧ HasRts W (.slice og ng mg) gone ∧ HasRts W (.slice oc nc mc) come) := fun W hb' => ⟨RowAt.below hr hb', ha.keep hb', hb.keep hb', hg.keep hb', hc.keep hb'⟩
  have HFIN : Hid (∀ W, Below w.heap.size w W → ∀ why, P = ((⟨id, true, rts, lks⟩ : Ro), why) → TakeIs B w P.1.id P.1.up P.1.rts P.1.lks P.2 (.returned (.int .i64 why)) W) := fun W hb' why e => by
    subst e
    exact ⟨_, _, rfl, RowAt.below hr hb', ha.keep hb', hb.keep hb', Below.mono hb' (Nat.le_of_lt hlt)⟩
  have ca := Tr.among_any o2 n2 m2 w
  obtain ⟨s0, s1, s2, s3, sf⟩ := cells4 hr
  clear ha hb hg hc
  go_enter Try.func15, Try.ntmps15
  go_wp2_with fail
  clear s0 s1 s2 s3 sf
  go_at_call 28; refine ca.mono ?_; rintro e w1 ⟨rfl, hw1⟩
  have hb1 : Below w.heap.size w w1 := by rw [hw1]; exact below_new (Below.refl _ _) _
  have r1 : RowAt w1 w.heap.size [.slice o2 n2 m2] 22 := by rw [hw1]; exact RowAt.new _ _ _
  clear hw1 ca
  obtain ⟨Y, hY⟩ : ∃ Y, Y = w1.alloc (.cells #[.func (.func 49) #[] #[.pointer (some ⟨w.heap.size, 0, none⟩)]] 73) := ⟨_, rfl⟩
  have hbY : Below w1.heap.size w1 Y := by rw [hY]; exact below_new (Below.refl _ _) _
  have r2 : RowAt Y w1.heap.size [.func (.func 49) #[] #[.pointer (some ⟨w.heap.size, 0, none⟩)]] 73 := by rw [hY]; exact RowAt.new _ _ _
  have hBY := below2 hb1 hbY
  go_upto_region 4 with fail
  rw [← hY]
  clear hY
  replace r1 := RowAt.below r1 hbY
  obtain ⟨g0, g1, g2, g3, g4⟩ := HW0.out Y hBY
  have cf := Tr.containsF_any gone _ rts _ w1.heap.size w.heap.size Y g3 (r2.cell 0) r2.lt (r1.cell 0) r1.lt g1
  rw [← HA.out] at cf
  clear hbY r1 r2 g0 g1 g2 g3 g4
  go_wp2_with fail
  go_at_call 30; refine cf.mono ?_; rintro e w2 ⟨rfl, hb2⟩
  have hB2 := below2 hBY hb2
  clear hb2 cf hBY hb1
  by_cases hA : A = true
  · have HV := H3 hA
    subst hA
    clear H0 H3 HA
    go_wp2_with fail
    go_ret
    exact HFIN.out _ hB2 _ HV.out
  have hA2 : A = false := by cases A; rfl; exact absurd rfl hA
  have HV := H0 hA2
  subst hA2
  clear H0 H3 HA hA
  obtain ⟨g0, g1, g2, g3, g4⟩ := HW0.out w2 hB2
  have cw := Tr.withoutF_any rts gone _ _ w2 g1 g3 hlr
  have HBF : Hid (∀ x ∈ rts.filter (fun x => !memR gone x), FitR x) := fun x hx => hfr x (List.mem_filter.1 hx).1
  generalize rts.filter (fun x => !memR gone x) = base at HV cw HBF
  obtain ⟨s0, s1, s2, s3, sf⟩ := cells4 g0
  clear g0 g1 g2 g3 g4
  go_wp2_with fail
  clear s0 s1 s2 s3 sf
  go_at_call 13; refine cw.mono ?_; rintro e V ⟨u8, rfl, h8, hb3⟩
  have hBV := below2 hB2 hb3
  clear hb3 cw hB2
  obtain ⟨o8, n8, m8, rfl⟩ : ∃ o n m, u8 = .slice o n m := by obtain ⟨o, c, e, _⟩ := Lk.HasRow.slice h8; exact ⟨_, _, _, e⟩
  have HI0 : Hid (HasRts V (.slice o8 n8 m8) base ∧ (∀ x ∈ base, FitR x) ∧ putsT base come = putsT base (come.drop 0) ∧ Below V.heap.size V V) := ⟨h8, HBF.out, rfl, Below.refl _ _⟩
  clear h8 HBF
  go_wp2_with fail
  go_loopw [8, 45] (fun u q wr => ∃ (k : Nat) (L : List Rt) (o : Option Addr) (n m : Nat), k ≤ nc ∧ q = .int .i64 k ∧ u = .slice o n m ∧ Hid (HasRts wr (.slice o n m) L ∧ (∀ x ∈ L, FitR x) ∧ putsT base come = putsT L (come.drop k) ∧ Below V.heap.size V wr)) (fun _ q _ => nc - (intOf q).toNat)
  case atStart => exact ⟨0, base, o8, n8, m8, by omega, rfl, rfl, HI0⟩
  case round =>
    obtain ⟨k, L, o, n, m, hk, rfl, rfl, HI⟩ := hrel
    have hBr := below2 hBV HI.out.2.2.2
    by_cases hlt2 : k < nc
    · have hkz : k < come.length := by rw [← HC.out]; exact hlt2
      obtain ⟨q0, q1, q2, q3, q4⟩ := HW0.out wr hBr
      obtain ⟨g1, i1, rfl, hg1, ax⟩ := Tr.HasRts.cell q4 k hkz
      obtain ⟨a0, a1, a2, a3, a4, a5⟩ := six_at ax
      clear ax q0 q1 q2 q3 q4
      have cp := fun W (hb' : Below wr.heap.size wr W) => Tr.put_any L _ come[k] W (HI.out.1.keep hb') HI.out.2.1 (hfc _ (List.getElem_mem hkz))
      have HNX : Hid (∀ T, T = putT L come[k] → (T.2 = 0 → putsT base come = putsT T.1 (come.drop (k + 1)) ∧ (∀ x ∈ T.1, FitR x)) ∧ (¬ T.2 = 0 → putsT base come = (L, T.2))) := fun T e => by
        subst e
        have hd : come.drop k = come[k] :: come.drop (k + 1) := List.drop_eq_getElem_cons hkz
        refine ⟨fun h => ⟨?_, putT_fit HI.out.2.1 (hfc _ (List.getElem_mem hkz))⟩, fun h => ?_⟩
        · rw [HI.out.2.2.1, hd]; show (if _ then _ else _) = _; rw [if_pos h]
        · rw [HI.out.2.2.1, hd]; show (if _ then _ else _) = _; rw [if_neg h]
      obtain ⟨TT, hTT⟩ : ∃ TT, TT = putT L come[k] := ⟨_, rfl⟩
      have HNY := HNX.out TT hTT
      have HN1 : Hid (TT.2 = 0 → putsT base come = putsT TT.1 (come.drop (k + 1)) ∧ (∀ x ∈ TT.1, FitR x)) := HNY.1
      have HN2 : Hid (¬ TT.2 = 0 → putsT base come = (L, TT.2)) := HNY.2
      rw [← hTT] at cp
      have hbV := HI.out.2.2.2
      clear HNX HNY hTT HI
      generalize come[k].pf.six = s0 at *
      generalize (hiN come[k].pf.n : Int) = s1 at *
      generalize (loN come[k].pf.n : Int) = s2 at *
      generalize come[k].pf.len = s3 at *
      generalize (come[k].act.k : Int) = s4 at *
      generalize come[k].act.i = s5 at *
      have hki : (k : Int) < (nc : Int) := by omega
      obtain ⟨Z, hZ⟩ : ∃ Z, Z = wr.alloc (.cells #[.bool s0, .int .u64 s1, .int .u64 s2, .int .i64 s3, .int .u8 s4, .int .i64 s5] 61) := ⟨_, rfl⟩
      have hbZ : Below wr.heap.size wr Z := by rw [hZ]; exact below_new (Below.refl _ _) _
      have rZ : RowAt Z wr.heap.size [.bool s0, .int .u64 s1, .int .u64 s2, .int .i64 s3, .int .u8 s4, .int .i64 s5] 61 := by rw [hZ]; exact RowAt.new _ _ _
      go_upto_region 10 with fail
      rw [← hZ]
      clear hZ a0 a1 a2 a3 a4 a5 hg1
      obtain ⟨y0, y1, y2, y3, y4, y5, yf⟩ := six_of rZ
      go_wp2_with fail
      go_at_call 32; refine (cp _ hbZ).mono ?_; rintro e w4 ⟨u4, rfl, h4, hb4⟩
      obtain ⟨o4, n4, m4, rfl⟩ : ∃ o n m, u4 = .slice o n m := by obtain ⟨o, c, e, _⟩ := Lk.HasRow.slice h4; exact ⟨_, _, _, e⟩
      have hb5 := below2 hbV (below2 hbZ hb4)
      clear y0 y1 y2 y3 y4 y5 yf rZ cp
      by_cases hT : TT.2 = 0
      · obtain ⟨t1, t2⟩ := HN1.out hT
        have HIN : Hid (HasRts w4 (.slice o4 n4 m4) TT.1 ∧ (∀ x ∈ TT.1, FitR x) ∧ putsT base come = putsT TT.1 (come.drop (k + 1)) ∧ Below V.heap.size V w4) := ⟨h4, t2, t1, hb5⟩
        have hTb : (TT.2 != 0) = false := by simpa using hT
        clear HN1 HN2 t1 t2 hT
        go_wp2_with fail
        go_roundw
        case rel => exact ⟨k + 1, TT.1, o4, n4, m4, by omega, by go_num, rfl, HIN⟩
        case measure => simp [intOf]; omega
      · have hpt := HN2.out hT
        have HW : Hid (P = ((⟨id, true, rts, lks⟩ : Ro), TT.2)) := by show _ = _; rw [HV.out, hpt]; simp only; rw [if_neg hT]
        have hTb : (TT.2 != 0) = true := by simpa using hT
        clear HN1 HN2 hpt hT
        go_wp2_with fail
        go_ret
        exact HFIN.out _ (below2 hBV hb5) _ HW.out
    · have hkf : decide ((k : Int) < (nc : Int)) = false := decide_eq_false (by omega)
      have hpt : putsT base come = (L, 0) := by rw [HI.out.2.2.1, List.drop_of_length_le (by rw [← HC.out]; omega)]; rfl
      have HW : Hid (P = (⟨id, true, L, lks⟩, 0)) := by show _ = _; rw [HV.out, hpt]; rfl
      obtain ⟨q0, q1, q2, q3, q4⟩ := HW0.out wr hBr
      have HE : Hid (∀ Z : World, Z = wr.setCell ⟨B, 2, none⟩ (.slice o n m) → RowAt Z B [.int .i64 id, .bool true, .slice o n m, .slice o3 n3 m3] 58 ∧ HasRts Z (.slice o n m) L ∧ HasLks Z (.slice o3 n3 m3) lks ∧ Below B w Z) := by
        rintro Z rfl
        exact ⟨q0.set1 2 _, rts_apart HI.out.1 q0 (gset (grefl _ _)), lks_apart q2 q0 (gset (grefl _ _)), bset (Below.mono hBr (Nat.le_of_lt hlt)) (Nat.le_refl _)⟩
      obtain ⟨s0, s1, s2, s3, sf⟩ := cells4 q0
      clear hpt HI q0 q1 q2 q3 q4
      go_wp2_with fail
      go_ret
      rw [HW.out]
      exact ⟨_, _, rfl, HE.out _ rfl⟩
set_option maxHeartbeats 16000000 in
set_option maxRecDepth 20000 in
theorem patch_f (id : Int) (rts : List Rt) (lks : List Lk) (gone come : List Rt) (B : Nat) (o2 o3 og oc : Option Addr) (n2 n3 ng nc m2 m3 mg mc : Nat) (w : World) (hr : RowAt w B [.int .i64 id, .bool false, .slice o2 n2 m2, .slice o3 n3 m3] 58) (ha : HasRts w (.slice o2 n2 m2) rts) (hb : HasLks w (.slice o3 n3 m3) lks) (hg : HasRts w (.slice og ng mg) gone) (hc : HasRts w (.slice oc nc mc) come)
    (hlr : rts.length ≤ 1000) (hfr : ∀ x ∈ rts, FitR x) (hfc : ∀ x ∈ come, FitR x) (HC : Hid (nc = come.length)) (hnci : (nc : Int) ≤ 4000000000000) (hw9 : IntKind.i64.wrap ((ng : Int) + (nc : Int)) = (ng : Int) + (nc : Int)) (hz : decide ((0 : Int) < (ng : Int) + (nc : Int)) = false) (A : Bool) (HA : Hid (A = gone.any (fun x => !memR rts x))) (P : Ro × Int) (H3 : A = true → Hid (P = ((⟨id, false, rts, lks⟩ : Ro), 3))) (H0 : A = false → Hid (P = if (putsT (rts.filter (fun x => !memR gone x)) come).2 = 0 then (⟨id, false, (putsT (rts.filter (fun x => !memR gone x)) come).1, lks⟩, 0) else ((⟨id, false, rts, lks⟩ : Ro), (putsT (rts.filter (fun x => !memR gone x)) come).2))) :
    Calls Try.prog 15 #[.pointer (some ⟨B, 0, none⟩), .slice og ng mg, .slice oc nc mc] w (TakeIs B w P.1.id P.1.up P.1.rts P.1.lks P.2) := by
  have hlt := hr.lt
  have HW0 : Hid (∀ W, Below w.heap.size w W → RowAt W B [.int .i64 id, .bool false, .slice o2 n2 m2, .slice o3 n3 m3] 58 ∧ HasRts W (.slice o2 n2 m2) rts ∧ HasLks W (.slice o3 n3 m3) lks ∧ HasRts W (.slice og ng mg) gone ∧ HasRts W (.slice oc nc mc) come) := fun W hb' => ⟨RowAt.below hr hb', ha.keep hb', hb.keep hb', hg.keep hb', hc.keep hb'⟩
  have HFIN : Hid (∀ W, Below w.heap.size w W → ∀ why, P = ((⟨id, false, rts, lks⟩ : Ro), why) → TakeIs B w P.1.id P.1.up P.1.rts P.1.lks P.2 (.returned (.int .i64 why)) W) := fun W hb' why e => by
    subst e
    exact ⟨_, _, rfl, RowAt.below hr hb', ha.keep hb', hb.keep hb', Below.mono hb' (Nat.le_of_lt hlt)⟩
  have ca := Tr.among_any o2 n2 m2 w
  obtain ⟨s0, s1, s2, s3, sf⟩ := cells4 hr
  clear ha hb hg hc
  go_enter Try.func15, Try.ntmps15
  go_wp2_with fail
  clear s0 s1 s2 s3 sf
  go_at_call 28; refine ca.mono ?_; rintro e w1 ⟨rfl, hw1⟩
  have hb1 : Below w.heap.size w w1 := by rw [hw1]; exact below_new (Below.refl _ _) _
  have r1 : RowAt w1 w.heap.size [.slice o2 n2 m2] 22 := by rw [hw1]; exact RowAt.new _ _ _
  clear hw1 ca
  obtain ⟨Y, hY⟩ : ∃ Y, Y = w1.alloc (.cells #[.func (.func 49) #[] #[.pointer (some ⟨w.heap.size, 0, none⟩)]] 73) := ⟨_, rfl⟩
  have hbY : Below w1.heap.size w1 Y := by rw [hY]; exact below_new (Below.refl _ _) _
  have r2 : RowAt Y w1.heap.size [.func (.func 49) #[] #[.pointer (some ⟨w.heap.size, 0, none⟩)]] 73 := by rw [hY]; exact RowAt.new _ _ _
  have hBY := below2 hb1 hbY
  go_upto_region 4 with fail
  rw [← hY]
  clear hY
  replace r1 := RowAt.below r1 hbY
  obtain ⟨g0, g1, g2, g3, g4⟩ := HW0.out Y hBY
  have cf := Tr.containsF_any gone _ rts _ w1.heap.size w.heap.size Y g3 (r2.cell 0) r2.lt (r1.cell 0) r1.lt g1
  rw [← HA.out] at cf
  clear hbY r1 r2 g0 g1 g2 g3 g4
  go_wp2_with fail
  go_at_call 30; refine cf.mono ?_; rintro e w2 ⟨rfl, hb2⟩
  have hB2 := below2 hBY hb2
  clear hb2 cf hBY hb1
  by_cases hA : A = true
  · have HV := H3 hA
    subst hA
    clear H0 H3 HA
    go_wp2_with fail
    go_ret
    exact HFIN.out _ hB2 _ HV.out
  have hA2 : A = false := by cases A; rfl; exact absurd rfl hA
  have HV := H0 hA2
  subst hA2
  clear H0 H3 HA hA
  obtain ⟨g0, g1, g2, g3, g4⟩ := HW0.out w2 hB2
  have cw := Tr.withoutF_any rts gone _ _ w2 g1 g3 hlr
  have HBF : Hid (∀ x ∈ rts.filter (fun x => !memR gone x), FitR x) := fun x hx => hfr x (List.mem_filter.1 hx).1
  generalize rts.filter (fun x => !memR gone x) = base at HV cw HBF
  obtain ⟨s0, s1, s2, s3, sf⟩ := cells4 g0
  clear g0 g1 g2 g3 g4
  go_wp2_with fail
  clear s0 s1 s2 s3 sf
  go_at_call 13; refine cw.mono ?_; rintro e V ⟨u8, rfl, h8, hb3⟩
  have hBV := below2 hB2 hb3
  clear hb3 cw hB2
  obtain ⟨o8, n8, m8, rfl⟩ : ∃ o n m, u8 = .slice o n m := by obtain ⟨o, c, e, _⟩ := Lk.HasRow.slice h8; exact ⟨_, _, _, e⟩
  have HI0 : Hid (HasRts V (.slice o8 n8 m8) base ∧ (∀ x ∈ base, FitR x) ∧ putsT base come = putsT base (come.drop 0) ∧ Below V.heap.size V V) := ⟨h8, HBF.out, rfl, Below.refl _ _⟩
  clear h8 HBF
  go_wp2_with fail
  go_loopw [8, 45] (fun u q wr => ∃ (k : Nat) (L : List Rt) (o : Option Addr) (n m : Nat), k ≤ nc ∧ q = .int .i64 k ∧ u = .slice o n m ∧ Hid (HasRts wr (.slice o n m) L ∧ (∀ x ∈ L, FitR x) ∧ putsT base come = putsT L (come.drop k) ∧ Below V.heap.size V wr)) (fun _ q _ => nc - (intOf q).toNat)
  case atStart => exact ⟨0, base, o8, n8, m8, by omega, rfl, rfl, HI0⟩
  case round =>
    obtain ⟨k, L, o, n, m, hk, rfl, rfl, HI⟩ := hrel
    have hBr := below2 hBV HI.out.2.2.2
    by_cases hlt2 : k < nc
    · have hkz : k < come.length := by rw [← HC.out]; exact hlt2
      obtain ⟨q0, q1, q2, q3, q4⟩ := HW0.out wr hBr
      obtain ⟨g1, i1, rfl, hg1, ax⟩ := Tr.HasRts.cell q4 k hkz
      obtain ⟨a0, a1, a2, a3, a4, a5⟩ := six_at ax
      clear ax q0 q1 q2 q3 q4
      have cp := fun W (hb' : Below wr.heap.size wr W) => Tr.put_any L _ come[k] W (HI.out.1.keep hb') HI.out.2.1 (hfc _ (List.getElem_mem hkz))
      have HNX : Hid (∀ T, T = putT L come[k] → (T.2 = 0 → putsT base come = putsT T.1 (come.drop (k + 1)) ∧ (∀ x ∈ T.1, FitR x)) ∧ (¬ T.2 = 0 → putsT base come = (L, T.2))) := fun T e => by
        subst e
        have hd : come.drop k = come[k] :: come.drop (k + 1) := List.drop_eq_getElem_cons hkz
        refine ⟨fun h => ⟨?_, putT_fit HI.out.2.1 (hfc _ (List.getElem_mem hkz))⟩, fun h => ?_⟩
        · rw [HI.out.2.2.1, hd]; show (if _ then _ else _) = _; rw [if_pos h]
        · rw [HI.out.2.2.1, hd]; show (if _ then _ else _) = _; rw [if_neg h]
      obtain ⟨TT, hTT⟩ : ∃ TT, TT = putT L come[k] := ⟨_, rfl⟩
      have HNY := HNX.out TT hTT
      have HN1 : Hid (TT.2 = 0 → putsT base come = putsT TT.1 (come.drop (k + 1)) ∧ (∀ x ∈ TT.1, FitR x)) := HNY.1
      have HN2 : Hid (¬ TT.2 = 0 → putsT base come = (L, TT.2)) := HNY.2
      rw [← hTT] at cp
      have hbV := HI.out.2.2.2
      clear HNX HNY hTT HI
      generalize come[k].pf.six = s0 at *
      generalize (hiN come[k].pf.n : Int) = s1 at *
      generalize (loN come[k].pf.n : Int) = s2 at *
      generalize come[k].pf.len = s3 at *
      generalize (come[k].act.k : Int) = s4 at *
      generalize come[k].act.i = s5 at *
      have hki : (k : Int) < (nc : Int) := by omega
      obtain ⟨Z, hZ⟩ : ∃ Z, Z = wr.alloc (.cells #[.bool s0, .int .u64 s1, .int .u64 s2, .int .i64 s3, .int .u8 s4, .int .i64 s5] 61) := ⟨_, rfl⟩
      have hbZ : Below wr.heap.size wr Z := by rw [hZ]; exact below_new (Below.refl _ _) _
      have rZ : RowAt Z wr.heap.size [.bool s0, .int .u64 s1, .int .u64 s2, .int .i64 s3, .int .u8 s4, .int .i64 s5] 61 := by rw [hZ]; exact RowAt.new _ _ _
      go_upto_region 10 with fail
      rw [← hZ]
      clear hZ a0 a1 a2 a3 a4 a5 hg1
      obtain ⟨y0, y1, y2, y3, y4, y5, yf⟩ := six_of rZ
      go_wp2_with fail
      go_at_call 32; refine (cp _ hbZ).mono ?_; rintro e w4 ⟨u4, rfl, h4, hb4⟩
      obtain ⟨o4, n4, m4, rfl⟩ : ∃ o n m, u4 = .slice o n m := by obtain ⟨o, c, e, _⟩ := Lk.HasRow.slice h4; exact ⟨_, _, _, e⟩
      have hb5 := below2 hbV (below2 hbZ hb4)
      clear y0 y1 y2 y3 y4 y5 yf rZ cp
      by_cases hT : TT.2 = 0
      · obtain ⟨t1, t2⟩ := HN1.out hT
        have HIN : Hid (HasRts w4 (.slice o4 n4 m4) TT.1 ∧ (∀ x ∈ TT.1, FitR x) ∧ putsT base come = putsT TT.1 (come.drop (k + 1)) ∧ Below V.heap.size V w4) := ⟨h4, t2, t1, hb5⟩
        have hTb : (TT.2 != 0) = false := by simpa using hT
        clear HN1 HN2 t1 t2 hT
        go_wp2_with fail
        go_roundw
        case rel => exact ⟨k + 1, TT.1, o4, n4, m4, by omega, by go_num, rfl, HIN⟩
        case measure => simp [intOf]; omega
      · have hpt := HN2.out hT
        have HW : Hid (P = ((⟨id, false, rts, lks⟩ : Ro), TT.2)) := by show _ = _; rw [HV.out, hpt]; simp only; rw [if_neg hT]
        have hTb : (TT.2 != 0) = true := by simpa using hT
        clear HN1 HN2 hpt hT
        go_wp2_with fail
        go_ret
        exact HFIN.out _ (below2 hBV hb5) _ HW.out
    · have hkf : decide ((k : Int) < (nc : Int)) = false := decide_eq_false (by omega)
      have hpt : putsT base come = (L, 0) := by rw [HI.out.2.2.1, List.drop_of_length_le (by rw [← HC.out]; omega)]; rfl
      have HW : Hid (P = (⟨id, false, L, lks⟩, 0)) := by show _ = _; rw [HV.out, hpt]; rfl
      obtain ⟨q0, q1, q2, q3, q4⟩ := HW0.out wr hBr
      have HE : Hid (∀ Z : World, Z = wr.setCell ⟨B, 2, none⟩ (.slice o n m) → RowAt Z B [.int .i64 id, .bool false, .slice o n m, .slice o3 n3 m3] 58 ∧ HasRts Z (.slice o n m) L ∧ HasLks Z (.slice o3 n3 m3) lks ∧ Below B w Z) := by
        rintro Z rfl
        exact ⟨q0.set1 2 _, rts_apart HI.out.1 q0 (gset (grefl _ _)), lks_apart q2 q0 (gset (grefl _ _)), bset (Below.mono hBr (Nat.le_of_lt hlt)) (Nat.le_refl _)⟩
      obtain ⟨s0, s1, s2, s3, sf⟩ := cells4 q0
      clear hpt HI q0 q1 q2 q3 q4
      go_wp2_with fail
      go_ret
      rw [HW.out]
      exact ⟨_, _, rfl, HE.out _ rfl⟩
end Go.Proofs.Ytklbnnnkogghpaa.Fib
namespace Go.Proofs.Ytklbnnnkogghpaa.Fib
open Go.RowKit
open Go.Proofs.Ytklbnnnkogghpaa.Addr (Pf hiN loN RowAt below2 below_drew below_new RowAt.lt RowAt.cell RowAt.frozen RowAt.below RowAt.drew RowAt.new RowAt.alloc cells4)
open Go.Proofs.Ytklbnnnkogghpaa.Lk (Lk HasLks HasLks.keep)
open Go.Proofs.Ytklbnnnkogghpaa.Tr (Rt HasRts HasRts.keep FitR memR)
set_option maxHeartbeats 4000000 in
theorem patch_ten (id : Int) (rts : List Rt) (lks : List Lk) (B : Nat) (o2 o3 og oc : Option Addr) (n2 n3 ng nc m2 m3 mg mc : Nat) (w : World) (hr : RowAt w B [.int .i64 id, .bool false, .slice o2 n2 m2, .slice o3 n3 m3] 58) (ha : HasRts w (.slice o2 n2 m2) rts) (hb : HasLks w (.slice o3 n3 m3) lks) (hw9 : IntKind.i64.wrap ((ng : Int) + (nc : Int)) = (ng : Int) + (nc : Int)) (hz : decide ((0 : Int) < (ng : Int) + (nc : Int)) = true) :
    Calls Try.prog 15 #[.pointer (some ⟨B, 0, none⟩), .slice og ng mg, .slice oc nc mc] w (TakeIs B w id false rts lks 10) := by
  have HF : Hid (RowAt w B [.int .i64 id, .bool false, .slice o2 n2 m2, .slice o3 n3 m3] 58 ∧ HasRts w (.slice o2 n2 m2) rts ∧ HasLks w (.slice o3 n3 m3) lks ∧ Below B w w) := ⟨hr, ha, hb, Below.refl _ _⟩
  obtain ⟨s0, s1, s2, s3, sf⟩ := cells4 hr
  clear hr ha hb
  go_enter Try.func15, Try.ntmps15
  go_wp2_with fail
  go_ret
  exact ⟨_, _, rfl, HF.out⟩
theorem patch_any (R : Ro) (gone come : List Rt) (B : Nat) (a b vg vc : Value) (w : World) (hr : RowAt w B [.int .i64 R.id, .bool R.up, a, b] 58) (ha : HasRts w a R.rts) (hb : HasLks w b R.lks) (hg : HasRts w vg gone) (hc : HasRts w vc come) (hlr : R.rts.length ≤ 1000) (hfr : ∀ x ∈ R.rts, FitR x) (hfc : ∀ x ∈ come, FitR x) (hs1 : gone.length ≤ 4000000000000) (hs2 : come.length ≤ 4000000000000) :
    Calls Try.prog 15 #[.pointer (some ⟨B, 0, none⟩), vg, vc] w (TakeIs B w (patchRo R gone come).1.id (patchRo R gone come).1.up (patchRo R gone come).1.rts (patchRo R gone come).1.lks (patchRo R gone come).2) := by
  obtain ⟨o2, m2, rfl, _⟩ := Lk.HasRow.slice ha
  obtain ⟨o3, m3, rfl, _⟩ := Lk.HasRow.slice hb
  obtain ⟨og, mg, rfl, _⟩ := Lk.HasRow.slice hg
  obtain ⟨oc, mc, rfl, _⟩ := Lk.HasRow.slice hc
  have hw9 : IntKind.i64.wrap ((gone.length : Int) + (come.length : Int)) = (gone.length : Int) + (come.length : Int) := by rw [IntKind.wrap_i64]; omega
  obtain ⟨id, up, rts, lks⟩ := R
  simp only at hr ha hb hlr hfr
  cases up with
  | true =>
    refine patch_t id rts lks gone come B o2 o3 og oc _ _ _ _ m2 m3 mg mc w hr ha hb hg hc hlr hfr hfc rfl (by omega) hw9 (gone.any (fun x => !memR rts x)) rfl _ ?_ ?_
    · intro h
      show _ = _
      unfold patchRo
      simp only [Bool.not_true, Bool.false_and, Bool.false_eq_true, if_false]
      rw [h]; rfl
    · intro h
      show _ = _
      unfold patchRo
      simp only [Bool.not_true, Bool.false_and, Bool.false_eq_true, if_false]
      rw [h]; rfl
  | false =>
    by_cases hz : 0 < gone.length + come.length
    · have hP : patchRo ⟨id, false, rts, lks⟩ gone come = (⟨id, false, rts, lks⟩, 10) := by
        unfold patchRo
        rw [decide_eq_true hz]
        rfl
      rw [hP]
      exact patch_ten id rts lks B o2 o3 og oc _ _ _ _ m2 m3 mg mc w hr ha hb hw9 (decide_eq_true (by omega))
    · refine patch_f id rts lks gone come B o2 o3 og oc _ _ _ _ m2 m3 mg mc w hr ha hb hg hc hlr hfr hfc rfl (by omega) hw9 (decide_eq_false (by omega)) (gone.any (fun x => !memR rts x)) rfl _ ?_ ?_
      · intro h
        show _ = _
        unfold patchRo
        rw [decide_eq_false hz]
        simp only [Bool.and_false, Bool.false_eq_true, if_false]
        rw [h]; rfl
      · intro h
        show _ = _
        unfold patchRo
        rw [decide_eq_false hz]
        simp only [Bool.and_false, Bool.false_eq_true, if_false]
        rw [h]; rfl
end Go.Proofs.Ytklbnnnkogghpaa.Fib
namespace Go.Proofs.Ytklbnnnkogghpaa.Fib
open Go.RowKit
open Go.Proofs.Ytklbnnnkogghpaa.Addr (Pf hiN loN RowAt below2 below_drew below_new RowAt.lt RowAt.cell RowAt.frozen RowAt.below RowAt.drew RowAt.new RowAt.alloc cells4 RowAt.gkeep RowAt.set1 gset grefl bset)
open Go.Proofs.Ytklbnnnkogghpaa.Lk (Lk HasLks HasLks.keep)
open Go.Proofs.Ytklbnnnkogghpaa.Tr (Rt HasRts HasRts.keep FitR memR)
def patchE (R : Ro) (gone come : List Rt) : Ro × Int := if okRo R then patchRo R gone come else (zeroRo, 2)
set_option maxHeartbeats 8000000 in
set_option maxRecDepth 20000 in
theorem patchF_walk (id : Int) (up : Bool) (rts : List Rt) (lks : List Lk) (gone come : List Rt) (o2 o3 og oc : Option Addr) (n2 n3 ng nc m2 m3 mg mc : Nat) (kr : Bool) (P A : Ro × Int) (w : World) (ha0 : HasRts w (.slice o2 n2 m2) rts) (hb0 : HasLks w (.slice o3 n3 m3) lks) (hg0 : HasRts w (.slice og ng mg) gone) (hc0 : HasRts w (.slice oc nc mc) come)
    (cC : ∀ W, HasRts W (.slice o2 n2 m2) rts → HasLks W (.slice o3 n3 m3) lks → Calls Try.prog 12 #[.agg #[.int .i64 id, .bool up, .slice o2 n2 m2, .slice o3 n3 m3]] W fun e w' => e = .returned (.int .i64 (if kr then 0 else 2)) ∧ Below W.heap.size W w')
    (cF : kr = true → ∀ W, HasRts W (.slice o2 n2 m2) rts → HasLks W (.slice o3 n3 m3) lks → Calls Try.prog 14 #[.agg #[.int .i64 id, .bool up, .slice o2 n2 m2, .slice o3 n3 m3]] W fun e w' => ∃ c d, e = .returned (.agg #[.int .i64 id, .bool up, c, d]) ∧ HasRts w' c rts ∧ HasLks w' d lks ∧ Below W.heap.size W w')
    (cP : kr = true → ∀ W B c d, RowAt W B [.int .i64 id, .bool up, c, d] 58 → HasRts W c rts → HasLks W d lks → HasRts W (.slice og ng mg) gone → HasRts W (.slice oc nc mc) come → Calls Try.prog 15 #[.pointer (some ⟨B, 0, none⟩), .slice og ng mg, .slice oc nc mc] W (TakeIs B W P.1.id P.1.up P.1.rts P.1.lks P.2))
    (H2 : kr = false → Hid (A = (zeroRo, 2))) (H0 : kr = true → Hid (A = P)) :
    Calls Try.prog 6 #[.agg #[.int .i64 id, .bool up, .slice o2 n2 m2, .slice o3 n3 m3], .slice og ng mg, .slice oc nc mc] w (RoIs A.1 A.2 w) := by
  have hB := Below.refl w.heap.size w
  have c25 := fun (W : World) => ro_nil W
  go_enter Try.func6, Try.ntmps6
  obtain ⟨Y1, hY⟩ : ∃ Y, Y = ((w.alloc (.cells #[.int .i64 id, .bool up, .slice o2 n2 m2, .slice o3 n3 m3] 25)).alloc (.cells #[.int .i64 0, .bool false, .slice none 0 0, .slice none 0 0] 25)) := ⟨_, rfl⟩
  have hbY : Below w.heap.size w Y1 := by rw [hY]; exact below_new (below_new (Below.refl _ _) _) _
  have hle : w.heap.size ≤ w.heap.size := hB.size
  obtain ⟨gr, hgr⟩ : ∃ g, g = w.heap.size := ⟨_, rfl⟩
  have rr : RowAt Y1 gr [.int .i64 id, .bool up, .slice o2 n2 m2, .slice o3 n3 m3] 25 := by
    have h := (RowAt.new w [.int .i64 id, .bool up, .slice o2 n2 m2, .slice o3 n3 m3] 25).alloc (.cells #[.int .i64 0, .bool false, .slice none 0 0, .slice none 0 0] 25)
    rw [hgr, hY]; exact h
  have ler : w.heap.size ≤ gr := by omega
  obtain ⟨gz, hgz⟩ : ∃ g, g = w.heap.size + 1 := ⟨_, rfl⟩
  have rz : RowAt Y1 gz [.int .i64 0, .bool false, .slice none 0 0, .slice none 0 0] 25 := by
    have h := RowAt.new (w.alloc (.cells #[.int .i64 id, .bool up, .slice o2 n2 m2, .slice o3 n3 m3] 25)) [.int .i64 0, .bool false, .slice none 0 0, .slice none 0 0] 25
    simp only [World.size_alloc] at h
    rw [hgz, hY]; exact h
  have lez : w.heap.size ≤ gz := by omega
  have nerz : gr ≠ gz := by omega
  replace ha0 := ha0.keep hbY
  replace hb0 := hb0.keep hbY
  replace hg0 := hg0.keep hbY
  replace hc0 := hc0.keep hbY
  replace hB := below2 hB hbY
  go_upto_region 1 with fail
  rw [← hY, ← hgz, ← hgr]
  clear hY hbY hle hgr hgz
  obtain ⟨r0, r1, r2, r3, rf⟩ := cells4 rr
  go_wp2_with fail
  clear r0 r1 r2 r3 rf
  go_at_call 12; refine (cC _ ha0 hb0).mono ?_; rintro e w2 ⟨rfl, hb⟩
  replace rr := RowAt.below rr hb
  replace rz := RowAt.below rz hb
  replace ha0 := ha0.keep hb
  replace hb0 := hb0.keep hb
  replace hg0 := hg0.keep hb
  replace hc0 := hc0.keep hb
  replace hB := below2 hB hb
  clear hb
  cases kr
  · have HV := H2 rfl
    clear H0 H2 cC cF cP
    obtain ⟨q0, q1, q2, q3, qf⟩ := cells4 rz
    go_wp2_with fail
    (try simp only [Exit.inBlock, Exit.then])
    refine bodyPost_ret (v := .tuple #[.agg #[.int .i64 0, .bool false, .slice none 0 0, .slice none 0 0], .int .i64 2]) ?_ rfl ⟨none, 0, 0, none, 0, 0, by rw [HV.out]; rfl, by rw [HV.out]; exact (c25 _).1, by rw [HV.out]; exact (c25 _).2, ?_⟩
    · rw [results_cell_tmp rfl]
      go_simp
    · exact set4_bl hB lez _ _ _ _
  have HV := H0 rfl
  replace cF := cF rfl
  replace cP := cP rfl
  clear H0 H2 cC
  obtain ⟨r0, r1, r2, r3, rf⟩ := cells4 rr
  go_wp2_with fail
  clear r0 r1 r2 r3 rf
  go_at_call 14; refine (cF _ ha0 hb0).mono ?_; rintro e w3 ⟨c1, d1, rfl, ha1, hb1, hb⟩
  replace rr := RowAt.below rr hb
  replace rz := RowAt.below rz hb
  replace ha0 := ha0.keep hb
  replace hb0 := hb0.keep hb
  replace hg0 := hg0.keep hb
  replace hc0 := hc0.keep hb
  replace hB := below2 hB hb
  clear hb
  clear rr ha0 hb0
  obtain ⟨oa1, ma1, rfl, _⟩ := Lk.HasRow.slice ha1
  obtain ⟨ob1, mb1, rfl, _⟩ := Lk.HasRow.slice hb1
  generalize rts.length = na1 at *
  generalize lks.length = nb1 at *
  clear cF
  obtain ⟨Y4, hY⟩ : ∃ Y, Y = (w3.alloc (.cells #[.int .i64 id, .bool up, .slice oa1 na1 ma1, .slice ob1 nb1 mb1] 58)) := ⟨_, rfl⟩
  have hbY : Below w3.heap.size w3 Y4 := by rw [hY]; exact below_new (Below.refl _ _) _
  have hle : w.heap.size ≤ w3.heap.size := hB.size
  obtain ⟨gb, hgb⟩ : ∃ g, g = w3.heap.size := ⟨_, rfl⟩
  have rb : RowAt Y4 gb [.int .i64 id, .bool up, .slice oa1 na1 ma1, .slice ob1 nb1 mb1] 58 := by
    have h := RowAt.new w3 [.int .i64 id, .bool up, .slice oa1 na1 ma1, .slice ob1 nb1 mb1] 58
    rw [hgb, hY]; exact h
  have leb : w.heap.size ≤ gb := by omega
  have nezb : gz < gb := by have := RowAt.lt rz; omega
  replace rz := RowAt.below rz hbY
  replace hg0 := hg0.keep hbY
  replace hc0 := hc0.keep hbY
  replace ha1 := ha1.keep hbY
  replace hb1 := hb1.keep hbY
  replace hB := below2 hB hbY
  go_upto_region 5 with fail
  rw [← hY, ← hgb]
  clear hY hbY hle hgb
  skip
  have hgb := rb.lt
  go_wp2_with fail
  go_at_call 15; refine (cP _ _ _ _ rb ha1 hb1 hg0 hc0).mono ?_; rintro e w9 ⟨u, v, rfl, r4, hu, hv, hb5⟩
  obtain ⟨o6, m6, rfl, _⟩ := Lk.HasRow.slice hu
  obtain ⟨o7, m7, rfl, _⟩ := Lk.HasRow.slice hv
  generalize P.1.rts.length = n6 at *
  generalize P.1.lks.length = n7 at *
  have r5 : RowAt w9 gz [.int .i64 0, .bool false, .slice none 0 0, .slice none 0 0] 25 := (hb5.block _ (by omega)).trans rz
  have hB5 : Below w.heap.size w w9 := hB.trans (hb5.mono leb)
  clear hB rb rz ha1 hb1 hg0 hc0 hb5 cP
  obtain ⟨p0, p1, p2, p3, pf0⟩ := cells4 r4
  obtain ⟨q0, q1, q2, q3, qf⟩ := cells4 r5
  go_wp2_with fail
  (try simp only [Exit.inBlock, Exit.then])
  refine bodyPost_ret (v := .tuple #[.agg #[.int .i64 P.1.id, .bool P.1.up, .slice o6 n6 m6, .slice o7 n7 m7], .int .i64 P.2]) ?_ rfl ⟨_, _, _, _, _, _, by rw [HV.out], by rw [HV.out]; exact rts_apart hu r5 (set4_gr _ _ _ _ _ _), by rw [HV.out]; exact lks_apart hv r5 (set4_gr _ _ _ _ _ _), ?_⟩
  · rw [results_cell_tmp rfl]
    go_simp
  · exact set4_bl hB5 lez _ _ _ _
theorem patchF_any (R : Ro) (gone come : List Rt) (a b vg vc : Value) (w : World) (ha : HasRts w a R.rts) (hb : HasLks w b R.lks) (hg : HasRts w vg gone) (hc : HasRts w vc come) (hf : FitRo R) (hfc : ∀ x ∈ come, FitR x) (hs1 : gone.length ≤ 4000000000000) (hs2 : come.length ≤ 4000000000000) :
    Calls Try.prog 6 #[.agg #[.int .i64 R.id, .bool R.up, a, b], vg, vc] w (RoIs (patchE R gone come).1 (patchE R gone come).2 w) := by
  obtain ⟨o2, m2, rfl, _⟩ := Lk.HasRow.slice ha
  obtain ⟨o3, m3, rfl, _⟩ := Lk.HasRow.slice hb
  obtain ⟨og, mg, rfl, _⟩ := Lk.HasRow.slice hg
  obtain ⟨oc, mc, rfl, _⟩ := Lk.HasRow.slice hc
  refine patchF_walk R.id R.up R.rts R.lks gone come o2 o3 og oc _ _ _ _ m2 m3 mg mc (okRo R) (patchRo R gone come) _ w ha hb hg hc (fun W h h' => check_any R _ _ W h h' hf.rts)
    (fun hk W h h' => fresh_any R _ _ W h h' (by have := okRo_parts hk; omega) (by have := okRo_parts hk; omega))
    (fun hk W B c d h1 h2 h3 h4 h5 => patch_any R gone come B c d _ _ W h1 h2 h3 h4 h5 (by have := okRo_parts hk; omega) hf.rts hfc hs1 hs2) ?_ ?_
  · intro h
    show _ = _
    unfold patchE
    rw [h]; rfl
  · intro h
    show _ = _
    unfold patchE
    rw [h]; rfl
end Go.Proofs.Ytklbnnnkogghpaa.Fib
namespace Go.Proofs.Ytklbnnnkogghpaa.Tr
theorem ext_up : ∀ (a b : List Rt), Up a → Up b → (∀ z, z ∈ a ↔ z ∈ b) → a = b := by
  intro a
  induction a with
  | nil =>
    intro b _ _ h
    cases b with
    | nil => rfl
    | cons y b => exact absurd ((h y).2 List.mem_cons_self) (by simp)
  | cons x a ih =>
    intro b ha hb h
    cases b with
    | nil => exact absurd ((h x).1 List.mem_cons_self) (by simp)
    | cons y b =>
      have h1 := List.pairwise_cons.1 ha
      have h2 := List.pairwise_cons.1 hb
      have hxy : x = y := by
        rcases List.mem_cons.1 ((h x).1 List.mem_cons_self) with e | e
        · exact e
        · rcases List.mem_cons.1 ((h y).2 List.mem_cons_self) with e2 | e2
          · exact e2.symm
          · exact absurd (ltP_trans (h2.1 x e) (h1.1 y e2)) (ltP_irr _)
      subst hxy
      congr 1
      refine ih b h1.2 h2.2 (fun z => ?_)
      constructor
      · intro hz
        rcases List.mem_cons.1 ((h z).1 (List.mem_cons_of_mem _ hz)) with e | e
        · subst e; exact absurd (h1.1 z hz) (ltP_irr _)
        · exact e
      · intro hz
        rcases List.mem_cons.1 ((h z).2 (List.mem_cons_of_mem _ hz)) with e | e
        · subst e; exact absurd (h2.1 z hz) (ltP_irr _)
        · exact e
theorem up_one {l : List Rt} (h : Up l) {x y : Rt} (hx : x ∈ l) (hy : y ∈ l) (e : x.pf = y.pf) : x = y := by
  obtain ⟨j, hj, rfl⟩ := List.getElem_of_mem hx
  obtain ⟨k, hk, rfl⟩ := List.getElem_of_mem hy
  rcases Nat.lt_trichotomy j k with g | g | g
  · have := List.pairwise_iff_getElem.1 h j k hj hk g
    rw [e] at this
    exact absurd this (ltP_irr _)
  · subst g; rfl
  · have := List.pairwise_iff_getElem.1 h k j hk hj g
    rw [e] at this
    exact absurd this (ltP_irr _)
theorem up_le {a b : List Rt} (ha : Up a) (hb : Up b) (h : ∀ x ∈ a, x ∈ b) : a.length ≤ b.length := by
  have e : a = b.filter (fun x => memR a x) := ext_up _ _ ha (hb.sublist List.filter_sublist) (fun z => by
    rw [List.mem_filter, memR_iff]
    exact ⟨fun hz => ⟨h z hz, hz⟩, fun hz => hz.2⟩)
  have := List.length_filter_le (fun x => memR a x) b
  rw [← e] at this
  exact this
theorem mem_insT_iff {l : List Rt} {r z : Rt} : z ∈ insT l r ↔ z = r ∨ (z ∈ l ∧ z.pf ≠ r.pf) := by
  unfold insT aheadT behindT
  simp only [List.mem_append, List.mem_filter, List.mem_singleton, decide_eq_true_eq]
  have hq := ordP_eq z.pf r.pf
  constructor
  · rintro (⟨h1, h2⟩ | h | ⟨h1, h2⟩)
    · exact .inr ⟨h1, fun e => by rw [hq.2 e] at h2; omega⟩
    · exact .inl h
    · exact .inr ⟨h1, fun e => by rw [hq.2 e] at h2; omega⟩
  · rintro (h | ⟨h1, h2⟩)
    · exact .inr (.inl h)
    · have : ordP z.pf r.pf ≠ 0 := fun e => h2 (hq.1 e)
      rcases Int.lt_or_gt_of_ne this with h3 | h3
      · exact .inl ⟨h1, h3⟩
      · exact .inr (.inr ⟨h1, h3⟩)
end Go.Proofs.Ytklbnnnkogghpaa.Tr
namespace Go.Proofs.Ytklbnnnkogghpaa.Fib
open Go.Proofs.Ytklbnnnkogghpaa.Tr (Rt memR memR_iff putT okT okT_iff okR insT insT_len insT_up insT_mem mem_insT_iff othersT up_le up_one ext_up Up)
/-- routes of one right row, put one by one -/
theorem puts_in (S : List Rt) (hS : okT S = true) : ∀ (come l : List Rt), okT l = true → (∀ x ∈ l, x ∈ S) → (∀ x ∈ come, x ∈ S) → ∃ k, putsT l come = (k, 0) ∧ okT k = true ∧ ∀ z, z ∈ k ↔ z ∈ l ∨ z ∈ come := by
  obtain ⟨s1, s2, s3⟩ := (okT_iff S).1 hS
  intro come
  induction come with
  | nil => intro l hl _ _; exact ⟨l, rfl, hl, fun z => by simp⟩
  | cons r rs ih =>
    intro l hl h1 h2
    have hr := h2 r List.mem_cons_self
    obtain ⟨l1, l2, l3⟩ := (okT_iff l).1 hl
    have hin : ∀ x ∈ insT l r, x ∈ S := fun x hx => by
      rcases insT_mem hx with rfl | hx
      · exact hr
      · exact h1 x hx
    have hlen := up_le (insT_up l3) s3 hin
    have hlen2 := insT_len l r
    have hput : putT l r = (insT l r, 0) := by
      unfold putT
      rw [hl, s2 r hr]
      simp only [Bool.and_self, if_true]
      rw [if_neg (by omega)]
    have hok : okT (insT l r) = true := (okT_iff _).2 ⟨by omega, fun x hx => s2 x (hin x hx), insT_up l3⟩
    obtain ⟨k, e1, e2, e3⟩ := ih (insT l r) hok hin (fun x hx => h2 x (List.mem_cons_of_mem _ hx))
    refine ⟨k, ?_, e2, fun z => ?_⟩
    · show (if (putT l r).2 = 0 then putsT (putT l r).1 rs else (l, (putT l r).2)) = _
      rw [hput, if_pos rfl]
      exact e1
    · rw [e3, mem_insT_iff, List.mem_cons]
      constructor
      · rintro ((h | h) | h)
        · exact .inr (.inl h)
        · exact .inl h.1
        · exact .inr (.inr h)
      · rintro (h | h | h)
        · by_cases e : z.pf = r.pf
          · exact .inl (.inl (up_one s3 (h1 z h) hr e))
          · exact .inl (.inr ⟨h, e⟩)
        · exact .inl (.inl h)
        · exact .inr h
theorem gone_in {R S : List Rt} : (R.filter (fun x => !memR S x)).any (fun x => !memR R x) = false := by
  rw [List.any_eq_false]
  intro x hx
  have := (List.mem_filter.1 hx).1
  rw [(memR_iff R x).2 this]
  decide
/-- a router that is up, patched by what another one has otherwise, has the other one's routes -/
theorem patched {R S : Ro} (hR : okRo R = true) (hS : okRo S = true) (hup : R.up = true) : patchE R (R.rts.filter (fun x => !memR S.rts x)) (S.rts.filter (fun x => !memR R.rts x)) = (⟨R.id, R.up, S.rts, R.lks⟩, 0) := by
  obtain ⟨_, r1, _, _⟩ := okRo_parts hR
  obtain ⟨_, s1, _, _⟩ := okRo_parts hS
  obtain ⟨a1, a2, a3⟩ := (okT_iff _).1 r1
  obtain ⟨b1, b2, b3⟩ := (okT_iff _).1 s1
  have hm : ∀ x, x ∈ R.rts.filter (fun x => !memR (R.rts.filter (fun x => !memR S.rts x)) x) ↔ x ∈ R.rts ∧ x ∈ S.rts := by
    intro x
    rw [List.mem_filter]
    constructor
    · rintro ⟨h1, h2⟩
      refine ⟨h1, Classical.byContradiction fun h => ?_⟩
      have : memR (R.rts.filter (fun x => !memR S.rts x)) x = true := (memR_iff _ _).2 (List.mem_filter.2 ⟨h1, by
        cases hc : memR S.rts x with
        | true => exact absurd ((memR_iff _ _).1 hc) h
        | false => rfl⟩)
      rw [this] at h2
      cases h2
    · rintro ⟨h1, h2⟩
      refine ⟨h1, ?_⟩
      cases hc : memR (R.rts.filter (fun x => !memR S.rts x)) x with
      | false => rfl
      | true =>
        have := (List.mem_filter.1 ((memR_iff _ _).1 hc)).2
        rw [(memR_iff _ _).2 h2] at this
        cases this
  obtain ⟨k, e1, e2, e3⟩ := puts_in S.rts s1 (S.rts.filter (fun x => !memR R.rts x)) (R.rts.filter (fun x => !memR (R.rts.filter (fun x => !memR S.rts x)) x))
    ((okT_iff _).2 ⟨by have := List.length_filter_le (fun x => !memR (R.rts.filter (fun x => !memR S.rts x)) x) R.rts; omega, fun x hx => a2 x ((hm x).1 hx).1, a3.sublist List.filter_sublist⟩)
    (fun x hx => ((hm x).1 hx).2) (fun x hx => (List.mem_filter.1 hx).1)
  have hk : k = S.rts := ext_up _ _ ((okT_iff _).1 e2).2.2 b3 (fun z => by
    rw [e3, hm, List.mem_filter]
    constructor
    · rintro (h | h)
      · exact h.2
      · exact h.1
    · intro h
      cases hc : memR R.rts z with
      | true => exact .inl ⟨(memR_iff _ _).1 hc, h⟩
      | false => exact .inr ⟨h, rfl⟩)
  subst hk
  unfold patchE
  rw [hR]
  simp only [if_true]
  unfold patchRo
  rw [hup, gone_in, e1]
  simp
/-- one that is not up -/
theorem patched_off {R S : Ro} (hR : okRo R = true) (hup : R.up = false) : ∀ gone come : List Rt, (patchE R gone come).2 = 10 ∨ (gone.length + come.length = 0 ∧ (patchE R gone come).2 = 0) := by
  intro gone come
  unfold patchE
  rw [hR]
  simp only [if_true]
  unfold patchRo
  by_cases h : 0 < gone.length + come.length
  · left
    rw [hup, decide_eq_true h]
    rfl
  · right
    have h0 : gone.length + come.length = 0 := by omega
    have g0 : gone = [] := List.eq_nil_of_length_eq_zero (by omega)
    have c0 : come = [] := List.eq_nil_of_length_eq_zero (by omega)
    subst g0 c0
    refine ⟨rfl, ?_⟩
    rw [hup]
    rfl
theorem differ_self {R : Ro} (hR : okRo R = true) : differE R R = (([], []), 0) := by
  unfold differE
  rw [hR]
  simp only [Bool.and_self, if_true]
  have : R.rts.filter (fun x => !memR R.rts x) = [] := List.filter_eq_nil_iff.2 (fun x hx => by rw [(memR_iff _ _).2 hx]; decide)
  rw [this]
theorem differ_ok {R S : Ro} (h : (differE R S).2 = 0) : okRo R = true ∧ okRo S = true ∧ differE R S = ((R.rts.filter (fun x => !memR S.rts x), S.rts.filter (fun x => !memR R.rts x)), 0) := by
  unfold differE at h ⊢
  cases h1 : okRo R && okRo S with
  | false => rw [h1] at h; simp at h
  | true =>
    rw [h1] at h
    rw [Bool.and_eq_true] at h1
    by_cases e : R.id = S.id
    · simp only [if_true, if_pos e]; exact ⟨h1.1, h1.2, trivial⟩
    · simp only [if_true, if_neg e] at h; cases h
theorem differ_not {R S : Ro} (h : ¬ (differE R S).2 = 0) : (differE R S).1 = ([], []) := by
  unfold differE at h ⊢
  split
  · rename_i h1
    rw [if_pos h1] at h
    split
    · rename_i e
      rw [if_pos e] at h
      exact absurd rfl h
    · rfl
  · rfl
end Go.Proofs.Ytklbnnnkogghpaa.Fib
namespace Go.Proofs.Ytklbnnnkogghpaa
namespace fibPatched
open Go.ChangeShapes Go.WideShapes Go.ChangeAt Go.RowKit
open Go.ChangeMaps (open_string shut_string)
open Go.Proofs.Ytklbnnnkogghpaa.Lk (Lk HasLks FitL lkV peerL HasLks.keep)
open Go.Proofs.Ytklbnnnkogghpaa.Tr (Rt HasRts HasRts.keep FitR FitP)
open Go.Proofs.Ytklbnnnkogghpaa.Msg (Ev Ac FitA FitE evV evC acV)
open Go.Proofs.Ytklbnnnkogghpaa.Fib
open Go.Proofs.Ytklbnnnkogghpaa.Addr (Pf pfV adV hasB hiN loN rightB RowAt below2 below_drew below_new bset RowAt.lt RowAt.cell RowAt.frozen RowAt.below RowAt.drew RowAt.new RowAt.alloc RowAt.gkeep cells2 cells4)
theorem own : ownKnob Try.prog.godebug = none := by kernel_rfl
theorem laidOut : laidOutB Try.prog = true := by kernel_rfl
set_option maxHeartbeats 16000000 in
set_option maxRecDepth 20000 in
theorem way_a (i1 i2 : Int) (u1 u2 : Bool) (a1 b1 a2 b2 : Option Addr) (n1 m1 p1 q1 n2 m2 p2 q2 g c : Nat) (r1 r2 : List Rt) (l1 l2 : List Lk) (G C : List Rt) (z1 : Int) (xi : Int) (xu : Bool) (xr : List Rt) (xl : List Lk) (w : World) (ha0 : HasRts w (.slice a1 n1 m1) r1) (hb0 : HasLks w (.slice b1 p1 q1) l1) (ha9 : HasRts w (.slice a2 n2 m2) r2) (hb9 : HasLks w (.slice b2 p2 q2) l2) (hz : ¬ z1 = 0)
    (c1 : ∀ W, HasRts W (.slice a1 n1 m1) r1 → HasLks W (.slice b1 p1 q1) l1 → HasRts W (.slice a2 n2 m2) r2 → HasLks W (.slice b2 p2 q2) l2 → Calls Try.prog 5 #[.agg #[.int .i64 i1, .bool u1, .slice a1 n1 m1, .slice b1 p1 q1], .agg #[.int .i64 i2, .bool u2, .slice a2 n2 m2, .slice b2 p2 q2]] W fun e w' => ∃ o1 m1 o2 m2, e = .returned (.tuple #[.slice o1 0 m1, .slice o2 0 m2, .int .i64 z1]) ∧ HasRts w' (.slice o1 0 m1) G ∧ HasRts w' (.slice o2 0 m2) C ∧ Below W.heap.size W w') :
    Calls Try.prog 3 #[.agg #[.int .i64 i1, .bool u1, .slice a1 n1 m1, .slice b1 p1 q1], .agg #[.int .i64 i2, .bool u2, .slice a2 n2 m2, .slice b2 p2 q2]] w (BoolIs true w) := by
  have hB := Below.refl w.heap.size w
  go_enter Try.func3, Try.ntmps3
  obtain ⟨Y1, hY⟩ : ∃ Y, Y = ((w.alloc (.cells #[.int .i64 i1, .bool u1, .slice a1 n1 m1, .slice b1 p1 q1] 25)).alloc (.cells #[.int .i64 i2, .bool u2, .slice a2 n2 m2, .slice b2 p2 q2] 25)) := ⟨_, rfl⟩
  have hbY : Below w.heap.size w Y1 := by rw [hY]; exact below_new (below_new (Below.refl _ _) _) _
  have hle : w.heap.size ≤ w.heap.size := hB.size
  obtain ⟨gr, hgr⟩ : ∃ g, g = w.heap.size := ⟨_, rfl⟩
  have rr : RowAt Y1 gr [.int .i64 i1, .bool u1, .slice a1 n1 m1, .slice b1 p1 q1] 25 := by
    have h := (RowAt.new w [.int .i64 i1, .bool u1, .slice a1 n1 m1, .slice b1 p1 q1] 25).alloc (.cells #[.int .i64 i2, .bool u2, .slice a2 n2 m2, .slice b2 p2 q2] 25)
    rw [hgr, hY]; exact h
  have ler : w.heap.size ≤ gr := by omega
  obtain ⟨gs, hgs⟩ : ∃ g, g = w.heap.size + 1 := ⟨_, rfl⟩
  have rs : RowAt Y1 gs [.int .i64 i2, .bool u2, .slice a2 n2 m2, .slice b2 p2 q2] 25 := by
    have h := RowAt.new (w.alloc (.cells #[.int .i64 i1, .bool u1, .slice a1 n1 m1, .slice b1 p1 q1] 25)) [.int .i64 i2, .bool u2, .slice a2 n2 m2, .slice b2 p2 q2] 25
    simp only [World.size_alloc] at h
    rw [hgs, hY]; exact h
  have les : w.heap.size ≤ gs := by omega
  have ners : gr ≠ gs := by omega
  replace ha0 := ha0.keep hbY
  replace hb0 := hb0.keep hbY
  replace ha9 := ha9.keep hbY
  replace hb9 := hb9.keep hbY
  replace hB := below2 hB hbY
  go_upto_region 1 with fail
  rw [← hY, ← hgs, ← hgr]
  clear hY hbY hle hgr hgs
  go_wp2_with fail
  go_at_call 4; refine (lives_any _).mono ?_; rintro e w2 ⟨rfl, hb⟩
  replace rr := RowAt.below rr hb
  replace rs := RowAt.below rs hb
  replace ha0 := ha0.keep hb
  replace hb0 := hb0.keep hb
  replace ha9 := ha9.keep hb
  replace hb9 := hb9.keep hb
  replace hB := below2 hB hb
  clear hb
  obtain ⟨r0, r1, r2, r3, rf⟩ := cells4 rr
  obtain ⟨s0, s1, s2, s3, sf⟩ := cells4 rs
  go_wp2_with fail
  clear r0 r1 r2 r3 rf s0 s1 s2 s3 sf
  go_at_call 5; refine (c1 _ ha0 hb0 ha9 hb9).mono ?_; rintro e w3 ⟨og1, mg1, oc1, mc1, rfl, ha1, ha2, hb⟩
  replace rr := RowAt.below rr hb
  replace rs := RowAt.below rs hb
  replace ha0 := ha0.keep hb
  replace hb0 := hb0.keep hb
  replace ha9 := ha9.keep hb
  replace hb9 := hb9.keep hb
  replace hB := below2 hB hb
  clear hb
  go_wp2_with fail
  go_ret
  exact ⟨rfl, hB⟩
set_option maxHeartbeats 16000000 in
set_option maxRecDepth 20000 in
theorem way_b1 (i1 i2 : Int) (u1 u2 : Bool) (a1 b1 a2 b2 : Option Addr) (n1 m1 p1 q1 n2 m2 p2 q2 g c : Nat) (r1 r2 : List Rt) (l1 l2 : List Lk) (G C : List Rt) (z1 : Int) (xi : Int) (xu : Bool) (xr : List Rt) (xl : List Lk) (w : World) (ha0 : HasRts w (.slice a1 n1 m1) r1) (hb0 : HasLks w (.slice b1 p1 q1) l1) (ha9 : HasRts w (.slice a2 n2 m2) r2) (hb9 : HasLks w (.slice b2 p2 q2) l2)
    (c1 : ∀ W, HasRts W (.slice a1 n1 m1) r1 → HasLks W (.slice b1 p1 q1) l1 → HasRts W (.slice a2 n2 m2) r2 → HasLks W (.slice b2 p2 q2) l2 → Calls Try.prog 5 #[.agg #[.int .i64 i1, .bool false, .slice a1 n1 m1, .slice b1 p1 q1], .agg #[.int .i64 i2, .bool u2, .slice a2 n2 m2, .slice b2 p2 q2]] W fun e w' => ∃ o1 m1 o2 m2, e = .returned (.tuple #[.slice o1 g m1, .slice o2 c m2, .int .i64 0]) ∧ HasRts w' (.slice o1 g m1) G ∧ HasRts w' (.slice o2 c m2) C ∧ Below W.heap.size W w') (c2 : ∀ W, HasRts W (.slice a1 n1 m1) r1 → HasLks W (.slice b1 p1 q1) l1 → Calls Try.prog 5 #[.agg #[.int .i64 i1, .bool false, .slice a1 n1 m1, .slice b1 p1 q1], .agg #[.int .i64 i1, .bool false, .slice a1 n1 m1, .slice b1 p1 q1]] W fun e w' => ∃ o1 m1 o2 m2, e = .returned (.tuple #[.slice o1 0 m1, .slice o2 0 m2, .int .i64 0]) ∧ Below W.heap.size W w') (c3 : ∀ W og mg oc mc, HasRts W (.slice a1 n1 m1) r1 → HasLks W (.slice b1 p1 q1) l1 → HasRts W (.slice og g mg) G → HasRts W (.slice oc c mc) C → Calls Try.prog 6 #[.agg #[.int .i64 i1, .bool false, .slice a1 n1 m1, .slice b1 p1 q1], .slice og g mg, .slice oc c mc] W (RoAt xi xu xr xl 10 W)) :
    Calls Try.prog 3 #[.agg #[.int .i64 i1, .bool false, .slice a1 n1 m1, .slice b1 p1 q1], .agg #[.int .i64 i2, .bool u2, .slice a2 n2 m2, .slice b2 p2 q2]] w (BoolIs true w) := by
  have hB := Below.refl w.heap.size w
  go_enter Try.func3, Try.ntmps3
  obtain ⟨Y1, hY⟩ : ∃ Y, Y = ((w.alloc (.cells #[.int .i64 i1, .bool false, .slice a1 n1 m1, .slice b1 p1 q1] 25)).alloc (.cells #[.int .i64 i2, .bool u2, .slice a2 n2 m2, .slice b2 p2 q2] 25)) := ⟨_, rfl⟩
  have hbY : Below w.heap.size w Y1 := by rw [hY]; exact below_new (below_new (Below.refl _ _) _) _
  have hle : w.heap.size ≤ w.heap.size := hB.size
  obtain ⟨gr, hgr⟩ : ∃ g, g = w.heap.size := ⟨_, rfl⟩
  have rr : RowAt Y1 gr [.int .i64 i1, .bool false, .slice a1 n1 m1, .slice b1 p1 q1] 25 := by
    have h := (RowAt.new w [.int .i64 i1, .bool false, .slice a1 n1 m1, .slice b1 p1 q1] 25).alloc (.cells #[.int .i64 i2, .bool u2, .slice a2 n2 m2, .slice b2 p2 q2] 25)
    rw [hgr, hY]; exact h
  have ler : w.heap.size ≤ gr := by omega
  obtain ⟨gs, hgs⟩ : ∃ g, g = w.heap.size + 1 := ⟨_, rfl⟩
  have rs : RowAt Y1 gs [.int .i64 i2, .bool u2, .slice a2 n2 m2, .slice b2 p2 q2] 25 := by
    have h := RowAt.new (w.alloc (.cells #[.int .i64 i1, .bool false, .slice a1 n1 m1, .slice b1 p1 q1] 25)) [.int .i64 i2, .bool u2, .slice a2 n2 m2, .slice b2 p2 q2] 25
    simp only [World.size_alloc] at h
    rw [hgs, hY]; exact h
  have les : w.heap.size ≤ gs := by omega
  have ners : gr ≠ gs := by omega
  replace ha0 := ha0.keep hbY
  replace hb0 := hb0.keep hbY
  replace ha9 := ha9.keep hbY
  replace hb9 := hb9.keep hbY
  replace hB := below2 hB hbY
  go_upto_region 1 with fail
  rw [← hY, ← hgs, ← hgr]
  clear hY hbY hle hgr hgs
  go_wp2_with fail
  go_at_call 4; refine (lives_any _).mono ?_; rintro e w2 ⟨rfl, hb⟩
  replace rr := RowAt.below rr hb
  replace rs := RowAt.below rs hb
  replace ha0 := ha0.keep hb
  replace hb0 := hb0.keep hb
  replace ha9 := ha9.keep hb
  replace hb9 := hb9.keep hb
  replace hB := below2 hB hb
  clear hb
  obtain ⟨r0, r1, r2, r3, rf⟩ := cells4 rr
  obtain ⟨s0, s1, s2, s3, sf⟩ := cells4 rs
  go_wp2_with fail
  clear r0 r1 r2 r3 rf s0 s1 s2 s3 sf
  go_at_call 5; refine (c1 _ ha0 hb0 ha9 hb9).mono ?_; rintro e w3 ⟨og1, mg1, oc1, mc1, rfl, ha1, ha2, hb⟩
  replace rr := RowAt.below rr hb
  replace rs := RowAt.below rs hb
  replace ha0 := ha0.keep hb
  replace hb0 := hb0.keep hb
  replace ha9 := ha9.keep hb
  replace hb9 := hb9.keep hb
  replace hB := below2 hB hb
  clear hb
  obtain ⟨r0, r1, r2, r3, rf⟩ := cells4 rr
  go_wp2_with fail
  clear r0 r1 r2 r3 rf
  go_at_call 5; refine (c2 _ ha0 hb0).mono ?_; rintro e w4 ⟨og2, mg2, oc2, mc2, rfl, hb⟩
  replace rr := RowAt.below rr hb
  replace rs := RowAt.below rs hb
  replace ha0 := ha0.keep hb
  replace hb0 := hb0.keep hb
  replace ha9 := ha9.keep hb
  replace hb9 := hb9.keep hb
  replace ha1 := ha1.keep hb
  replace ha2 := ha2.keep hb
  replace hB := below2 hB hb
  clear hb
  obtain ⟨r0, r1, r2, r3, rf⟩ := cells4 rr
  go_wp2_with fail
  clear r0 r1 r2 r3 rf
  go_at_call 6; refine (c3 _ _ _ _ _ ha0 hb0 ha1 ha2).mono ?_; rintro e w5 ⟨oa5, na5, ma5, ob5, nb5, mb5, rfl, ha5, hb5, hb⟩
  replace rr := RowAt.below rr hb
  replace rs := RowAt.below rs hb
  replace ha0 := ha0.keep hb
  replace hb0 := hb0.keep hb
  replace ha9 := ha9.keep hb
  replace hb9 := hb9.keep hb
  replace ha1 := ha1.keep hb
  replace ha2 := ha2.keep hb
  replace hB := below2 hB hb
  clear hb
  obtain ⟨Y6, hY⟩ : ∃ Y, Y = (w5.alloc (.cells #[.int .i64 xi, .bool xu, .slice oa5 na5 ma5, .slice ob5 nb5 mb5] 25)) := ⟨_, rfl⟩
  have hbY : Below w5.heap.size w5 Y6 := by rw [hY]; exact below_new (Below.refl _ _) _
  have hle : w.heap.size ≤ w5.heap.size := hB.size
  obtain ⟨gx, hgx⟩ : ∃ g, g = w5.heap.size := ⟨_, rfl⟩
  have rx : RowAt Y6 gx [.int .i64 xi, .bool xu, .slice oa5 na5 ma5, .slice ob5 nb5 mb5] 25 := by
    have h := RowAt.new w5 [.int .i64 xi, .bool xu, .slice oa5 na5 ma5, .slice ob5 nb5 mb5] 25
    rw [hgx, hY]; exact h
  have lex : w.heap.size ≤ gx := by omega
  have nerx : gr ≠ gx := by have := RowAt.lt rr; omega
  have nesx : gs ≠ gx := by have := RowAt.lt rs; omega
  replace rr := RowAt.below rr hbY
  replace rs := RowAt.below rs hbY
  replace ha0 := ha0.keep hbY
  replace hb0 := hb0.keep hbY
  replace ha9 := ha9.keep hbY
  replace hb9 := hb9.keep hbY
  replace ha1 := ha1.keep hbY
  replace ha2 := ha2.keep hbY
  replace ha5 := ha5.keep hbY
  replace hb5 := hb5.keep hbY
  replace hB := below2 hB hbY
  go_upto_region 10 with fail
  rw [← hY, ← hgx]
  clear hY hbY hle hgx
  obtain ⟨r0, r1, r2, r3, rf⟩ := cells4 rr
  go_wp2_with fail
  go_ret
  exact ⟨rfl, hB⟩
set_option maxHeartbeats 16000000 in
set_option maxRecDepth 20000 in
theorem way_b2 (i1 i2 : Int) (u1 u2 : Bool) (a1 b1 a2 b2 : Option Addr) (n1 m1 p1 q1 n2 m2 p2 q2 g c : Nat) (r1 r2 : List Rt) (l1 l2 : List Lk) (G C : List Rt) (z1 : Int) (xi : Int) (xu : Bool) (xr : List Rt) (xl : List Lk) (w : World) (ha0 : HasRts w (.slice a1 n1 m1) r1) (hb0 : HasLks w (.slice b1 p1 q1) l1) (ha9 : HasRts w (.slice a2 n2 m2) r2) (hb9 : HasLks w (.slice b2 p2 q2) l2)
    (c1 : ∀ W, HasRts W (.slice a1 n1 m1) r1 → HasLks W (.slice b1 p1 q1) l1 → HasRts W (.slice a2 n2 m2) r2 → HasLks W (.slice b2 p2 q2) l2 → Calls Try.prog 5 #[.agg #[.int .i64 i1, .bool false, .slice a1 n1 m1, .slice b1 p1 q1], .agg #[.int .i64 i2, .bool u2, .slice a2 n2 m2, .slice b2 p2 q2]] W fun e w' => ∃ o1 m1 o2 m2, e = .returned (.tuple #[.slice o1 0 m1, .slice o2 0 m2, .int .i64 0]) ∧ HasRts w' (.slice o1 0 m1) G ∧ HasRts w' (.slice o2 0 m2) C ∧ Below W.heap.size W w') (c2 : ∀ W, HasRts W (.slice a1 n1 m1) r1 → HasLks W (.slice b1 p1 q1) l1 → Calls Try.prog 5 #[.agg #[.int .i64 i1, .bool false, .slice a1 n1 m1, .slice b1 p1 q1], .agg #[.int .i64 i1, .bool false, .slice a1 n1 m1, .slice b1 p1 q1]] W fun e w' => ∃ o1 m1 o2 m2, e = .returned (.tuple #[.slice o1 0 m1, .slice o2 0 m2, .int .i64 0]) ∧ Below W.heap.size W w') (c3 : ∀ W og mg oc mc, HasRts W (.slice a1 n1 m1) r1 → HasLks W (.slice b1 p1 q1) l1 → HasRts W (.slice og 0 mg) G → HasRts W (.slice oc 0 mc) C → Calls Try.prog 6 #[.agg #[.int .i64 i1, .bool false, .slice a1 n1 m1, .slice b1 p1 q1], .slice og 0 mg, .slice oc 0 mc] W (RoAt xi xu xr xl 0 W)) :
    Calls Try.prog 3 #[.agg #[.int .i64 i1, .bool false, .slice a1 n1 m1, .slice b1 p1 q1], .agg #[.int .i64 i2, .bool u2, .slice a2 n2 m2, .slice b2 p2 q2]] w (BoolIs true w) := by
  have hB := Below.refl w.heap.size w
  go_enter Try.func3, Try.ntmps3
  obtain ⟨Y1, hY⟩ : ∃ Y, Y = ((w.alloc (.cells #[.int .i64 i1, .bool false, .slice a1 n1 m1, .slice b1 p1 q1] 25)).alloc (.cells #[.int .i64 i2, .bool u2, .slice a2 n2 m2, .slice b2 p2 q2] 25)) := ⟨_, rfl⟩
  have hbY : Below w.heap.size w Y1 := by rw [hY]; exact below_new (below_new (Below.refl _ _) _) _
  have hle : w.heap.size ≤ w.heap.size := hB.size
  obtain ⟨gr, hgr⟩ : ∃ g, g = w.heap.size := ⟨_, rfl⟩
  have rr : RowAt Y1 gr [.int .i64 i1, .bool false, .slice a1 n1 m1, .slice b1 p1 q1] 25 := by
    have h := (RowAt.new w [.int .i64 i1, .bool false, .slice a1 n1 m1, .slice b1 p1 q1] 25).alloc (.cells #[.int .i64 i2, .bool u2, .slice a2 n2 m2, .slice b2 p2 q2] 25)
    rw [hgr, hY]; exact h
  have ler : w.heap.size ≤ gr := by omega
  obtain ⟨gs, hgs⟩ : ∃ g, g = w.heap.size + 1 := ⟨_, rfl⟩
  have rs : RowAt Y1 gs [.int .i64 i2, .bool u2, .slice a2 n2 m2, .slice b2 p2 q2] 25 := by
    have h := RowAt.new (w.alloc (.cells #[.int .i64 i1, .bool false, .slice a1 n1 m1, .slice b1 p1 q1] 25)) [.int .i64 i2, .bool u2, .slice a2 n2 m2, .slice b2 p2 q2] 25
    simp only [World.size_alloc] at h
    rw [hgs, hY]; exact h
  have les : w.heap.size ≤ gs := by omega
  have ners : gr ≠ gs := by omega
  replace ha0 := ha0.keep hbY
  replace hb0 := hb0.keep hbY
  replace ha9 := ha9.keep hbY
  replace hb9 := hb9.keep hbY
  replace hB := below2 hB hbY
  go_upto_region 1 with fail
  rw [← hY, ← hgs, ← hgr]
  clear hY hbY hle hgr hgs
  go_wp2_with fail
  go_at_call 4; refine (lives_any _).mono ?_; rintro e w2 ⟨rfl, hb⟩
  replace rr := RowAt.below rr hb
  replace rs := RowAt.below rs hb
  replace ha0 := ha0.keep hb
  replace hb0 := hb0.keep hb
  replace ha9 := ha9.keep hb
  replace hb9 := hb9.keep hb
  replace hB := below2 hB hb
  clear hb
  obtain ⟨r0, r1, r2, r3, rf⟩ := cells4 rr
  obtain ⟨s0, s1, s2, s3, sf⟩ := cells4 rs
  go_wp2_with fail
  clear r0 r1 r2 r3 rf s0 s1 s2 s3 sf
  go_at_call 5; refine (c1 _ ha0 hb0 ha9 hb9).mono ?_; rintro e w3 ⟨og1, mg1, oc1, mc1, rfl, ha1, ha2, hb⟩
  replace rr := RowAt.below rr hb
  replace rs := RowAt.below rs hb
  replace ha0 := ha0.keep hb
  replace hb0 := hb0.keep hb
  replace ha9 := ha9.keep hb
  replace hb9 := hb9.keep hb
  replace hB := below2 hB hb
  clear hb
  obtain ⟨r0, r1, r2, r3, rf⟩ := cells4 rr
  go_wp2_with fail
  clear r0 r1 r2 r3 rf
  go_at_call 5; refine (c2 _ ha0 hb0).mono ?_; rintro e w4 ⟨og2, mg2, oc2, mc2, rfl, hb⟩
  replace rr := RowAt.below rr hb
  replace rs := RowAt.below rs hb
  replace ha0 := ha0.keep hb
  replace hb0 := hb0.keep hb
  replace ha9 := ha9.keep hb
  replace hb9 := hb9.keep hb
  replace ha1 := ha1.keep hb
  replace ha2 := ha2.keep hb
  replace hB := below2 hB hb
  clear hb
  obtain ⟨r0, r1, r2, r3, rf⟩ := cells4 rr
  go_wp2_with fail
  clear r0 r1 r2 r3 rf
  go_at_call 6; refine (c3 _ _ _ _ _ ha0 hb0 ha1 ha2).mono ?_; rintro e w5 ⟨oa5, na5, ma5, ob5, nb5, mb5, rfl, ha5, hb5, hb⟩
  replace rr := RowAt.below rr hb
  replace rs := RowAt.below rs hb
  replace ha0 := ha0.keep hb
  replace hb0 := hb0.keep hb
  replace ha9 := ha9.keep hb
  replace hb9 := hb9.keep hb
  replace ha1 := ha1.keep hb
  replace ha2 := ha2.keep hb
  replace hB := below2 hB hb
  clear hb
  obtain ⟨Y6, hY⟩ : ∃ Y, Y = (w5.alloc (.cells #[.int .i64 xi, .bool xu, .slice oa5 na5 ma5, .slice ob5 nb5 mb5] 25)) := ⟨_, rfl⟩
  have hbY : Below w5.heap.size w5 Y6 := by rw [hY]; exact below_new (Below.refl _ _) _
  have hle : w.heap.size ≤ w5.heap.size := hB.size
  obtain ⟨gx, hgx⟩ : ∃ g, g = w5.heap.size := ⟨_, rfl⟩
  have rx : RowAt Y6 gx [.int .i64 xi, .bool xu, .slice oa5 na5 ma5, .slice ob5 nb5 mb5] 25 := by
    have h := RowAt.new w5 [.int .i64 xi, .bool xu, .slice oa5 na5 ma5, .slice ob5 nb5 mb5] 25
    rw [hgx, hY]; exact h
  have lex : w.heap.size ≤ gx := by omega
  have nerx : gr ≠ gx := by have := RowAt.lt rr; omega
  have nesx : gs ≠ gx := by have := RowAt.lt rs; omega
  replace rr := RowAt.below rr hbY
  replace rs := RowAt.below rs hbY
  replace ha0 := ha0.keep hbY
  replace hb0 := hb0.keep hbY
  replace ha9 := ha9.keep hbY
  replace hb9 := hb9.keep hbY
  replace ha1 := ha1.keep hbY
  replace ha2 := ha2.keep hbY
  replace ha5 := ha5.keep hbY
  replace hb5 := hb5.keep hbY
  replace hB := below2 hB hbY
  go_upto_region 10 with fail
  rw [← hY, ← hgx]
  clear hY hbY hle hgx
  obtain ⟨r0, r1, r2, r3, rf⟩ := cells4 rr
  go_wp2_with fail
  go_ret
  exact ⟨rfl, hB⟩
set_option maxHeartbeats 16000000 in
set_option maxRecDepth 20000 in
theorem way_c (i1 i2 : Int) (u1 u2 : Bool) (a1 b1 a2 b2 : Option Addr) (n1 m1 p1 q1 n2 m2 p2 q2 g c : Nat) (r1 r2 : List Rt) (l1 l2 : List Lk) (G C : List Rt) (z1 : Int) (xi : Int) (xu : Bool) (xr : List Rt) (xl : List Lk) (w : World) (ha0 : HasRts w (.slice a1 n1 m1) r1) (hb0 : HasLks w (.slice b1 p1 q1) l1) (ha9 : HasRts w (.slice a2 n2 m2) r2) (hb9 : HasLks w (.slice b2 p2 q2) l2)
    (c1 : ∀ W, HasRts W (.slice a1 n1 m1) r1 → HasLks W (.slice b1 p1 q1) l1 → HasRts W (.slice a2 n2 m2) r2 → HasLks W (.slice b2 p2 q2) l2 → Calls Try.prog 5 #[.agg #[.int .i64 i1, .bool true, .slice a1 n1 m1, .slice b1 p1 q1], .agg #[.int .i64 i2, .bool u2, .slice a2 n2 m2, .slice b2 p2 q2]] W fun e w' => ∃ o1 m1 o2 m2, e = .returned (.tuple #[.slice o1 g m1, .slice o2 c m2, .int .i64 0]) ∧ HasRts w' (.slice o1 g m1) G ∧ HasRts w' (.slice o2 c m2) C ∧ Below W.heap.size W w') (c2 : ∀ W, HasRts W (.slice a1 n1 m1) r1 → HasLks W (.slice b1 p1 q1) l1 → Calls Try.prog 5 #[.agg #[.int .i64 i1, .bool true, .slice a1 n1 m1, .slice b1 p1 q1], .agg #[.int .i64 i1, .bool true, .slice a1 n1 m1, .slice b1 p1 q1]] W fun e w' => ∃ o1 m1 o2 m2, e = .returned (.tuple #[.slice o1 0 m1, .slice o2 0 m2, .int .i64 0]) ∧ Below W.heap.size W w') (c3 : ∀ W og mg oc mc, HasRts W (.slice a1 n1 m1) r1 → HasLks W (.slice b1 p1 q1) l1 → HasRts W (.slice og g mg) G → HasRts W (.slice oc c mc) C → Calls Try.prog 6 #[.agg #[.int .i64 i1, .bool true, .slice a1 n1 m1, .slice b1 p1 q1], .slice og g mg, .slice oc c mc] W (RoAt xi xu r2 xl 0 W)) :
    Calls Try.prog 3 #[.agg #[.int .i64 i1, .bool true, .slice a1 n1 m1, .slice b1 p1 q1], .agg #[.int .i64 i2, .bool u2, .slice a2 n2 m2, .slice b2 p2 q2]] w (BoolIs true w) := by
  have hB := Below.refl w.heap.size w
  go_enter Try.func3, Try.ntmps3
  obtain ⟨Y1, hY⟩ : ∃ Y, Y = ((w.alloc (.cells #[.int .i64 i1, .bool true, .slice a1 n1 m1, .slice b1 p1 q1] 25)).alloc (.cells #[.int .i64 i2, .bool u2, .slice a2 n2 m2, .slice b2 p2 q2] 25)) := ⟨_, rfl⟩
  have hbY : Below w.heap.size w Y1 := by rw [hY]; exact below_new (below_new (Below.refl _ _) _) _
  have hle : w.heap.size ≤ w.heap.size := hB.size
  obtain ⟨gr, hgr⟩ : ∃ g, g = w.heap.size := ⟨_, rfl⟩
  have rr : RowAt Y1 gr [.int .i64 i1, .bool true, .slice a1 n1 m1, .slice b1 p1 q1] 25 := by
    have h := (RowAt.new w [.int .i64 i1, .bool true, .slice a1 n1 m1, .slice b1 p1 q1] 25).alloc (.cells #[.int .i64 i2, .bool u2, .slice a2 n2 m2, .slice b2 p2 q2] 25)
    rw [hgr, hY]; exact h
  have ler : w.heap.size ≤ gr := by omega
  obtain ⟨gs, hgs⟩ : ∃ g, g = w.heap.size + 1 := ⟨_, rfl⟩
  have rs : RowAt Y1 gs [.int .i64 i2, .bool u2, .slice a2 n2 m2, .slice b2 p2 q2] 25 := by
    have h := RowAt.new (w.alloc (.cells #[.int .i64 i1, .bool true, .slice a1 n1 m1, .slice b1 p1 q1] 25)) [.int .i64 i2, .bool u2, .slice a2 n2 m2, .slice b2 p2 q2] 25
    simp only [World.size_alloc] at h
    rw [hgs, hY]; exact h
  have les : w.heap.size ≤ gs := by omega
  have ners : gr ≠ gs := by omega
  replace ha0 := ha0.keep hbY
  replace hb0 := hb0.keep hbY
  replace ha9 := ha9.keep hbY
  replace hb9 := hb9.keep hbY
  replace hB := below2 hB hbY
  go_upto_region 1 with fail
  rw [← hY, ← hgs, ← hgr]
  clear hY hbY hle hgr hgs
  go_wp2_with fail
  go_at_call 4; refine (lives_any _).mono ?_; rintro e w2 ⟨rfl, hb⟩
  replace rr := RowAt.below rr hb
  replace rs := RowAt.below rs hb
  replace ha0 := ha0.keep hb
  replace hb0 := hb0.keep hb
  replace ha9 := ha9.keep hb
  replace hb9 := hb9.keep hb
  replace hB := below2 hB hb
  clear hb
  obtain ⟨r0, r1, r2, r3, rf⟩ := cells4 rr
  obtain ⟨s0, s1, s2, s3, sf⟩ := cells4 rs
  go_wp2_with fail
  clear r0 r1 r2 r3 rf s0 s1 s2 s3 sf
  go_at_call 5; refine (c1 _ ha0 hb0 ha9 hb9).mono ?_; rintro e w3 ⟨og1, mg1, oc1, mc1, rfl, ha1, ha2, hb⟩
  replace rr := RowAt.below rr hb
  replace rs := RowAt.below rs hb
  replace ha0 := ha0.keep hb
  replace hb0 := hb0.keep hb
  replace ha9 := ha9.keep hb
  replace hb9 := hb9.keep hb
  replace hB := below2 hB hb
  clear hb
  obtain ⟨r0, r1, r2, r3, rf⟩ := cells4 rr
  go_wp2_with fail
  clear r0 r1 r2 r3 rf
  go_at_call 5; refine (c2 _ ha0 hb0).mono ?_; rintro e w4 ⟨og2, mg2, oc2, mc2, rfl, hb⟩
  replace rr := RowAt.below rr hb
  replace rs := RowAt.below rs hb
  replace ha0 := ha0.keep hb
  replace hb0 := hb0.keep hb
  replace ha9 := ha9.keep hb
  replace hb9 := hb9.keep hb
  replace ha1 := ha1.keep hb
  replace ha2 := ha2.keep hb
  replace hB := below2 hB hb
  clear hb
  obtain ⟨r0, r1, r2, r3, rf⟩ := cells4 rr
  go_wp2_with fail
  clear r0 r1 r2 r3 rf
  go_at_call 6; refine (c3 _ _ _ _ _ ha0 hb0 ha1 ha2).mono ?_; rintro e w5 ⟨oa5, na5, ma5, ob5, nb5, mb5, rfl, ha5, hb5, hb⟩
  replace rr := RowAt.below rr hb
  replace rs := RowAt.below rs hb
  replace ha0 := ha0.keep hb
  replace hb0 := hb0.keep hb
  replace ha9 := ha9.keep hb
  replace hb9 := hb9.keep hb
  replace ha1 := ha1.keep hb
  replace ha2 := ha2.keep hb
  replace hB := below2 hB hb
  clear hb
  obtain ⟨Y6, hY⟩ : ∃ Y, Y = (w5.alloc (.cells #[.int .i64 xi, .bool xu, .slice oa5 na5 ma5, .slice ob5 nb5 mb5] 25)) := ⟨_, rfl⟩
  have hbY : Below w5.heap.size w5 Y6 := by rw [hY]; exact below_new (Below.refl _ _) _
  have hle : w.heap.size ≤ w5.heap.size := hB.size
  obtain ⟨gx, hgx⟩ : ∃ g, g = w5.heap.size := ⟨_, rfl⟩
  have rx : RowAt Y6 gx [.int .i64 xi, .bool xu, .slice oa5 na5 ma5, .slice ob5 nb5 mb5] 25 := by
    have h := RowAt.new w5 [.int .i64 xi, .bool xu, .slice oa5 na5 ma5, .slice ob5 nb5 mb5] 25
    rw [hgx, hY]; exact h
  have lex : w.heap.size ≤ gx := by omega
  have nerx : gr ≠ gx := by have := RowAt.lt rr; omega
  have nesx : gs ≠ gx := by have := RowAt.lt rs; omega
  replace rr := RowAt.below rr hbY
  replace rs := RowAt.below rs hbY
  replace ha0 := ha0.keep hbY
  replace hb0 := hb0.keep hbY
  replace ha9 := ha9.keep hbY
  replace hb9 := hb9.keep hbY
  replace ha1 := ha1.keep hbY
  replace ha2 := ha2.keep hbY
  replace ha5 := ha5.keep hbY
  replace hb5 := hb5.keep hbY
  replace hB := below2 hB hbY
  go_upto_region 10 with fail
  rw [← hY, ← hgx]
  clear hY hbY hle hgx
  obtain ⟨r0, r1, r2, r3, rf⟩ := cells4 rr
  obtain ⟨s0, s1, s2, s3, sf⟩ := cells4 rs
  obtain ⟨x0, x1, x2, x3, xf⟩ := cells4 rx
  go_wp2_with fail
  clear r0 r1 r2 r3 rf s0 s1 s2 s3 sf x0 x1 x2 x3 xf
  go_at_call 7; refine (Tr.same_any r2 _ _ _ ha5 ha9).mono ?_; rintro e w7 ⟨rfl, hb⟩
  replace rr := RowAt.below rr hb
  replace rs := RowAt.below rs hb
  replace rx := RowAt.below rx hb
  replace ha0 := ha0.keep hb
  replace hb0 := hb0.keep hb
  replace ha9 := ha9.keep hb
  replace hb9 := hb9.keep hb
  replace ha1 := ha1.keep hb
  replace ha2 := ha2.keep hb
  replace ha5 := ha5.keep hb
  replace hb5 := hb5.keep hb
  replace hB := below2 hB hb
  clear hb
  go_wp2_with fail
  go_ret
  exact ⟨rfl, hB⟩
theorem as_len {W : World} {o : Option Addr} {n m : Nat} {l : List Rt} (h : HasRts W (.slice o n m) l) : n = l.length := by
  obtain ⟨o', c', e, _⟩ := Lk.HasRow.slice h
  injection e with _ e2 _
theorem two {D : (List Rt × List Rt) × Int} {w : World} {e : Ending} {w' : World} (h : TwoIs D w e w') : ∃ o1 m1 o2 m2, e = .returned (.tuple #[.slice o1 D.1.1.length m1, .slice o2 D.1.2.length m2, .int .i64 D.2]) ∧ HasRts w' (.slice o1 D.1.1.length m1) D.1.1 ∧ HasRts w' (.slice o2 D.1.2.length m2) D.1.2 ∧ Below w.heap.size w w' := by
  obtain ⟨o1, n1, m1, o2, n2, m2, rfl, h1, h2, hb⟩ := h
  have e1 := as_len h1
  have e2 := as_len h2
  subst e1 e2
  exact ⟨o1, m1, o2, m2, rfl, h1, h2, hb⟩
theorem filt_fit {l : List Rt} (p : Rt → Bool) (h : ∀ x ∈ l, FitR x) : ∀ x ∈ l.filter p, FitR x := fun x hx => h x (List.mem_filter.1 hx).1
theorem walk (R : Ro) (x y : Value) (S : Ro) (x' y' : Value) (w : World) (b0 : HasRts w x R.rts) (c0 : HasLks w y R.lks) (f0 : FitRo R) (b1 : HasRts w x' S.rts) (c1 : HasLks w y' S.lks) (f1 : FitRo S) :
    Calls Try.prog 3 #[.agg #[.int .i64 R.id, .bool R.up, x, y], .agg #[.int .i64 S.id, .bool S.up, x', y']] w fun e w' => e = .returned (.bool true) ∧ Below w.heap.size w w' := by
  obtain ⟨o1, t1, rfl, _⟩ := Lk.HasRow.slice b0
  obtain ⟨o2, t2, rfl, _⟩ := Lk.HasRow.slice c0
  obtain ⟨o3, t3, rfl, _⟩ := Lk.HasRow.slice b1
  obtain ⟨o4, t4, rfl, _⟩ := Lk.HasRow.slice c1
  by_cases hz : (differE R S).2 = 0
  · obtain ⟨k1, k2, k3⟩ := differ_ok hz
    have g1 : (R.rts.filter (fun x => !Tr.memR S.rts x)).length ≤ 256 := by
      have := List.length_filter_le (fun x => !Tr.memR S.rts x) R.rts
      have := okRo_parts k1; omega
    have g2 : (S.rts.filter (fun x => !Tr.memR R.rts x)).length ≤ 256 := by
      have := List.length_filter_le (fun x => !Tr.memR R.rts x) S.rts
      have := okRo_parts k2; omega
    have d1 : ∀ W, HasRts W (.slice o1 R.rts.length t1) R.rts → HasLks W (.slice o2 R.lks.length t2) R.lks → HasRts W (.slice o3 S.rts.length t3) S.rts → HasLks W (.slice o4 S.lks.length t4) S.lks → Calls Try.prog 5 #[.agg #[.int .i64 R.id, .bool R.up, .slice o1 R.rts.length t1, .slice o2 R.lks.length t2], .agg #[.int .i64 S.id, .bool S.up, .slice o3 S.rts.length t3, .slice o4 S.lks.length t4]] W fun e w' => ∃ o1 m1 o2 m2, e = .returned (.tuple #[.slice o1 (R.rts.filter (fun x => !Tr.memR S.rts x)).length m1, .slice o2 (S.rts.filter (fun x => !Tr.memR R.rts x)).length m2, .int .i64 0]) ∧ HasRts w' (.slice o1 (R.rts.filter (fun x => !Tr.memR S.rts x)).length m1) (R.rts.filter (fun x => !Tr.memR S.rts x)) ∧ HasRts w' (.slice o2 (S.rts.filter (fun x => !Tr.memR R.rts x)).length m2) (S.rts.filter (fun x => !Tr.memR R.rts x)) ∧ Below W.heap.size W w' := fun W h1 h2 h3 h4 => by
      refine (differ_any R S _ _ _ _ W h1 h2 h3 h4 f0 f1).mono ?_
      intro e w' h
      have := two h
      rw [k3] at this
      exact this
    have d2 : ∀ W, HasRts W (.slice o1 R.rts.length t1) R.rts → HasLks W (.slice o2 R.lks.length t2) R.lks → Calls Try.prog 5 #[.agg #[.int .i64 R.id, .bool R.up, .slice o1 R.rts.length t1, .slice o2 R.lks.length t2], .agg #[.int .i64 R.id, .bool R.up, .slice o1 R.rts.length t1, .slice o2 R.lks.length t2]] W fun e w' => ∃ o1 m1 o2 m2, e = .returned (.tuple #[.slice o1 0 m1, .slice o2 0 m2, .int .i64 0]) ∧ Below W.heap.size W w' := fun W h1 h2 => by
      refine (differ_any R R _ _ _ _ W h1 h2 h1 h2 f0 f0).mono ?_
      intro e w' h
      have := two h
      rw [differ_self k1] at this
      obtain ⟨a, b, c, d, h1, _, _, h4⟩ := this
      exact ⟨a, b, c, d, h1, h4⟩
    have d3 : ∀ W og mg oc mc, HasRts W (.slice o1 R.rts.length t1) R.rts → HasLks W (.slice o2 R.lks.length t2) R.lks → HasRts W (.slice og (R.rts.filter (fun x => !Tr.memR S.rts x)).length mg) (R.rts.filter (fun x => !Tr.memR S.rts x)) → HasRts W (.slice oc (S.rts.filter (fun x => !Tr.memR R.rts x)).length mc) (S.rts.filter (fun x => !Tr.memR R.rts x)) → Calls Try.prog 6 #[.agg #[.int .i64 R.id, .bool R.up, .slice o1 R.rts.length t1, .slice o2 R.lks.length t2], .slice og (R.rts.filter (fun x => !Tr.memR S.rts x)).length mg, .slice oc (S.rts.filter (fun x => !Tr.memR R.rts x)).length mc] W (RoIs (patchE R (R.rts.filter (fun x => !Tr.memR S.rts x)) (S.rts.filter (fun x => !Tr.memR R.rts x))).1 (patchE R (R.rts.filter (fun x => !Tr.memR S.rts x)) (S.rts.filter (fun x => !Tr.memR R.rts x))).2 W) := fun W og mg oc mc h1 h2 h3 h4 =>
      patchF_any R _ _ _ _ _ _ W h1 h2 h3 h4 f0 (filt_fit _ f1.rts) (by omega) (by omega)
    cases hu : R.up with
    | true =>
      rw [patched k1 k2 hu] at d3
      rw [hu] at d1 d2 d3
      exact way_c R.id S.id true S.up o1 o2 o3 o4 _ t1 _ t2 _ t3 _ t4 _ _ R.rts S.rts R.lks S.lks _ _ 0 R.id true S.rts R.lks w b0 c0 b1 c1 d1 d2 d3
    | false =>
      rcases patched_off (S := S) k1 hu (R.rts.filter (fun x => !Tr.memR S.rts x)) (S.rts.filter (fun x => !Tr.memR R.rts x)) with h | ⟨h1, h2⟩
      · rw [h] at d3
        rw [hu] at d1 d2
        exact way_b1 R.id S.id true S.up o1 o2 o3 o4 _ t1 _ t2 _ t3 _ t4 _ _ R.rts S.rts R.lks S.lks _ _ 0 _ _ _ _ w b0 c0 b1 c1 d1 d2 (fun W og mg oc mc p1 p2 p3 p4 => hu ▸ d3 W og mg oc mc p1 p2 p3 p4)
      · rw [h2] at d3
        rw [hu] at d1 d2
        have e1 : (R.rts.filter (fun x => !Tr.memR S.rts x)).length = 0 := by omega
        have e2 : (S.rts.filter (fun x => !Tr.memR R.rts x)).length = 0 := by omega
        rw [e1, e2] at d1 d3
        exact way_b2 R.id S.id true S.up o1 o2 o3 o4 _ t1 _ t2 _ t3 _ t4 0 0 R.rts S.rts R.lks S.lks _ _ 0 _ _ _ _ w b0 c0 b1 c1 d1 d2 (fun W og mg oc mc p1 p2 p3 p4 => hu ▸ d3 W og mg oc mc p1 p2 p3 p4)
  · refine way_a R.id S.id R.up S.up o1 o2 o3 o4 _ t1 _ t2 _ t3 _ t4 0 0 R.rts S.rts R.lks S.lks [] [] (differE R S).2 0 false [] [] w b0 c0 b1 c1 hz (fun W h1 h2 h3 h4 => ?_)
    refine (differ_any R S _ _ _ _ W h1 h2 h3 h4 f0 f1).mono ?_
    intro e w' h
    have := two h
    rw [differ_not hz] at this
    exact this

set_option maxRecDepth 100000 in
theorem lifted (os : Os) (started : os.Started) (H : Type) (enc : TypeId × Value → H) :
    ReturnsInHanded {} Try.checked os 3 .any (Rows.fibPatchedSpec.pre6 enc Try.prog Try.f3 Rows.fibPatchedRow.domain false) (Rows.fibPatchedSpec.post enc Try.prog Try.f3 false true false false) := by
  refine returnsInHanded_of_change_sized (C := Try.checked) own started (by kernel_rfl) Try.func3
    (ChangeSpec.witness6 (enc := enc) (C := Try.checked) false ⟨#[], #[.agg #[.int .i64 0, .bool false, .slice none 0 0, .slice none 0 0], .agg #[.int .i64 0, .bool false, .slice none 0 0, .slice none 0 0]], []⟩ 8 (by kernel_rfl) (by kernel_rfl) (by kernel_rfl) (by kernel_rfl)) ?_
  intro W base args ds gs before hval0 hW _ hsz0 _
  have hsz : (DataW.weightsEach Try.prog (Try.f3.params.toList ++ Rows.fibPatchedSpec.plain.varTypes Try.prog) (ds ++ gs)).all (· ≤ reachBytes) = true := hsz0
  clear hsz0
  have hval : ∀ (j : Nat) t v, Try.f3.params[j]? = some t → args[j]? = some v → Value.okWide Try.prog W .any base t v := hval0
  have hW' := hW
  obtain ⟨p, q, hA0, hV, rfl, hfz, hnd⟩ := hW
  have hA : DataW.TrodAll enc Try.prog W 0 (fun _ => true) true Try.f3.params.toList args.toList ds p := hA0
  rw [Try.params3] at hA hval hsz
  obtain ⟨v0, vs0, d0, ds0, p0, q0, hargs, rfl, rfl, h0, r0⟩ := trodAll_cons hA
  obtain ⟨v1, vs1, d1, ds1, p1, q1, rfl, rfl, rfl, h1, r1⟩ := trodAll_cons r0
  obtain ⟨rfl, rfl, rfl⟩ := trodAll_nil r1
  obtain rfl : args = #[v0, v1] := by cases args; simp_all
  obtain ⟨rfl, rfl⟩ := trodVars_none hV
  have k0 := h0
  have lt0 : ∀ x ∈ p0, x.block < W.heap.size := by obtain ⟨m, hm⟩ := k0; exact DataW.trod_lt m _ _ _ hm
  obtain ⟨R0, x0, y0, rfl, b0, c0, f0⟩ := Fib.open_router (hval 0 25 v0 rfl rfl) h0
  have k1 := h1
  have lt1 : ∀ x ∈ p1, x.block < W.heap.size := by obtain ⟨m, hm⟩ := k1; exact DataW.trod_lt m _ _ _ hm
  obtain ⟨R1, x1, y1, rfl, b1, c1, f1⟩ := Fib.open_router (hval 1 25 v1 rfl rfl) h1
  clear hA0 hval0
  refine (walk R0 x0 y0 R1 x1 y1 W b0 c0 f0 b1 c1 f1).mono fun e W' ⟨he, bel⟩ => ?_
  subst he
  exact ⟨_, rfl, _, _, _, [], _, [], hW', trodAll_mk1 (shut_bool Try.underlying4 _), (trodAll_cons_mk (Below.trod laidOut (by kernel_rfl) (of_decide_eq_true (by kernel_rfl)) k0 bel lt0) (trodAll_cons_mk (Below.trod laidOut (by kernel_rfl) (of_decide_eq_true (by kernel_rfl)) k1 bel lt1) trodAll_mk0)), rfl, bel.frame _, fun h => by cases h⟩

theorem over : Rows.fibPatchedRow.holds Try.pinned (OpenSpec.ofChange Rows.fibPatchedSpec) :=
  OpenClaim.holds_of_wide 3 Try.f3 rfl rfl rfl rfl rfl rfl rfl ⟨rfl, rfl, rfl, rfl, rfl⟩ rfl rfl rfl rfl rfl (by kernel_rfl) Try.func3 (by kernel_rfl)
    (of_decide_eq_true (by kernel_rfl)) (by unfold Func.isWrapper; first | (rw [if_pos (by decide +kernel)]; kernel_rfl) | (rw [if_neg (by decide +kernel)]; exact ⟨rfl, rfl⟩))
    (fun os started H enc _ => lifted os started H enc)
end fibPatched
theorem fpatched_holds : Rows.FibPatchedSaid := fibPatched.over
#print axioms fpatched_holds
end Go.Proofs.Ytklbnnnkogghpaa
