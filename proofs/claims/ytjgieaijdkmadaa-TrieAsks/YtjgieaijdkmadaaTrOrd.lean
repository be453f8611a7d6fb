/- How two prefixes stand: trie.order. -/
import Derived.Test.YtjgieaijdkmadaaTrBase
import Derived.Test.YtjgieaijdkmadaaAddrCmp
set_option linter.unusedVariables false
namespace Go.Proofs.Ytjgieaijdkmadaa.Tr
open Go.RowKit
open Go.Proofs.Ytjgieaijdkmadaa.Addr (Pf cmpN hiN loN adV pfV cmp_any RowAt below2 below_drew below_new bset RowAt.lt RowAt.cell RowAt.frozen RowAt.below RowAt.drew RowAt.new RowAt.alloc cells2 cells4)
theorem kind_any (six : Bool) (w : World) : Calls Try.prog 68 #[.bool six] w fun e w' => e = .returned (.int .i64 (kindN six : Int)) ∧ w' = w := by
  cases six
  · go_enter Try.func68, Try.ntmps68
    go_wp2
    go_ret
    exact ⟨rfl, rfl⟩
  · go_enter Try.func68, Try.ntmps68
    go_wp2
    go_ret
    exact ⟨rfl, rfl⟩
theorem isNaN_any (a : Int) (w : World) : Calls Try.prog 84 #[.int .i64 a] w fun e w' => e = .returned (.bool false) ∧ w' = w := by
  go_enter Try.func84, Try.ntmps84
  go_wp2
  go_ret
  exact ⟨rfl, rfl⟩
theorem compareI_any (a b : Int) (w : World) : Calls Try.prog 67 #[.int .i64 a, .int .i64 b] w fun e w' => e = .returned (.int .i64 (cmpI a b)) ∧ w' = w := by
  have ci := fun a w => isNaN_any a w
  rcases Int.lt_trichotomy a b with h | h | h
  · have hR : cmpI a b = -1 := if_pos h
    rw [hR]
    go_enter Try.func67, Try.ntmps67
    go_wp2_with (go_at_call 84; refine (ci _ _).mono ?_; rintro e w2 ⟨rfl, rfl⟩)
    go_ret
    exact ⟨rfl, rfl⟩
  · have hR : cmpI a b = 0 := by unfold cmpI; rw [if_neg (by omega), if_pos h]
    rw [hR]
    subst h
    have h1 : decide (a < a) = false := decide_eq_false (by omega)
    go_enter Try.func67, Try.ntmps67
    go_wp2_with (go_at_call 84; refine (ci _ _).mono ?_; rintro e w2 ⟨rfl, rfl⟩)
    go_ret
    exact ⟨rfl, rfl⟩
  · have hR : cmpI a b = 1 := by unfold cmpI; rw [if_neg (by omega), if_neg (by omega)]
    rw [hR]
    have h1 : decide (a < b) = false := decide_eq_false (by omega)
    go_enter Try.func67, Try.ntmps67
    go_wp2_with (go_at_call 84; refine (ci _ _).mono ?_; rintro e w2 ⟨rfl, rfl⟩)
    go_ret
    exact ⟨rfl, rfl⟩
def or3 (a b c : Int) : Int := if a = 0 then (if b = 0 then c else b) else a
set_option maxHeartbeats 1000000 in
theorem or3_any (a b c : Int) (g : Nat) (w : World) (hg : RowAt w g [.int .i64 a, .int .i64 b, .int .i64 c] 3) : Calls Try.prog 55 #[.slice (some ⟨g, 0, none⟩) 3 3] w fun e w' => e = .returned (.int .i64 (or3 a b c)) ∧ w' = w := by
  have q0 : w.cell? ⟨g, 0, none⟩ = some (.int .i64 a) := hg.cell 0
  have q1 : w.cell? ⟨g, 1, none⟩ = some (.int .i64 b) := hg.cell 1
  have q2 : w.cell? ⟨g, 2, none⟩ = some (.int .i64 c) := hg.cell 2
  have HR : Hid (or3 a b c = if a = 0 then (if b = 0 then c else b) else a) := rfl
  generalize or3 a b c = R at HR ⊢
  clear hg
  go_enter Try.func55, Try.ntmps55
  go_wp2
  go_loop [8] (fun i => ∃ k : Nat, k ≤ 3 ∧ i = .int .i64 (k : Int) ∧ (1 ≤ k → a = 0) ∧ (2 ≤ k → b = 0) ∧ (3 ≤ k → c = 0)) (fun i => 3 - (Go.RowKit.intOf i).toNat)
  case atStart => exact ⟨0, by omega, rfl, by omega, by omega, by omega⟩
  case round =>
    obtain ⟨k, hk, rfl, h1, h2, h3⟩ := hrel
    have hk3 : k = 0 ∨ k = 1 ∨ k = 2 ∨ k = 3 := by omega
    rcases hk3 with rfl | rfl | rfl | rfl
    · by_cases ha : a = 0
      · subst ha
        go_wp2
        go_round
        case rel => exact ⟨1, by omega, rfl, fun _ => by trivial, by omega, by omega⟩
        case measure => simp [Go.RowKit.intOf]
      · have HV : Hid (R = a) := by show _ = _; rw [HR.out, if_neg ha]
        have ha2 : (a != 0) = true := by simpa using ha
        go_wp2
        go_ret
        exact ⟨by rw [HV.out]; rfl, rfl⟩
    · have ha := h1 (by omega)
      have HA : Hid (a = 0) := ha
      have HV : Hid (b ≠ 0 → R = b) := fun h => by rw [HR.out, if_pos HA.out, if_neg h]
      clear h1 h2 h3 ha HR
      by_cases hb : b = 0
      · subst hb
        go_wp2
        go_round
        case rel => exact ⟨2, by omega, rfl, fun _ => HA.out, fun _ => by trivial, by omega⟩
        case measure => simp [Go.RowKit.intOf]
      · have hV := HV.out hb
        have HV2 : Hid (R = b) := hV
        have hb2 : (b != 0) = true := by simpa using hb
        clear hV
        go_wp2
        go_ret
        exact ⟨by rw [HV2.out]; rfl, rfl⟩
    · have HA : Hid (a = 0 ∧ b = 0) := ⟨h1 (by omega), h2 (by omega)⟩
      have HV : Hid (R = c) := by show _ = _; rw [HR.out, if_pos HA.out.1, if_pos HA.out.2]
      clear h1 h2 h3 HR
      by_cases hb : c = 0
      · subst hb
        go_wp2
        go_round
        case rel => exact ⟨3, by omega, rfl, fun _ => HA.out.1, fun _ => HA.out.2, fun _ => by trivial⟩
        case measure => simp [Go.RowKit.intOf]
      · have hb2 : (c != 0) = true := by simpa using hb
        go_wp2
        go_ret
        exact ⟨by rw [HV.out]; rfl, rfl⟩
    · have HV : Hid (R = 0) := by show _ = _; rw [HR.out, if_pos (h1 (by omega)), if_pos (h2 (by omega)), h3 (by omega)]
      clear h1 h2 h3
      go_wp2
      go_ret
      exact ⟨by rw [HV.out]; rfl, rfl⟩
theorem kind_cmp (a b : Bool) : cmpI (kindN a : Int) (kindN b : Int) = cmpN (kindN a) (kindN b) := by
  cases a <;> cases b <;> rfl
theorem ord_or3 (p q : Pf) : or3 (cmpI (kindN p.six : Int) (kindN q.six : Int)) (cmpN p.n q.n) (cmpI p.len q.len) = ordP p q := by
  rw [kind_cmp]
  rfl
set_option maxHeartbeats 8000000 in
set_option maxRecDepth 20000 in
theorem order_any (p q : Pf) (w : World) (hp : FitP p) (hq : FitP q) : Calls Try.prog 40 #[pfV p, pfV q] w fun e w' => e = .returned (.int .i64 (ordP p q)) ∧ Below w.heap.size w w' := by
  have c1 := fun W => kind_any p.six W
  have c2 := fun W => kind_any q.six W
  have c3 := fun W => compareI_any (kindN p.six : Int) (kindN q.six : Int) W
  have c4 := fun W => cmp_any p.n q.n W hp.2 hq.2
  have c5 := fun W => compareI_any p.len q.len W
  have c6 := fun g W h => or3_any (cmpI (kindN p.six : Int) (kindN q.six : Int)) (cmpN p.n q.n) (cmpI p.len q.len) g W h
  rw [ord_or3] at c6
  unfold adV at c4
  unfold pfV
  obtain ⟨X, hX⟩ : ∃ X, X = (w.alloc (.cells #[.bool p.six, .int .u64 (hiN p.n : Int), .int .u64 (loN p.n : Int), .int .i64 p.len] 27)).alloc (.cells #[.bool q.six, .int .u64 (hiN q.n : Int), .int .u64 (loN q.n : Int), .int .i64 q.len] 27) := ⟨_, rfl⟩
  have hB : Below w.heap.size w X := by rw [hX]; exact below_new (below_new (Below.refl _ _) _) _
  have r0 : RowAt X w.heap.size [.bool p.six, .int .u64 (hiN p.n : Int), .int .u64 (loN p.n : Int), .int .i64 p.len] 27 := by rw [hX]; exact (RowAt.new _ _ _).alloc _
  have r1 : RowAt X (w.heap.size + 1) [.bool q.six, .int .u64 (hiN q.n : Int), .int .u64 (loN q.n : Int), .int .i64 q.len] 27 := by rw [hX, ← World.size_alloc w (.cells #[.bool p.six, .int .u64 (hiN p.n : Int), .int .u64 (loN p.n : Int), .int .i64 p.len] 27)]; exact RowAt.new _ _ _
  generalize ordP p q = R at *
  generalize cmpI (kindN p.six : Int) (kindN q.six : Int) = x at *
  generalize cmpN p.n q.n = y at *
  generalize cmpI p.len q.len = z at *
  generalize (kindN p.six : Int) = kp at *
  generalize (kindN q.six : Int) = kq at *
  generalize p.six = ps at *
  generalize q.six = qs at *
  generalize (hiN p.n : Int) = ph at *
  generalize (loN p.n : Int) = pl at *
  generalize (hiN q.n : Int) = qh at *
  generalize (loN q.n : Int) = ql at *
  generalize p.len = pe at *
  generalize q.len = qe at *
  clear hp hq
  have HSK : Hid (∀ W : World, Below X.heap.size X W → (W.cell? ⟨w.heap.size, 0, none⟩ = some (.bool ps) ∧ W.cell? ⟨w.heap.size, 1, none⟩ = some (.int .u64 ph) ∧ W.cell? ⟨w.heap.size, 2, none⟩ = some (.int .u64 pl) ∧ W.cell? ⟨w.heap.size, 3, none⟩ = some (.int .i64 pe)) ∧ W.cell? ⟨w.heap.size + 1, 0, none⟩ = some (.bool qs) ∧ W.cell? ⟨w.heap.size + 1, 1, none⟩ = some (.int .u64 qh) ∧ W.cell? ⟨w.heap.size + 1, 2, none⟩ = some (.int .u64 ql) ∧ W.cell? ⟨w.heap.size + 1, 3, none⟩ = some (.int .i64 qe)) := fun W hb => by
    have a := RowAt.below r0 hb
    have b := RowAt.below r1 hb
    exact ⟨⟨a.cell 0, a.cell 1, a.cell 2, a.cell 3⟩, b.cell 0, b.cell 1, b.cell 2, b.cell 3⟩
  have hbA : Below X.heap.size X X := Below.refl _ _
  go_enter Try.func40, Try.ntmps40
  go_upto_region 1 with fail
  rw [← hX]
  clear hX r0 r1
  go_region_held3 (fun W => (W.cell? ⟨w.heap.size, 0, none⟩ = some (.bool ps) ∧ W.cell? ⟨w.heap.size, 1, none⟩ = some (.int .u64 ph) ∧ W.cell? ⟨w.heap.size, 2, none⟩ = some (.int .u64 pl) ∧ W.cell? ⟨w.heap.size, 3, none⟩ = some (.int .i64 pe)) ∧ W.cell? ⟨w.heap.size + 1, 0, none⟩ = some (.bool qs) ∧ W.cell? ⟨w.heap.size + 1, 1, none⟩ = some (.int .u64 qh) ∧ W.cell? ⟨w.heap.size + 1, 2, none⟩ = some (.int .u64 ql) ∧ W.cell? ⟨w.heap.size + 1, 3, none⟩ = some (.int .i64 qe))
    (first
      | (refine HSK.out _ ?_
         repeat' (first | with_reducible exact hbA | with_reducible apply below_drew | with_reducible apply below_new)))
    (first
      | (go_at_call 68; with_reducible refine (c1 _).mono ?_; rintro e w2 ⟨rfl, rfl⟩)
      | (go_at_call 68; with_reducible refine (c2 _).mono ?_; rintro e w2 ⟨rfl, rfl⟩)
      | (go_at_call 67; with_reducible refine (c3 _).mono ?_; rintro e w2 ⟨rfl, rfl⟩)
      | (go_at_call 67; with_reducible refine (c5 _).mono ?_; rintro e w2 ⟨rfl, rfl⟩)
      | (go_at_call 27; with_reducible refine (c4 _).mono ?_; rintro e w2 ⟨rfl, hb2⟩
         have hbN : Below X.heap.size X w2 := below2 (by repeat' (first | with_reducible exact hbA | with_reducible apply below_drew)) hb2
         clear hbA
         have hbA := hbN
         clear hbN hb2)
      | (go_at_call 55; refine (c6 _ _ (by first | exact RowAt.new _ _ _ | exact (RowAt.new _ _ _).drew)).mono ?_; rintro e w3 ⟨rfl, rfl⟩
         have hbN := below_new hbA (.cells #[.int .i64 x, .int .i64 y, .int .i64 z] 3)))
  go_wp2_with fail
  go_ret
  exact ⟨rfl, below2 hB hbN⟩
end Go.Proofs.Ytjgieaijdkmadaa.Tr
