/- What addr.Cmp returns. -/
import Derived.Test.YtmkbijnndbgjgaaAddrBase
import Derived.Deep.RegionHeld3
set_option linter.unusedVariables false
namespace Go.Proofs.Ytmkbijnndbgjgaa.Addr
open Go.RowKit

theorem or_any (a b : Int) (g : Nat) (w : World) (hg : RowAt w g [.int .i64 a, .int .i64 b] 3) : Calls Try.prog 106 #[.slice (some ⟨g, 0, none⟩) 2 2] w fun e w' => e = .returned (.int .i64 (if a = 0 then b else a)) ∧ w' = w := by
  have q0 : w.cell? ⟨g, 0, none⟩ = some (.int .i64 a) := hg.cell 0
  have q1 : w.cell? ⟨g, 1, none⟩ = some (.int .i64 b) := hg.cell 1
  have HR : Hid ((a ≠ 0 → (if a = 0 then b else a) = a) ∧ (a = 0 → (if a = 0 then b else a) = b)) := ⟨fun h => if_neg h, fun h => if_pos h⟩
  generalize (if a = 0 then b else a) = R at HR ⊢
  clear hg
  go_enter Try.func106, Try.ntmps106
  go_wp2
  go_loop [8] (fun i => ∃ k : Nat, k ≤ 2 ∧ i = .int .i64 (k : Int) ∧ (1 ≤ k → a = 0) ∧ (2 ≤ k → b = 0)) (fun i => 2 - (intOf i).toNat)
  case atStart => exact ⟨0, by omega, rfl, by omega, by omega⟩
  case round =>
    obtain ⟨k, hk, rfl, h1, h2⟩ := hrel
    have hk3 : k = 0 ∨ k = 1 ∨ k = 2 := by omega
    rcases hk3 with rfl | rfl | rfl
    · by_cases ha : a = 0
      · subst ha
        go_wp2
        go_round
        case rel => exact ⟨1, by omega, rfl, fun _ => by trivial, by omega⟩
        case measure => simp [intOf]
      · have HV : Hid (R = a) := HR.out.1 ha
        have ha2 : (a != 0) = true := by simpa using ha
        go_wp2
        go_ret
        exact ⟨by rw [HV.out]; rfl, rfl⟩
    · have ha := h1 (by omega)
      have HV : Hid (R = b) := HR.out.2 ha
      have HA : Hid (a = 0) := ha
      clear h1 h2 ha
      by_cases hb : b = 0
      · subst hb
        go_wp2
        go_round
        case rel => exact ⟨2, by omega, rfl, fun _ => HA.out, fun _ => by trivial⟩
        case measure => simp [intOf]
      · have hb2 : (b != 0) = true := by simpa using hb
        go_wp2
        go_ret
        exact ⟨by rw [HV.out]; rfl, rfl⟩
    · have HV : Hid (R = 0) := by show _ = _; rw [HR.out.2 (h1 (by omega)), h2 (by omega)]
      clear h1 h2
      go_wp2
      go_ret
      exact ⟨by rw [HV.out]; rfl, rfl⟩
theorem cmp_lt {n m : Nat} (h : n < m) : cmpN n m = -1 := if_pos h
theorem cmp_eq (n : Nat) : cmpN n n = 0 := by unfold cmpN; rw [if_neg (by omega), if_pos rfl]
theorem cmp_gt {n m : Nat} (h : m < n) : cmpN n m = 1 := by unfold cmpN; rw [if_neg (by omega), if_neg (by omega)]
theorem cmp_parts (n m : Nat) : (if cmpN (hiN n) (hiN m) = 0 then cmpN (loN n) (loN m) else cmpN (hiN n) (hiN m)) = cmpN n m := by
  have e1 := hilo n
  have e2 := hilo m
  have l1 := loN_lt n
  have l2 := loN_lt m
  generalize hiN n = a at *
  generalize hiN m = b at *
  generalize loN n = c at *
  generalize loN m = d at *
  rcases Nat.lt_trichotomy a b with h | rfl | h
  · rw [cmp_lt h, cmp_lt (n := n) (m := m) (by omega)]; rfl
  · rw [cmp_eq, if_pos rfl]
    rcases Nat.lt_trichotomy c d with h | rfl | h
    · rw [cmp_lt h, cmp_lt (n := n) (m := m) (by omega)]
    · rw [e1, e2, cmp_eq, cmp_eq]
    · rw [cmp_gt h, cmp_gt (n := n) (m := m) (by omega)]
  · rw [cmp_gt h, cmp_gt (n := n) (m := m) (by omega)]; rfl
set_option maxHeartbeats 4000000 in
theorem cmp_any (n m : Nat) (w : World) (hn : n < 2 ^ 128) (hm : m < 2 ^ 128) : Calls Try.prog 89 #[adV n, adV m] w fun e w' => e = .returned (.int .i64 (cmpN n m)) ∧ Below w.heap.size w w' := by
  have c1 := fun w => compare_any (hiN n) (hiN m) w (by have := hiN_lt hn; omega) (by have := hiN_lt hm; omega)
  have c2 := fun w => compare_any (loN n) (loN m) w (by have := loN_lt n; omega) (by have := loN_lt m; omega)
  have HR : Hid ((if cmpN (hiN n) (hiN m) = 0 then cmpN (loN n) (loN m) else cmpN (hiN n) (hiN m)) = cmpN n m) := cmp_parts n m
  unfold adV
  generalize cmpN (hiN n) (hiN m) = x at *
  generalize cmpN (loN n) (loN m) = y at *
  generalize cmpN n m = R at HR ⊢
  have c3 := fun g w h => or_any x y g w h
  rw [HR.out] at c3
  clear HR
  generalize hiN n = a at *
  generalize hiN m = b at *
  generalize loN n = c at *
  generalize loN m = d at *
  clear hn hm
  have h3 : RowAt (((w.alloc (.cells #[.int .u64 (a : Int), .int .u64 (c : Int)] 95)).alloc (.cells #[.int .u64 (b : Int), .int .u64 (d : Int)] 95)).alloc (.cells #[.int .i64 x, .int .i64 y] 3)).drew (w.heap.size + 1 + 1) [.int .i64 x, .int .i64 y] 3 := by
    have := RowAt.new ((w.alloc (.cells #[.int .u64 (a : Int), .int .u64 (c : Int)] 95)).alloc (.cells #[.int .u64 (b : Int), .int .u64 (d : Int)] 95)) [.int .i64 x, .int .i64 y] 3
    rw [World.size_alloc, World.size_alloc] at this
    exact this.drew
  have hB : Below w.heap.size w (((w.alloc (.cells #[.int .u64 (a : Int), .int .u64 (c : Int)] 95)).alloc (.cells #[.int .u64 (b : Int), .int .u64 (d : Int)] 95)).alloc (.cells #[.int .i64 x, .int .i64 y] 3)).drew := below_drew (below_new (below_new (below_new (Below.refl _ w) _) _) _)
  go_enter Try.func89, Try.ntmps89
  go_wp2_with fail
  go_region_held3 (fun w' => w'.cell? ⟨w.heap.size, 0, none⟩ = some (.int .u64 (a : Int)) ∧ w'.cell? ⟨w.heap.size, 1, none⟩ = some (.int .u64 (c : Int)) ∧ w'.cell? ⟨w.heap.size + 1, 0, none⟩ = some (.int .u64 (b : Int)) ∧ w'.cell? ⟨w.heap.size + 1, 1, none⟩ = some (.int .u64 (d : Int)))
    (go_keep)
    (first
    | (go_at_call 107; with_reducible refine (c1 _).mono ?_; rintro e w2 ⟨rfl, rfl⟩)
    | (go_at_call 107; with_reducible refine (c2 _).mono ?_; rintro e w2 ⟨rfl, rfl⟩)
    | (go_at_call 106; with_reducible refine (c3 _ _ h3).mono ?_; rintro e w2 ⟨rfl, rfl⟩))
  go_wp2_with fail
  go_ret
  exact ⟨rfl, hB⟩
end Go.Proofs.Ytmkbijnndbgjgaa.Addr
