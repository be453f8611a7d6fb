/- For all events and texts that together hold at most 1048576 values and letters (the second form): spoorlaw13.GramNoise returns true, and changes nothing that was there. -/
import Derived.Test.YtopabkkapbaibaaGramTA
import Derived.Test.YtopabkkapbaibaaRows
import Derived.Test.YtopabkkapbaibaaGramTB
import Derived.ProofKit
import Derived.OpenShut
import Derived.ShutString
import Derived.SizedLaws
import Derived.Deep.RegionHeld
set_option linter.unusedVariables false
namespace Go.Proofs.Ytopabkkapbaibaa.Gram
open Go.RowKit Go.Shelf
open Go.Proofs.Ytopabkkapbaibaa.Ord (HasRow hasRow_nil hasRow_own HasRow.keep HasRow.slice HasRow.at)
open Go.Proofs.Ytopabkkapbaibaa.Msg (Ev evV evC getE zeroE zeroC)
theorem append_gts {W : World} {n₀ k : Nat} {v u : Value} {xs : List Value} {ps : List GtT} (hown : W.ownsRow n₀ 52 13 v k xs) (hsrc : HasGts W u ps) (hb : (k + ps.length) * 104 ≤ 140737488355328) (hn : n₀ ≤ W.heap.size) :
    ∃ v' w3, (∀ ty, (Builtin.append_ #[37, 37] ty #[v, u]).run Try.prog W = .ok v' w3) ∧ w3.ownsRow n₀ 52 13 v' (k + ps.length) (xs ++ gtCs ps) ∧ W.grownBy w3 v.ownBlock := by
  obtain ⟨i0, hi0, hz0, hz1, hz2⟩ := info_parts info_gt
  rcases hsrc.2 with ⟨rfl, h0⟩ | ⟨a, cap, rfl, g1, g2, g3, g4⟩
  · obtain rfl : ps = [] := List.eq_nil_of_length_eq_zero h0
    have := fun ty => run_append_owned_none (P := Try.prog) W n₀ 37 ty 52 i0 13 Try.underlying37 hi0 v k xs hown
    exact ⟨v, W, this, by simpa [gtCs] using hown, World.grownBy.refl _ _⟩
  · have h := run_append_own (P := Try.prog) W n₀ 37 0 52 i0 (.agg #[.int .u8 0, .int .i64 0, .int .u64 0, .int .i64 0, .bool false, .int .u64 0, .int .u64 0, .int .i64 0, .int .u8 0, .int .i64 0, .int .i64 0, .int .i64 0, .int .i64 0]) 13 104 Try.underlying37 hi0 hz0 hz1 hz2 rfl (by decide) v k xs hown a ps.length cap (gtCs ps) hsrc.1
      (fun j x hj => by rw [g4 j (by rw [← hsrc.1]; exact (List.getElem?_eq_some_iff.1 hj).1)]; exact hj)
      (fun x hx => by
        obtain ⟨p, _, h⟩ := List.mem_flatMap.1 hx
        simp only [gtC, evC, List.mem_cons, List.not_mem_nil, or_false, List.mem_append] at h
        rcases h with (rfl | rfl | rfl | rfl | rfl | rfl | rfl | rfl | rfl | rfl | rfl | rfl) | rfl <;> rfl) (by unfold maxLen; omega) hb hn
    obtain ⟨v', w3, hrun, k1, k2, _⟩ := h
    exact ⟨v', w3, fun ty => hrun, k1, k2⟩
end Go.Proofs.Ytopabkkapbaibaa.Gram
namespace Go.Proofs.Ytopabkkapbaibaa
namespace gramNoise
open Go.ChangeShapes Go.WideShapes Go.ChangeAt Go.RowKit
open Go.ChangeMaps (open_string shut_string)
open Go.Proofs.Ytopabkkapbaibaa.Gram
open Go.Proofs.Ytopabkkapbaibaa.Ord (HasEvs HasEvs.keep HasEvs.cell HasRow.slice hasRow_own)
open Go.Proofs.Ytopabkkapbaibaa.Msg (Ev evV evC okE evB checkE FitE bytes_cat zeroE)
open Go.Proofs.Ytopabkkapbaibaa.Addr (hiN loN RowAt below2 below_drew below_new bset)
attribute [-go_sem] Builtin.append_

theorem own : ownKnob Try.prog.godebug = none := by kernel_rfl
theorem laidOut : laidOutB Try.prog = true := by kernel_rfl
set_option maxHeartbeats 4000000 in
set_option maxRecDepth 20000 in
theorem walk_a (v u : Value) (S1 S2 N : ByteArray) (w : World) (y2 : Int)
    (kl : ∀ W : World, Calls Try.prog 9 #[] W fun e w' => e = .returned (.bool true) ∧ Below W.heap.size W w')
    (kS1 : ∀ W : World, Below w.heap.size w W → Calls Try.prog 7 #[v] W fun e w' => e = .returned (.tuple #[.string S1, .int .i64 2]) ∧ Below W.heap.size W w')
    (kS2 : ∀ W : World, Below w.heap.size w W → Calls Try.prog 7 #[u] W fun e w' => e = .returned (.tuple #[.string S2, .int .i64 y2]) ∧ Below W.heap.size W w') :
    Calls Try.prog 6 #[v, u, .string N] w fun e w' => e = .returned (.bool true) ∧ Below w.heap.size w w' := by
  go_enter Try.func6, Try.ntmps6
  go_wp2_with fail
  go_at_call 9; refine (kl _).mono ?_; rintro e w1 ⟨rfl, hb1⟩
  go_wp2_with fail
  go_at_call 7; refine (kS1 _ hb1).mono ?_; rintro e w2 ⟨rfl, hb2⟩
  have hB := below2 hb1 hb2
  go_wp2_with fail
  go_at_call 7; refine (kS2 _ hB).mono ?_; rintro e w3 ⟨rfl, hb3⟩
  replace hB := below2 hB hb3
  go_wp2_with fail
  go_ret
  exact ⟨by first | rfl | simp, hB⟩
set_option maxHeartbeats 4000000 in
set_option maxRecDepth 20000 in
theorem walk_b (v u : Value) (S1 S2 N : ByteArray) (w : World)
    (kl : ∀ W : World, Calls Try.prog 9 #[] W fun e w' => e = .returned (.bool true) ∧ Below W.heap.size W w')
    (kS1 : ∀ W : World, Below w.heap.size w W → Calls Try.prog 7 #[v] W fun e w' => e = .returned (.tuple #[.string S1, .int .i64 0]) ∧ Below W.heap.size W w')
    (kS2 : ∀ W : World, Below w.heap.size w W → Calls Try.prog 7 #[u] W fun e w' => e = .returned (.tuple #[.string S2, .int .i64 2]) ∧ Below W.heap.size W w') :
    Calls Try.prog 6 #[v, u, .string N] w fun e w' => e = .returned (.bool true) ∧ Below w.heap.size w w' := by
  go_enter Try.func6, Try.ntmps6
  go_wp2_with fail
  go_at_call 9; refine (kl _).mono ?_; rintro e w1 ⟨rfl, hb1⟩
  go_wp2_with fail
  go_at_call 7; refine (kS1 _ hb1).mono ?_; rintro e w2 ⟨rfl, hb2⟩
  have hB := below2 hb1 hb2
  go_wp2_with fail
  go_at_call 7; refine (kS2 _ hB).mono ?_; rintro e w3 ⟨rfl, hb3⟩
  replace hB := below2 hB hb3
  go_wp2_with fail
  go_ret
  exact ⟨by first | rfl | simp, hB⟩
set_option maxHeartbeats 4000000 in
set_option maxRecDepth 20000 in
theorem walk_c (v u : Value) (S1 S2 N : ByteArray) (w : World) (hne : N.toList.isEmpty = true)
    (kl : ∀ W : World, Calls Try.prog 9 #[] W fun e w' => e = .returned (.bool true) ∧ Below W.heap.size W w')
    (kS1 : ∀ W : World, Below w.heap.size w W → Calls Try.prog 7 #[v] W fun e w' => e = .returned (.tuple #[.string S1, .int .i64 0]) ∧ Below W.heap.size W w')
    (kS2 : ∀ W : World, Below w.heap.size w W → Calls Try.prog 7 #[u] W fun e w' => e = .returned (.tuple #[.string S2, .int .i64 0]) ∧ Below W.heap.size W w') :
    Calls Try.prog 6 #[v, u, .string N] w fun e w' => e = .returned (.bool true) ∧ Below w.heap.size w w' := by
  go_enter Try.func6, Try.ntmps6
  go_wp2_with fail
  go_at_call 9; refine (kl _).mono ?_; rintro e w1 ⟨rfl, hb1⟩
  go_wp2_with fail
  go_at_call 7; refine (kS1 _ hb1).mono ?_; rintro e w2 ⟨rfl, hb2⟩
  have hB := below2 hb1 hb2
  go_wp2_with fail
  go_at_call 7; refine (kS2 _ hB).mono ?_; rintro e w3 ⟨rfl, hb3⟩
  replace hB := below2 hB hb3
  go_wp2_with fail
  go_ret
  exact ⟨by first | rfl | simp, hB⟩
set_option maxHeartbeats 8000000 in
set_option maxRecDepth 20000 in
theorem walk_ok (n1 n2 : Nat) (o1 o2 : Option Addr) (c1 c2 : Nat) (S1 S2 N : ByteArray) (w : World) (l1 l2 : List GtT) (HN1 : Hid (n1 = l1.length)) (HN2 : Hid (n2 = l2.length))
    (hS : (S1.size : Int) + (N.size : Int) + (S2.size : Int) ≤ 200000000000000) (hn1 : (n1 : Int) ≤ 1048576) (hn2 : (n2 : Int) ≤ 1048576) (hne : N.toList.isEmpty = false)
    (kl : ∀ W : World, Calls Try.prog 9 #[] W fun e w' => e = .returned (.bool true) ∧ Below W.heap.size W w')
    (kS1 : ∀ W : World, Below w.heap.size w W → Calls Try.prog 7 #[.slice o1 n1 c1] W fun e w' => e = .returned (.tuple #[.string S1, .int .i64 0]) ∧ Below W.heap.size W w')
    (kS2 : ∀ W : World, Below w.heap.size w W → Calls Try.prog 7 #[.slice o2 n2 c2] W fun e w' => e = .returned (.tuple #[.string S2, .int .i64 0]) ∧ Below W.heap.size W w')
    (HA : Hid ((∀ k (h : k < N.size), ¬ (N[k]'h).toNat = 245) → ∀ W : World, Calls Try.prog 13 #[.string (S1 ++ N ++ S2)] W fun e w' => ∃ V, e = .returned V ∧ HasGts w' V (l1 ++ (zeroE, 7) :: l2) ∧ Lies W V (n1 + 1 + n2) ∧ Below W.heap.size W w'))
    (kB : ∀ W : World, Calls Try.prog 13 #[.string (S1 ++ S2)] W fun e w' => ∃ V, e = .returned V ∧ HasGts w' V (l1 ++ l2) ∧ Below W.heap.size W w') :
    Calls Try.prog 6 #[.slice o1 n1 c1, .slice o2 n2 c2, .string N] w fun e w' => e = .returned (.bool true) ∧ Below w.heap.size w w' := by
  have kX : ∀ (W : World) (u v : Value), HasGts W u (l1 ++ l2) → HasGts W v (l1 ++ l2) → Calls Try.prog 14 #[u, v] W fun r w' => r = .returned (.bool true) ∧ Below W.heap.size W w' := fun W u v h1 h2 => same13_any _ u v W h1 h2
  have hNi : (N.size : Int) ≤ 200000000000000 := by omega
  have hs12 : (S1.size : Int) + (N.size : Int) ≤ 200000000000000 := by omega
  have hs13 : (S1.size : Int) + (S2.size : Int) ≤ 200000000000000 := by omega
  go_enter Try.func6, Try.ntmps6
  go_wp2_with fail
  go_at_call 9; refine (kl _).mono ?_; rintro e w1 ⟨rfl, hb1⟩
  go_wp2_with fail
  go_at_call 7; refine (kS1 _ hb1).mono ?_; rintro e w2 ⟨rfl, hb2⟩
  have hB := below2 hb1 hb2
  go_wp2_with fail
  go_at_call 7; refine (kS2 _ hB).mono ?_; rintro e w3 ⟨rfl, hb3⟩
  replace hB := below2 hB hb3
  clear kl kS1 kS2 hb1 hb2 hb3
  go_wp2_with fail
  go_loopw [38] (fun i wr => ∃ k : Nat, k ≤ N.size ∧ i = .int .i64 k ∧ Below w.heap.size w wr ∧ Hid (∀ j (h : j < N.size), j < k → ¬ (N[j]'h).toNat = 245)) (fun i _ => N.size - (intOf i).toNat)
  case atStart => exact ⟨0, Nat.zero_le _, rfl, hB, fun j h hj => absurd hj (Nat.not_lt_zero _)⟩
  case round =>
    obtain ⟨k, hk, rfl, hB2, HI⟩ := hrel
    clear hB
    by_cases hlt : k < N.size
    · obtain ⟨b, hb⟩ : ∃ b, b = N[k]'hlt := ⟨_, rfl⟩
      have h0 : ∀ h : k < N.size, N[k]'h = b := fun h => hb.symm
      have HB : Hid (b = N[k]'hlt) := hb
      have hki : (k : Int) < (N.size : Int) := by omega
      clear hb kB kX HA
      by_cases h245 : b.toNat = 245
      · have h245i : ((b.toNat : Nat) : Int) = 245 := by omega
        go_wp2_with fail
        go_ret
        exact ⟨rfl, hB2⟩
      · have h245i : ¬ ((b.toNat : Nat) : Int) = 245 := by omega
        have HN : Hid (¬ b.toNat = 245) := h245
        go_wp2_with fail
        go_roundw
        case rel =>
          refine ⟨k + 1, by omega, by go_num, hB2, fun j h hj => ?_⟩
          by_cases hjk : j = k
          · subst hjk; rw [← HB.out]; exact HN.out
          · exact HI.out j h (by omega)
        case measure => simp [intOf]; omega
    · have kA := HA.out (fun j h => HI.out j h (by omega))
      have hkn : decide ((k : Int) < (N.size : Int)) = false := decide_eq_false (by omega)
      clear HA HI
      go_wp2_with fail
      go_at_call 13; refine (kA _).mono ?_; rintro e w4 ⟨V, rfl, hs, hl, hb4⟩
      replace hB2 := below2 hB2 hb4
      clear kA hb4
      rcases hl with ⟨_, h0⟩ | ⟨g, cap, rfl, hc1, hc2, hg⟩
      · omega
      have HV : Hid (HasGts w4 (.slice (some ⟨g, 0, none⟩) (n1 + 1 + n2) cap) (l1 ++ (zeroE, 7) :: l2)) := hs
      have hlen : n1 < (l1 ++ (zeroE, 7) :: l2).length := by rw [List.length_append, List.length_cons, ← HN1.out]; omega
      have hgk : (l1 ++ ((zeroE, 7) : GtT) :: l2)[n1] = (zeroE, 7) := by
        rw [List.getElem_append_right (by rw [HN1.out]; exact Nat.le_refl _)]
        simp only [HN1.out, Nat.sub_self, List.getElem_cons_zero]
      have hb12 : w4.cell? ⟨g, n1 * 13 + 12, none⟩ = some (.int .i64 7) ∧ g < w4.heap.size := by
        obtain ⟨g2, i2, eg, hgl, q0, q1, q2, q3, q4, q5, q6, q7, q8, q9, q10, q11, b12⟩ := HasGts.cell hs n1 hlen
        injection eg with eg
        injection eg with eg1 eg2
        subst eg1 eg2
        rw [hgk, Nat.zero_add] at b12
        exact ⟨b12, hgl⟩
      obtain ⟨b12, hgl⟩ := hb12
      clear hs hgk hlen
      have hne1 : ((n1 : Int) + 1 + (n2 : Int) != (n1 : Int) + 1 + (n2 : Int)) = false := by simp
      have hlt1 : (n1 : Int) < (n1 : Int) + 1 + (n2 : Int) := by omega
      go_wp2_with fail
      go_at_call 13; refine (kB _).mono ?_; rintro e w5 ⟨V2, rfl, hv2, hb5⟩
      have hB := below2 hB2 hb5
      replace HV : Hid (HasGts w5 (.slice (some ⟨g, 0, none⟩) (n1 + 1 + n2) cap) (l1 ++ (zeroE, 7) :: l2)) := HV.out.keep hb5
      clear hB2 hb5 kB b12 hgl hne1
      have hN12 : n1 + 1 + n2 = (l1 ++ ((zeroE, 7) : GtT) :: l2).length := by rw [List.length_append, List.length_cons, ← HN1.out, ← HN2.out]; omega
      obtain ⟨X, hX⟩ : ∃ X, X = (w5.alloc (.cells #[] 52)).drew := ⟨_, rfl⟩
      have hXs : X.heap.size = w5.heap.size + 1 := by rw [hX]; exact World.size_alloc _ _
      have hBX : Below w5.heap.size w5 X := by rw [hX]; exact below_drew (below_new (Below.refl _ _) _)
      have hoX : X.ownsRow w5.heap.size 52 13 (.slice (some ⟨w5.heap.size, 0, none⟩) 0 0) 0 [] := by rw [hX]; exact (World.ownsRow_lit w5 #[] 0 (Nat.le_refl _) (by decide) rfl).drew
      have hp1 : HasGts X (.slice (some ⟨g, 0, none⟩) n1 cap) l1 := by
        have := gts_part (HV.out.keep hBX) 0 n1 hN12 (by omega) cap (by omega) hc2
        rw [Nat.zero_mul, Nat.zero_add, List.drop_zero, List.take_left' HN1.out.symm] at this
        exact this
      have e12 : n1 + 1 + n2 - (n1 + 1) = n2 := by omega
      have hsi : (n1 : Int) ≤ (cap : Int) := by omega
      have hsi2 : (n1 : Int) + 1 ≤ (n1 : Int) + 1 + (n2 : Int) := by omega
      have hw1 : IntKind.i64.wrap ((n1 : Int) + 1) = (n1 : Int) + 1 := by rw [IntKind.wrap_i64]; omega
      clear hN12
      by_cases hcn : cap = n1 + 1
      · have hn20 : n2 = 0 := by omega
        subst hn20
        have hl20 : l2 = [] := List.eq_nil_of_length_eq_zero HN2.out.symm
        subst hcn
        have hp2s : ∀ W : World, HasGts W (.slice (some ⟨g, 0, none⟩) 0 0) l2 := fun W => by
          rw [hl20]
          exact ⟨rfl, .inr ⟨⟨g, 0, none⟩, _, rfl, Nat.zero_le _, by omega, fun h => absurd h (by decide), fun j hj => absurd hj (by simp)⟩⟩
        clear hl20
        obtain ⟨V6, w6, hrun1, ho1, hg1⟩ := append_gts (n₀ := w5.heap.size) (v := .slice (some ⟨w5.heap.size, 0, none⟩) 0 0) (k := 0) (xs := []) hoX hp1 (by rw [← HN1.out]; omega) (by rw [hXs]; omega)
        rw [Nat.zero_add, List.nil_append] at ho1
        have hB6 : Below w5.heap.size w5 w6 := below_row hBX hBX.size (Nat.le_refl _) hoX hg1
        have hp2 := hp2s w6
        obtain ⟨V7, w7, hrun2, ho2, hg2⟩ := append_gts (n₀ := w5.heap.size) ho1 hp2 (by rw [← HN1.out, ← HN2.out]; omega) hB6.size
        have hB7 : Below w5.heap.size w5 w7 := below_row hB6 hB6.size (Nat.le_refl _) ho1 hg2
        rw [← gtCs_app, ← List.length_append] at ho2
        have hs7 : HasGts w7 V7 (l1 ++ l2) := hasRow_own ho2
        have hv7 : HasGts w7 V2 (l1 ++ l2) := hv2.keep hB7
        have hW := below2 hB hB7
        clear hp1 hp2 ho1 ho2 hg1 hg2 hB6 hB7 hv2 hoX hBX HV hB hXs
        rw [hX] at hrun1
        clear hX
        go_wp2_with fail
        go_region_held (fun _ => True) (trivial) (first
          | (go_at_call 14; with_reducible refine (kX _ _ _ hs7 hv7).mono ?_; rintro e w8 ⟨rfl, hb8⟩))
        all_goals replace hW := below2 hW hb8
        all_goals go_wp2_with fail
        all_goals go_ret
        all_goals exact ⟨rfl, hW⟩

      · have hp2s : ∀ W : World, Below w5.heap.size w5 W → HasGts W (.slice (some ⟨g, (n1 + 1) * 13, none⟩) n2 (cap - (n1 + 1))) l2 := fun W hb => by
          have hN13 : n1 + 1 + n2 = (l1 ++ ((zeroE, 7) : GtT) :: l2).length := by rw [List.length_append, List.length_cons, ← HN1.out, ← HN2.out]; omega
          have := gts_part (HV.out.keep hb) (n1 + 1) n2 hN13 (by omega) (cap - (n1 + 1)) (by omega) (by omega)
          rw [Nat.zero_add] at this
          have e : ((l1 ++ ((zeroE, 7) : GtT) :: l2).drop (n1 + 1)).take n2 = l2 := by
            rw [show l1 ++ ((zeroE, 7) : GtT) :: l2 = (l1 ++ [(zeroE, 7)]) ++ l2 by simp, List.drop_left' (by rw [List.length_append, ← HN1.out]; rfl), HN2.out, List.take_length]
          rw [e] at this
          exact this
        obtain ⟨V6, w6, hrun1, ho1, hg1⟩ := append_gts (n₀ := w5.heap.size) (v := .slice (some ⟨w5.heap.size, 0, none⟩) 0 0) (k := 0) (xs := []) hoX hp1 (by rw [← HN1.out]; omega) (by rw [hXs]; omega)
        rw [Nat.zero_add, List.nil_append] at ho1
        have hB6 : Below w5.heap.size w5 w6 := below_row hBX hBX.size (Nat.le_refl _) hoX hg1
        have hp2 := hp2s w6 hB6
        obtain ⟨V7, w7, hrun2, ho2, hg2⟩ := append_gts (n₀ := w5.heap.size) ho1 hp2 (by rw [← HN1.out, ← HN2.out]; omega) hB6.size
        have hB7 : Below w5.heap.size w5 w7 := below_row hB6 hB6.size (Nat.le_refl _) ho1 hg2
        rw [← gtCs_app, ← List.length_append] at ho2
        have hs7 : HasGts w7 V7 (l1 ++ l2) := hasRow_own ho2
        have hv7 : HasGts w7 V2 (l1 ++ l2) := hv2.keep hB7
        have hW := below2 hB hB7
        clear hp1 hp2 ho1 ho2 hg1 hg2 hB6 hB7 hv2 hoX hBX HV hB hXs
        rw [hX] at hrun1
        clear hX
        go_wp2_with fail
        go_region_held (fun _ => True) (trivial) (first
          | (go_at_call 14; with_reducible refine (kX _ _ _ hs7 hv7).mono ?_; rintro e w8 ⟨rfl, hb8⟩))
        all_goals replace hW := below2 hW hb8
        all_goals go_wp2_with fail
        all_goals go_ret
        all_goals exact ⟨rfl, hW⟩

theorem walk (v : Value) (es : List Ev) (u : Value) (fs : List Ev) (N : ByteArray) (w : World) (b0 : HasEvs w v es) (f0 : ∀ e ∈ es, FitE e) (m0 : es.length ≤ 1048576) (b1 : HasEvs w u fs) (f1 : ∀ e ∈ fs, FitE e) (m1 : fs.length ≤ 1048576) (b2 : N.size ≤ 1048576) :
    Calls Try.prog 6 #[v, u, .string N] w fun e w' => e = .returned (.bool true) ∧ Below w.heap.size w w' := by
  have kS1 : ∀ W : World, Below w.heap.size w W → Calls Try.prog 7 #[v] W fun e w' => e = .returned (.tuple #[strV (streamG [] es).1, .int .i64 (streamG [] es).2]) ∧ Below W.heap.size W w' := fun W hb => stream_any es v W (b0.keep hb) f0 (fun e _ h => (evB_len e h).2) (by omega)
  have kS2 : ∀ W : World, Below w.heap.size w W → Calls Try.prog 7 #[u] W fun e w' => e = .returned (.tuple #[strV (streamG [] fs).1, .int .i64 (streamG [] fs).2]) ∧ Below W.heap.size W w' := fun W hb => stream_any fs u W (b1.keep hb) f1 (fun e _ h => (evB_len e h).2) (by omega)
  by_cases hok : ∀ e ∈ es, okE e = true
  · rw [stream_ok es [] hok, List.nil_append] at kS1
    by_cases hok2 : ∀ e ∈ fs, okE e = true
    · rw [stream_ok fs [] hok2, List.nil_append] at kS2
      cases hne : N.toList.isEmpty with
      | true => exact walk_c v u _ _ N w hne (fun W => lives_any W) kS1 kS2
      | false =>
        obtain ⟨o1, c1, rfl, _, _⟩ := HasRow.slice b0
        obtain ⟨o2, c2, rfl, _, _⟩ := HasRow.slice b1
        have hwl := wraps_len es hok
        have hwl2 := wraps_len fs hok2
        obtain ⟨nl, hnl⟩ : ∃ nl : List UInt8, nl = N.data.toList := ⟨_, rfl⟩
        have hM : N = ⟨nl.toArray⟩ := by rw [hnl]
        have hsz : nl.length = N.size := by rw [hnl, Array.length_toList]; rfl
        have hnn : nl ≠ [] := by
          intro h
          rw [h] at hM
          rw [hM] at hne
          simp [ByteArray.toList_eq] at hne
        subst hM
        clear hnl
        have q1 : (piecesL (wraps es ++ wraps fs)).map gotG = es.map (fun e => ((e, 0) : GtT)) ++ fs.map (fun e => ((e, 0) : GtT)) := by
          have h2 := gots_wraps fs [] hok2
          rw [List.append_nil] at h2
          rw [gots_wraps es _ hok, h2]; simp [pieces_nil]
        refine walk_ok es.length fs.length o1 o2 c1 c2 ⟨(wraps es).toArray⟩ ⟨(wraps fs).toArray⟩ ⟨nl.toArray⟩ w (es.map (fun e => ((e, 0) : GtT))) (fs.map (fun e => ((e, 0) : GtT))) (by show _ = _; rw [List.length_map]) (by show _ = _; rw [List.length_map]) ?_ (by omega) (by omega) hne (fun W => lives_any W) kS1 kS2 (fun hno W => ?_) (fun W => ?_)
        · simp only [ByteArray.size, List.size_toArray] at b2 ⊢; omega
        · have hno2 : ∀ b ∈ nl, b ≠ 245 := fun b hb hc => by
            obtain ⟨i, hi, e⟩ := List.getElem_of_mem hb
            have h3 := hno i (by simp [ByteArray.size]; exact hi)
            apply h3
            have : (⟨nl.toArray⟩ : ByteArray)[i]'(by simp [ByteArray.size]; exact hi) = nl[i] := rfl
            rw [this, e, hc]
            rfl
          have h1 := pieces_le ((wraps es ++ nl) ++ wraps fs)
          rw [List.length_append, List.length_append] at h1
          have := gotsR_any ((wraps es ++ nl) ++ wraps fs) W (by rw [List.length_append, List.length_append]; omega) (by omega)
          have q2 : (piecesL ((wraps es ++ nl) ++ wraps fs)).map gotG = es.map (fun e => ((e, 0) : GtT)) ++ ((zeroE, 7) : GtT) :: fs.map (fun e => ((e, 0) : GtT)) := by
            have h2 := gots_wraps fs [] hok2
            rw [List.append_nil] at h2
            rw [List.append_assoc, gots_wraps es _ hok, pieces_noise nl _ hnn hno2 (wraps_head fs), List.map_cons, h2, got_bad]; simp [pieces_nil]
          rw [q2] at this
          rw [← bytes_cat, ← bytes_cat] at this
          rw [List.length_append, List.length_cons, List.length_map, List.length_map, show es.length + (fs.length + 1) = es.length + 1 + fs.length by omega] at this
          exact this
        · have h1 := pieces_le (wraps es ++ wraps fs)
          rw [List.length_append] at h1
          have := gotsR_any (wraps es ++ wraps fs) W (by rw [List.length_append]; omega) (by omega)
          rw [q1] at this
          rw [← bytes_cat] at this
          refine this.mono ?_
          rintro e w' ⟨V, rfl, h2, _, h3⟩
          exact ⟨V, rfl, h2, h3⟩
    · rw [stream_no fs [] hok2] at kS2
      exact walk_b v u _ _ N w (fun W => lives_any W) kS1 kS2
  · rw [stream_no es [] hok] at kS1
    exact walk_a v u _ _ N w _ (fun W => lives_any W) kS1 kS2

set_option maxRecDepth 100000 in
theorem contract (H : Type) (enc : TypeId × Value → H) (W : World) (base : Nat) (args : Array Value) (ds gs : List (DataW H)) (before : List MemPlace)
    (hval0 : ∀ (j : Nat) t v, Try.f6.params[j]? = some t → args[j]? = some v → Value.okWide Try.prog W .any base t v)
    (hW : DataW.Whole enc Try.prog Try.f6.params.toList Rows.gramNoiseSpec.vars false W args.toList ds gs before) (hk : Rows.uptoSmall H (ds ++ gs) = true)
    (hsz0 : (DataW.weightsEach Try.prog (Try.f6.params.toList ++ Rows.gramNoiseSpec.plain.varTypes Try.prog) (ds ++ gs)).all (· ≤ reachBytes) = true) :
    Calls Try.prog 6 args W fun e W' => ∃ v, e = .returned v ∧ Rows.gramNoiseSpec.post enc Try.prog Try.f6 false true false false W args v W' := by
  have hsz : (DataW.weightsEach Try.prog (Try.f6.params.toList ++ Rows.gramNoiseSpec.plain.varTypes Try.prog) (ds ++ gs)).all (· ≤ reachBytes) = true := hsz0
  clear hsz0
  have hval : ∀ (j : Nat) t v, Try.f6.params[j]? = some t → args[j]? = some v → Value.okWide Try.prog W .any base t v := hval0
  have hW' := hW
  obtain ⟨p, q, hA0, hV, rfl, hfz, hnd⟩ := hW
  have hA : DataW.TrodAll enc Try.prog W 0 (fun _ => true) true Try.f6.params.toList args.toList ds p := hA0
  rw [Try.params6] at hA hval hsz
  obtain ⟨v0, vs0, d0, ds0, p0, q0, hargs, rfl, rfl, h0, r0⟩ := trodAll_cons hA
  obtain ⟨v1, vs1, d1, ds1, p1, q1, rfl, rfl, rfl, h1, r1⟩ := trodAll_cons r0
  obtain ⟨v2, vs2, d2, ds2, p2, q2, rfl, rfl, rfl, h2, r2⟩ := trodAll_cons r1
  obtain ⟨rfl, rfl, rfl⟩ := trodAll_nil r2
  obtain rfl : args = #[v0, v1, v2] := by cases args; simp_all
  obtain ⟨rfl, rfl⟩ := trodVars_none hV
  obtain ⟨a0, len0, cap0, rfl⟩ := okWide_slice Try.underlying22 (hval 0 22 v0 rfl rfl)
  have k0 := h0
  have lt0 : ∀ x ∈ p0, x.block < W.heap.size := by obtain ⟨m, hm⟩ := k0; exact DataW.trod_lt m _ _ _ hm
  have n0 : len0 ≤ 1048576 := by
    obtain ⟨fuel, hf⟩ := k0
    rcases Go.Deep.open_slice Try.underlying22 hf with ⟨hcs, _⟩ | ⟨x, l, c, m, n, D, Pl, hcs, _, _, _, _, hx, _⟩
    · simp [Value.cells] at hcs
      omega
    · simp [Value.cells] at hcs
      obtain ⟨rfl, rfl, rfl⟩ := hcs
      have := bulk_row hk (j := 0) (congrArg some (Prod.mk.inj hx).1)
      simpa using this
  obtain ⟨fuel0, hf0⟩ := h0
  obtain ⟨z0, b0, f0⟩ := Ord.open_events hf0
  have m0 : z0.length ≤ 1048576 := by
    obtain ⟨_, _, e, _⟩ := Ord.HasRow.slice b0
    injection e with _ e _
    omega
  obtain ⟨a1, len1, cap1, rfl⟩ := okWide_slice Try.underlying22 (hval 1 22 v1 rfl rfl)
  have k1 := h1
  have lt1 : ∀ x ∈ p1, x.block < W.heap.size := by obtain ⟨m, hm⟩ := k1; exact DataW.trod_lt m _ _ _ hm
  have n1 : len1 ≤ 1048576 := by
    obtain ⟨fuel, hf⟩ := k1
    rcases Go.Deep.open_slice Try.underlying22 hf with ⟨hcs, _⟩ | ⟨x, l, c, m, n, D, Pl, hcs, _, _, _, _, hx, _⟩
    · simp [Value.cells] at hcs
      omega
    · simp [Value.cells] at hcs
      obtain ⟨rfl, rfl, rfl⟩ := hcs
      have := bulk_row hk (j := 1) (congrArg some (Prod.mk.inj hx).1)
      simpa using this
  obtain ⟨fuel1, hf1⟩ := h1
  obtain ⟨z1, b1, f1⟩ := Ord.open_events hf1
  have m1 : z1.length ≤ 1048576 := by
    obtain ⟨_, _, e, _⟩ := Ord.HasRow.slice b1
    injection e with _ e _
    omega
  obtain ⟨a2, rfl, rfl, rfl, w2⟩ := open_string Try.underlying9 (hval 2 9 v2 rfl rfl) h2
  have b2 : a2.size ≤ 1048576 := bulk_str hk (j := 2) rfl
  clear hA0 hval0
  refine (walk (.slice a0 len0 cap0) z0 (.slice a1 len1 cap1) z1 a2 W b0 f0 m0 b1 f1 m1 b2).mono fun e W' ⟨he, bel⟩ => ?_
  subst he
  exact ⟨_, rfl, _, _, _, [], _, [], hW', trodAll_mk1 (shut_bool Try.underlying4 _), (trodAll_cons_mk (Below.trod laidOut (by kernel_rfl) (of_decide_eq_true (by kernel_rfl)) k0 bel lt0) (trodAll_cons_mk (Below.trod laidOut (by kernel_rfl) (of_decide_eq_true (by kernel_rfl)) k1 bel lt1) (trodAll_cons_mk (shut_string Try.underlying9 w2) trodAll_mk0))), rfl, bel.frame _, fun h => by cases h⟩
set_option maxRecDepth 100000 in
theorem lifted (os : Os) (started : os.Started) (H : Type) (enc : TypeId × Value → H) (F : Stop.Interp) :
    ReturnsInHanded {} Try.checked os 6 .any ((Rows.OpenSpec.upto Rows.gramNoiseSpec).pre6 enc Try.prog Try.f6 Rows.gramNoiseUptoRow.domain false) (((Rows.OpenSpec.upto Rows.gramNoiseSpec).at F).post enc Try.prog Try.f6 false true false false) := by
  refine returnsInHanded_of_cond_sized (C := Try.checked) (s := Rows.OpenSpec.upto Rows.gramNoiseSpec) (k := Rows.uptoSmall) rfl own started (by kernel_rfl) Try.func6
    (OpenSpec.witness (enc := enc) (C := Try.checked) (s := Rows.OpenSpec.upto Rows.gramNoiseSpec) (k := Rows.uptoSmall) rfl false ⟨#[], #[.slice none 0 0, .slice none 0 0, .string ByteArray.empty], []⟩ 8 (by kernel_rfl) (by kernel_rfl) (by kernel_rfl)
      (x := ([.nil, .nil, .lit (.string [])], [], [])) (by kernel_rfl) rfl (by kernel_rfl)) ?_
  intro W base args ds gs before hval hW _ hk hsz _
  exact contract H enc W base args ds gs before hval hW hk hsz

theorem over : Rows.gramNoiseUptoRow.holds Try.pinned (Rows.OpenSpec.upto Rows.gramNoiseSpec) :=
  OpenClaim.holds_of_cond 6 Try.f6 rfl rfl rfl rfl rfl rfl rfl ⟨rfl, rfl, rfl, rfl, rfl⟩ rfl rfl rfl rfl rfl (by kernel_rfl) Try.func6 (by kernel_rfl)
    (of_decide_eq_true (by kernel_rfl)) (by unfold Func.isWrapper; first | (rw [if_pos (by decide +kernel)]; kernel_rfl) | (rw [if_neg (by decide +kernel)]; exact ⟨rfl, rfl⟩))
    (fun os started H enc _ F => lifted os started H enc F)
end gramNoise
theorem gnoise_holds : Rows.GramNoiseUptoSaid := gramNoise.over
#print axioms gnoise_holds
end Go.Proofs.Ytopabkkapbaibaa
