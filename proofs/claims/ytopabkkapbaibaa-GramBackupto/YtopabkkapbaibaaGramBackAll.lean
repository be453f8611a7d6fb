/- For all events and texts that together hold at most 1048576 values and letters (the second form): spoorlaw13.GramBack returns true, and changes nothing that was there. -/
import Derived.Test.YtopabkkapbaibaaRows
import Derived.Test.YtopabkkapbaibaaGramTA
import Derived.Test.YtopabkkapbaibaaGramTB
import Derived.Test.YtopabkkapbaibaaMsgEq
import Derived.ProofKit
import Derived.OpenShut
import Derived.ShutString
import Derived.SizedLaws
import Derived.Deep.RegionHeld
set_option linter.unusedVariables false
namespace Go.Proofs.Ytopabkkapbaibaa
namespace gramBack
open Go.ChangeShapes Go.WideShapes Go.ChangeAt Go.RowKit
open Go.ChangeMaps (open_string shut_string)
open Go.Proofs.Ytopabkkapbaibaa.Gram
open Go.Proofs.Ytopabkkapbaibaa.Ord (HasEvs HasEvs.keep HasEvs.cell HasRow.slice)
open Go.Proofs.Ytopabkkapbaibaa.Msg (Ev evV evC okE evB checkE FitE bytes_cat cells12' zeroE)
open Go.Proofs.Ytopabkkapbaibaa.Addr (hiN loN RowAt below2 below_drew below_new bset RowAt.lt RowAt.cell RowAt.frozen RowAt.below RowAt.drew RowAt.new RowAt.alloc cells2 cells4)
attribute [-go_sem] Builtin.append_

theorem own : ownKnob Try.prog.godebug = none := by kernel_rfl
theorem laidOut : laidOutB Try.prog = true := by kernel_rfl
theorem ev_neqS (x0 x1 x2 x3 : Int) (x4 : Bool) (x5 x6 x7 x8 x9 x10 x11 : Int) (w : World) : (binOp .neq 50 (.agg #[.int .u8 x0, .int .i64 x1, .int .u64 x2, .int .i64 x3, .bool x4, .int .u64 x5, .int .u64 x6, .int .i64 x7, .int .u8 x8, .int .i64 x9, .int .i64 x10, .int .i64 x11]) (.agg #[.int .u8 x0, .int .i64 x1, .int .u64 x2, .int .i64 x3, .bool x4, .int .u64 x5, .int .u64 x6, .int .i64 x7, .int .u8 x8, .int .i64 x9, .int .i64 x10, .int .i64 x11])).run Try.prog w = .ok (.bool false) w := by
  rw [run_neq_struct]
  have h := ev_inS x0 x1 x2 x3 x4 x5 x6 x7 x8 x9 x10 x11 w 9996
  rw [show (9996 + 4 : Nat) = 10000 from rfl] at h
  rw [h]
  rfl
set_option maxHeartbeats 4000000 in
set_option maxRecDepth 20000 in
theorem walk_no (v : Value) (M : ByteArray) (w : World)
    (kl : ∀ W : World, Calls Try.prog 9 #[] W fun e w' => e = .returned (.bool true) ∧ Below W.heap.size W w')
    (kS : ∀ W : World, Below w.heap.size w W → Calls Try.prog 7 #[v] W fun e w' => e = .returned (.tuple #[.string ⟨#[]⟩, .int .i64 2]) ∧ Below W.heap.size W w') :
    Calls Try.prog 5 #[v, .string M] w fun e w' => e = .returned (.bool true) ∧ Below w.heap.size w w' := by
  go_enter Try.func5, Try.ntmps5
  go_wp2_with fail
  go_at_call 9; refine (kl _).mono ?_; rintro e w1 ⟨rfl, hb1⟩
  go_wp2_with fail
  go_at_call 7; refine (kS _ hb1).mono ?_; rintro e w2 ⟨rfl, hb2⟩
  go_wp2_with fail
  go_ret
  exact ⟨by first | rfl | simp, below2 hb1 hb2⟩
set_option maxHeartbeats 8000000 in
set_option maxRecDepth 20000 in
theorem walk_ok (n m : Nat) (o : Option Addr) (c : Nat) (S M : ByteArray) (w : World) (es : List Ev) (gm : List GtT) (HN : Hid (n = es.length)) (HM : Hid (m = gm.length))
    (hS : (S.size : Int) + (M.size : Int) ≤ 200000000000000) (hn : (n : Int) ≤ 1048576) (hm : (m : Int) ≤ 200000000)
    (HE : Hid (∀ W : World, Below w.heap.size w W → HasEvs W (.slice o n c) es))
    (kl : ∀ W : World, Calls Try.prog 9 #[] W fun e w' => e = .returned (.bool true) ∧ Below W.heap.size W w')
    (kS : ∀ W : World, Below w.heap.size w W → Calls Try.prog 7 #[.slice o n c] W fun e w' => e = .returned (.tuple #[.string S, .int .i64 0]) ∧ Below W.heap.size W w')
    (kA : ∀ W : World, Calls Try.prog 13 #[.string (S ++ M)] W fun e w' => ∃ V, e = .returned V ∧ HasGts w' V (es.map (fun e => ((e, 0) : GtT)) ++ gm) ∧ Lies W V (n + m) ∧ Below W.heap.size W w')
    (kB : ∀ W : World, Calls Try.prog 13 #[.string S] W fun e w' => ∃ o4 c4, e = .returned (.slice o4 n c4) ∧ Below W.heap.size W w')
    (kC : ∀ W : World, Calls Try.prog 13 #[.string M] W fun e w' => ∃ V, e = .returned V ∧ HasGts w' V gm ∧ Below W.heap.size W w') :
    Calls Try.prog 5 #[.slice o n c, .string M] w fun e w' => e = .returned (.bool true) ∧ Below w.heap.size w w' := by
  have kX : ∀ (W : World) (u v : Value), HasGts W u gm → HasGts W v gm → Calls Try.prog 14 #[u, v] W fun r w' => r = .returned (.bool true) ∧ Below W.heap.size W w' := fun W u v h1 h2 => same13_any _ u v W h1 h2
  have hneq := ev_neqS
  have hgd := Msg.ev_guard
  have hlt1 : decide ((n : Int) + (m : Int) < (n : Int)) = false := decide_eq_false (by omega)
  have hnn : ((n : Int) != (n : Int)) = false := by simp
  go_enter Try.func5, Try.ntmps5
  go_wp2_with fail
  go_at_call 9; refine (kl _).mono ?_; rintro e w1 ⟨rfl, hb1⟩
  go_wp2_with fail
  go_at_call 7; refine (kS _ hb1).mono ?_; rintro e w2 ⟨rfl, hb2⟩
  have hB := below2 hb1 hb2
  clear hb1 hb2 kl kS
  go_wp2_with fail
  go_at_call 13; refine (kA _).mono ?_; rintro e w3 ⟨V, rfl, hs, hl, hb3⟩
  replace hB := below2 hB hb3
  have HS : Hid (HasGts w3 V (es.map (fun e => ((e, 0) : GtT)) ++ gm)) := hs
  clear hs hb3 kA
  rcases hl with ⟨rfl, h0⟩ | ⟨g, cap, rfl, hc1, hc2, hg⟩
  · have hn0 : n = 0 := by omega
    have hm0 : m = 0 := by omega
    subst hn0 hm0
    have hgm : gm = [] := List.eq_nil_of_length_eq_zero HM.out.symm
    subst hgm
    have hnil : ∀ W : World, HasGts W (.slice none 0 0) [] := fun W => Ord.hasRow_nil W 13
    go_wp2_with fail
    go_region_held (fun _ => True) (trivial) (first
      | (go_at_call 13; with_reducible refine (kB _).mono ?_; rintro e w4 ⟨o4, c4, rfl, hb4⟩)
      | (go_at_call 13; with_reducible refine (kC _).mono ?_; rintro e w5 ⟨V5, rfl, hs5, hb5⟩)
      | (go_at_call 14; with_reducible refine (kX _ _ _ (hnil _) hs5).mono ?_; rintro e w6 ⟨rfl, hb6⟩))
    all_goals replace hB := below2 (below2 (below2 (below_drew hB) hb4) hb5) hb6
    all_goals clear kB kC kX hb4 hb5 hb6 hs5
    all_goals go_wp2_with fail
    all_goals (
      go_loopw [54] (fun i wr => i = .int .i64 0 ∧ Below w.heap.size w wr) (fun _ _ => 0)
      case atStart => exact ⟨rfl, hB⟩
      case round =>
        obtain ⟨rfl, hB2⟩ := hrel
        go_wp2_with fail
        go_ret
        exact ⟨rfl, hB2⟩)
  · go_wp2_with fail
    have hnm : n + m - n = m := by omega
    have hcn2 : n + m ≤ cap := hc1
    by_cases hcn : cap = n
    · have hm0 : m = 0 := by omega
      subst hm0
      have hgm : gm = [] := List.eq_nil_of_length_eq_zero HM.out.symm
      subst hgm
      subst hcn
      have hnil : ∀ (W : World) (a : Addr) (c' : Nat), c' ≤ 9223372036854775807 → HasGts W (.slice (some a) 0 c') [] := fun W a c' h => ⟨rfl, .inr ⟨a, c', rfl, Nat.zero_le _, h, fun h => absurd h (by decide), fun j hj => absurd hj (by simp)⟩⟩
      go_region_held (fun _ => True) (trivial) (first
        | (go_at_call 13; with_reducible refine (kB _).mono ?_; rintro e w4 ⟨o4, c4, rfl, hb4⟩)
        | (go_at_call 13; with_reducible refine (kC _).mono ?_; rintro e w5 ⟨V5, rfl, hs5, hb5⟩)
        | (go_at_call 14; with_reducible refine (kX _ _ _ (hnil _ _ _ (by omega)) hs5).mono ?_; rintro e w6 ⟨rfl, hb6⟩))
      all_goals have hB3 := below2 (below2 (below_drew (Below.refl _ w3)) hb4) (below2 hb5 hb6)
      all_goals replace hB := below2 (below2 (below2 (below_drew hB) hb4) hb5) hb6
      all_goals clear kB kC kX hb4 hb5 hb6 hs5
      all_goals go_wp2_with fail
      all_goals (
        go_loopw [54] (fun i wr => ∃ k : Nat, k ≤ cap ∧ i = .int .i64 k ∧ Below w.heap.size w wr ∧ Below w3.heap.size w3 wr) (fun i _ => cap - (intOf i).toNat)
        case atStart => exact ⟨0, by omega, rfl, hB, hB3⟩
        case round =>
          obtain ⟨k, hk, rfl, hB2, hB4⟩ := hrel
          by_cases hlt : k < cap
          · have hkz : k < es.length := by rw [← HN.out]; exact hlt
            have hkg : k < (es.map (fun e => ((e, 0) : GtT)) ++ ([] : List GtT)).length := by rw [List.length_append, List.length_map]; omega
            obtain ⟨g1, i1, rfl, hg1, a0, a1, a2, a3, a4, a5, a6, a7, a8, a9, a10, a11⟩ := HasEvs.cell (HE.out _ hB2) k hkz
            obtain ⟨g2, i2, eg, _, b0, b1, b2, b3, b4, b5, b6, b7, b8, b9, b10, b11, b12⟩ := HasGts.cell (HS.out.keep hB4) k hkg
            injection eg with eg
            injection eg with eg1 eg2
            subst eg1 eg2
            have hgk : (es.map (fun e => ((e, 0) : GtT)) ++ ([] : List GtT))[k] = (es[k], 0) := by rw [List.getElem_append_left (by rw [List.length_map]; exact hkz), List.getElem_map]
            rw [hgk] at b0 b1 b2 b3 b4 b5 b6 b7 b8 b9 b10 b11 b12
            rw [Nat.zero_add] at b0 b1 b2 b3 b4 b5 b6 b7 b8 b9 b10 b11 b12
            simp only at b0 b1 b2 b3 b4 b5 b6 b7 b8 b9 b10 b11 b12
            obtain ⟨e0, he0⟩ : ∃ e0 : Ev, e0 = es[k] := ⟨_, rfl⟩
            rw [← he0] at a0 a1 a2 a3 a4 a5 a6 a7 a8 a9 a10 a11 b0 b1 b2 b3 b4 b5 b6 b7 b8 b9 b10 b11
            have hki : (k : Int) < (cap : Int) := by omega
            have hki2 : (k : Int) < (cap : Int) + ((0 : Nat) : Int) := by omega
            have hgl : g < wr.heap.size := by have := hB4.size; omega
            clear he0 hg1 hgk hkg hkz
            generalize ((e0.kind : Nat) : Int) = p0 at a0 b0
            generalize e0.router = p1 at a1 b1
            generalize ((e0.seq : Nat) : Int) = p2 at a2 b2
            generalize e0.time = p3 at a3 b3
            generalize e0.pf.six = p4 at a4 b4
            generalize ((hiN e0.pf.n : Nat) : Int) = p5 at a5 b5
            generalize ((loN e0.pf.n : Nat) : Int) = p6 at a6 b6
            generalize e0.pf.len = p7 at a7 b7
            generalize ((e0.act.k : Nat) : Int) = p8 at a8 b8
            generalize e0.act.i = p9 at a9 b9
            generalize e0.iface = p10 at a10 b10
            generalize e0.peer = p11 at a11 b11
            go_upto_region 12 with fail
            obtain ⟨X, hX⟩ : ∃ X, X = wr.alloc (.cells #[.int .u8 p0, .int .i64 p1, .int .u64 p2, .int .i64 p3, .bool p4, .int .u64 p5, .int .u64 p6, .int .i64 p7, .int .u8 p8, .int .i64 p9, .int .i64 p10, .int .i64 p11] 50) := ⟨_, rfl⟩
            have hbX : Below wr.heap.size wr X := by rw [hX]; exact below_new (Below.refl _ _) _
            have r0 : RowAt X wr.heap.size [.int .u8 p0, .int .i64 p1, .int .u64 p2, .int .i64 p3, .bool p4, .int .u64 p5, .int .u64 p6, .int .i64 p7, .int .u8 p8, .int .i64 p9, .int .i64 p10, .int .i64 p11] 50 := by rw [hX]; exact RowAt.new _ _ _
            rw [← hX]
            have hB5 := below2 hB2 hbX
            have hB6 := below2 hB4 hbX
            rw [← hbX.cell (p := ⟨g, k * 13, none⟩) hgl] at b0
            rw [← hbX.cell (p := ⟨g, k * 13 + 1, none⟩) hgl] at b1
            rw [← hbX.cell (p := ⟨g, k * 13 + 2, none⟩) hgl] at b2
            rw [← hbX.cell (p := ⟨g, k * 13 + 3, none⟩) hgl] at b3
            rw [← hbX.cell (p := ⟨g, k * 13 + 4, none⟩) hgl] at b4
            rw [← hbX.cell (p := ⟨g, k * 13 + 5, none⟩) hgl] at b5
            rw [← hbX.cell (p := ⟨g, k * 13 + 6, none⟩) hgl] at b6
            rw [← hbX.cell (p := ⟨g, k * 13 + 7, none⟩) hgl] at b7
            rw [← hbX.cell (p := ⟨g, k * 13 + 8, none⟩) hgl] at b8
            rw [← hbX.cell (p := ⟨g, k * 13 + 9, none⟩) hgl] at b9
            rw [← hbX.cell (p := ⟨g, k * 13 + 10, none⟩) hgl] at b10
            rw [← hbX.cell (p := ⟨g, k * 13 + 11, none⟩) hgl] at b11
            rw [← hbX.cell (p := ⟨g, k * 13 + 12, none⟩) hgl] at b12
            clear hX a0 a1 a2 a3 a4 a5 a6 a7 a8 a9 a10 a11
            obtain ⟨gs, hgs⟩ : ∃ g, g = wr.heap.size := ⟨_, rfl⟩
            rw [← hgs] at r0 ⊢
            clear hgs hbX
            obtain ⟨⟨y0, y1, y2, y3, y4, y5⟩, ⟨y6, y7, y8, y9, y10, y11⟩, yf, hly⟩ := cells12' r0
            go_wp2_with fail
            go_quiet (fail)
            go_wp2_with fail
            go_roundw
            case rel => exact ⟨k + 1, by omega, by go_num, by first | exact hB5 | exact below_drew hB5 | exact below_drewN hB5 _, by first | exact hB6 | exact below_drew hB6 | exact below_drewN hB6 _⟩
            case measure => simp [intOf]; omega
          · have hkn : decide ((k : Int) < (cap : Int)) = false := decide_eq_false (by omega)
            go_wp2
            go_ret
            exact ⟨rfl, hB2⟩)

    · have hpart : ∀ (W : World), Below w3.heap.size w3 W → HasGts W (.slice (some ⟨g, n * 13, none⟩) m (cap - n)) gm := fun W hb => by
        have := gts_part (HS.out.keep hb) n m (by rw [List.length_append, List.length_map, ← HN.out, ← HM.out]) (by omega) (cap - n) (by omega) (by omega)
        rw [Nat.zero_add] at this
        have e : ((es.map (fun e => ((e, 0) : GtT)) ++ gm).drop n).take m = gm := by
          rw [List.drop_left' (by rw [List.length_map]; exact HN.out.symm), HM.out, List.take_length]
        rw [e] at this
        exact this
      go_region_held (fun _ => True) (trivial) (first
        | (go_at_call 13; with_reducible refine (kB _).mono ?_; rintro e w4 ⟨o4, c4, rfl, hb4⟩)
        | (go_at_call 13; with_reducible refine (kC _).mono ?_; rintro e w5 ⟨V5, rfl, hs5, hb5⟩)
        | (go_at_call 14; with_reducible refine (kX _ _ _ (hpart _ (below2 (below2 (below_drew (Below.refl _ _)) hb4) hb5)) hs5).mono ?_; rintro e w6 ⟨rfl, hb6⟩))
      all_goals have hB3 := below2 (below2 (below_drew (Below.refl _ w3)) hb4) (below2 hb5 hb6)
      all_goals replace hB := below2 (below2 (below2 (below_drew hB) hb4) hb5) hb6
      all_goals clear kB kC kX hb4 hb5 hb6 hs5
      all_goals go_wp2_with fail
      all_goals (
        go_loopw [54] (fun i wr => ∃ k : Nat, k ≤ n ∧ i = .int .i64 k ∧ Below w.heap.size w wr ∧ Below w3.heap.size w3 wr) (fun i _ => n - (intOf i).toNat)
        case atStart => exact ⟨0, by omega, rfl, hB, hB3⟩
        case round =>
          obtain ⟨k, hk, rfl, hB2, hB4⟩ := hrel
          by_cases hlt : k < n
          · have hkz : k < es.length := by rw [← HN.out]; exact hlt
            have hkg : k < (es.map (fun e => ((e, 0) : GtT)) ++ gm).length := by rw [List.length_append, List.length_map]; omega
            obtain ⟨g1, i1, rfl, hg1, a0, a1, a2, a3, a4, a5, a6, a7, a8, a9, a10, a11⟩ := HasEvs.cell (HE.out _ hB2) k hkz
            obtain ⟨g2, i2, eg, _, b0, b1, b2, b3, b4, b5, b6, b7, b8, b9, b10, b11, b12⟩ := HasGts.cell (HS.out.keep hB4) k hkg
            injection eg with eg
            injection eg with eg1 eg2
            subst eg1 eg2
            have hgk : (es.map (fun e => ((e, 0) : GtT)) ++ gm)[k] = (es[k], 0) := by rw [List.getElem_append_left (by rw [List.length_map]; exact hkz), List.getElem_map]
            rw [hgk] at b0 b1 b2 b3 b4 b5 b6 b7 b8 b9 b10 b11 b12
            rw [Nat.zero_add] at b0 b1 b2 b3 b4 b5 b6 b7 b8 b9 b10 b11 b12
            simp only at b0 b1 b2 b3 b4 b5 b6 b7 b8 b9 b10 b11 b12
            obtain ⟨e0, he0⟩ : ∃ e0 : Ev, e0 = es[k] := ⟨_, rfl⟩
            rw [← he0] at a0 a1 a2 a3 a4 a5 a6 a7 a8 a9 a10 a11 b0 b1 b2 b3 b4 b5 b6 b7 b8 b9 b10 b11
            have hki : (k : Int) < (n : Int) := by omega
            have hki2 : (k : Int) < (n : Int) + (m : Int) := by omega
            have hgl : g < wr.heap.size := by have := hB4.size; omega
            clear he0 hg1 hgk hkg hkz
            generalize ((e0.kind : Nat) : Int) = p0 at a0 b0
            generalize e0.router = p1 at a1 b1
            generalize ((e0.seq : Nat) : Int) = p2 at a2 b2
            generalize e0.time = p3 at a3 b3
            generalize e0.pf.six = p4 at a4 b4
            generalize ((hiN e0.pf.n : Nat) : Int) = p5 at a5 b5
            generalize ((loN e0.pf.n : Nat) : Int) = p6 at a6 b6
            generalize e0.pf.len = p7 at a7 b7
            generalize ((e0.act.k : Nat) : Int) = p8 at a8 b8
            generalize e0.act.i = p9 at a9 b9
            generalize e0.iface = p10 at a10 b10
            generalize e0.peer = p11 at a11 b11
            go_upto_region 12 with fail
            obtain ⟨X, hX⟩ : ∃ X, X = wr.alloc (.cells #[.int .u8 p0, .int .i64 p1, .int .u64 p2, .int .i64 p3, .bool p4, .int .u64 p5, .int .u64 p6, .int .i64 p7, .int .u8 p8, .int .i64 p9, .int .i64 p10, .int .i64 p11] 50) := ⟨_, rfl⟩
            have hbX : Below wr.heap.size wr X := by rw [hX]; exact below_new (Below.refl _ _) _
            have r0 : RowAt X wr.heap.size [.int .u8 p0, .int .i64 p1, .int .u64 p2, .int .i64 p3, .bool p4, .int .u64 p5, .int .u64 p6, .int .i64 p7, .int .u8 p8, .int .i64 p9, .int .i64 p10, .int .i64 p11] 50 := by rw [hX]; exact RowAt.new _ _ _
            rw [← hX]
            have hB5 := below2 hB2 hbX
            have hB6 := below2 hB4 hbX
            rw [← hbX.cell (p := ⟨g, k * 13, none⟩) hgl] at b0
            rw [← hbX.cell (p := ⟨g, k * 13 + 1, none⟩) hgl] at b1
            rw [← hbX.cell (p := ⟨g, k * 13 + 2, none⟩) hgl] at b2
            rw [← hbX.cell (p := ⟨g, k * 13 + 3, none⟩) hgl] at b3
            rw [← hbX.cell (p := ⟨g, k * 13 + 4, none⟩) hgl] at b4
            rw [← hbX.cell (p := ⟨g, k * 13 + 5, none⟩) hgl] at b5
            rw [← hbX.cell (p := ⟨g, k * 13 + 6, none⟩) hgl] at b6
            rw [← hbX.cell (p := ⟨g, k * 13 + 7, none⟩) hgl] at b7
            rw [← hbX.cell (p := ⟨g, k * 13 + 8, none⟩) hgl] at b8
            rw [← hbX.cell (p := ⟨g, k * 13 + 9, none⟩) hgl] at b9
            rw [← hbX.cell (p := ⟨g, k * 13 + 10, none⟩) hgl] at b10
            rw [← hbX.cell (p := ⟨g, k * 13 + 11, none⟩) hgl] at b11
            rw [← hbX.cell (p := ⟨g, k * 13 + 12, none⟩) hgl] at b12
            clear hX a0 a1 a2 a3 a4 a5 a6 a7 a8 a9 a10 a11
            obtain ⟨gs, hgs⟩ : ∃ g, g = wr.heap.size := ⟨_, rfl⟩
            rw [← hgs] at r0 ⊢
            clear hgs hbX
            obtain ⟨⟨y0, y1, y2, y3, y4, y5⟩, ⟨y6, y7, y8, y9, y10, y11⟩, yf, hly⟩ := cells12' r0
            go_wp2_with fail
            go_quiet (fail)
            go_wp2_with fail
            go_roundw
            case rel => exact ⟨k + 1, by omega, by go_num, by first | exact hB5 | exact below_drew hB5 | exact below_drewN hB5 _, by first | exact hB6 | exact below_drew hB6 | exact below_drewN hB6 _⟩
            case measure => simp [intOf]; omega
          · have hkn : decide ((k : Int) < (n : Int)) = false := decide_eq_false (by omega)
            go_wp2
            go_ret
            exact ⟨rfl, hB2⟩)

theorem walk (v : Value) (es : List Ev) (M : ByteArray) (w : World) (b0 : HasEvs w v es) (f0 : ∀ e ∈ es, FitE e) (m0 : es.length ≤ 1048576) (b1 : M.size ≤ 1048576) :
    Calls Try.prog 5 #[v, .string M] w fun e w' => e = .returned (.bool true) ∧ Below w.heap.size w w' := by
  have kS : ∀ W : World, Below w.heap.size w W → Calls Try.prog 7 #[v] W fun e w' => e = .returned (.tuple #[strV (streamG [] es).1, .int .i64 (streamG [] es).2]) ∧ Below W.heap.size W w' := fun W hb => stream_any es v W (b0.keep hb) f0 (fun e _ h => (evB_len e h).2) (by omega)
  by_cases hok : ∀ e ∈ es, okE e = true
  · rw [stream_ok es [] hok, List.nil_append] at kS
    obtain ⟨o, c, rfl, hc1, hc2⟩ := HasRow.slice b0
    have hwl := wraps_len es hok
    obtain ⟨ml, hml⟩ : ∃ ml : List UInt8, ml = M.data.toList := ⟨_, rfl⟩
    have hM : M = ⟨ml.toArray⟩ := by rw [hml]
    have hsz : ml.length = M.size := by rw [hml, Array.length_toList]; rfl
    subst hM
    have hpl := pieces_le ml
    have hpw : (piecesL (wraps es)).map gotG = es.map (fun e => ((e, 0) : GtT)) := by
      have := gots_wraps es [] hok
      rw [List.append_nil] at this
      rw [this]; simp [pieces_nil]
    have hgw := gots_wraps es ml hok
    refine walk_ok es.length (piecesL ml).length o c ⟨(wraps es).toArray⟩ ⟨ml.toArray⟩ w es ((piecesL ml).map gotG) rfl (by show _ = _; rw [List.length_map]) ?_ (by omega) (by omega) (fun W hb => b0.keep hb) (fun W => lives_any W) kS (fun W => ?_) (fun W => ?_) (fun W => ?_)
    · simp only [ByteArray.size, List.size_toArray] at b1 ⊢; omega
    · have h1 := pieces_le (wraps es ++ ml)
      rw [List.length_append] at h1
      have := gotsR_any (wraps es ++ ml) W (by rw [List.length_append]; omega) (by omega)
      rw [hgw] at this
      rw [← bytes_cat] at this
      rw [List.length_append, List.length_map, List.length_map] at this
      exact this
    · have h1 := pieces_le (wraps es)
      have := gotsR_any (wraps es) W (by omega) (by omega)
      rw [hpw] at this
      refine this.mono ?_
      rintro e w' ⟨V, rfl, h2, _, h3⟩
      obtain ⟨o4, c4, rfl, _, _⟩ := HasRow.slice h2
      rw [List.length_map]
      exact ⟨o4, c4, rfl, h3⟩
    · refine (gotsR_any ml W (by omega) (by omega)).mono ?_
      rintro e w' ⟨V, rfl, h2, _, h3⟩
      exact ⟨V, rfl, h2, h3⟩
  · rw [stream_no es [] hok] at kS
    exact walk_no v M w (fun W => lives_any W) kS

set_option maxRecDepth 100000 in
theorem contract (H : Type) (enc : TypeId × Value → H) (W : World) (base : Nat) (args : Array Value) (ds gs : List (DataW H)) (before : List MemPlace)
    (hval0 : ∀ (j : Nat) t v, Try.f5.params[j]? = some t → args[j]? = some v → Value.okWide Try.prog W .any base t v)
    (hW : DataW.Whole enc Try.prog Try.f5.params.toList Rows.gramBackSpec.vars false W args.toList ds gs before) (hk : Rows.uptoSmall H (ds ++ gs) = true)
    (hsz0 : (DataW.weightsEach Try.prog (Try.f5.params.toList ++ Rows.gramBackSpec.plain.varTypes Try.prog) (ds ++ gs)).all (· ≤ reachBytes) = true) :
    Calls Try.prog 5 args W fun e W' => ∃ v, e = .returned v ∧ Rows.gramBackSpec.post enc Try.prog Try.f5 false true false false W args v W' := by
  have hsz : (DataW.weightsEach Try.prog (Try.f5.params.toList ++ Rows.gramBackSpec.plain.varTypes Try.prog) (ds ++ gs)).all (· ≤ reachBytes) = true := hsz0
  clear hsz0
  have hval : ∀ (j : Nat) t v, Try.f5.params[j]? = some t → args[j]? = some v → Value.okWide Try.prog W .any base t v := hval0
  have hW' := hW
  obtain ⟨p, q, hA0, hV, rfl, hfz, hnd⟩ := hW
  have hA : DataW.TrodAll enc Try.prog W 0 (fun _ => true) true Try.f5.params.toList args.toList ds p := hA0
  rw [Try.params5] at hA hval hsz
  obtain ⟨v0, vs0, d0, ds0, p0, q0, hargs, rfl, rfl, h0, r0⟩ := trodAll_cons hA
  obtain ⟨v1, vs1, d1, ds1, p1, q1, rfl, rfl, rfl, h1, r1⟩ := trodAll_cons r0
  obtain ⟨rfl, rfl, rfl⟩ := trodAll_nil r1
  obtain rfl : args = #[v0, v1] := by cases args; simp_all
  obtain ⟨rfl, rfl⟩ := trodVars_none hV
  obtain ⟨a0, len0, cap0, rfl⟩ := okWide_slice Try.underlying22 (hval 0 22 v0 rfl rfl)
  have k0 := h0
  have lt0 : ∀ x ∈ p0, x.block < W.heap.size := by obtain ⟨m, hm⟩ := k0; exact DataW.trod_lt m _ _ _ hm
  have n0 : len0 ≤ 1048576 := by
    obtain ⟨fuel, hf⟩ := k0
    rcases Go.Deep.open_slice Try.underlying22 hf with ⟨hcs, _⟩ | ⟨x, l, c, m, n, D, Pl, hcs, _, _, _, _, hx, _⟩
    · simp [Value.cells] at hcs
      omega
    · simp [Value.cells] at hcs
      obtain ⟨rfl, rfl, rfl⟩ := hcs
      have := bulk_row hk (j := 0) (congrArg some (Prod.mk.inj hx).1)
      simpa using this
  obtain ⟨fuel0, hf0⟩ := h0
  obtain ⟨z0, b0, f0⟩ := Ord.open_events hf0
  have m0 : z0.length ≤ 1048576 := by
    obtain ⟨_, _, e, _⟩ := Ord.HasRow.slice b0
    injection e with _ e _
    omega
  obtain ⟨a1, rfl, rfl, rfl, w1⟩ := open_string Try.underlying9 (hval 1 9 v1 rfl rfl) h1
  have b1 : a1.size ≤ 1048576 := bulk_str hk (j := 1) rfl
  clear hA0 hval0
  refine (walk (.slice a0 len0 cap0) z0 a1 W b0 f0 m0 b1).mono fun e W' ⟨he, bel⟩ => ?_
  subst he
  exact ⟨_, rfl, _, _, _, [], _, [], hW', trodAll_mk1 (shut_bool Try.underlying4 _), (trodAll_cons_mk (Below.trod laidOut (by kernel_rfl) (of_decide_eq_true (by kernel_rfl)) k0 bel lt0) (trodAll_cons_mk (shut_string Try.underlying9 w1) trodAll_mk0)), rfl, bel.frame _, fun h => by cases h⟩
set_option maxRecDepth 100000 in
theorem lifted (os : Os) (started : os.Started) (H : Type) (enc : TypeId × Value → H) (F : Stop.Interp) :
    ReturnsInHanded {} Try.checked os 5 .any ((Rows.OpenSpec.upto Rows.gramBackSpec).pre6 enc Try.prog Try.f5 Rows.gramBackUptoRow.domain false) (((Rows.OpenSpec.upto Rows.gramBackSpec).at F).post enc Try.prog Try.f5 false true false false) := by
  refine returnsInHanded_of_cond_sized (C := Try.checked) (s := Rows.OpenSpec.upto Rows.gramBackSpec) (k := Rows.uptoSmall) rfl own started (by kernel_rfl) Try.func5
    (OpenSpec.witness (enc := enc) (C := Try.checked) (s := Rows.OpenSpec.upto Rows.gramBackSpec) (k := Rows.uptoSmall) rfl false ⟨#[], #[.slice none 0 0, .string ByteArray.empty], []⟩ 8 (by kernel_rfl) (by kernel_rfl) (by kernel_rfl)
      (x := ([.nil, .lit (.string [])], [], [])) (by kernel_rfl) rfl (by kernel_rfl)) ?_
  intro W base args ds gs before hval hW _ hk hsz _
  exact contract H enc W base args ds gs before hval hW hk hsz

theorem over : Rows.gramBackUptoRow.holds Try.pinned (Rows.OpenSpec.upto Rows.gramBackSpec) :=
  OpenClaim.holds_of_cond 5 Try.f5 rfl rfl rfl rfl rfl rfl rfl ⟨rfl, rfl, rfl, rfl, rfl⟩ rfl rfl rfl rfl rfl (by kernel_rfl) Try.func5 (by kernel_rfl)
    (of_decide_eq_true (by kernel_rfl)) (by unfold Func.isWrapper; first | (rw [if_pos (by decide +kernel)]; kernel_rfl) | (rw [if_neg (by decide +kernel)]; exact ⟨rfl, rfl⟩))
    (fun os started H enc _ F => lifted os started H enc F)
end gramBack
theorem gback_holds : Rows.GramBackUptoSaid := gramBack.over
#print axioms gback_holds
end Go.Proofs.Ytopabkkapbaibaa
